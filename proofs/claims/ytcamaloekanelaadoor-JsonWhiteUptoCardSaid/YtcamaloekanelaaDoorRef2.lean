/-
  The reference's reader: 'is', 'digit', 'four'.
-/
import Derived.Test.YtcamaloekanelaaDoorRef
import Derived.Test.YtcamaloekanelaaDoorNst
import Derived.Test.YtcamaloekanelaaDoorRfm
namespace Go.Proofs.YtcamaloekanelaaDoor
open Go.RowKit

theorem RStep.drewN {w w' : World} {p : Nat} {s : ByteArray} {ys : Bs} {er : Nat} (h : RStep w p s ys er w') (n : Nat) : RStep w p s ys er (w'.drewN n) := ⟨h.1, gdrewN h.2 n⟩
theorem RStep.of {w w1 w' : World} {p : Nat} {s : ByteArray} {ys zs : Bs} {er er' : Nat} (h : RStep w p s ys er w1) (k : RStep w1 p s zs er' w') : RStep w p s zs er' w' := ⟨k.1, gtrans h.2 k.2⟩
theorem RStep.set {w w' : World} {p k er : Nat} {s : ByteArray} {ys zs : Bs} (h : RStep w p s ys er w') (ha : At s k zs) : RStep w p s zs er (w'.setCell ⟨p, 1, none⟩ (.int .i64 k)) := ⟨h.1.set ha, gtrans h.2 (gset w' p 1 _)⟩
theorem RStep.refl {w : World} {p er : Nat} {s : ByteArray} {xs : Bs} (h : RRd w p s xs er) : RStep w p s xs er w := ⟨h, grefl _ _⟩
theorem RRd.lt {w : World} {p er : Nat} {s : ByteArray} {xs : Bs} (h : RRd w p s xs er) : p < w.heap.size := by obtain ⟨k, hh, _⟩ := h; exact blk_lt hh

theorem RStep.alloc {w w' : World} {p er : Nat} {s : ByteArray} {ys : Bs} (h : RStep w p s ys er w') (o : Obj) : RStep w p s ys er (w'.alloc o) :=
  ⟨h.1.kept (World.grownBy_alloc w' o none) (by simp), gmore h.2 (World.grownBy_alloc w' o none) (fun _ e => by cases e)⟩
theorem RStep.setNew {w w' : World} {p b j er : Nat} {s : ByteArray} {ys : Bs} {v : Value} (h : RStep w p s ys er w') (hb : w.heap.size ≤ b) (hp : p < w.heap.size) : RStep w p s ys er (w'.setCell ⟨b, j, none⟩ v) :=
  ⟨h.1.kept (gset w' b j v) (fun e => by cases e; omega), gmore h.2 (gset w' b j v) (fun g e => by cases e; exact hb)⟩
theorem RStep.fr {w w' : World} {p er : Nat} {s : ByteArray} {ys : Bs} (h : RStep w p s ys er w') : Fr w w' (fun b => b ≠ p) := Fr.of h.2 (fun b _ hb e => hb (by cases e; rfl))
theorem RStep.below {w w1 w' : World} {p er : Nat} {s : ByteArray} {ys : Bs} (h : RStep w p s ys er w1) (hb : Below w1.heap.size w1 w') : RStep w p s ys er w' :=
  ⟨h.1.kept (new_grown hb none) (by simp), gmore h.2 (new_grown hb none) (fun _ e => by cases e)⟩

/-- Is t a beginning, told by bytes. -/
theorem pre_take (t xs : Bs) : (xs.take t.length == t) = t.isPrefixOf xs := by
  rw [Bool.eq_iff_iff, beq_iff_eq, List.isPrefixOf_iff_prefix, List.prefix_iff_eq_take]
  exact ⟨fun e => e.symm, fun e => e.symm⟩
theorem pre_short (t xs : Bs) (h : xs.length < t.length) : t.isPrefixOf xs = false := by
  rw [Bool.eq_false_iff]
  intro e
  have := (List.isPrefixOf_iff_prefix.1 e).length_le
  omega
def isRest (t : ByteArray) (xs : Bs) : Bs := if t.data.toList.isPrefixOf xs then xs.drop t.size else xs

set_option maxHeartbeats 1000000 in
theorem ref_is (p : Nat) (s : ByteArray) (xs : Bs) (er : Nat) (t : ByteArray) (ht : t.size ≤ 100) (w : World) (h : RRd w p s xs er) :
    Calls Tryd.prog 62 #[.pointer (some ⟨p, 0, none⟩), .string t] w fun e w' => e = .returned (.bool (t.data.toList.isPrefixOf xs)) ∧ RStep w p s (isRest t xs) er w' := by
  obtain ⟨k, c0, c1, c2, f0, f1, f2, ha, hs⟩ := h.parts
  have hlen := ha.len
  have hle := ha.le
  by_cases hl : xs.length < t.size
  · have hp : t.data.toList.isPrefixOf xs = false := pre_short _ _ (by rw [← size_len]; exact hl)
    have hi : isRest t xs = xs := by rw [isRest, if_neg (by rw [hp]; simp)]
    rw [hp, hi]
    have hst := RStep.refl h
    have e0 : IntKind.i64.wrap ((s.size : Int) - (k : Int)) = (s.size : Int) - (k : Int) := IntWalk.i64_in _ (by omega)
    have hlt : decide ((t.size : Int) ≤ (s.size : Int) - (k : Int)) = false := by simp; omega
    clear hp hi hlen hl ha
    go_enter Tryd.func62, Tryd.ntmps62
    go_wp2
    go_quiet (fail)
    go_wp2
    go_ret
    exact ⟨rfl, hst.drewN _⟩
  · have hat := ha.drop t.size (by omega)
    have hpiece : (s.extract k (k + t.size)).data.toList = xs.take t.size := by rw [ext_list, List.drop_take, ha.eq, Nat.add_sub_cancel_left]
    have hpt : ((s.extract k (k + t.size)).toList == t.toList) = t.data.toList.isPrefixOf xs := by
      rw [Lib.toList_data, Lib.toList_data, hpiece]
      have := pre_take t.data.toList xs
      rw [← size_len] at this
      exact this
    have e0 : IntKind.i64.wrap ((s.size : Int) - (k : Int)) = (s.size : Int) - (k : Int) := IntWalk.i64_in _ (by omega)
    have hge : decide ((t.size : Int) ≤ (s.size : Int) - (k : Int)) = true := by simp; omega
    have hle2 := hat.le
    have hrs : isRest t xs = if t.data.toList.isPrefixOf xs then xs.drop t.size else xs := rfl
    generalize t.data.toList.isPrefixOf xs = b at *
    generalize isRest t xs = R at *
    have HR := Lib.hid hrs
    clear hrs
    have hst := RStep.refl h
    have hst2 := hst.set hat
    clear hlen ha hpiece hat
    have HP := Lib.hid hpt
    clear hpt
    have e1 : IntKind.i64.wrap ((k : Int) + (t.size : Int)) = (k : Int) + (t.size : Int) := IntWalk.i64_in _ (by omega)
    have e2 : ((k : Int) + (t.size : Int)).toNat = k + t.size := by omega
    have e3 : (0 : Int) ≤ (k : Int) + (t.size : Int) := by omega
    have e4 : (k : Int) ≤ (k : Int) + (t.size : Int) := by omega
    have e5 : (k : Int) + (t.size : Int) ≤ (s.size : Int) := by omega
    have e6 : k ≤ k + t.size := by omega
    cases b
    · go_enter Tryd.func62, Tryd.ntmps62
      have hq := HP.out
      go_wp2
      go_quiet (fail)
      go_wp2
      go_ret
      exact ⟨rfl, by rw [HR.out]; exact (hst.drewN _)⟩
    · go_enter Tryd.func62, Tryd.ntmps62
      have hq := HP.out
      go_wp2
      go_quiet (fail)
      go_wp2
      go_ret
      exact ⟨rfl, by rw [HR.out]; exact (hst2.drewN _)⟩

set_option maxHeartbeats 400000 in
theorem ref_digit (c : UInt8) (w : World) : Calls Tryd.prog 93 #[.int .u8 c.toNat] w fun e w' => e = .returned (.int .i64 (hexI c)) ∧ w' = w := by
  have hc := c.toNat_lt
  have hh : hexI c = if 48 ≤ c.toNat ∧ c.toNat ≤ 57 then (c.toNat : Int) - 48 else if 97 ≤ c.toNat ∧ c.toNat ≤ 102 then (c.toNat : Int) - 87 else if 65 ≤ c.toNat ∧ c.toNat ≤ 70 then (c.toNat : Int) - 55 else -1 := by
    unfold hexI hexD
    repeat' split
    all_goals (simp_all; try omega)
  generalize hexI c = R at *
  generalize c.toNat = n at *
  have HH := Lib.hid hh
  clear hh
  go_enter Tryd.func93, Tryd.ntmps93
  go_wp2
  all_goals
    go_ret
    refine ⟨ret_int ?_, rfl⟩
    have hh := HH.out
    repeat' split at hh
    all_goals omega
end Go.Proofs.YtcamaloekanelaaDoor
