/-
  Plain Lean: the bytes of a rune; four digits of 16, one by one.
  The reference's reader: its block; 'fail', 'white'.
  The reference's reader: 'is', 'digit', 'four'.
  The reference's reader: 'four', 'escaped'.
  The reference's reader: 'escaped' of the signs that stand for themselves, or for one sign.
  The reference's reader: 'escaped' behind u, and of what it is not.
  The reference's reader: 'text', a string behind its first quote.
  The reference's reader: 'number'.
  'couranthelp.In' of a row of texts; the reference's 'many' and 'value' behind a fault.
  'couranthelp.Plain' of two rows of the same texts.
  'couranthelp.Json' of two values that are one: true.
-/
import Derived.Test.YtjcnjaebmndeiaaDoorMdl
import Derived.Laws.Runes
import Derived.Test.YtjcnjaebmndeiaaDoorPar
import Derived.Test.YtjcnjaebmndeiaaDoorNsv
namespace Go.Proofs.YtjcnjaebmndeiaaDoor

theorem enc_eq (u : Int) (h0 : 0 ≤ u) (h1 : u < 55296 ∨ 57344 ≤ u) (h2 : u ≤ 1114111) : Utf8.encode u = str (Lib.encodeRune u) := by
  obtain ⟨n, rfl⟩ := Int.eq_ofNat_of_zero_le h0
  have hv : Utf8.valid (n : Int) = true := by simp [Utf8.valid]; omega
  unfold Utf8.encode Lib.encodeRune
  simp only [hv, if_true, Int.toNat_natCast]
  by_cases a : n < 128
  · rw [if_pos a, Lib.encodeRuneZ_one (by omega) (by omega)]; rfl
  · rw [if_neg a]
    by_cases b : n < 2048
    · rw [if_pos b, Lib.encodeRuneZ_two (by omega) (by omega)]
      show _ = str [(192 + (n : Int) / 64).toNat.toUInt8, (128 + (n : Int) % 64).toNat.toUInt8]
      rw [show (192 + (n : Int) / 64).toNat = 192 + n / 64 by omega, show (128 + (n : Int) % 64).toNat = 128 + n % 64 by omega]; rfl
    · rw [if_neg b]
      by_cases c : n < 65536
      · rw [if_pos c, Lib.encodeRuneZ_three (by omega)]
        show _ = str [(224 + (n : Int) / 4096).toNat.toUInt8, (128 + (n : Int) / 64 % 64).toNat.toUInt8, (128 + (n : Int) % 64).toNat.toUInt8]
        rw [show (224 + (n : Int) / 4096).toNat = 224 + n / 4096 by omega, show (128 + (n : Int) / 64 % 64).toNat = 128 + n / 64 % 64 by omega, show (128 + (n : Int) % 64).toNat = 128 + n % 64 by omega]; rfl
      · rw [if_neg c, Lib.encodeRuneZ_four (by omega) (by omega)]
        show _ = str [(240 + (n : Int) / 262144).toNat.toUInt8, (128 + (n : Int) / 4096 % 64).toNat.toUInt8, (128 + (n : Int) / 64 % 64).toNat.toUInt8, (128 + (n : Int) % 64).toNat.toUInt8]
        rw [show (240 + (n : Int) / 262144).toNat = 240 + n / 262144 by omega, show (128 + (n : Int) / 4096 % 64).toNat = 128 + n / 4096 % 64 by omega, show (128 + (n : Int) / 64 % 64).toNat = 128 + n / 64 % 64 by omega, show (128 + (n : Int) % 64).toNat = 128 + n % 64 by omega]; rfl

def hexRun : Nat → Nat → Bs → Option (Nat × Bs)
  | 0, a, xs => some (a, xs)
  | _ + 1, _, [] => none
  | n + 1, a, c :: r => match hexD c with
    | none => none
    | some d => hexRun n (16 * a + d) r
theorem hexRun_four (xs : Bs) : hexRun 4 0 xs = hex4 xs := by
  match xs with
  | [] => rfl
  | [a] => simp only [hexRun, hex4]; cases hexD a <;> rfl
  | [a, b] => simp only [hexRun, hex4]; cases hexD a <;> cases hexD b <;> rfl
  | [a, b, c] => simp only [hexRun, hex4]; cases hexD a <;> cases hexD b <;> cases hexD c <;> rfl
  | a :: b :: c :: d :: r =>
    simp only [hexRun, hex4]
    cases hexD a with
    | none => rfl
    | some x => cases hexD b with
      | none => rfl
      | some y => cases hexD c with
        | none => rfl
        | some z => cases hexD d with
          | none => rfl
          | some u => simp only [Option.some.injEq, Prod.mk.injEq, and_true]; omega
def hexI (c : UInt8) : Int := match hexD c with | some d => d | none => -1
end Go.Proofs.YtjcnjaebmndeiaaDoor

namespace Go.Proofs.YtjcnjaebmndeiaaDoor
open Go.RowKit

/-- The reference's reader at block p stands before these bytes of s; its first fault is er. -/
def RRd (w : World) (p : Nat) (s : ByteArray) (xs : Bs) (er : Nat) : Prop :=
  ∃ k : Nat, w.heap[p]? = some (.cells #[.string s, .int .i64 k, .int .i64 er] 68 (0, 0)) ∧ At s k xs ∧ s.size ≤ 30000
section
variable {w w' : World} {p : Nat} {s : ByteArray} {xs : Bs} {er : Nat}
theorem RRd.parts (h : RRd w p s xs er) : ∃ k : Nat, w.cell? ⟨p, 0, none⟩ = some (.string s) ∧ w.cell? ⟨p, 1, none⟩ = some (.int .i64 k) ∧ w.cell? ⟨p, 2, none⟩ = some (.int .i64 er) ∧
    w.frozen? ⟨p, 0, none⟩ = false ∧ w.frozen? ⟨p, 1, none⟩ = false ∧ w.frozen? ⟨p, 2, none⟩ = false ∧ At s k xs ∧ s.size ≤ 30000 := by
  obtain ⟨k, hh, hr, hl⟩ := h
  exact ⟨k, by rw [cell_of_row w p 0 _ 68 (0, 0) hh]; rfl, by rw [cell_of_row w p 1 _ 68 (0, 0) hh]; rfl, by rw [cell_of_row w p 2 _ 68 (0, 0) hh]; rfl, frozen_of_row w p 0 _ 68 hh, frozen_of_row w p 1 _ 68 hh, frozen_of_row w p 2 _ 68 hh, hr, hl⟩
theorem RRd.set {k' : Nat} {ys : Bs} (h : RRd w p s xs er) (ha : At s k' ys) : RRd (w.setCell ⟨p, 1, none⟩ (.int .i64 k')) p s ys er := by
  obtain ⟨k, hh, hr', hl⟩ := h
  refine ⟨k', ?_, ha, hl⟩
  rw [heap_setCell_same w p 1 _ 68 _ hh]
  rfl
theorem RRd.err (h : RRd w p s xs er) (e' : Nat) : RRd (w.setCell ⟨p, 2, none⟩ (.int .i64 e')) p s xs e' := by
  obtain ⟨k, hh, hr', hl⟩ := h
  refine ⟨k, ?_, hr', hl⟩
  rw [heap_setCell_same w p 2 _ 68 _ hh]
  rfl
theorem RRd.drewN (h : RRd w p s xs er) (n : Nat) : RRd (w.drewN n) p s xs er := h
theorem RRd.kept {row : Option Nat} (h : RRd w p s xs er) (hg : w.grownBy w' row) (hr : some p ≠ row) : RRd w' p s xs er := by
  obtain ⟨k, hh, hr', hl⟩ := h
  exact ⟨k, (hg.block p (blk_lt hh) hr).trans hh, hr', hl⟩
end
def RStep (w : World) (p : Nat) (s : ByteArray) (ys : Bs) (er : Nat) (w' : World) : Prop := RRd w' p s ys er ∧ w.grownBy w' (some p)

set_option maxHeartbeats 400000 in
theorem ref_fail (p : Nat) (s : ByteArray) (xs : Bs) (er e' : Nat) (w : World) (h : RRd w p s xs er) :
    Calls Tryd.prog 39 #[.pointer (some ⟨p, 0, none⟩), .int .i64 e'] w fun e w' => e = .returned (.tuple #[]) ∧ RStep w p s xs (if er = 0 then e' else er) w' := by
  obtain ⟨k, c0, c1, c2, f0, f1, f2, ha, hs⟩ := h.parts
  have hR := Lib.hid h
  by_cases he : er = 0
  · have hset := h.err e'
    have hk : ((er : Int) == 0) = true := by simp; omega
    have HE := Lib.hid he
    clear he
    go_enter Tryd.func39, Tryd.ntmps39
    go_wp2
    go_end0
    refine ⟨rfl, ?_⟩
    exact ⟨hset, gset w p 2 _⟩
  · have hk : ((er : Int) == 0) = false := by simp; omega
    go_enter Tryd.func39, Tryd.ntmps39
    go_wp2
    go_end0
    refine ⟨rfl, ?_⟩
    exact ⟨hR.out, grefl _ _⟩
set_option maxHeartbeats 1000000 in
theorem ref_white (p : Nat) (s : ByteArray) (xs : Bs) (er : Nat) (w : World) (h : RRd w p s xs er) :
    Calls Tryd.prog 38 #[.pointer (some ⟨p, 0, none⟩)] w fun e w' => e = .returned (.tuple #[]) ∧ RStep w p s (white xs) er w' := by
  go_enter Tryd.func38, Tryd.ntmps38
  go_wp2
  go_loopg [] xs.length (fun g wr => ∃ ys : Bs, ys.length = g ∧ RRd wr p s ys er ∧ w.grownBy wr (some p) ∧ Hid (white ys = white xs))
  case atStart => exact ⟨xs, rfl, h, grefl _ _, rfl⟩
  case round =>
    obtain ⟨ys, hg, hp, hgr, HW⟩ := hrel
    obtain ⟨k, c0, c1, c2, f0, f1, f2, ha, hs⟩ := hp.parts
    cases ys with
    | nil =>
      have hk : decide (k < s.size) = false := by have := ha.nil; simp; omega
      go_wp2
      go_quiet (fail)
      go_wp2
      go_end0
      exact ⟨rfl, (by rw [← HW.out]; exact hp.drewN _), gdrewN hgr _⟩
    | cons c r =>
      have hlt := ha.lt
      have hget := ha.get hlt
      have hk : decide (k < s.size) = true := by simp; omega
      have hset := hp.set ha.tail
      have hgs := gtrans hgr (gset wr p 1 (.int .i64 ((k + 1 : Nat) : Int)))
      have HG := Lib.hid hg
      clear hg
      have hsplit : (((c.toNat : Int) == 32) = true) ∨ (((c.toNat : Int) == 32) = false ∧ ((c.toNat : Int) == 9) = true) ∨ (((c.toNat : Int) == 32) = false ∧ ((c.toNat : Int) == 9) = false ∧ ((c.toNat : Int) == 10) = true) ∨
          (((c.toNat : Int) == 32) = false ∧ ((c.toNat : Int) == 9) = false ∧ ((c.toNat : Int) == 10) = false ∧ ((c.toNat : Int) == 13) = true) ∨ (((c.toNat : Int) == 32) = false ∧ ((c.toNat : Int) == 9) = false ∧ ((c.toNat : Int) == 10) = false ∧ ((c.toNat : Int) == 13) = false) := by
        simp only [beq_iff_eq, beq_eq_false_iff_ne]; omega
      rcases hsplit with h1 | ⟨h1, h2⟩ | ⟨h1, h2, h3⟩ | ⟨h1, h2, h3, h4⟩ | ⟨h1, h2, h3, h4⟩
      · have HY := Lib.hid (ws_yes (.inl h1))
        go_wp2
        go_quiet (fail)
        go_wp2
        go_roundg r.length
        case measure => have := HG.out; simp at this; omega
        case rel => exact ⟨r, rfl, hset.drewN _, gdrewN hgs _, by show _ = _; rw [← HW.out, white_cons_yes HY.out]⟩
      · have HY := Lib.hid (ws_yes (.inr (.inl h2)))
        go_wp2
        go_quiet (fail)
        go_wp2
        go_roundg r.length
        case measure => have := HG.out; simp at this; omega
        case rel => exact ⟨r, rfl, hset.drewN _, gdrewN hgs _, by show _ = _; rw [← HW.out, white_cons_yes HY.out]⟩
      · have HY := Lib.hid (ws_yes (.inr (.inr (.inl h3))))
        go_wp2
        go_quiet (fail)
        go_wp2
        go_roundg r.length
        case measure => have := HG.out; simp at this; omega
        case rel => exact ⟨r, rfl, hset.drewN _, gdrewN hgs _, by show _ = _; rw [← HW.out, white_cons_yes HY.out]⟩
      · have HY := Lib.hid (ws_yes (.inr (.inr (.inr h4))))
        go_wp2
        go_quiet (fail)
        go_wp2
        go_roundg r.length
        case measure => have := HG.out; simp at this; omega
        case rel => exact ⟨r, rfl, hset.drewN _, gdrewN hgs _, by show _ = _; rw [← HW.out, white_cons_yes HY.out]⟩
      · have HY := Lib.hid (ws_no h1 h2 h3 h4)
        go_wp2
        go_quiet (fail)
        go_wp2
        go_end0
        refine ⟨rfl, ?_, gdrewN hgr _⟩
        rw [← HW.out, white_cons_no HY.out]
        exact hp.drewN _
end Go.Proofs.YtjcnjaebmndeiaaDoor

namespace Go.Proofs.YtjcnjaebmndeiaaDoor
open Go.RowKit

theorem RStep.drewN {w w' : World} {p : Nat} {s : ByteArray} {ys : Bs} {er : Nat} (h : RStep w p s ys er w') (n : Nat) : RStep w p s ys er (w'.drewN n) := ⟨h.1, gdrewN h.2 n⟩
theorem RStep.of {w w1 w' : World} {p : Nat} {s : ByteArray} {ys zs : Bs} {er er' : Nat} (h : RStep w p s ys er w1) (k : RStep w1 p s zs er' w') : RStep w p s zs er' w' := ⟨k.1, gtrans h.2 k.2⟩
theorem RStep.set {w w' : World} {p k er : Nat} {s : ByteArray} {ys zs : Bs} (h : RStep w p s ys er w') (ha : At s k zs) : RStep w p s zs er (w'.setCell ⟨p, 1, none⟩ (.int .i64 k)) := ⟨h.1.set ha, gtrans h.2 (gset w' p 1 _)⟩
theorem RStep.refl {w : World} {p er : Nat} {s : ByteArray} {xs : Bs} (h : RRd w p s xs er) : RStep w p s xs er w := ⟨h, grefl _ _⟩
theorem RRd.lt {w : World} {p er : Nat} {s : ByteArray} {xs : Bs} (h : RRd w p s xs er) : p < w.heap.size := by obtain ⟨k, hh, _⟩ := h; exact blk_lt hh

theorem RStep.alloc {w w' : World} {p er : Nat} {s : ByteArray} {ys : Bs} (h : RStep w p s ys er w') (o : Obj) : RStep w p s ys er (w'.alloc o) :=
  ⟨h.1.kept (World.grownBy_alloc w' o none) (by simp), gmore h.2 (World.grownBy_alloc w' o none) (fun _ e => by cases e)⟩
theorem RStep.setNew {w w' : World} {p b j er : Nat} {s : ByteArray} {ys : Bs} {v : Value} (h : RStep w p s ys er w') (hb : w.heap.size ≤ b) (hp : p < w.heap.size) : RStep w p s ys er (w'.setCell ⟨b, j, none⟩ v) :=
  ⟨h.1.kept (gset w' b j v) (fun e => by cases e; omega), gmore h.2 (gset w' b j v) (fun g e => by cases e; exact hb)⟩
theorem RStep.fr {w w' : World} {p er : Nat} {s : ByteArray} {ys : Bs} (h : RStep w p s ys er w') : Fr w w' (fun b => b ≠ p) := Fr.of h.2 (fun b _ hb e => hb (by cases e; rfl))
theorem RStep.below {w w1 w' : World} {p er : Nat} {s : ByteArray} {ys : Bs} (h : RStep w p s ys er w1) (hb : Below w1.heap.size w1 w') : RStep w p s ys er w' :=
  ⟨h.1.kept (new_grown hb none) (by simp), gmore h.2 (new_grown hb none) (fun _ e => by cases e)⟩

/-- Is t a beginning, told by bytes. -/
theorem pre_take (t xs : Bs) : (xs.take t.length == t) = t.isPrefixOf xs := by
  rw [Bool.eq_iff_iff, beq_iff_eq, List.isPrefixOf_iff_prefix, List.prefix_iff_eq_take]
  exact ⟨fun e => e.symm, fun e => e.symm⟩
theorem pre_short (t xs : Bs) (h : xs.length < t.length) : t.isPrefixOf xs = false := by
  rw [Bool.eq_false_iff]
  intro e
  have := (List.isPrefixOf_iff_prefix.1 e).length_le
  omega
def isRest (t : ByteArray) (xs : Bs) : Bs := if t.data.toList.isPrefixOf xs then xs.drop t.size else xs

set_option maxHeartbeats 1000000 in
theorem ref_is (p : Nat) (s : ByteArray) (xs : Bs) (er : Nat) (t : ByteArray) (ht : t.size ≤ 100) (w : World) (h : RRd w p s xs er) :
    Calls Tryd.prog 62 #[.pointer (some ⟨p, 0, none⟩), .string t] w fun e w' => e = .returned (.bool (t.data.toList.isPrefixOf xs)) ∧ RStep w p s (isRest t xs) er w' := by
  obtain ⟨k, c0, c1, c2, f0, f1, f2, ha, hs⟩ := h.parts
  have hlen := ha.len
  have hle := ha.le
  by_cases hl : xs.length < t.size
  · have hp : t.data.toList.isPrefixOf xs = false := pre_short _ _ (by rw [← size_len]; exact hl)
    have hi : isRest t xs = xs := by rw [isRest, if_neg (by rw [hp]; simp)]
    rw [hp, hi]
    have hst := RStep.refl h
    have e0 : IntKind.i64.wrap ((s.size : Int) - (k : Int)) = (s.size : Int) - (k : Int) := IntWalk.i64_in _ (by omega)
    have hlt : decide ((t.size : Int) ≤ (s.size : Int) - (k : Int)) = false := by simp; omega
    clear hp hi hlen hl ha
    go_enter Tryd.func62, Tryd.ntmps62
    go_wp2
    go_quiet (fail)
    go_wp2
    go_ret
    exact ⟨rfl, hst.drewN _⟩
  · have hat := ha.drop t.size (by omega)
    have hpiece : (s.extract k (k + t.size)).data.toList = xs.take t.size := by rw [ext_list, List.drop_take, ha.eq, Nat.add_sub_cancel_left]
    have hpt : ((s.extract k (k + t.size)).toList == t.toList) = t.data.toList.isPrefixOf xs := by
      rw [Lib.toList_data, Lib.toList_data, hpiece]
      have := pre_take t.data.toList xs
      rw [← size_len] at this
      exact this
    have e0 : IntKind.i64.wrap ((s.size : Int) - (k : Int)) = (s.size : Int) - (k : Int) := IntWalk.i64_in _ (by omega)
    have hge : decide ((t.size : Int) ≤ (s.size : Int) - (k : Int)) = true := by simp; omega
    have hle2 := hat.le
    have hrs : isRest t xs = if t.data.toList.isPrefixOf xs then xs.drop t.size else xs := rfl
    generalize t.data.toList.isPrefixOf xs = b at *
    generalize isRest t xs = R at *
    have HR := Lib.hid hrs
    clear hrs
    have hst := RStep.refl h
    have hst2 := hst.set hat
    clear hlen ha hpiece hat
    have HP := Lib.hid hpt
    clear hpt
    have e1 : IntKind.i64.wrap ((k : Int) + (t.size : Int)) = (k : Int) + (t.size : Int) := IntWalk.i64_in _ (by omega)
    have e2 : ((k : Int) + (t.size : Int)).toNat = k + t.size := by omega
    have e3 : (0 : Int) ≤ (k : Int) + (t.size : Int) := by omega
    have e4 : (k : Int) ≤ (k : Int) + (t.size : Int) := by omega
    have e5 : (k : Int) + (t.size : Int) ≤ (s.size : Int) := by omega
    have e6 : k ≤ k + t.size := by omega
    cases b
    · go_enter Tryd.func62, Tryd.ntmps62
      have hq := HP.out
      go_wp2
      go_quiet (fail)
      go_wp2
      go_ret
      exact ⟨rfl, by rw [HR.out]; exact (hst.drewN _)⟩
    · go_enter Tryd.func62, Tryd.ntmps62
      have hq := HP.out
      go_wp2
      go_quiet (fail)
      go_wp2
      go_ret
      exact ⟨rfl, by rw [HR.out]; exact (hst2.drewN _)⟩

set_option maxHeartbeats 400000 in
theorem ref_digit (c : UInt8) (w : World) : Calls Tryd.prog 93 #[.int .u8 c.toNat] w fun e w' => e = .returned (.int .i64 (hexI c)) ∧ w' = w := by
  have hc := c.toNat_lt
  have hh : hexI c = if 48 ≤ c.toNat ∧ c.toNat ≤ 57 then (c.toNat : Int) - 48 else if 97 ≤ c.toNat ∧ c.toNat ≤ 102 then (c.toNat : Int) - 87 else if 65 ≤ c.toNat ∧ c.toNat ≤ 70 then (c.toNat : Int) - 55 else -1 := by
    unfold hexI hexD
    repeat' split
    all_goals (simp_all; try omega)
  generalize hexI c = R at *
  generalize c.toNat = n at *
  have HH := Lib.hid hh
  clear hh
  go_enter Tryd.func93, Tryd.ntmps93
  go_wp2
  all_goals
    go_ret
    refine ⟨ret_int ?_, rfl⟩
    have hh := HH.out
    repeat' split at hh
    all_goals omega
end Go.Proofs.YtjcnjaebmndeiaaDoor

namespace Go.Proofs.YtjcnjaebmndeiaaDoor
open Go.RowKit

/-- What 'four' answers. -/
def FourPost (w : World) (p : Nat) (s : ByteArray) (er : Nat) (o : Option (Nat × Bs)) (e : Ending) (w' : World) : Prop :=
  match o with
  | some (v, r) => e = .returned (.int .i64 v) ∧ RStep w p s r er w'
  | none => e = .returned (.int .i64 (-1)) ∧ ∃ ys, RStep w p s ys er w'
def FRel (w : World) (p : Nat) (s : ByteArray) (er : Nat) (R : Option (Nat × Bs)) (g : Nat) (v i : Value) (wr : World) : Prop :=
  ∃ (j a : Nat) (ys : Bs), j + g = 4 ∧ i = .int .i64 j ∧ v = .int .i64 a ∧ a < 16 ^ j ∧ hexRun g a ys = R ∧ RStep w p s ys er wr
theorem pow16_le {j : Nat} (h : j ≤ 4) : 16 ^ j ≤ 65536 := Nat.pow_le_pow_right (by omega) h
theorem hexI_some {c : UInt8} {d : Nat} (h : hexD c = some d) : hexI c = d := by unfold hexI; rw [h]
theorem hexI_none {c : UInt8} (h : hexD c = none) : hexI c = -1 := by unfold hexI; rw [h]

set_option maxHeartbeats 1000000 in
theorem ref_four (p : Nat) (s : ByteArray) (xs : Bs) (er : Nat) (w : World) (h : RRd w p s xs er) :
    Calls Tryd.prog 91 #[.pointer (some ⟨p, 0, none⟩)] w (FourPost w p s er (hex4 xs)) := by
  rw [← hexRun_four]
  have hrel0 : FRel w p s er (hexRun 4 0 xs) 4 (.int .i64 0) (.int .i64 0) w := ⟨0, 0, xs, rfl, rfl, rfl, by decide, rfl, RStep.refl h⟩
  generalize hexRun 4 0 xs = R at *
  go_enter Tryd.func91, Tryd.ntmps91
  go_wp2
  go_loopg [3, 4] 4 (fun g v i wr => FRel w p s er R g v i wr)
  case atStart => exact hrel0
  case round =>
    obtain ⟨j, a, ys, hj, rfl, rfl, ha, hR, hst⟩ := hrel
    clear hrel0
    have HR := Lib.hid hR
    clear hR
    match gk, hj, HR with
    | 0, hj, HR =>
      have hj4 : ¬ ((j : Int) < 4) := by omega
      clear ha
      go_wp2
      go_ret
      show FourPost w p s er R _ _
      rw [← HR.out]
      exact ⟨rfl, hst⟩
    | g + 1, hj, HR =>
      have hj4 : (j : Int) < 4 := by omega
      have hp16 := pow16_le (show j ≤ 4 by omega)
      have hab : a < 65536 := by omega
      have HA := Lib.hid ha
      clear ha hp16
      obtain ⟨k, c0, c1, c2, f0, f1, f2, hat, hs⟩ := hst.1.parts
      cases ys with
      | nil =>
        have hk := hat.nil
        have hk' : decide (s.size ≤ k) = true := by simp; omega
        have HK := Lib.hid hk
        clear hk hat
        go_wp2
        go_quiet (fail)
        go_wp2
        go_ret
        show FourPost w p s er R _ _
        rw [← HR.out]
        exact ⟨rfl, _, hst.drewN _⟩
      | cons c r =>
        have hlt := hat.lt
        have hget := hat.get hlt
        have hk' : decide (s.size ≤ k) = false := by simp; omega
        have hst' := hst.set hat.tail
        have hdig := fun w1 => ref_digit c w1
        have HD := Lib.hid hdig
        clear hdig hat
        cases hd : hexD c with
        | none =>
          have HI := Lib.hid (hexI_none hd)
          rw [HI.out] at HD
          have HN := Lib.hid hd
          clear hd
          go_wp2
          go_quiet ((go_at_call 93; exact quiet_same (fun n => HD.out _) _))
          go_wp2
          go_ret
          show FourPost w p s er R _ _
          rw [← HR.out, hexRun, HN.out]
          exact ⟨rfl, _, hst.drewN _⟩
        | some d =>
          have HI := Lib.hid (hexI_some hd)
          rw [HI.out] at HD
          have hd16 := hexD_lt hd
          have HN := Lib.hid hd
          clear hd
          go_wp2
          go_quiet ((go_at_call 93; exact quiet_same (fun n => HD.out _) _))
          go_wp2
          generalize hW : wr.drewN _ = w1
          have hst1 : RStep w p s (c :: r) er w1 := by rw [← hW]; exact hst.drewN _
          clear hW hst hst' c0 c1 c2 f0 f1 f2
          obtain ⟨k1, c0, c1, c2, f0, f1, f2, hat1, _⟩ := hst1.1.parts
          have hlt1 := hat1.lt
          have hget1 := hat1.get hlt1
          have hst' := hst1.set hat1.tail
          have m1 : IntKind.i64.wrap (16 * (a : Int)) = 16 * (a : Int) := IntWalk.i64_in _ (by omega)
          have m2 : IntKind.i64.wrap (16 * (a : Int) + (d : Int)) = 16 * (a : Int) + (d : Int) := IntWalk.i64_in _ (by omega)
          clear hat1
          go_quiet ((go_at_call 93; exact quiet_same (fun n => HD.out _) _))
          clear m1 m2
          go_wp2
          go_roundg g
          case measure => omega
          case rel => exact ⟨j + 1, 16 * a + d, r, by omega, by go_num, by go_num, by have := HA.out; rw [Nat.pow_succ]; omega, by rw [← HR.out, hexRun, HN.out], hst'.drewN _⟩

/-- 'four' that answers, its number an integer. -/
theorem four_some {p er : Nat} {s : ByteArray} {r : Bs} {v : Nat} {w : World} (h : Calls Tryd.prog 91 #[.pointer (some ⟨p, 0, none⟩)] w (FourPost w p s er (some (v, r)))) {V : Int} (hV : V = (v : Int)) :
    Calls Tryd.prog 91 #[.pointer (some ⟨p, 0, none⟩)] w fun e w' => e = .returned (.int .i64 V) ∧ RStep w p s r er w' := by
  subst hV; exact h
theorem four_none {p er : Nat} {s : ByteArray} {w : World} (h : Calls Tryd.prog 91 #[.pointer (some ⟨p, 0, none⟩)] w (FourPost w p s er none)) :
    Calls Tryd.prog 91 #[.pointer (some ⟨p, 0, none⟩)] w fun e w' => e = .returned (.int .i64 (-1)) ∧ ∃ ys, RStep w p s ys er w' := h
/-- What 'escaped' answers. -/
def EscP (w : World) (p : Nat) (s : ByteArray) (o : Option (Int × Bs)) (e : Ending) (w' : World) : Prop :=
  match o with
  | some (u, r) => e = .returned (.string (str (Lib.encodeRune u))) ∧ RStep w p s r 0 w'
  | none => e = .returned (.string ⟨#[]⟩) ∧ ∃ ys, RStep w p s ys 4 w'
theorem fail4 {p : Nat} {s : ByteArray} {xs : Bs} {w : World} (h : RRd w p s xs 0) : Calls Tryd.prog 39 #[.pointer (some ⟨p, 0, none⟩), .int .i64 4] w fun e w' => e = .returned (.tuple #[]) ∧ RStep w p s xs 4 w' := ref_fail p s xs 0 4 w h

set_option maxHeartbeats 1000000 in
theorem escaped_nil (p : Nat) (s : ByteArray) (w : World) (h : RRd w p s [] 0) : Calls Tryd.prog 81 #[.pointer (some ⟨p, 0, none⟩)] w (EscP w p s none) := by
  obtain ⟨k, c0, c1, c2, f0, f1, f2, hat, hs⟩ := h.parts
  have hk := hat.nil
  have hk' : decide (s.size ≤ k) = true := by simp; omega
  have HF : ∀ n, Hid (Calls Tryd.prog 39 #[.pointer (some ⟨p, 0, none⟩), .int .i64 4] (w.drewN n) fun e w' => e = .returned (.tuple #[]) ∧ RStep (w.drewN n) p s [] 4 w') := fun n => fail4 (h.drewN n)
  have HFF := Lib.hid HF
  have hst := RStep.refl h
  clear hk hat HF
  go_enter Tryd.func81, Tryd.ntmps81
  go_wp2
  go_quiet (fail)
  go_wp2_with fail
  refine (HFF.out _).out.mono ?_
  rintro e w1 ⟨rfl, hst1⟩
  go_wp2
  go_ret
  exact ⟨rfl, _, (hst.drewN _).of hst1⟩

theorem str_rune {n : Nat} (h : n ≤ 127) : str (Lib.encodeRune n) = ⟨#[UInt8.ofNat n]⟩ := by
  unfold Lib.encodeRune
  rw [Lib.encodeRuneZ_one (by omega) (by omega)]
  rfl
theorem str_byte {c : UInt8} (h : c.toNat ≤ 127) : str (Lib.encodeRune c.toNat) = ⟨#[c]⟩ := by rw [str_rune h, UInt8.ofNat_toNat]
theorem conv_one (w : World) (c : UInt8) : (convert 50 9 (.slice (some ⟨w.heap.size, 0, none⟩) 1 1)).run Tryd.prog (w.alloc (.cells #[.int .u8 c.toNat] 5)) = .ok (.string ⟨#[c]⟩) (w.alloc (.cells #[.int .u8 c.toNat] 5)) :=
  run_convert_bytes_back _ 50 9 5 ⟨w.heap.size, 0, none⟩ 1 [c] Tryd.underlying50 Tryd.underlying5 Tryd.underlying9 (fun j hj => by
    simp only [List.length_cons, List.length_nil] at hj
    obtain rfl : j = 0 := by omega
    rw [addr_add, cell_of_row _ w.heap.size 0 _ _ _ (heap_alloc_new w _)]
    rfl)

end Go.Proofs.YtjcnjaebmndeiaaDoor

namespace Go.Proofs.YtjcnjaebmndeiaaDoor
open Go.RowKit
set_option maxHeartbeats 1000000 in
theorem escaped_one (p : Nat) (s : ByteArray) (c : UInt8) (r : Bs) (hc : c.toNat = 34 ∨ c.toNat = 92 ∨ c.toNat = 47) (w : World) (h : RRd w p s (c :: r) 0) : Calls Tryd.prog 81 #[.pointer (some ⟨p, 0, none⟩)] w (EscP w p s (some ((c.toNat : Int), r))) := by
  obtain ⟨k, c0, c1, c2, f0, f1, f2, hat, hs⟩ := h.parts
  have hlt := hat.lt
  have hget := hat.get hlt
  have hk' : decide (s.size ≤ k) = false := by simp; omega
  have hst := RStep.refl h
  have hst' := hst.set hat.tail
  have hplt := h.lt
  have hpost : ∀ w', RStep w p s r 0 w' → EscP w p s (some ((c.toNat : Int), r)) (.returned (.string ⟨#[c]⟩)) w' := fun w' h' => ⟨by rw [str_byte (by omega)], h'⟩
  have HP := Lib.hid hpost
  have hcv : ∀ n, (convert 50 9 (.slice (some ⟨w.heap.size, 0, none⟩) 1 1)).run Tryd.prog (((w.drewN n).setCell ⟨p, 1, none⟩ (.int .i64 ((k : Int) + 1))).alloc (.cells #[.int .u8 c.toNat] 5)) = .ok (.string ⟨#[c]⟩) (((w.drewN n).setCell ⟨p, 1, none⟩ (.int .i64 ((k : Int) + 1))).alloc (.cells #[.int .u8 c.toNat] 5)) := fun n => by
    have h0 := conv_one ((w.drewN n).setCell ⟨p, 1, none⟩ (.int .i64 ((k : Int) + 1))) c
    rw [show ((w.drewN n).setCell ⟨p, 1, none⟩ (.int .i64 ((k : Int) + 1))).heap.size = w.heap.size by simp [World.setCell]] at h0
    exact h0
  clear hat hpost
  generalize EscP w p s (some ((c.toNat : Int), r)) = POST at *
  rcases hc with hc | hc | hc
  · have b34 : ((c.toNat : Int) == 34) = true := by simp only [beq_iff_eq]; omega
    clear hc
    go_enter Tryd.func81, Tryd.ntmps81
    go_wp2
    go_quiet (fail)
    go_wp2
    go_quiet (fail)
    go_wp2
    exact HP.out _ ((hst'.drewN _).alloc _)
  · have b34 : ((c.toNat : Int) == 34) = false := by simp only [beq_eq_false_iff_ne, ne_eq]; omega
    have b92 : ((c.toNat : Int) == 92) = true := by simp only [beq_iff_eq]; omega
    clear hc
    go_enter Tryd.func81, Tryd.ntmps81
    go_wp2
    go_quiet (fail)
    go_wp2
    go_quiet (fail)
    go_wp2
    exact HP.out _ ((hst'.drewN _).alloc _)
  · have b34 : ((c.toNat : Int) == 34) = false := by simp only [beq_eq_false_iff_ne, ne_eq]; omega
    have b92 : ((c.toNat : Int) == 92) = false := by simp only [beq_eq_false_iff_ne, ne_eq]; omega
    have b47 : ((c.toNat : Int) == 47) = true := by simp only [beq_iff_eq]; omega
    clear hc
    go_enter Tryd.func81, Tryd.ntmps81
    go_wp2
    go_quiet (fail)
    go_wp2
    go_quiet (fail)
    go_wp2
    exact HP.out _ ((hst'.drewN _).alloc _)

set_option maxHeartbeats 1000000 in
theorem escaped_two (p : Nat) (s : ByteArray) (c : UInt8) (r : Bs) (b : Nat) (hc : c.toNat = 98 ∧ b = 8 ∨ c.toNat = 102 ∧ b = 12 ∨ c.toNat = 110 ∧ b = 10 ∨ c.toNat = 114 ∧ b = 13 ∨ c.toNat = 116 ∧ b = 9) (w : World) (h : RRd w p s (c :: r) 0) : Calls Tryd.prog 81 #[.pointer (some ⟨p, 0, none⟩)] w (EscP w p s (some ((b : Int), r))) := by
  obtain ⟨k, c0, c1, c2, f0, f1, f2, hat, hs⟩ := h.parts
  have hlt := hat.lt
  have hget := hat.get hlt
  have hk' : decide (s.size ≤ k) = false := by simp; omega
  have hst := RStep.refl h
  have hst' := hst.set hat.tail
  have hplt := h.lt
  have hpost : ∀ w', RStep w p s r 0 w' → EscP w p s (some ((b : Int), r)) (.returned (.string ⟨#[UInt8.ofNat b]⟩)) w' := fun w' h' => ⟨by rw [str_rune (by omega)], h'⟩
  have HP := Lib.hid hpost
  clear hat hpost
  generalize EscP w p s (some ((b : Int), r)) = POST at *
  rcases hc with ⟨hc, rfl⟩ | ⟨hc, rfl⟩ | ⟨hc, rfl⟩ | ⟨hc, rfl⟩ | ⟨hc, rfl⟩
  · have b34 : ((c.toNat : Int) == 34) = false := by simp only [beq_eq_false_iff_ne, ne_eq]; omega
    have b92 : ((c.toNat : Int) == 92) = false := by simp only [beq_eq_false_iff_ne, ne_eq]; omega
    have b47 : ((c.toNat : Int) == 47) = false := by simp only [beq_eq_false_iff_ne, ne_eq]; omega
    have b98 : ((c.toNat : Int) == 98) = true := by simp only [beq_iff_eq]; omega
    clear hc
    go_enter Tryd.func81, Tryd.ntmps81
    go_wp2
    go_quiet (fail)
    go_wp2
    go_quiet (fail)
    go_wp2
    exact HP.out _ (hst'.drewN _)
  · have b34 : ((c.toNat : Int) == 34) = false := by simp only [beq_eq_false_iff_ne, ne_eq]; omega
    have b92 : ((c.toNat : Int) == 92) = false := by simp only [beq_eq_false_iff_ne, ne_eq]; omega
    have b47 : ((c.toNat : Int) == 47) = false := by simp only [beq_eq_false_iff_ne, ne_eq]; omega
    have b98 : ((c.toNat : Int) == 98) = false := by simp only [beq_eq_false_iff_ne, ne_eq]; omega
    have b102 : ((c.toNat : Int) == 102) = true := by simp only [beq_iff_eq]; omega
    clear hc
    go_enter Tryd.func81, Tryd.ntmps81
    go_wp2
    go_quiet (fail)
    go_wp2
    go_quiet (fail)
    go_wp2
    exact HP.out _ (hst'.drewN _)
  · have b34 : ((c.toNat : Int) == 34) = false := by simp only [beq_eq_false_iff_ne, ne_eq]; omega
    have b92 : ((c.toNat : Int) == 92) = false := by simp only [beq_eq_false_iff_ne, ne_eq]; omega
    have b47 : ((c.toNat : Int) == 47) = false := by simp only [beq_eq_false_iff_ne, ne_eq]; omega
    have b98 : ((c.toNat : Int) == 98) = false := by simp only [beq_eq_false_iff_ne, ne_eq]; omega
    have b102 : ((c.toNat : Int) == 102) = false := by simp only [beq_eq_false_iff_ne, ne_eq]; omega
    have b110 : ((c.toNat : Int) == 110) = true := by simp only [beq_iff_eq]; omega
    clear hc
    go_enter Tryd.func81, Tryd.ntmps81
    go_wp2
    go_quiet (fail)
    go_wp2
    go_quiet (fail)
    go_wp2
    exact HP.out _ (hst'.drewN _)
  · have b34 : ((c.toNat : Int) == 34) = false := by simp only [beq_eq_false_iff_ne, ne_eq]; omega
    have b92 : ((c.toNat : Int) == 92) = false := by simp only [beq_eq_false_iff_ne, ne_eq]; omega
    have b47 : ((c.toNat : Int) == 47) = false := by simp only [beq_eq_false_iff_ne, ne_eq]; omega
    have b98 : ((c.toNat : Int) == 98) = false := by simp only [beq_eq_false_iff_ne, ne_eq]; omega
    have b102 : ((c.toNat : Int) == 102) = false := by simp only [beq_eq_false_iff_ne, ne_eq]; omega
    have b110 : ((c.toNat : Int) == 110) = false := by simp only [beq_eq_false_iff_ne, ne_eq]; omega
    have b114 : ((c.toNat : Int) == 114) = true := by simp only [beq_iff_eq]; omega
    clear hc
    go_enter Tryd.func81, Tryd.ntmps81
    go_wp2
    go_quiet (fail)
    go_wp2
    go_quiet (fail)
    go_wp2
    exact HP.out _ (hst'.drewN _)
  · have b34 : ((c.toNat : Int) == 34) = false := by simp only [beq_eq_false_iff_ne, ne_eq]; omega
    have b92 : ((c.toNat : Int) == 92) = false := by simp only [beq_eq_false_iff_ne, ne_eq]; omega
    have b47 : ((c.toNat : Int) == 47) = false := by simp only [beq_eq_false_iff_ne, ne_eq]; omega
    have b98 : ((c.toNat : Int) == 98) = false := by simp only [beq_eq_false_iff_ne, ne_eq]; omega
    have b102 : ((c.toNat : Int) == 102) = false := by simp only [beq_eq_false_iff_ne, ne_eq]; omega
    have b110 : ((c.toNat : Int) == 110) = false := by simp only [beq_eq_false_iff_ne, ne_eq]; omega
    have b114 : ((c.toNat : Int) == 114) = false := by simp only [beq_eq_false_iff_ne, ne_eq]; omega
    have b116 : ((c.toNat : Int) == 116) = true := by simp only [beq_iff_eq]; omega
    clear hc
    go_enter Tryd.func81, Tryd.ntmps81
    go_wp2
    go_quiet (fail)
    go_wp2
    go_quiet (fail)
    go_wp2
    exact HP.out _ (hst'.drewN _)
end Go.Proofs.YtjcnjaebmndeiaaDoor

namespace Go.Proofs.YtjcnjaebmndeiaaDoor
open Go.RowKit

theorem fail4N {p : Nat} {s : ByteArray} {xs : Bs} (W : World) (h : RRd W p s xs 0) : Calls Tryd.prog 39 #[.pointer (some ⟨p, 0, none⟩), .int .i64 4] W fun e w' => e = .returned (.tuple #[]) ∧ RStep W p s xs 4 w' := fail4 h

set_option maxHeartbeats 1000000 in
theorem escaped_other (p : Nat) (s : ByteArray) (c : UInt8) (r : Bs) (hc : c.toNat ≠ 117) (he : escC c = none) (w : World) (h : RRd w p s (c :: r) 0) : Calls Tryd.prog 81 #[.pointer (some ⟨p, 0, none⟩)] w (EscP w p s none) := by
  obtain ⟨k, c0, c1, c2, f0, f1, f2, hat, hs⟩ := h.parts
  have hlt := hat.lt
  have hget := hat.get hlt
  have hk' : decide (s.size ≤ k) = false := by simp; omega
  have hst := RStep.refl h
  have hst' := hst.set hat.tail
  have hplt := h.lt
  have hne : c.toNat ≠ 34 ∧ c.toNat ≠ 92 ∧ c.toNat ≠ 47 ∧ c.toNat ≠ 98 ∧ c.toNat ≠ 102 ∧ c.toNat ≠ 110 ∧ c.toNat ≠ 114 ∧ c.toNat ≠ 116 := by
    unfold escC at he
    repeat' split at he
    all_goals first | omega | cases he
  have b34 : ((c.toNat : Int) == 34) = false := by simp only [beq_eq_false_iff_ne, ne_eq]; omega
  have b92 : ((c.toNat : Int) == 92) = false := by simp only [beq_eq_false_iff_ne, ne_eq]; omega
  have b47 : ((c.toNat : Int) == 47) = false := by simp only [beq_eq_false_iff_ne, ne_eq]; omega
  have b98 : ((c.toNat : Int) == 98) = false := by simp only [beq_eq_false_iff_ne, ne_eq]; omega
  have b102 : ((c.toNat : Int) == 102) = false := by simp only [beq_eq_false_iff_ne, ne_eq]; omega
  have b110 : ((c.toNat : Int) == 110) = false := by simp only [beq_eq_false_iff_ne, ne_eq]; omega
  have b114 : ((c.toNat : Int) == 114) = false := by simp only [beq_eq_false_iff_ne, ne_eq]; omega
  have b116 : ((c.toNat : Int) == 116) = false := by simp only [beq_eq_false_iff_ne, ne_eq]; omega
  have b117 : ((c.toNat : Int) == 117) = false := by simp only [beq_eq_false_iff_ne, ne_eq]; omega
  clear hat hc he hne
  go_enter Tryd.func81, Tryd.ntmps81
  go_wp2
  go_quiet (fail)
  go_wp2
  go_quiet (fail)
  go_wp2_with fail
  generalize hW : (w.drewN _).setCell _ _ = W1
  have hst2 : RStep w p s r 0 W1 := by rw [← hW]; exact hst'.drewN _
  clear hW
  refine (fail4N _ hst2.1).mono ?_
  rintro e w1 ⟨rfl, hst1⟩
  go_wp2
  go_ret
  exact ⟨rfl, _, hst2.of hst1⟩

section
variable {xs r : Bs} {v : Nat}
theorem rcoded_none (h : hex4 xs = none) : codedM xs = none := by unfold codedM; rw [h]
theorem rcoded_low (h : hex4 xs = some (v, r)) (hv : v < 55296 ∨ 57344 ≤ v) : codedM xs = some ((v : Int), r) := by unfold codedM; rw [h]; simp only [if_pos hv]
theorem rcoded_mid (h : hex4 xs = some (v, r)) (h1 : 56320 ≤ v) (h2 : v < 57344) : codedM xs = none := by unfold codedM; rw [h]; simp only [if_neg (show ¬ (v < 55296 ∨ 57344 ≤ v) by omega), if_pos h1]
theorem rcoded_half (h : hex4 xs = some (v, r)) (h1 : 55296 ≤ v) (h2 : v < 56320) (hp : ([92, 117] : Bs).isPrefixOf r = false) : codedM xs = none := by
  unfold codedM; rw [h]; simp only [if_neg (show ¬ (v < 55296 ∨ 57344 ≤ v) by omega), if_neg (show ¬ 56320 ≤ v by omega)]
  match r, hp with
  | [], _ => rfl
  | [_], _ => rfl
  | a :: b :: t, hp =>
    simp only
    rw [if_neg]
    rintro ⟨ha, hb⟩
    obtain rfl : a = 92 := UInt8.toNat.inj ha
    obtain rfl : b = 117 := UInt8.toNat.inj hb
    simp [List.isPrefixOf] at hp
theorem rcoded_pair (h : hex4 xs = some (v, r)) (h1 : 55296 ≤ v) (h2 : v < 56320) (hp : ([92, 117] : Bs).isPrefixOf r = true) :
    codedM xs = match hex4 (r.drop 2) with
      | none => none
      | some (u, r'') => if 56320 ≤ u ∧ u < 57344 then some (65536 + ((v : Int) - 55296) * 1024 + ((u : Int) - 56320), r'') else none := by
  unfold codedM; rw [h]; simp only [if_neg (show ¬ (v < 55296 ∨ 57344 ≤ v) by omega), if_neg (show ¬ 56320 ≤ v by omega)]
  match r, hp with
  | [], hp => simp [List.isPrefixOf] at hp
  | [_], hp => simp [List.isPrefixOf] at hp
  | a :: b :: t, hp =>
    simp only [List.isPrefixOf, Bool.and_true, Bool.and_eq_true, beq_iff_eq] at hp
    obtain ⟨rfl, rfl⟩ := hp
    simp only [show (92 : UInt8).toNat = 92 by rfl, show (117 : UInt8).toNat = 117 by rfl, and_self, if_true, List.drop]
    rfl
end
def uText : ByteArray := ⟨#[92, 117]⟩
set_option maxHeartbeats 2000000 in
theorem escaped_u (p : Nat) (s : ByteArray) (c : UInt8) (r : Bs) (hc : c.toNat = 117) (w : World) (h : RRd w p s (c :: r) 0) : Calls Tryd.prog 81 #[.pointer (some ⟨p, 0, none⟩)] w (EscP w p s (codedM r)) := by
  obtain ⟨k, c0, c1, c2, f0, f1, f2, hat, hs⟩ := h.parts
  have hlt := hat.lt
  have hget := hat.get hlt
  have hk' : decide (s.size ≤ k) = false := by simp; omega
  have hst := RStep.refl h
  have hst' := hst.set hat.tail
  have hplt := h.lt
  have b34 : ((c.toNat : Int) == 34) = false := by simp only [beq_eq_false_iff_ne, ne_eq]; omega
  have b92 : ((c.toNat : Int) == 92) = false := by simp only [beq_eq_false_iff_ne, ne_eq]; omega
  have b47 : ((c.toNat : Int) == 47) = false := by simp only [beq_eq_false_iff_ne, ne_eq]; omega
  have b98 : ((c.toNat : Int) == 98) = false := by simp only [beq_eq_false_iff_ne, ne_eq]; omega
  have b102 : ((c.toNat : Int) == 102) = false := by simp only [beq_eq_false_iff_ne, ne_eq]; omega
  have b110 : ((c.toNat : Int) == 110) = false := by simp only [beq_eq_false_iff_ne, ne_eq]; omega
  have b114 : ((c.toNat : Int) == 114) = false := by simp only [beq_eq_false_iff_ne, ne_eq]; omega
  have b116 : ((c.toNat : Int) == 116) = false := by simp only [beq_eq_false_iff_ne, ne_eq]; omega
  have b117 : ((c.toNat : Int) == 117) = true := by simp only [beq_iff_eq]; omega
  clear hat hc
  cases h4 : hex4 r with
  | none =>
    have HM := Lib.hid (rcoded_none h4)
    have hf : ∀ W, RRd W p s r 0 → _ := fun W hW => four_none (by have := ref_four p s r 0 W hW; rw [h4] at this; exact this)
    have HF := Lib.hid hf
    clear hf h4
    go_enter Tryd.func81, Tryd.ntmps81
    go_wp2
    go_quiet (fail)
    go_wp2
    go_quiet (fail)
    go_wp2_with fail
    generalize hW : (w.drewN _).setCell _ _ = W1
    have hst2 : RStep w p s r 0 W1 := by rw [← hW]; exact hst'.drewN _
    clear hW
    refine (HF.out _ hst2.1).mono ?_
    rintro e w1 ⟨rfl, ys, hst1⟩
    have hst3 := hst2.of hst1
    go_wp2_with fail
    refine (fail4N _ hst3.1).mono ?_
    rintro e w2 ⟨rfl, hst4⟩
    go_wp2
    go_ret
    rw [HM.out]
    exact ⟨rfl, _, hst3.of hst4⟩
  | some vr =>
    obtain ⟨v, r1⟩ := vr
    have hv16 := hex4_lt h4
    obtain ⟨V, hV⟩ : ∃ V : Int, V = (v : Int) := ⟨_, rfl⟩
    have hf : ∀ W, RRd W p s r 0 → _ := fun W hW => four_some (by have := ref_four p s r 0 W hW; rw [h4] at this; exact this) hV
    have HF := Lib.hid hf
    have HV := Lib.hid hV
    have H4 := Lib.hid h4
    have hV0 : 0 ≤ V := by omega
    have hV1 : V < 65536 := by omega
    clear hf h4 hV hv16
    have hsplit : V < 55296 ∨ 57344 ≤ V ∨ (56320 ≤ V ∧ V < 57344) ∨ (55296 ≤ V ∧ V < 56320) := by omega
    rcases hsplit with hA | hA | ⟨hA, hB⟩ | ⟨hA, hB⟩
    · have HM := Lib.hid (rcoded_low H4.out (by have := HV.out; omega))
      have HE := Lib.hid (enc_eq V hV0 (by omega) (by omega))
      go_enter Tryd.func81, Tryd.ntmps81
      go_wp2
      go_quiet (fail)
      go_wp2
      go_quiet (fail)
      go_wp2_with fail
      generalize hW : (w.drewN _).setCell _ _ = W1
      have hst2 : RStep w p s r 0 W1 := by rw [← hW]; exact hst'.drewN _
      clear hW
      refine (HF.out _ hst2.1).mono ?_
      rintro e w1 ⟨rfl, hst1⟩
      have hst3 := hst2.of hst1
      go_wp2
      go_ret
      rw [HM.out, HE.out, HV.out]
      exact ⟨rfl, hst3⟩
    · have HM := Lib.hid (rcoded_low H4.out (by have := HV.out; omega))
      have HE := Lib.hid (enc_eq V hV0 (by omega) (by omega))
      have hA' : ¬ V < 56320 := by omega
      go_enter Tryd.func81, Tryd.ntmps81
      go_wp2
      go_quiet (fail)
      go_wp2
      go_quiet (fail)
      go_wp2_with fail
      generalize hW : (w.drewN _).setCell _ _ = W1
      have hst2 : RStep w p s r 0 W1 := by rw [← hW]; exact hst'.drewN _
      clear hW
      refine (HF.out _ hst2.1).mono ?_
      rintro e w1 ⟨rfl, hst1⟩
      have hst3 := hst2.of hst1
      go_wp2
      go_ret
      rw [HM.out, HE.out, HV.out]
      exact ⟨rfl, hst3⟩
    · have HM := Lib.hid (rcoded_mid H4.out (by have := HV.out; omega) (by have := HV.out; omega))
      go_enter Tryd.func81, Tryd.ntmps81
      go_wp2
      go_quiet (fail)
      go_wp2
      go_quiet (fail)
      go_wp2_with fail
      generalize hW : (w.drewN _).setCell _ _ = W1
      have hst2 : RStep w p s r 0 W1 := by rw [← hW]; exact hst'.drewN _
      clear hW
      refine (HF.out _ hst2.1).mono ?_
      rintro e w1 ⟨rfl, hst1⟩
      have hst3 := hst2.of hst1
      go_wp2_with fail
      refine (fail4N _ hst3.1).mono ?_
      rintro e w2 ⟨rfl, hst4⟩
      go_wp2
      go_ret
      rw [HM.out]
      exact ⟨rfl, _, hst3.of hst4⟩
    · have his : ∀ W, RRd W p s r1 0 → Calls Tryd.prog 62 #[.pointer (some ⟨p, 0, none⟩), .string ⟨#[92, 117]⟩] W fun e w' => e = .returned (.bool (([92, 117] : Bs).isPrefixOf r1)) ∧ RStep W p s (if ([92, 117] : Bs).isPrefixOf r1 then r1.drop 2 else r1) 0 w' := fun W hW => ref_is p s r1 0 ⟨#[92, 117]⟩ (by decide) W hW
      have hn1 : (55296 : Nat) ≤ v := by have := HV.out; omega
      have hn2 : v < 56320 := by have := HV.out; omega
      cases hp : ([92, 117] : Bs).isPrefixOf r1 with
      | false =>
        have HM := Lib.hid (rcoded_half H4.out hn1 hn2 hp)
        rw [hp] at his
        have HI := Lib.hid his
        clear his hp hn1 hn2
        go_enter Tryd.func81, Tryd.ntmps81
        go_wp2
        go_quiet (fail)
        go_wp2
        go_quiet (fail)
        go_wp2_with fail
        generalize hW : (w.drewN _).setCell _ _ = W1
        have hst2 : RStep w p s r 0 W1 := by rw [← hW]; exact hst'.drewN _
        clear hW
        refine (HF.out _ hst2.1).mono ?_
        rintro e w1 ⟨rfl, hst1⟩
        have hst3 := hst2.of hst1
        go_wp2_with fail
        refine (HI.out _ hst3.1).mono ?_
        rintro e w2 ⟨rfl, hst4⟩
        have hst5 : RStep w p s r1 0 w2 := hst3.of hst4
        go_wp2_with fail
        refine (fail4N _ hst5.1).mono ?_
        rintro e w3 ⟨rfl, hst6⟩
        go_wp2
        go_ret
        rw [HM.out]
        exact ⟨rfl, _, hst5.of hst6⟩
      | true =>
        have HM := Lib.hid (rcoded_pair H4.out hn1 hn2 hp)
        rw [hp] at his
        have HI := Lib.hid his
        clear his hp hn1 hn2
        cases h5 : hex4 (r1.drop 2) with
        | none =>
          have hf : ∀ W, RRd W p s (r1.drop 2) 0 → _ := fun W hW => four_none (by have := ref_four p s (r1.drop 2) 0 W hW; rw [h5] at this; exact this)
          have HF2 := Lib.hid hf
          rw [h5] at HM
          clear hf h5
          go_enter Tryd.func81, Tryd.ntmps81
          go_wp2
          go_quiet (fail)
          go_wp2
          go_quiet (fail)
          go_wp2_with fail
          generalize hW : (w.drewN _).setCell _ _ = W1
          have hst2 : RStep w p s r 0 W1 := by rw [← hW]; exact hst'.drewN _
          clear hW
          refine (HF.out _ hst2.1).mono ?_
          rintro e w1 ⟨rfl, hst1⟩
          have hst3 := hst2.of hst1
          go_wp2_with fail
          refine (HI.out _ hst3.1).mono ?_
          rintro e w2 ⟨rfl, hst4⟩
          have hst5 : RStep w p s (r1.drop 2) 0 w2 := hst3.of hst4
          go_wp2_with fail
          refine (HF2.out _ hst5.1).mono ?_
          rintro e w3 ⟨rfl, ys, hst6⟩
          have hst7 := hst5.of hst6
          go_wp2_with fail
          refine (fail4N _ hst7.1).mono ?_
          rintro e w4 ⟨rfl, hst8⟩
          go_wp2
          go_ret
          rw [HM.out]
          exact ⟨rfl, _, hst7.of hst8⟩
        | some ur =>
          obtain ⟨u, r2⟩ := ur
          have hu16 := hex4_lt h5
          obtain ⟨U, hU⟩ : ∃ U : Int, U = (u : Int) := ⟨_, rfl⟩
          have hf : ∀ W, RRd W p s (r1.drop 2) 0 → _ := fun W hW => four_some (by have := ref_four p s (r1.drop 2) 0 W hW; rw [h5] at this; exact this) hU
          have HF2 := Lib.hid hf
          have HU := Lib.hid hU
          have hU0 : 0 ≤ U := by omega
          have hU1 : U < 65536 := by omega
          rw [h5] at HM
          clear hf h5 hU hu16
          by_cases hu : 56320 ≤ U ∧ U < 57344
          · obtain ⟨hu1, hu2⟩ := hu
            have hm : codedM r = some (65536 + (V - 55296) * 1024 + (U - 56320), r2) := by
              rw [HM.out]; simp only
              rw [if_pos (by have := HU.out; omega), HV.out, HU.out]
            have HN := Lib.hid hm
            have HE := Lib.hid (enc_eq (65536 + (V - 55296) * 1024 + (U - 56320)) (by omega) (by omega) (by omega))
            clear hm HM
            go_enter Tryd.func81, Tryd.ntmps81
            go_wp2
            go_quiet (fail)
            go_wp2
            go_quiet (fail)
            go_wp2_with fail
            generalize hW : (w.drewN _).setCell _ _ = W1
            have hst2 : RStep w p s r 0 W1 := by rw [← hW]; exact hst'.drewN _
            clear hW
            refine (HF.out _ hst2.1).mono ?_
            rintro e w1 ⟨rfl, hst1⟩
            have hst3 := hst2.of hst1
            go_wp2_with fail
            refine (HI.out _ hst3.1).mono ?_
            rintro e w2 ⟨rfl, hst4⟩
            have hst5 : RStep w p s (r1.drop 2) 0 w2 := hst3.of hst4
            go_wp2_with fail
            refine (HF2.out _ hst5.1).mono ?_
            rintro e w3 ⟨rfl, hst6⟩
            have hst7 := hst5.of hst6
            go_wp2
            go_ret
            rw [HN.out]
            refine ⟨?_, hst7⟩
            rw [← HE.out]
            show Ending.returned (.string (Utf8.encode (65536 + (V - 55296) * 1024 + U - 56320))) = _
            rw [show 65536 + (V - 55296) * 1024 + U - 56320 = 65536 + (V - 55296) * 1024 + (U - 56320) by omega]
          · have hm : codedM r = none := by
              rw [HM.out]; simp only
              rw [if_neg (by have := HU.out; omega)]
            have HN := Lib.hid hm
            clear hm HM
            have hu' : U < 56320 ∨ (56320 ≤ U ∧ 57344 ≤ U) := by omega
            clear hu
            rcases hu' with hu1 | ⟨hu1, hu2⟩
            all_goals
              go_enter Tryd.func81, Tryd.ntmps81
              go_wp2
              go_quiet (fail)
              go_wp2
              go_quiet (fail)
              go_wp2_with fail
              generalize hW : (w.drewN _).setCell _ _ = W1
              have hst2 : RStep w p s r 0 W1 := by rw [← hW]; exact hst'.drewN _
              clear hW
              refine (HF.out _ hst2.1).mono ?_
              rintro e w1 ⟨rfl, hst1⟩
              have hst3 := hst2.of hst1
              go_wp2_with fail
              refine (HI.out _ hst3.1).mono ?_
              rintro e w2 ⟨rfl, hst4⟩
              have hst5 : RStep w p s (r1.drop 2) 0 w2 := hst3.of hst4
              go_wp2_with fail
              refine (HF2.out _ hst5.1).mono ?_
              rintro e w3 ⟨rfl, hst6⟩
              have hst7 := hst5.of hst6
              go_wp2_with fail
              refine (fail4N _ hst7.1).mono ?_
              rintro e w4 ⟨rfl, hst8⟩
              go_wp2
              go_ret
              rw [HN.out]
              exact ⟨rfl, _, hst7.of hst8⟩

theorem ref_escaped (p : Nat) (s : ByteArray) (xs : Bs) (w : World) (h : RRd w p s xs 0) : Calls Tryd.prog 81 #[.pointer (some ⟨p, 0, none⟩)] w (EscP w p s (escM xs)) := by
  cases xs with
  | nil => exact escaped_nil p s w h
  | cons c r =>
    by_cases hu : c.toNat = 117
    · rw [escM_u hu]; exact escaped_u p s c r hu w h
    · rw [escM_other hu]
      cases he : escC c with
      | none => exact escaped_other p s c r hu he w h
      | some b =>
        have hb : (c.toNat = 34 ∧ b = 34) ∨ (c.toNat = 92 ∧ b = 92) ∨ (c.toNat = 47 ∧ b = 47) ∨ (c.toNat = 98 ∧ b = 8 ∨ c.toNat = 102 ∧ b = 12 ∨ c.toNat = 110 ∧ b = 10 ∨ c.toNat = 114 ∧ b = 13 ∨ c.toNat = 116 ∧ b = 9) := by
          unfold escC at he
          repeat' split at he
          all_goals first | (cases he; omega) | cases he
        rcases hb with ⟨h1, rfl⟩ | ⟨h1, rfl⟩ | ⟨h1, rfl⟩ | h1
        · have := escaped_one p s c r (.inl h1) w h; rw [h1] at this; exact this
        · have := escaped_one p s c r (.inr (.inl h1)) w h; rw [h1] at this; exact this
        · have := escaped_one p s c r (.inr (.inr h1)) w h; rw [h1] at this; exact this
        · exact escaped_two p s c r b h1 w h
end Go.Proofs.YtjcnjaebmndeiaaDoor

namespace Go.Proofs.YtjcnjaebmndeiaaDoor
open Go.RowKit

/-- What 'text' answers. -/
def TxtPost (w : World) (p : Nat) (s : ByteArray) (o : Option (Bs × Bs)) (e : Ending) (w' : World) : Prop :=
  match o with
  | some (t, r) => e = .returned (.string (str t)) ∧ RStep w p s r 0 w'
  | none => e = .returned (.string ⟨#[]⟩) ∧ ∃ ys, RStep w p s ys 4 w'
/-- What holds in its loop: it goes on; or it has failed. -/
def TRel (w : World) (p : Nat) (s : ByteArray) (R : Option (Bs × Bs)) (g : Nat) (v : Value) (wr : World) : Prop :=
  (∃ (f : Nat) (acc ys : Bs), ys.length = g ∧ ys.length < f ∧ qs f acc ys = R ∧ v = .string (str acc) ∧ acc.length + 4 * ys.length ≤ 120000 ∧ RStep w p s ys 0 wr) ∨
  (R = none ∧ (∃ t, v = .string t) ∧ ∃ ys, RStep w p s ys 4 wr)
theorem Gl.rstep {w w' : World} {p er : Nat} {s : ByteArray} {ys : Bs} (h : Gl w) (hp : 4 ≤ p) (hs : RStep w p s ys er w') : Gl w' := h.kept hs.2 (fun k e => by cases e; exact hp)
theorem str_cat (l : Bs) (t : ByteArray) : str l ++ t = str (l ++ t.data.toList) := by
  apply Go.WideShapes.bytes_inj
  rw [ByteArray.data_append]
  simp [str]
theorem str_size (l : Bs) : (str l).size = l.length := rfl
theorem str_nil : str [] = ⟨#[]⟩ := rfl

set_option maxHeartbeats 400000 in
set_option maxRecDepth 100000 in
/-- Behind a fault it reads no more. -/
theorem text_bad (p : Nat) (s : ByteArray) (xs : Bs) (er : Nat) (he : er ≠ 0) (w : World) (h : RRd w p s xs er) :
    Calls Tryd.prog 63 #[.pointer (some ⟨p, 0, none⟩)] w fun e w' => e = .returned (.string ⟨#[]⟩) ∧ w = w' := by
  obtain ⟨k, c0, c1, c2, f0, f1, f2, hat, hs⟩ := h.parts
  have hk : ((er : Int) == 0) = false := by simp; omega
  clear hat
  go_enter Tryd.func63, Tryd.ntmps63
  go_wp2
  go_loopg [3] 0 (fun g v wr => v = .string ⟨#[]⟩ ∧ w = wr)
  case atStart => exact ⟨rfl, rfl⟩
  case round =>
    obtain ⟨rfl, rfl⟩ := hrel
    go_wp2
    go_ret
    exact ⟨rfl, rfl⟩

set_option maxHeartbeats 2000000 in
set_option maxRecDepth 100000 in
theorem ref_text (p : Nat) (s : ByteArray) (xs : Bs) (w : World) (h : RRd w p s xs 0) (hG : Gl w) (hp4 : 4 ≤ p) :
    Calls Tryd.prog 63 #[.pointer (some ⟨p, 0, none⟩)] w (TxtPost w p s (qstr xs)) := by
  obtain ⟨k, c0, c1, c2, f0, f1, f2, ha, hs⟩ := h.parts
  have hplt := h.lt
  have hrl : xs.length ≤ 30000 := by have := ha.len; omega
  have hrel0 : TRel w p s (qstr xs) xs.length (.string ⟨#[]⟩) w := .inl ⟨xs.length + 1, [], xs, rfl, by omega, rfl, rfl, by simp; omega, RStep.refl h⟩
  generalize qstr xs = R at *
  clear ha
  go_enter Tryd.func63, Tryd.ntmps63
  go_wp2
  go_loopg [3] xs.length (fun g v wr => TRel w p s R g v wr)
  case atStart => exact hrel0
  case round =>
    clear hrel0
    rcases hrel with ⟨f, acc, ys, hg, hf, hR, rfl, hal, hst⟩ | ⟨hR, ⟨t, rfl⟩, ys, hst⟩
    · obtain ⟨k', c0', c1', c2', f0', f1', f2', ha', _⟩ := hst.1.parts
      have HG := Lib.hid hg
      have HR := Lib.hid hR
      clear hg hR
      cases ys with
      | nil =>
        have hk' : decide (s.size ≤ k') = true := by have := ha'.nil; simp; omega
        have hF := fun n => fail4N (wr.drewN n) (hst.1.drewN n)
        have HF := Lib.hid hF
        clear hF ha'
        go_wp2
        go_quiet (fail)
        go_wp2_with fail
        refine (HF.out _).mono ?_
        rintro e w1 ⟨rfl, hst1⟩
        go_wp2
        go_ret
        show TxtPost w p s R _ _
        rw [← HR.out, qs_nil]
        exact ⟨rfl, _, (hst.drewN _).of hst1⟩
      | cons d t =>
        obtain ⟨f', rfl⟩ : ∃ f', f = f' + 1 := ⟨f - 1, by omega⟩
        have hlt' := ha'.lt
        have hget' := ha'.get hlt'
        have hk' : decide (s.size ≤ k') = false := by simp; omega
        by_cases h32 : d.toNat < 32
        · have e32 : (d.toNat : Int) < 32 := by omega
          have hF := fun n => fail4N (wr.drewN n) (hst.1.drewN n)
          have HF := Lib.hid hF
          clear hF ha'
          go_wp2
          go_quiet (fail)
          go_wp2_with fail
          refine (HF.out _).mono ?_
          rintro e w1 ⟨rfl, hst1⟩
          go_wp2
          go_ret
          show TxtPost w p s R _ _
          rw [← HR.out, qs_low h32]
          exact ⟨rfl, _, (hst.drewN _).of hst1⟩
        · have e32 : 32 ≤ (d.toNat : Int) := by omega
          by_cases h34 : d.toNat = 34
          · have e34 : ((d.toNat : Int) == 34) = true := by simp only [beq_iff_eq]; omega
            have hst' := hst.set ha'.tail
            clear ha'
            go_wp2
            go_quiet (fail)
            go_wp2
            go_quiet (fail)
            go_wp2
            go_ret
            show TxtPost w p s R _ _
            rw [← HR.out, qs_quote h34]
            exact ⟨rfl, (hst'.drewN _)⟩
          · have e34 : ((d.toNat : Int) == 34) = false := by simp only [beq_eq_false_iff_ne, ne_eq]; omega
            by_cases h92 : d.toNat = 92
            · have e92 : ((d.toNat : Int) == 92) = true := by simp only [beq_iff_eq]; omega
              have hst' := hst.set ha'.tail
              have hesc : ∀ W, RRd W p s t 0 → _ := fun W hW => ref_escaped p s t W hW
              have HE := Lib.hid hesc
              have hfact : ∀ u r', escM t = some (u, r') → _ := fun u r' => escM_fact
              rw [qs_esc h92] at HR
              have hsz : (str acc).size ≤ 120000 := by rw [str_size]; omega
              clear hesc ha' h34 h92
              cases ho : escM t with
              | none =>
                rw [ho] at HR HE
                have s0 : ¬ (9223372036854775807 < (str acc).size + 0) := by omega
                have s1 : ¬ (9223372036854775807 < (str acc).size) := by omega
                clear hfact ho
                go_wp2
                go_quiet (fail)
                go_wp2
                go_quiet (fail)
                go_wp2_with fail
                generalize hW : (wr.drewN _).setCell _ _ = W1
                have hst2 : RStep w p s t 0 W1 := by rw [← hW]; exact hst'.drewN _
                clear hW
                refine (HE.out _ hst2.1).mono ?_
                rintro e w1 ⟨rfl, ys, hst3⟩
                go_wp2
                go_roundg 0
                case measure => have := HG.out; simp only [List.length_cons] at this; omega
                case rel => exact .inr ⟨HR.out.symm, ⟨_, rfl⟩, ys, hst2.of hst3⟩
              | some ur =>
                obtain ⟨u, r'⟩ := ur
                obtain ⟨hl1, hu0, hu1⟩ := hfact u r' ho
                rw [ho] at HR HE
                have hen := enc_len u
                have s1 : ¬ (9223372036854775807 < (str acc).size + (str (Lib.encodeRune u)).size) := by rw [str_size (Lib.encodeRune u)]; omega
                clear hfact ho
                go_wp2
                go_quiet (fail)
                go_wp2
                go_quiet (fail)
                go_wp2_with fail
                generalize hW : (wr.drewN _).setCell _ _ = W1
                have hst2 : RStep w p s t 0 W1 := by rw [← hW]; exact hst'.drewN _
                clear hW
                refine (HE.out _ hst2.1).mono ?_
                rintro e w1 ⟨rfl, hst3⟩
                go_wp2
                go_roundg r'.length
                case measure => have := HG.out; simp only [List.length_cons] at this; omega
                case rel => exact .inl ⟨f', acc ++ Lib.encodeRune u, r', rfl, by simp only [List.length_cons] at hf; omega, HR.out, by rw [str_cat]; rfl, by simp only [List.length_append, List.length_cons] at hal ⊢; omega, hst2.of hst3⟩
            · have e92 : ((d.toNat : Int) == 92) = false := by simp only [beq_eq_false_iff_ne, ne_eq]; omega
              go_wp2
              go_quiet (fail)
              go_wp2
              go_quiet (fail)
              go_wp2
              generalize hW : wr.drewN _ = w1
              have hst1 : RStep w p s (d :: t) 0 w1 := by rw [← hW]; exact hst.drewN _
              clear hW hst c0' c1' c2' f0' f1' f2' ha' hget' hk' hlt'
              obtain ⟨k1, c0', c1', c2', f0', f1', f2', ha', _⟩ := hst1.1.parts
              have hk1 : k1 ≤ s.size := ha'.le
              have hrest : s.extract k1 s.size = str (d :: t) := ba_ext ha'.rest
              have HRe := Lib.hid hrest
              clear hrest ha'
              obtain ⟨hd1, hd2, hd3⟩ := dec_fact (c := d) (r := t)
              have hdec : ∀ w2, Gl w2 → _ := fun w2 hg => Tryd.utf8_DecodeRuneInString (str (d :: t)) w2 hg.u8
              have hbad := qs_bad (f := f') (acc := acc) (r := t) h34 h92 h32
              have hgo := qs_go (f := f') (acc := acc) (r := t) h34 h92 h32
              change ∀ w2, Gl w2 → Calls Tryd.prog 78 #[.string (str (d :: t))] w2 fun e w' => e = .returned (.tuple #[.int .i32 (Lib.decodeGoB (str (d :: t))).1, .int .i64 (Lib.decodeGoB (str (d :: t))).2]) ∧ Below w2.heap.size w2 w' at hdec
              generalize (Lib.decodeGoB (str (d :: t))).1 = D1 at *
              generalize (Lib.decodeGoB (str (d :: t))).2 = D2 at *
              have hG1 : Gl w1.drew := (hG.rstep hp4 hst1).drewN 1
              have hdecw := hdec _ hG1
              rw [← HRe.out] at hdecw
              have HDec := Lib.hid hdecw
              have HB := Lib.hid hbad
              have HGo := Lib.hid hgo
              clear hdec hbad hgo hdecw
              have hpl : p < w1.heap.size := hst1.1.lt
              go_region_held3 (fun w' => w'.cell? ⟨p, 0, none⟩ = some (.string s) ∧ w'.cell? ⟨p, 1, none⟩ = some (.int .i64 k1)) (first | exact ⟨c0', c1'⟩ | exact ⟨c03, c13⟩) (first
                | (go_at_call 78; refine HDec.out.mono ?_; rintro e w3 ⟨rfl, hb3⟩; have c03 : w3.cell? ⟨p, 0, none⟩ = some (.string s) := (hb3.cell (p := ⟨p, 0, none⟩) hpl).trans c0'; have c13 : w3.cell? ⟨p, 1, none⟩ = some (.int .i64 k1) := (hb3.cell (p := ⟨p, 1, none⟩) hpl).trans c1'))
              have hgr3 : w1.grownBy w3 (some p) := gtrans (gdrewN (grefl w1 _) 1) (new_grown hb3 _)
              have hst3 : RStep w p s (d :: t) 0 w3 := ⟨hst1.1.kept (gtrans (gdrewN (grefl w1 _) 1) (new_grown hb3 none)) (by simp), gtrans hst1.2 hgr3⟩
              clear hgr3 hb3 hst1 HDec hG1 hpl c0' c1' c2' f0' f1' f2' c03 HRe hk1
              obtain ⟨k3, c0', c1', c2', f0', f1', f2', ha', _⟩ := hst3.1.parts
              have hkk : (k1 : Int) = (k3 : Int) := by have := c13.symm.trans c1'; simpa using this
              obtain rfl : k1 = k3 := by omega
              clear hkk c13
              have hk1 : k1 < s.size := ha'.lt
              have hl3 := ha'.len
              by_cases hbd : D1 = 65533 ∧ D2 = 1
              · have b1 : ((D1 : Int) == 65533) = true := by simp only [beq_iff_eq]; omega
                have b2 : (D2 : Int) < 2 := by omega
                have HN := Lib.hid (HB.out hbd)
                have HF := Lib.hid (fail4N w3 hst3.1)
                clear hbd HB HGo ha' hl3
                go_wp2_with fail
                refine HF.out.mono ?_
                rintro e w4 ⟨rfl, hst4⟩
                go_wp2
                go_ret
                show TxtPost w p s R _ _
                rw [← HR.out, HN.out]
                exact ⟨rfl, _, hst3.of hst4⟩
              · have HN := Lib.hid (HGo.out hbd)
                have hb' : ((D1 : Int) == 65533) = false ∨ (((D1 : Int) == 65533) = true ∧ 2 ≤ (D2 : Int)) := by
                  simp only [beq_iff_eq, beq_eq_false_iff_ne, ne_eq]; omega
                clear hbd HB HGo
                have hat3 := ha'.drop D2 hd2
                have hpiece : (s.extract k1 (k1 + D2)).data.toList = (d :: t).take D2 := by
                  rw [ext_list, List.drop_take, ha'.eq, Nat.add_sub_cancel_left]
                have hpsz : (s.extract k1 (k1 + D2)).size = D2 := by rw [size_len, hpiece, List.length_take]; omega
                have hle : k1 + D2 ≤ s.size := hat3.le
                have hst4 := hst3.set hat3
                have hsz : (str acc).size ≤ 120000 := by rw [str_size]; omega
                have s1 : ¬ (9223372036854775807 < (str acc).size + (s.extract k1 (k1 + D2)).size) := by omega
                have HPi := Lib.hid hpiece
                have htl : ((d :: t).take D2).length ≤ D2 := by rw [List.length_take]; omega
                have hdl : ((d :: t).drop D2).length = (d :: t).length - D2 := List.length_drop
                have HTL := Lib.hid htl
                have HDL := Lib.hid hdl
                clear ha' hl3 hpiece hpsz htl hdl hat3
                rcases hb' with b1 | ⟨b1, b2⟩
                all_goals
                  go_wp2
                  have e1 : IntKind.i64.wrap ((k1 : Int) + (D2 : Int)) = (k1 : Int) + (D2 : Int) := IntWalk.i64_in _ (by omega)
                  have e2 : ((k1 : Int) + (D2 : Int)).toNat = k1 + D2 := by omega
                  have e3 : (0 : Int) ≤ (k1 : Int) + (D2 : Int) := by omega
                  have e4 : (k1 : Int) ≤ (k1 : Int) + (D2 : Int) := by omega
                  have e5 : (k1 : Int) + (D2 : Int) ≤ (s.size : Int) := by omega
                  have e6 : k1 ≤ k1 + D2 := by omega
                  go_quiet (fail)
                  clear e1 e2 e3 e4 e5 e6
                  go_wp2
                  go_roundg ((d :: t).drop D2).length
                  case measure => have := HG.out; rw [HDL.out]; simp only [List.length_cons] at this ⊢; omega
                  case rel => exact .inl ⟨f', acc ++ (d :: t).take D2, (d :: t).drop D2, rfl, by rw [HDL.out]; simp only [List.length_cons] at hf ⊢; omega, by rw [← HN.out]; exact HR.out, by rw [str_cat, HPi.out], by rw [HDL.out, List.length_append]; have := HTL.out; simp only [List.length_cons] at hal hd2 ⊢; omega, hst4.drewN _⟩
    · obtain ⟨k', c0', c1', c2', f0', f1', f2', ha', _⟩ := hst.1.parts
      have HR := Lib.hid hR
      clear hR ha'
      go_wp2
      go_ret
      show TxtPost w p s R _ _
      rw [HR.out]
      exact ⟨rfl, _, hst⟩
end Go.Proofs.YtjcnjaebmndeiaaDoor

namespace Go.Proofs.YtjcnjaebmndeiaaDoor
open Go.RowKit

/-- What 'number' answers. -/
def NumPost (w : World) (p : Nat) (s : ByteArray) (er : Nat) (o : Option (Bs × Bs)) (e : Ending) (w' : World) : Prop :=
  match o with
  | some (t, r) => e = .returned (.string (str t)) ∧ RStep w p s r er w'
  | none => e = .returned (.string ⟨#[]⟩) ∧ ∃ ys, RStep w p s ys (if er = 0 then 4 else er) w'
theorem isRest_minus (xs : Bs) : isRest ⟨#[45]⟩ xs = xs.drop (neg xs) := by
  cases xs with
  | nil => rfl
  | cons c r =>
    by_cases h : c = 45
    · subst h; rfl
    · have h1 : ([45] : Bs).isPrefixOf (c :: r) = false := by simp [List.isPrefixOf, Ne.symm h]
      have h2 : neg (c :: r) = 0 := by simp [neg, h]
      rw [isRest, h2, if_neg (by show ¬ ([45] : Bs).isPrefixOf (c :: r) = true; rw [h1]; simp)]
      rfl
theorem At.uniq {s : ByteArray} {k j : Nat} {xs : Bs} (h : At s k xs) (g : At s j xs) : k = j := by
  have := h.len; have := g.len; have := h.le; have := g.le; omega
def NLRel (w : World) (p : Nat) (s : ByteArray) (er : Nat) (zs : Bs) (g : Nat) (wr : World) : Prop :=
  ∃ (j : Nat), j ≤ zs.length ∧ (zs.drop j).length = g ∧ digs zs = j + digs (zs.drop j) ∧ RStep w p s (zs.drop j) er wr

theorem numM_none {xs : Bs} (h : digs (xs.drop (neg xs)) < 1 ∨ 19 < digs (xs.drop (neg xs)) ∨ (1 < digs (xs.drop (neg xs)) ∧ (xs.drop (neg xs)).head? = some 48)) : numM xs = none := by rw [numM, if_pos h]
theorem numM_some {xs : Bs} (h : ¬ (digs (xs.drop (neg xs)) < 1 ∨ 19 < digs (xs.drop (neg xs)) ∨ (1 < digs (xs.drop (neg xs)) ∧ (xs.drop (neg xs)).head? = some 48))) :
    numM xs = some (numT (xs.take (neg xs + digs (xs.drop (neg xs)))), xs.drop (neg xs + digs (xs.drop (neg xs)))) := by rw [numM, if_neg h]; rfl
theorem digs_drop {zs : Bs} {j : Nat} (hj : j ≤ zs.length) (hd : digs zs = j + digs (zs.drop j)) {c : UInt8} {r : Bs} (h : zs.drop j = c :: r) : zs.drop (j + 1) = r ∧ j + 1 ≤ zs.length := by
  constructor
  · rw [← List.drop_drop, h]; rfl
  · have := congrArg List.length h; rw [List.length_drop] at this; simp only [List.length_cons] at this; omega

set_option maxHeartbeats 2000000 in
set_option maxRecDepth 100000 in
theorem ref_number (p : Nat) (s : ByteArray) (xs : Bs) (er : Nat) (w : World) (h : RRd w p s xs er) :
    Calls Tryd.prog 65 #[.pointer (some ⟨p, 0, none⟩)] w (NumPost w p s er (numM xs)) := by
  obtain ⟨k, c0, c1, c2, f0, f1, f2, ha, hs⟩ := h.parts
  have hplt := h.lt
  have hk := ha.le
  have hlen := ha.len
  have his := ref_is p s xs er ⟨#[45]⟩ (by decide) w h
  rw [isRest_minus] at his
  have hn1 := (neg_le xs).1
  have hn2 := (neg_le xs).2
  have hatd := ha.drop (neg xs) hn2
  have hnone := numM_none (xs := xs)
  have hsome := numM_some (xs := xs)
  have htd : xs.drop (neg xs + digs (xs.drop (neg xs))) = (xs.drop (neg xs)).drop (digs (xs.drop (neg xs))) := by rw [List.drop_drop]
  rw [htd] at hsome
  clear htd
  generalize numM xs = M at *
  generalize neg xs = ng at *
  generalize hzs : xs.drop ng = zs at *
  have HNone := Lib.hid hnone
  have HSome := Lib.hid hsome
  have HZ := Lib.hid hzs
  have HAt := Lib.hid ha
  clear hnone hsome hzs ha
  have hle2 := hatd.le
  have hlen2 := hatd.len
  have HAtd := Lib.hid hatd
  clear hatd hlen hlen2
  go_enter Tryd.func65, Tryd.ntmps65
  go_wp2_with fail
  refine his.mono ?_
  rintro e w1 ⟨rfl, hst1⟩
  clear his
  obtain ⟨kd, c01, c11, c21, f01, f11, f21, ha1, _⟩ := hst1.1.parts
  have HKd := Lib.hid (ha1.uniq HAtd.out)
  clear ha1 c0 c1 c2 f0 f1 f2
  go_wp2
  go_loopg [] zs.length (fun g wr => NLRel w p s er zs g wr)
  case atStart => exact ⟨0, by omega, rfl, by simp, hst1⟩
  case round =>
    obtain ⟨j, hj, hg, hd, hst⟩ := hrel
    clear hst1 c01 c11 c21 f01 f11 f21
    obtain ⟨k1, c01, c11, c21, f01, f11, f21, ha1, _⟩ := hst.1.parts
    have HK := Lib.hid (ha1.uniq (HAtd.out.drop j hj))
    have HG := Lib.hid hg
    have HD := Lib.hid hd
    clear hg hd
    by_cases hdig : ∃ c r, zs.drop j = c :: r ∧ 48 ≤ c.toNat ∧ c.toNat ≤ 57
    · obtain ⟨c, r, hcr, hc1, hc2⟩ := hdig
      obtain ⟨hdr, hj1⟩ := digs_drop hj HD.out hcr
      rw [hcr] at ha1
      have hlt := ha1.lt
      have hget := ha1.get hlt
      have hst' := hst.set ha1.tail
      have hk' : decide (k1 < s.size) = true := by simp; omega
      have hdd : digs zs = (j + 1) + digs (zs.drop (j + 1)) := by rw [HD.out, hcr, hdr, digs_yes (isDig_yes ⟨hc1, hc2⟩)]; omega
      have HDD := Lib.hid hdd
      have HC := Lib.hid hcr
      have HR := Lib.hid hdr
      have hi1 : (48 : Int) ≤ (c.toNat : Int) := by omega
      have hi2 : (c.toNat : Int) ≤ 57 := by omega
      clear hdd hcr hdr ha1 hc1 hc2
      go_wp2
      go_quiet (fail)
      go_wp2
      go_roundg (zs.drop (j + 1)).length
      case measure => have := HG.out; rw [HC.out] at this; rw [HR.out]; simp only [List.length_cons] at this; omega
      case rel => exact ⟨j + 1, hj1, rfl, HDD.out, by rw [HR.out]; exact hst'.drewN _⟩
    · have hdz : digs (zs.drop j) = 0 := by
        cases hz : zs.drop j with
        | nil => rfl
        | cons c r => exact digs_no (isDig_no (fun hh => hdig ⟨c, r, hz, hh⟩))
      have HJ := Lib.hid (show digs zs = j by have := HD.out; omega)
      have hle1 := ha1.le
      have hkk : kd ≤ k1 := by rw [HK.out, HKd.out]; omega
      have hk1e : (k1 : Int) - (kd : Int) = (j : Int) := by rw [HK.out, HKd.out]; omega
      have hkl : k ≤ k1 := by rw [HK.out]; omega
      have hpiece : s.extract k k1 = str (xs.take (ng + j)) := ba_ext (by rw [ext_list, HK.out, Nat.add_assoc, List.drop_take, HAt.out.eq, Nat.add_sub_cancel_left]; rfl)
      have hex : (decide (k1 < s.size) = false) ∨ (∃ c : UInt8, ∃ h : k1 < s.size, decide (k1 < s.size) = true ∧ s[k1] = c ∧ decide ((48 : Int) ≤ (c.toNat : Int)) = false) ∨
          (∃ c : UInt8, ∃ h : k1 < s.size, decide (k1 < s.size) = true ∧ s[k1] = c ∧ decide ((48 : Int) ≤ (c.toNat : Int)) = true ∧ decide ((c.toNat : Int) ≤ 57) = false) := by
        cases hz : zs.drop j with
        | nil => rw [hz] at ha1; left; have := ha1.nil; simp; omega
        | cons c r =>
          rw [hz] at ha1
          have hlt := ha1.lt
          have hget := ha1.get hlt
          have hnd : ¬ (48 ≤ c.toNat ∧ c.toNat ≤ 57) := fun hh => hdig ⟨c, r, hz, hh⟩
          by_cases h48 : c.toNat < 48
          · exact .inr (.inl ⟨c, hlt, by simpa using hlt, hget, by simp; omega⟩)
          · exact .inr (.inr ⟨c, hlt, by simpa using hlt, hget, by simp; omega, by simp; omega⟩)
      have hjs : (decide ((j : Int) < 1) = true ∧ M = none) ∨ (decide ((j : Int) < 1) = false ∧ decide (19 < (j : Int)) = true ∧ M = none) ∨
          (decide ((j : Int) < 1) = false ∧ decide (19 < (j : Int)) = false ∧ decide (1 < (j : Int)) = true ∧ (∃ c : UInt8, ∃ h : kd < s.size, s[kd] = c ∧ ((c.toNat : Int) == 48) = true) ∧ M = none) ∨
          (decide ((j : Int) < 1) = false ∧ decide (19 < (j : Int)) = false ∧ decide (1 < (j : Int)) = true ∧ (∃ c : UInt8, ∃ h : kd < s.size, s[kd] = c ∧ ((c.toNat : Int) == 48) = false) ∧ M = some (numT (xs.take (ng + j)), zs.drop j)) ∨
          (decide ((j : Int) < 1) = false ∧ decide (19 < (j : Int)) = false ∧ decide (1 < (j : Int)) = false ∧ M = some (numT (xs.take (ng + j)), zs.drop j)) := by
        have hN := HNone.out
        have hS := HSome.out
        rw [HJ.out] at hN hS
        by_cases h1 : j < 1
        · exact .inl ⟨by simp; omega, hN (.inl h1)⟩
        · by_cases h19 : 19 < j
          · exact .inr (.inl ⟨by simp; omega, by simp; omega, hN (.inr (.inl h19))⟩)
          · have d1 : decide ((j : Int) < 1) = false := by simp; omega
            have d2 : decide (19 < (j : Int)) = false := by simp; omega
            by_cases hj1 : 1 < j
            · have d3 : decide (1 < (j : Int)) = true := by simp; omega
              have hat := HAtd.out
              cases hz : zs with
              | nil => have := HJ.out; rw [hz, digs_nil] at this; omega
              | cons c r =>
                rw [hz] at hat
                have hlt := hat.lt
                have hget := hat.get hlt
                have hkd := HKd.out
                subst hkd
                rw [hz] at hN hS
                by_cases h48 : c.toNat = 48
                · exact .inr (.inr (.inl ⟨d1, d2, d3, ⟨c, hlt, hget, by simp only [beq_iff_eq]; omega⟩, hN (.inr (.inr ⟨hj1, by simp [of48 h48]⟩))⟩))
                · exact .inr (.inr (.inr (.inl ⟨d1, d2, d3, ⟨c, hlt, hget, by simp only [beq_eq_false_iff_ne, ne_eq]; omega⟩, hS (by
                    rintro (h | h | ⟨_, h⟩)
                    · omega
                    · omega
                    · simp only [List.head?_cons, Option.some.injEq] at h; exact h48 (toNat48 h))⟩)))
            · exact .inr (.inr (.inr (.inr ⟨d1, d2, by simp; omega, hS (by omega)⟩)))
      have HPi := Lib.hid hpiece
      have hfl : ∀ W, RRd W p s (zs.drop j) er → Calls Tryd.prog 39 #[.pointer (some ⟨p, 0, none⟩), .int .i64 4] W fun e w' => e = .returned (.tuple #[]) ∧ RStep W p s (zs.drop j) (if er = 0 then 4 else er) w' := fun W hW => ref_fail p s (zs.drop j) er 4 W hW
      have HFl := Lib.hid hfl
      clear hdig hdz HD HG ha1 hpiece hfl HNone HSome HZ HAt HAtd HK HKd HJ hle2 hn1 hn2
      generalize xs.take (ng + j) = X at *
      rcases hjs with ⟨d1, hM⟩ | ⟨d1, d2, hM⟩ | ⟨d1, d2, d3, ⟨c', hlt', hget', d4⟩, hM⟩ | ⟨d1, d2, d3, ⟨c', hlt', hget', d4⟩, hM⟩ | ⟨d1, d2, d3, hM⟩
      · have HM := Lib.hid hM
        clear hM
        rcases hex with hx | ⟨c, hlt, hx, hget, hc⟩ | ⟨c, hlt, hx, hget, hc, hc'⟩
        all_goals
          go_wp2
          go_quiet (fail)
          go_wp2_with fail
          generalize hW : wr.drewN _ = W1
          have hst2 : RStep w p s (zs.drop j) er W1 := by rw [← hW]; exact hst.drewN _
          clear hW
          refine (HFl.out _ hst2.1).mono ?_
          rintro e w3 ⟨rfl, hst3⟩
          go_wp2
          go_ret
          show NumPost w p s er M _ _
          rw [HM.out]
          exact ⟨rfl, _, hst2.of hst3⟩
      · have HM := Lib.hid hM
        clear hM
        rcases hex with hx | ⟨c, hlt, hx, hget, hc⟩ | ⟨c, hlt, hx, hget, hc, hc'⟩
        all_goals
          go_wp2
          go_quiet (fail)
          go_wp2_with fail
          generalize hW : wr.drewN _ = W1
          have hst2 : RStep w p s (zs.drop j) er W1 := by rw [← hW]; exact hst.drewN _
          clear hW
          refine (HFl.out _ hst2.1).mono ?_
          rintro e w3 ⟨rfl, hst3⟩
          go_wp2
          go_ret
          show NumPost w p s er M _ _
          rw [HM.out]
          exact ⟨rfl, _, hst2.of hst3⟩
      · have HM := Lib.hid hM
        clear hM
        rcases hex with hx | ⟨c, hlt, hx, hget, hc⟩ | ⟨c, hlt, hx, hget, hc, hc'⟩
        all_goals
          go_wp2
          go_quiet (fail)
          go_wp2_with fail
          generalize hW : wr.drewN _ = W1
          have hst2 : RStep w p s (zs.drop j) er W1 := by rw [← hW]; exact hst.drewN _
          clear hW
          refine (HFl.out _ hst2.1).mono ?_
          rintro e w3 ⟨rfl, hst3⟩
          go_wp2
          go_ret
          show NumPost w p s er M _ _
          rw [HM.out]
          exact ⟨rfl, _, hst2.of hst3⟩
      · have HM := Lib.hid hM
        clear hM HFl
        by_cases h0 : X = [45, 48]
        · have hb : ((s.extract k k1).toList == [45, 48]) = true := by rw [HPi.out, Lib.toList_data, h0]; rfl
          have HT := Lib.hid (show numT X = [48] by rw [numT, if_pos h0])
          clear h0
          rcases hex with hx | ⟨c, hlt, hx, hget, hc⟩ | ⟨c, hlt, hx, hget, hc, hc'⟩
          all_goals
            go_wp2
            go_quiet (fail)
            go_wp2
            go_quiet (fail)
            go_wp2
            go_ret
            show NumPost w p s er M _ _
            rw [HM.out, HT.out]
            exact ⟨rfl, (hst.drewN _).drewN _⟩
        · have hb : ((s.extract k k1).toList == [45, 48]) = false := by
            rw [HPi.out, Lib.toList_data, beq_eq_false_iff_ne]
            exact h0
          have HT := Lib.hid (show numT X = X by rw [numT, if_neg h0])
          clear h0
          rcases hex with hx | ⟨c, hlt, hx, hget, hc⟩ | ⟨c, hlt, hx, hget, hc, hc'⟩
          all_goals
            go_wp2
            go_quiet (fail)
            go_wp2
            go_quiet (fail)
            go_wp2
            go_quiet (fail)
            go_wp2
            go_ret
            show NumPost w p s er M _ _
            rw [HM.out, HT.out]
            exact ⟨congrArg (fun x => Ending.returned (.string x)) HPi.out, ((hst.drewN _).drewN _).drewN _⟩
      · have HM := Lib.hid hM
        clear hM HFl
        by_cases h0 : X = [45, 48]
        · have hb : ((s.extract k k1).toList == [45, 48]) = true := by rw [HPi.out, Lib.toList_data, h0]; rfl
          have HT := Lib.hid (show numT X = [48] by rw [numT, if_pos h0])
          clear h0
          rcases hex with hx | ⟨c, hlt, hx, hget, hc⟩ | ⟨c, hlt, hx, hget, hc, hc'⟩
          all_goals
            go_wp2
            go_quiet (fail)
            go_wp2
            go_quiet (fail)
            go_wp2
            go_ret
            show NumPost w p s er M _ _
            rw [HM.out, HT.out]
            exact ⟨rfl, (hst.drewN _).drewN _⟩
        · have hb : ((s.extract k k1).toList == [45, 48]) = false := by
            rw [HPi.out, Lib.toList_data, beq_eq_false_iff_ne]
            exact h0
          have HT := Lib.hid (show numT X = X by rw [numT, if_neg h0])
          clear h0
          rcases hex with hx | ⟨c, hlt, hx, hget, hc⟩ | ⟨c, hlt, hx, hget, hc, hc'⟩
          all_goals
            go_wp2
            go_quiet (fail)
            go_wp2
            go_quiet (fail)
            go_wp2
            go_quiet (fail)
            go_wp2
            go_ret
            show NumPost w p s er M _ _
            rw [HM.out, HT.out]
            exact ⟨congrArg (fun x => Ending.returned (.string x)) HPi.out, ((hst.drewN _).drewN _).drewN _⟩
end Go.Proofs.YtjcnjaebmndeiaaDoor

namespace Go.Proofs.YtjcnjaebmndeiaaDoor
open Go.RowKit

/-- A slice of texts in memory. -/
def SlS (w : World) (A : Option Addr) (ks : List ByteArray) : Prop :=
  0 < ks.length → ∃ g off, A = some ⟨g, off, none⟩ ∧ ∀ i s, ks[i]? = some s → w.cell? ⟨g, off + i, none⟩ = some (.string s)
theorem any_none {x : ByteArray} : ([] : List ByteArray).any (fun k => decide (k = x)) = false := rfl
theorem any_take {ks : List ByteArray} {x : ByteArray} {i : Nat} {s : ByteArray} (hs : ks[i]? = some s) (h : (ks.take i).any (fun k => decide (k = x)) = false) (hne : s ≠ x) : (ks.take (i + 1)).any (fun k => decide (k = x)) = false := by
  rw [List.take_add_one, hs, List.any_append, h]
  simp [hne]
theorem any_hit {ks : List ByteArray} {x : ByteArray} {i : Nat} (hs : ks[i]? = some x) : ks.any (fun k => decide (k = x)) = true := by
  rw [List.any_eq_true]
  exact ⟨x, List.mem_of_getElem? hs, by simp⟩
theorem ba_beq (a b : ByteArray) : (a.toList == b.toList) = decide (a = b) := by
  rw [Bool.eq_iff_iff, beq_iff_eq, decide_eq_true_iff]
  constructor
  · intro h; exact ba_ext (by rw [← Lib.toList_data, ← Lib.toList_data]; exact h)
  · intro h; rw [h]

def inB (ks : List ByteArray) (x : ByteArray) : Bool := ks.any (fun k => decide (k = x))
set_option maxHeartbeats 400000 in
theorem in_any (A : Option Addr) (ks : List ByteArray) (cap : Nat) (x : ByteArray) (w : World) (hb : ks.length ≤ 1000000) (h : SlS w A ks) :
    Calls Tryd.prog 32 #[.slice A ks.length cap, .string x] w fun e w' => e = .returned (.bool (inB ks x)) ∧ w' = w := by
  by_cases h0 : ks = []
  · subst h0
    go_enter Tryd.func32, Tryd.ntmps32
    go_wp2
    go_loopg [5] 0 (fun g i wr => i = .int .i64 0 ∧ w = wr)
    case atStart => exact ⟨rfl, rfl⟩
    case round =>
      obtain ⟨rfl, rfl⟩ := hrel
      go_wp2
      go_ret
      exact ⟨rfl, rfl⟩
  · have hpos : 0 < ks.length := List.length_pos_iff.2 h0
    obtain ⟨g, off, rfl, hc⟩ := h hpos
    have HC := Lib.hid hc
    clear hc h0
    go_enter Tryd.func32, Tryd.ntmps32
    go_wp2
    go_loopg [5] ks.length (fun g i wr => ∃ k : Nat, k + g = ks.length ∧ i = .int .i64 k ∧ Hid ((ks.take k).any (fun y => decide (y = x)) = false) ∧ w = wr)
    case atStart => exact ⟨0, by omega, rfl, rfl, rfl⟩
    case round =>
      obtain ⟨k, hk, rfl, HA, rfl⟩ := hrel
      by_cases hlt : k < ks.length
      · obtain ⟨s, hs⟩ : ∃ s, ks[k]? = some s := ⟨_, List.getElem?_eq_getElem hlt⟩
        have hcell := HC.out k s hs
        have HS := Lib.hid hs
        clear hs
        by_cases he : s = x
        · subst he
          have HH := Lib.hid (show inB ks s = true from any_hit HS.out)
          go_wp2
          go_ret
          exact ⟨by rw [HH.out]; rfl, rfl⟩
        · have hb : (s.toList == x.toList) = false := by rw [ba_beq, decide_eq_false he]
          have HN := Lib.hid he
          clear he
          go_wp2
          go_roundg (ks.length - (k + 1))
          case measure => omega
          case rel => exact ⟨k + 1, by omega, by go_num, any_take HS.out HA.out HN.out, rfl⟩
      · have hke : Hid (k = ks.length) := show k = ks.length by omega
        go_wp2
        go_ret
        have hx : inB ks x = false := by
          have := HA.out
          rw [hke.out, List.take_length] at this
          exact this
        exact ⟨by rw [hx]; rfl, rfl⟩
end Go.Proofs.YtjcnjaebmndeiaaDoor

namespace Go.Proofs.YtjcnjaebmndeiaaDoor
open Go.RowKit

set_option maxHeartbeats 400000 in
theorem eq_strs (x : ByteArray) (w : World) : Calls Tryd.prog 55 #[.string x, .string x] w fun e w' => e = .returned (.bool true) ∧ w' = w := by
  go_enter Tryd.func55, Tryd.ntmps55
  go_wp2
  go_ret
  exact ⟨rfl, rfl⟩
set_option maxHeartbeats 400000 in
theorem same_strs (A A' : Option Addr) (ks : List ByteArray) (cap cap' : Nat) (w : World) (hb : ks.length ≤ 1000000) (h : SlS w A ks) (h' : SlS w A' ks) :
    Calls Tryd.prog 54 #[.slice A ks.length cap, .slice A' ks.length cap', .func (.func 55) #[] #[]] w fun e w' => e = .returned (.bool true) ∧ ∃ n, w' = w.drewN n := by
  by_cases h0 : ks = []
  · subst h0
    go_enter Tryd.func54, Tryd.ntmps54
    go_wp2
    go_loopg [7] 0 (fun g i wr => i = .int .i64 0 ∧ w = wr)
    case atStart => exact ⟨rfl, rfl⟩
    case round =>
      obtain ⟨rfl, rfl⟩ := hrel
      go_wp2
      go_ret
      exact ⟨rfl, 0, rfl⟩
  · have hpos : 0 < ks.length := List.length_pos_iff.2 h0
    obtain ⟨g, off, rfl, hc⟩ := h hpos
    obtain ⟨g', off', rfl, hc'⟩ := h' hpos
    have HC := Lib.hid hc
    have HC' := Lib.hid hc'
    clear hc hc' h0
    go_enter Tryd.func54, Tryd.ntmps54
    go_wp2
    go_loopg [7] ks.length (fun g i wr => ∃ k n : Nat, k + g = ks.length ∧ i = .int .i64 k ∧ w.drewN n = wr)
    case atStart => exact ⟨0, 0, by omega, rfl, rfl⟩
    case round =>
      obtain ⟨k, n, hk, rfl, hW⟩ := hrel
      have HW := Lib.hid hW
      by_cases hlt : k < ks.length
      · obtain ⟨s, hs⟩ : ∃ s, ks[k]? = some s := ⟨_, List.getElem?_eq_getElem hlt⟩
        have hcell : wr.cell? ⟨g, off + k, none⟩ = some (.string s) := by rw [← hW]; exact HC.out k s hs
        have hcell' : wr.cell? ⟨g', off' + k, none⟩ = some (.string s) := by rw [← hW]; exact HC'.out k s hs
        have hki : (k : Int) < (ks.length : Int) := by omega
        have heq := fun n : Nat => eq_strs s (wr.drewN n)
        have HE := Lib.hid heq
        clear hs hW heq
        go_wp2
        go_quiet ((go_at_call 55; exact quiet_same (fun n => HE.out n) _))
        go_wp2
        go_roundg (ks.length - (k + 1))
        case measure => omega
        case rel => exact ⟨k + 1, n + nq, by omega, by go_num, by rw [← HW.out]; simp⟩
      · clear hW
        go_wp2
        go_ret
        exact ⟨rfl, n, HW.out.symm⟩
set_option maxHeartbeats 400000 in
theorem plain_strs (A A' : Option Addr) (ks : List ByteArray) (cap cap' : Nat) (w : World) (hb : ks.length ≤ 1000000) (h : SlS w A ks) (h' : SlS w A' ks) :
    Calls Tryd.prog 34 #[.slice A ks.length cap, .slice A' ks.length cap'] w fun e w' => e = .returned (.bool true) ∧ ∃ n, w' = w.drewN n := by
  have hs := same_strs A A' ks cap cap' w hb h h'
  go_enter Tryd.func34, Tryd.ntmps34
  go_wp2_with fail
  refine hs.mono ?_
  rintro e w' ⟨rfl, n, rfl⟩
  go_wp2
  go_ret
  exact ⟨rfl, n, rfl⟩
end Go.Proofs.YtjcnjaebmndeiaaDoor

namespace Go.Proofs.YtjcnjaebmndeiaaDoor
open Go.RowKit

/-- Two values in memory that are t are told alike. -/
def SameC (t : J) : Prop := ∀ (w : World) (ok ok' : Nat → Prop) (v0 v1 v2 v3 u0 u1 u2 u3 : Value), JIn w ok t v0 v1 v2 v3 → JIn w ok' t u0 u1 u2 u3 →
  Calls Tryd.prog 14 #[.agg #[v0, v1, v2, v3], .agg #[u0, u1, u2, u3]] w fun e w' => e = .returned (.bool true) ∧ Below w.heap.size w w'
theorem below_fr0 {w w' : World} (h : Below w.heap.size w w') : Fr w w' (fun _ => True) := ⟨h.os, h.tape, h.output, h.size, fun k hk _ => h.block k hk⟩

set_option maxHeartbeats 1000000 in
set_option maxRecDepth 100000 in
theorem same_list (l : List J) (hl : l.length ≤ 1000000) (hs : ∀ t, t ∈ l → SameC t) (A A' : Option Addr) (cap cap' : Nat) (c c' : Nat → Nat → Value) (ok ok' : Nat → Prop) (w : World)
    (hL : 0 < l.length → ∃ g off, A = some ⟨g, off, none⟩ ∧ ok g ∧ ∀ i j, i < l.length → j < 4 → w.cell? ⟨g, off + (4 * i + j), none⟩ = some (c i j))
    (hE : ∀ i t', l[i]? = some t' → JIn w ok t' (c i 0) (c i 1) (c i 2) (c i 3))
    (hL' : 0 < l.length → ∃ g off, A' = some ⟨g, off, none⟩ ∧ ok' g ∧ ∀ i j, i < l.length → j < 4 → w.cell? ⟨g, off + (4 * i + j), none⟩ = some (c' i j))
    (hE' : ∀ i t', l[i]? = some t' → JIn w ok' t' (c' i 0) (c' i 1) (c' i 2) (c' i 3)) :
    Calls Tryd.prog 26 #[.slice A l.length cap, .slice A' l.length cap', .func (.func 14) #[] #[]] w fun e w' => e = .returned (.bool true) ∧ Below w.heap.size w w' := by
  by_cases h0 : l = []
  · subst h0
    go_enter Tryd.func26, Tryd.ntmps26
    go_wp2
    go_loopg [7] 0 (fun g i wr => i = .int .i64 0 ∧ w = wr)
    case atStart => exact ⟨rfl, rfl⟩
    case round =>
      obtain ⟨rfl, rfl⟩ := hrel
      go_wp2
      go_ret
      exact ⟨rfl, Below.refl _ _⟩
  · have hpos : 0 < l.length := List.length_pos_iff.2 h0
    obtain ⟨g, off, rfl, _, hc⟩ := hL hpos
    obtain ⟨g', off', rfl, _, hc'⟩ := hL' hpos
    have HC := Lib.hid hc
    have HC' := Lib.hid hc'
    have HE := Lib.hid hE
    have HE' := Lib.hid hE'
    have HS := Lib.hid hs
    clear hc hc' h0 hE hE' hs hL hL'
    go_enter Tryd.func26, Tryd.ntmps26
    go_wp2
    go_loopg [7] l.length (fun g i wr => ∃ k : Nat, k + g = l.length ∧ i = .int .i64 k ∧ Below w.heap.size w wr)
    case atStart => exact ⟨0, by omega, rfl, Below.refl _ _⟩
    case round =>
      obtain ⟨k, hk, rfl, hb⟩ := hrel
      by_cases hlt : k < l.length
      · obtain ⟨t, ht⟩ : ∃ t, l[k]? = some t := ⟨_, List.getElem?_eq_getElem hlt⟩
        have hki : (k : Int) < (l.length : Int) := by omega
        have hf := below_fr0 hb
        have hj := (HE.out k t ht).fr hf (fun _ _ => trivial)
        have hj' := (HE'.out k t ht).fr hf (fun _ _ => trivial)
        have x0 : wr.cell? ⟨g, off + k * 4, none⟩ = some (c k 0) := by have := hf.cell (HC.out k 0 hlt (by omega)) trivial; rwa [show off + (4 * k + 0) = off + k * 4 by omega] at this
        have x1 : wr.cell? ⟨g, off + k * 4 + 1, none⟩ = some (c k 1) := by have := hf.cell (HC.out k 1 hlt (by omega)) trivial; rwa [show off + (4 * k + 1) = off + k * 4 + 1 by omega] at this
        have x2 : wr.cell? ⟨g, off + k * 4 + 2, none⟩ = some (c k 2) := by have := hf.cell (HC.out k 2 hlt (by omega)) trivial; rwa [show off + (4 * k + 2) = off + k * 4 + 2 by omega] at this
        have x3 : wr.cell? ⟨g, off + k * 4 + 3, none⟩ = some (c k 3) := by have := hf.cell (HC.out k 3 hlt (by omega)) trivial; rwa [show off + (4 * k + 3) = off + k * 4 + 3 by omega] at this
        have z0 : wr.cell? ⟨g', off' + k * 4, none⟩ = some (c' k 0) := by have := hf.cell (HC'.out k 0 hlt (by omega)) trivial; rwa [show off' + (4 * k + 0) = off' + k * 4 by omega] at this
        have z1 : wr.cell? ⟨g', off' + k * 4 + 1, none⟩ = some (c' k 1) := by have := hf.cell (HC'.out k 1 hlt (by omega)) trivial; rwa [show off' + (4 * k + 1) = off' + k * 4 + 1 by omega] at this
        have z2 : wr.cell? ⟨g', off' + k * 4 + 2, none⟩ = some (c' k 2) := by have := hf.cell (HC'.out k 2 hlt (by omega)) trivial; rwa [show off' + (4 * k + 2) = off' + k * 4 + 2 by omega] at this
        have z3 : wr.cell? ⟨g', off' + k * 4 + 3, none⟩ = some (c' k 3) := by have := hf.cell (HC'.out k 3 hlt (by omega)) trivial; rwa [show off' + (4 * k + 3) = off' + k * 4 + 3 by omega] at this
        have hcall := fun n : Nat => HS.out t (List.mem_of_getElem? ht) (wr.drewN n) _ _ _ _ _ _ _ _ _ _ (hj.fr ((Fr.refl wr (fun _ => True)).drewN n) (fun _ _ => trivial)) (hj'.fr ((Fr.refl wr (fun _ => True)).drewN n) (fun _ _ => trivial))
        have HCa := Lib.hid hcall
        clear ht hj hj' hcall hf
        generalize c k 0 = a0 at *
        generalize c k 1 = a1 at *
        generalize c k 2 = a2 at *
        generalize c k 3 = a3 at *
        generalize c' k 0 = b0 at *
        generalize c' k 1 = b1 at *
        generalize c' k 2 = b2 at *
        generalize c' k 3 = b3 at *
        go_wp2
        go_still_tail 9, (by kernel_rfl)
        go_wp2_with fail
        refine (HCa.out 1).mono ?_
        rintro e w3 ⟨rfl, hb3⟩
        have hb4 : Below w.heap.size w w3 := hb.trans (Below.mono (⟨hb3.os, hb3.tape, hb3.output, hb3.size, hb3.block⟩ : Below wr.heap.size wr w3) hb.size)
        clear x0 x1 x2 x3 z0 z1 z2 z3 HCa hb3
        go_wp2
        go_roundg (l.length - (k + 1))
        case measure => omega
        case rel => exact ⟨k + 1, by omega, by go_num, hb4⟩
      · go_wp2
        go_ret
        exact ⟨rfl, hb⟩

theorem JIn.small {w : World} {ok : Nat → Prop} {k : Nat} {t : ByteArray} {l : List J} {ks : List ByteArray} {v0 v1 v2 v3 : Value} (h : JIn w ok (.mk k t l ks) v0 v1 v2 v3) : l.length ≤ maxLen ∧ ks.length ≤ maxLen := by
  cases h with
  | mk _ _ _ _ A A' cap cap' c hcap hcap' => exact ⟨by omega, by omega⟩
mutual
def fits : J → Prop
  | .mk _ _ l ks => l.length ≤ 1000000 ∧ ks.length ≤ 1000000 ∧ fitsL l
def fitsL : List J → Prop
  | [] => True
  | x :: r => fits x ∧ fitsL r
end
theorem fitsL_mem : ∀ {l : List J}, fitsL l → ∀ x, x ∈ l → fits x
  | [], _, x, hx => by cases hx
  | y :: r, h, x, hx => by
    rw [fitsL] at h
    rcases List.mem_cons.1 hx with rfl | hx
    · exact h.1
    · exact fitsL_mem h.2 x hx

set_option maxHeartbeats 1000000 in
set_option maxRecDepth 100000 in
theorem same_step (k : Nat) (t : ByteArray) (l : List J) (ks : List ByteArray) (hl : l.length ≤ 1000000) (hk : ks.length ≤ 1000000) (hs : ∀ x, x ∈ l → SameC x) : SameC (.mk k t l ks) := by
  intro w ok ok' v0 v1 v2 v3 u0 u1 u2 u3 h h'
  cases h with
  | mk _ _ _ _ A A' cap cap' c hcap hcap' hL hK hE =>
    cases h' with
    | mk _ _ _ _ D D' dap dap' d hdap hdap' hL' hK' hE' =>
      have hb : Below w.heap.size w ((w.alloc (.cells #[.int .i64 k, .string t, .slice A l.length cap, .slice A' ks.length cap'] 26)).alloc (.cells #[.int .i64 k, .string t, .slice D l.length dap, .slice D' ks.length dap'] 26)) := ((Below.refl _ _).alloc (Nat.le_refl _) _).alloc (by simp) _
      have hf := below_fr0 hb
      have hsl := same_list l hl hs A D cap dap c d ok ok' ((w.alloc (.cells #[.int .i64 k, .string t, .slice A l.length cap, .slice A' ks.length cap'] 26)).alloc (.cells #[.int .i64 k, .string t, .slice D l.length dap, .slice D' ks.length dap'] 26))
        (fun hp => by obtain ⟨g, off, e, ho, hc⟩ := hL hp; exact ⟨g, off, e, ho, fun i j hi hj => hf.cell (hc i j hi hj) trivial⟩) (fun i x hx => (hE i x hx).fr hf (fun _ _ => trivial))
        (fun hp => by obtain ⟨g, off, e, ho, hc⟩ := hL' hp; exact ⟨g, off, e, ho, fun i j hi hj => hf.cell (hc i j hi hj) trivial⟩) (fun i x hx => (hE' i x hx).fr hf (fun _ _ => trivial))
      have hkk : SlS w A' ks := fun hp => by obtain ⟨g, off, e, _, hc⟩ := hK hp; exact ⟨g, off, e, hc⟩
      have hkk' : SlS w D' ks := fun hp => by obtain ⟨g, off, e, _, hc⟩ := hK' hp; exact ⟨g, off, e, hc⟩
      have hpl : ∀ W, Below w.heap.size w W → Calls Tryd.prog 34 #[.slice A' ks.length cap', .slice D' ks.length dap'] W fun e w' => e = .returned (.bool true) ∧ ∃ n, w' = W.drewN n := fun W hW => by
        have hf := below_fr0 hW
        exact plain_strs A' D' ks cap' dap' W hk (fun hp => by obtain ⟨g, off, e, hc⟩ := hkk hp; exact ⟨g, off, e, fun i s hi => hf.cell (hc i s hi) trivial⟩) (fun hp => by obtain ⟨g, off, e, hc⟩ := hkk' hp; exact ⟨g, off, e, fun i s hi => hf.cell (hc i s hi) trivial⟩)
      have HPl := Lib.hid hpl
      have hB1 : ((w.alloc (.cells #[.int .i64 k, .string t, .slice A l.length cap, .slice A' ks.length cap'] 26)).alloc (.cells #[.int .i64 k, .string t, .slice D l.length dap, .slice D' ks.length dap'] 26)).heap[w.heap.size]? = some (.cells #[.int .i64 k, .string t, .slice A l.length cap, .slice A' ks.length cap'] 26 (0, 0)) := by
        rw [Below.heap_alloc _ _ _ (by simp)]; exact heap_alloc_new w _
      have hB2 : ((w.alloc (.cells #[.int .i64 k, .string t, .slice A l.length cap, .slice A' ks.length cap'] 26)).alloc (.cells #[.int .i64 k, .string t, .slice D l.length dap, .slice D' ks.length dap'] 26)).heap[w.heap.size + 1]? = some (.cells #[.int .i64 k, .string t, .slice D l.length dap, .slice D' ks.length dap'] 26 (0, 0)) := by
        have := heap_alloc_new (w.alloc (.cells #[.int .i64 k, .string t, .slice A l.length cap, .slice A' ks.length cap'] 26)) (.cells #[.int .i64 k, .string t, .slice D l.length dap, .slice D' ks.length dap'] 26 (0, 0))
        simpa using this
      clear hL hK hE hL' hK' hE' hf hkk hkk' hpl hs
      go_enter Tryd.func14, Tryd.ntmps14
      go_wp2_with fail
      generalize (w.alloc (.cells #[.int .i64 k, .string t, .slice A l.length cap, .slice A' ks.length cap'] 26)).alloc (.cells #[.int .i64 k, .string t, .slice D l.length dap, .slice D' ks.length dap'] 26) = W0 at *
      refine hsl.mono ?_
      rintro e w1 ⟨rfl, hb1⟩
      have hb2 : Below w.heap.size w w1 := hb.trans (hb1.mono hb.size)
      have hB1' := (hb1.block _ (blk_lt hB1)).trans hB1
      have hB2' := (hb1.block _ (blk_lt hB2)).trans hB2
      have q3 : w1.cell? ⟨w.heap.size, 3, none⟩ = some (.slice A' ks.length cap') := by rw [cell_of_row _ _ _ _ _ _ hB1']; rfl
      have r3 : w1.cell? ⟨w.heap.size + 1, 3, none⟩ = some (.slice D' ks.length dap') := by rw [cell_of_row _ _ _ _ _ _ hB2']; rfl
      have hpc := HPl.out w1 hb2
      clear hsl hb1 hB1 hB2 hB1' hB2' HPl
      go_wp2_with fail
      refine hpc.mono ?_
      rintro e w2 ⟨rfl, n, rfl⟩
      go_wp2
      go_ret
      exact ⟨rfl, below_drewN hb2 n⟩
theorem same_json : ∀ (n : Nat) (t : J), SizeOf.sizeOf t < n → fits t → SameC t
  | 0, _, h, _ => by omega
  | n + 1, .mk k t l ks, h, hf => by
    rw [fits] at hf
    refine same_step k t l ks hf.1 hf.2.1 (fun x hx => same_json n x ?_ (fitsL_mem hf.2.2 x hx))
    have := List.sizeOf_lt_of_mem hx
    simp only [J.mk.sizeOf_spec] at h
    omega
theorem same_any {t : J} (hf : fits t) : SameC t := same_json (SizeOf.sizeOf t + 1) t (by omega) hf
end Go.Proofs.YtjcnjaebmndeiaaDoor
