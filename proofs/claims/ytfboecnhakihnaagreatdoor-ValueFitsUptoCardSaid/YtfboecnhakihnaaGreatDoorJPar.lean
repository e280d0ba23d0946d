/-
  The program's parser in memory, and its small steps: 'white', 'sign', 'take'.
-/
import Derived.Test.YtfboecnhakihnaaGreatDoorProg
import Derived.Test.YtfboecnhakihnaaGreatDoorJMdl
import Derived.WalkKit
import Derived.WalkSpells
import Derived.WalkLawsBesides
import Derived.Maps.AppendAt
import Derived.Deep.AppendLies
import Derived.Deep.QuietTactic
import Derived.BigQuiet
import Derived.Lib.Hide
import Derived.Deep.LoopGhost
namespace Go.Proofs.YtfboecnhakihnaaGreatDoor.js
open Go.RowKit

/-- Place k of a text has these bytes before it. -/
structure At (s : ByteArray) (k : Nat) (xs : Bs) : Prop where
  le : k ≤ s.size
  eq : s.data.toList.drop k = xs
section
variable {s : ByteArray} {k : Nat} {c : UInt8} {xs r : Bs}
theorem size_len (s : ByteArray) : s.size = s.data.toList.length := by rw [Array.length_toList]; rfl
theorem At.len (h : At s k xs) : xs.length = s.size - k := by rw [← h.eq, List.length_drop, size_len]
theorem At.nil (h : At s k []) : k = s.size := by have h1 := h.len; have h2 := h.le; simp only [List.length_nil] at h1; omega
theorem At.lt (h : At s k (c :: r)) : k < s.size := by have h1 := h.len; have h2 := h.le; simp only [List.length_cons] at h1; omega
theorem At.get (h : At s k (c :: r)) (hk : k < s.size) : s[k] = c := by
  have h1 : s.data.toList[k]? = some c := by
    have := congrArg (fun l : Bs => l[0]?) h.eq
    simpa [List.getElem?_drop] using this
  have h2 : s.data.toList[k]? = some (s[k]) := by
    rw [List.getElem?_eq_getElem (by rw [← size_len]; exact hk)]
    rfl
  rw [h2] at h1
  exact Option.some.inj h1
theorem At.tail (h : At s k (c :: r)) : At s (k + 1) r := ⟨h.lt, by rw [← List.drop_drop, h.eq]; rfl⟩
theorem At.drop (h : At s k xs) (n : Nat) (hn : n ≤ xs.length) : At s (k + n) (xs.drop n) :=
  ⟨by have := h.len; have := h.le; omega, by rw [← List.drop_drop, h.eq]⟩
theorem At.start (s : ByteArray) : At s 0 s.data.toList := ⟨Nat.zero_le _, rfl⟩
end

/-- The parser at block p stands before these bytes of s. -/
def Par (w : World) (p : Nat) (s : ByteArray) (xs : Bs) : Prop :=
  ∃ k : Nat, w.heap[p]? = some (.cells #[.string s, .int .i64 k] 178 (0, 0)) ∧ At s k xs ∧ s.size ≤ 30000

theorem blk_lt {w : World} {g : Nat} {o : Obj} (h : w.heap[g]? = some o) : g < w.heap.size := by
  rcases Nat.lt_or_ge g w.heap.size with hlt | hge
  · exact hlt
  · rw [Array.getElem?_eq_none hge] at h; cases h
theorem new_grown {w w' : World} (h : Below w.heap.size w w') (row : Option Nat) : w.grownBy w' row := ⟨h.os, h.tape, h.output, h.size, fun i hi _ => h.block i hi⟩
theorem gtrans {a b c : World} {row : Option Nat} (h : a.grownBy b row) (k : b.grownBy c row) : a.grownBy c row :=
  ⟨k.os.trans h.os, k.tape.trans h.tape, k.output.trans h.output, Nat.le_trans h.size k.size, fun i hi hr => (k.block i (by have := h.size; omega) hr).trans (h.block i hi hr)⟩
theorem grefl (w : World) (row : Option Nat) : w.grownBy w row := ⟨rfl, rfl, rfl, Nat.le_refl _, fun _ _ _ => rfl⟩
theorem gset (w : World) (p : Nat) (j : Nat) (v : Value) : w.grownBy (w.setCell ⟨p, j, none⟩ v) (some p) :=
  ⟨rfl, rfl, rfl, by simp [World.setCell], fun i _ hr => Below.heap_setCell _ _ _ _ (fun e => hr (by rw [e]))⟩

section
variable {w w' : World} {p : Nat} {s : ByteArray} {xs : Bs}
theorem Par.lt (h : Par w p s xs) : p < w.heap.size := by obtain ⟨k, hh, _⟩ := h; exact blk_lt hh
theorem Par.parts (h : Par w p s xs) : ∃ k : Nat, w.cell? ⟨p, 0, none⟩ = some (.string s) ∧ w.cell? ⟨p, 1, none⟩ = some (.int .i64 k) ∧ w.frozen? ⟨p, 0, none⟩ = false ∧ w.frozen? ⟨p, 1, none⟩ = false ∧
    At s k xs ∧ s.size ≤ 30000 ∧ w.heap[p]? = some (.cells #[.string s, .int .i64 k] 178 (0, 0)) := by
  obtain ⟨k, hh, hr, hl⟩ := h
  exact ⟨k, by rw [cell_of_row w p 0 _ 178 (0, 0) hh]; rfl, by rw [cell_of_row w p 1 _ 178 (0, 0) hh]; rfl, frozen_of_row w p 0 _ 178 hh, frozen_of_row w p 1 _ 178 hh, hr, hl, hh⟩
theorem Par.kept {row : Option Nat} (h : Par w p s xs) (hg : w.grownBy w' row) (hr : some p ≠ row) : Par w' p s xs := by
  obtain ⟨k, hh, hr', hl⟩ := h
  exact ⟨k, (hg.block p (blk_lt hh) hr).trans hh, hr', hl⟩
theorem Par.below {B : Nat} (h : Par w p s xs) (hb : Below B w w') (hB : p < B) : Par w' p s xs := by
  obtain ⟨k, hh, hr', hl⟩ := h
  exact ⟨k, (hb.block p hB).trans hh, hr', hl⟩
theorem Par.set {k' : Nat} {ys : Bs} (h : Par w p s xs) (ha : At s k' ys) : Par (w.setCell ⟨p, 1, none⟩ (.int .i64 k')) p s ys := by
  obtain ⟨k, hh, hr', hl⟩ := h
  refine ⟨k', ?_, ha, hl⟩
  rw [heap_setCell_same w p 1 _ 178 _ hh]
  rfl
end

theorem Par.drewN {w : World} {p : Nat} {s : ByteArray} {xs : Bs} (h : Par w p s xs) (n : Nat) : Par (w.drewN n) p s xs := h
theorem gdrewN {a w : World} {row : Option Nat} (h : a.grownBy w row) (n : Nat) : a.grownBy (w.drewN n) row := ⟨h.os, h.tape, h.output, h.size, h.block⟩
theorem isWhite_yes {c : UInt8} (h : c.toNat = 32 ∨ c.toNat = 9 ∨ c.toNat = 10 ∨ c.toNat = 13) : isWhite c = true := decide_eq_true h
theorem isWhite_no {c : UInt8} (h : ¬ (c.toNat = 32 ∨ c.toNat = 9 ∨ c.toNat = 10 ∨ c.toNat = 13)) : isWhite c = false := decide_eq_false h
theorem ws_yes {c : UInt8} (h : ((c.toNat : Int) == 32) = true ∨ ((c.toNat : Int) == 9) = true ∨ ((c.toNat : Int) == 10) = true ∨ ((c.toNat : Int) == 13) = true) : isWhite c = true := by
  simp only [beq_iff_eq] at h
  exact isWhite_yes (by omega)
theorem ws_no {c : UInt8} (h1 : ((c.toNat : Int) == 32) = false) (h2 : ((c.toNat : Int) == 9) = false) (h3 : ((c.toNat : Int) == 10) = false) (h4 : ((c.toNat : Int) == 13) = false) : isWhite c = false := by
  simp only [beq_eq_false_iff_ne] at h1 h2 h3 h4
  exact isWhite_no (by omega)

/-- What a step of the parser leaves: it stands there, and nothing else has turned. -/
def Step (w : World) (p : Nat) (s : ByteArray) (ys : Bs) (w' : World) : Prop := Par w' p s ys ∧ w.grownBy w' (some p)

set_option maxHeartbeats 400000 in
theorem white_any (p : Nat) (s : ByteArray) (xs : Bs) (w : World) (h : Par w p s xs) :
    Calls Tryz.prog 111 #[.pointer (some ⟨p, 0, none⟩)] w fun e w' => e = .returned (.tuple #[]) ∧ Step w p s (white xs) w' := by
  go_enter Tryz.func111, Tryz.ntmps111
  go_wp2
  go_step3
  go_wp2
  go_step3
  go_wp2
  go_loopg [] xs.length (fun g wr => ∃ ys : Bs, ys.length = g ∧ Par wr p s ys ∧ w.grownBy wr (some p) ∧ Hid (white ys = white xs))
  case atStart => exact ⟨xs, rfl, h, grefl _ _, rfl⟩
  case round =>
    obtain ⟨ys, hg, hp, hgr, HW⟩ := hrel
    obtain ⟨k, c0, c1, f0, f1, ha, hs, _⟩ := hp.parts
    cases ys with
    | nil =>
      have hk : decide (k < s.size) = false := by have := ha.nil; simp; omega
      go_wp2
      go_quiet (fail)
      go_wp2
      rw [Exit.noGoto_normal]
      go_end0
      exact ⟨rfl, (by rw [← HW.out]; exact hp.drewN _), gdrewN hgr _⟩
    | cons c r =>
      have hlt := ha.lt
      have hget := ha.get hlt
      have hk : decide (k < s.size) = true := by simp; omega
      have hset := hp.set ha.tail
      have hgs := gtrans hgr (gset wr p 1 (.int .i64 ((k + 1 : Nat) : Int)))
      have HG := Lib.hid hg
      clear hg
      go_wp2
      go_quiet (fail)
      go_wp2
      go_quiet (fail)
      go_wp2
      all_goals first
        | (rw [Exit.noGoto_normal]
           go_end0
           refine ⟨rfl, ?_, gdrewN hgr _⟩
           rw [← HW.out, white_cons_no (ws_no (by assumption) (by assumption) (by assumption) (by assumption))]
           exact hp.drewN _)
        | (go_roundg r.length
           case measure => have := HG.out; simp at this; omega
           case rel => exact ⟨r, rfl, hset.drewN _, gdrewN hgs _, by show _ = _; rw [← HW.out, white_cons_yes (ws_yes (by first | exact .inl (by assumption) | exact .inr (.inl (by assumption)) | exact .inr (.inr (.inl (by assumption))) | exact .inr (.inr (.inr (by assumption)))))]⟩)

theorem Step.drewN {w w' : World} {p : Nat} {s : ByteArray} {ys : Bs} (h : Step w p s ys w') (n : Nat) : Step w p s ys (w'.drewN n) := ⟨h.1, gdrewN h.2 n⟩
theorem Step.of {w w1 w' : World} {p : Nat} {s : ByteArray} {ys zs : Bs} (h : Step w p s ys w1) (k : Step w1 p s zs w') : Step w p s zs w' := ⟨k.1, gtrans h.2 k.2⟩
theorem Step.set {w w' : World} {p k : Nat} {s : ByteArray} {ys zs : Bs} (h : Step w p s ys w') (ha : At s k zs) : Step w p s zs (w'.setCell ⟨p, 1, none⟩ (.int .i64 k)) := ⟨h.1.set ha, gtrans h.2 (gset w' p 1 _)⟩
theorem Step.refl {w : World} {p : Nat} {s : ByteArray} {xs : Bs} (h : Par w p s xs) : Step w p s xs w := ⟨h, grefl _ _⟩

set_option maxHeartbeats 400000 in
/-- 'sign': the next byte that is not white; 0 at the end. -/
theorem sign_any (p : Nat) (s : ByteArray) (xs : Bs) (w : World) (h : Par w p s xs) :
    Calls Tryz.prog 127 #[.pointer (some ⟨p, 0, none⟩)] w fun e w' => e = .returned (.int .u8 ((white xs).head?.getD 0).toNat) ∧ Step w p s (white xs) w' := by
  have hwh := white_any p s xs w h
  generalize white xs = ys at hwh ⊢
  cases ys with
  | nil =>
    go_enter Tryz.func127, Tryz.ntmps127
    go_wp2_with fail
    refine hwh.mono ?_
    rintro e w1 ⟨rfl, hst⟩
    obtain ⟨k, c0, c1, f0, f1, ha, hs, _⟩ := hst.1.parts
    obtain rfl := ha.nil
    go_wp2
    go_quiet (fail)
    go_wp2
    go_ret
    exact ⟨rfl, hst.drewN _⟩
  | cons c r =>
    go_enter Tryz.func127, Tryz.ntmps127
    go_wp2_with fail
    refine hwh.mono ?_
    rintro e w1 ⟨rfl, hst⟩
    obtain ⟨k, c0, c1, f0, f1, ha, hs, _⟩ := hst.1.parts
    have hlt := ha.lt
    have hget := ha.get hlt
    have hk : ((k : Int) == (s.size : Int)) = false := by simp; omega
    go_wp2
    go_quiet (fail)
    go_wp2
    go_quiet (fail)
    go_wp2
    go_ret
    exact ⟨rfl, (hst.drewN _).drewN _⟩

set_option maxHeartbeats 400000 in
/-- 'take': the next byte that is not white, gone over. -/
theorem take_any (p : Nat) (s : ByteArray) (xs : Bs) (w : World) (h : Par w p s xs) :
    Calls Tryz.prog 144 #[.pointer (some ⟨p, 0, none⟩)] w fun e w' => e = .returned (.int .u8 ((white xs).head?.getD 0).toNat) ∧ Step w p s (white xs).tail w' := by
  have hwh := sign_any p s xs w h
  generalize white xs = ys at hwh ⊢
  cases ys with
  | nil =>
    go_enter Tryz.func144, Tryz.ntmps144
    go_wp2_with fail
    refine hwh.mono ?_
    rintro e w1 ⟨rfl, hst⟩
    obtain ⟨k, c0, c1, f0, f1, ha, hs, _⟩ := hst.1.parts
    obtain rfl := ha.nil
    go_wp2
    go_quiet (fail)
    go_wp2
    go_ret
    exact ⟨rfl, hst.drewN _⟩
  | cons c r =>
    go_enter Tryz.func144, Tryz.ntmps144
    go_wp2_with fail
    refine hwh.mono ?_
    rintro e w1 ⟨rfl, hst⟩
    obtain ⟨k, c0, c1, f0, f1, ha, hs, _⟩ := hst.1.parts
    have hlt := ha.lt
    have hst' := hst.set ha.tail
    have hk : decide (k < s.size) = true := by simp; omega
    go_wp2
    go_quiet (fail)
    go_wp2
    go_ret
    exact ⟨rfl, hst'.drewN _⟩
end Go.Proofs.YtfboecnhakihnaaGreatDoor.js
