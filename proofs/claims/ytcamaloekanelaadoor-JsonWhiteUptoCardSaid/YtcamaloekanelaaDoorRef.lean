/-
  The reference's reader: its block; 'fail', 'white'.
-/
import Derived.Test.YtcamaloekanelaaDoorPar
namespace Go.Proofs.YtcamaloekanelaaDoor
open Go.RowKit

/-- The reference's reader at block p stands before these bytes of s; its first fault is er. -/
def RRd (w : World) (p : Nat) (s : ByteArray) (xs : Bs) (er : Nat) : Prop :=
  ∃ k : Nat, w.heap[p]? = some (.cells #[.string s, .int .i64 k, .int .i64 er] 68 (0, 0)) ∧ At s k xs ∧ s.size ≤ 30000
section
variable {w w' : World} {p : Nat} {s : ByteArray} {xs : Bs} {er : Nat}
theorem RRd.parts (h : RRd w p s xs er) : ∃ k : Nat, w.cell? ⟨p, 0, none⟩ = some (.string s) ∧ w.cell? ⟨p, 1, none⟩ = some (.int .i64 k) ∧ w.cell? ⟨p, 2, none⟩ = some (.int .i64 er) ∧
    w.frozen? ⟨p, 0, none⟩ = false ∧ w.frozen? ⟨p, 1, none⟩ = false ∧ w.frozen? ⟨p, 2, none⟩ = false ∧ At s k xs ∧ s.size ≤ 30000 := by
  obtain ⟨k, hh, hr, hl⟩ := h
  exact ⟨k, by rw [cell_of_row w p 0 _ 68 (0, 0) hh]; rfl, by rw [cell_of_row w p 1 _ 68 (0, 0) hh]; rfl, by rw [cell_of_row w p 2 _ 68 (0, 0) hh]; rfl, frozen_of_row w p 0 _ 68 hh, frozen_of_row w p 1 _ 68 hh, frozen_of_row w p 2 _ 68 hh, hr, hl⟩
theorem RRd.set {k' : Nat} {ys : Bs} (h : RRd w p s xs er) (ha : At s k' ys) : RRd (w.setCell ⟨p, 1, none⟩ (.int .i64 k')) p s ys er := by
  obtain ⟨k, hh, hr', hl⟩ := h
  refine ⟨k', ?_, ha, hl⟩
  rw [heap_setCell_same w p 1 _ 68 _ hh]
  rfl
theorem RRd.err (h : RRd w p s xs er) (e' : Nat) : RRd (w.setCell ⟨p, 2, none⟩ (.int .i64 e')) p s xs e' := by
  obtain ⟨k, hh, hr', hl⟩ := h
  refine ⟨k, ?_, hr', hl⟩
  rw [heap_setCell_same w p 2 _ 68 _ hh]
  rfl
theorem RRd.drewN (h : RRd w p s xs er) (n : Nat) : RRd (w.drewN n) p s xs er := h
theorem RRd.kept {row : Option Nat} (h : RRd w p s xs er) (hg : w.grownBy w' row) (hr : some p ≠ row) : RRd w' p s xs er := by
  obtain ⟨k, hh, hr', hl⟩ := h
  exact ⟨k, (hg.block p (blk_lt hh) hr).trans hh, hr', hl⟩
end
def RStep (w : World) (p : Nat) (s : ByteArray) (ys : Bs) (er : Nat) (w' : World) : Prop := RRd w' p s ys er ∧ w.grownBy w' (some p)

set_option maxHeartbeats 400000 in
theorem ref_fail (p : Nat) (s : ByteArray) (xs : Bs) (er e' : Nat) (w : World) (h : RRd w p s xs er) :
    Calls Tryd.prog 39 #[.pointer (some ⟨p, 0, none⟩), .int .i64 e'] w fun e w' => e = .returned (.tuple #[]) ∧ RStep w p s xs (if er = 0 then e' else er) w' := by
  obtain ⟨k, c0, c1, c2, f0, f1, f2, ha, hs⟩ := h.parts
  have hR := Lib.hid h
  by_cases he : er = 0
  · have hset := h.err e'
    have hk : ((er : Int) == 0) = true := by simp; omega
    have HE := Lib.hid he
    clear he
    go_enter Tryd.func39, Tryd.ntmps39
    go_wp2
    go_end0
    refine ⟨rfl, ?_⟩
    exact ⟨hset, gset w p 2 _⟩
  · have hk : ((er : Int) == 0) = false := by simp; omega
    go_enter Tryd.func39, Tryd.ntmps39
    go_wp2
    go_end0
    refine ⟨rfl, ?_⟩
    exact ⟨hR.out, grefl _ _⟩
set_option maxHeartbeats 1000000 in
theorem ref_white (p : Nat) (s : ByteArray) (xs : Bs) (er : Nat) (w : World) (h : RRd w p s xs er) :
    Calls Tryd.prog 38 #[.pointer (some ⟨p, 0, none⟩)] w fun e w' => e = .returned (.tuple #[]) ∧ RStep w p s (white xs) er w' := by
  go_enter Tryd.func38, Tryd.ntmps38
  go_wp2
  go_loopg [] xs.length (fun g wr => ∃ ys : Bs, ys.length = g ∧ RRd wr p s ys er ∧ w.grownBy wr (some p) ∧ Hid (white ys = white xs))
  case atStart => exact ⟨xs, rfl, h, grefl _ _, rfl⟩
  case round =>
    obtain ⟨ys, hg, hp, hgr, HW⟩ := hrel
    obtain ⟨k, c0, c1, c2, f0, f1, f2, ha, hs⟩ := hp.parts
    cases ys with
    | nil =>
      have hk : decide (k < s.size) = false := by have := ha.nil; simp; omega
      go_wp2
      go_quiet (fail)
      go_wp2
      go_end0
      exact ⟨rfl, (by rw [← HW.out]; exact hp.drewN _), gdrewN hgr _⟩
    | cons c r =>
      have hlt := ha.lt
      have hget := ha.get hlt
      have hk : decide (k < s.size) = true := by simp; omega
      have hset := hp.set ha.tail
      have hgs := gtrans hgr (gset wr p 1 (.int .i64 ((k + 1 : Nat) : Int)))
      have HG := Lib.hid hg
      clear hg
      have hsplit : (((c.toNat : Int) == 32) = true) ∨ (((c.toNat : Int) == 32) = false ∧ ((c.toNat : Int) == 9) = true) ∨ (((c.toNat : Int) == 32) = false ∧ ((c.toNat : Int) == 9) = false ∧ ((c.toNat : Int) == 10) = true) ∨
          (((c.toNat : Int) == 32) = false ∧ ((c.toNat : Int) == 9) = false ∧ ((c.toNat : Int) == 10) = false ∧ ((c.toNat : Int) == 13) = true) ∨ (((c.toNat : Int) == 32) = false ∧ ((c.toNat : Int) == 9) = false ∧ ((c.toNat : Int) == 10) = false ∧ ((c.toNat : Int) == 13) = false) := by
        simp only [beq_iff_eq, beq_eq_false_iff_ne]; omega
      rcases hsplit with h1 | ⟨h1, h2⟩ | ⟨h1, h2, h3⟩ | ⟨h1, h2, h3, h4⟩ | ⟨h1, h2, h3, h4⟩
      · have HY := Lib.hid (ws_yes (.inl h1))
        go_wp2
        go_quiet (fail)
        go_wp2
        go_roundg r.length
        case measure => have := HG.out; simp at this; omega
        case rel => exact ⟨r, rfl, hset.drewN _, gdrewN hgs _, by show _ = _; rw [← HW.out, white_cons_yes HY.out]⟩
      · have HY := Lib.hid (ws_yes (.inr (.inl h2)))
        go_wp2
        go_quiet (fail)
        go_wp2
        go_roundg r.length
        case measure => have := HG.out; simp at this; omega
        case rel => exact ⟨r, rfl, hset.drewN _, gdrewN hgs _, by show _ = _; rw [← HW.out, white_cons_yes HY.out]⟩
      · have HY := Lib.hid (ws_yes (.inr (.inr (.inl h3))))
        go_wp2
        go_quiet (fail)
        go_wp2
        go_roundg r.length
        case measure => have := HG.out; simp at this; omega
        case rel => exact ⟨r, rfl, hset.drewN _, gdrewN hgs _, by show _ = _; rw [← HW.out, white_cons_yes HY.out]⟩
      · have HY := Lib.hid (ws_yes (.inr (.inr (.inr h4))))
        go_wp2
        go_quiet (fail)
        go_wp2
        go_roundg r.length
        case measure => have := HG.out; simp at this; omega
        case rel => exact ⟨r, rfl, hset.drewN _, gdrewN hgs _, by show _ = _; rw [← HW.out, white_cons_yes HY.out]⟩
      · have HY := Lib.hid (ws_no h1 h2 h3 h4)
        go_wp2
        go_quiet (fail)
        go_wp2
        go_end0
        refine ⟨rfl, ?_, gdrewN hgr _⟩
        rw [← HW.out, white_cons_no HY.out]
        exact hp.drewN _
end Go.Proofs.YtcamaloekanelaaDoor
