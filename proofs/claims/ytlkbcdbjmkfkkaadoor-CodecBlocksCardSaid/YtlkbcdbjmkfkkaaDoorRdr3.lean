/-
  The program's reader: texts, and the end.
-/
import Derived.Test.YtlkbcdbjmkfkkaaDoorRdr2
namespace Go.Proofs.YtlkbcdbjmkfkkaaDoor
open Go.RowKit

/-- What 'Text' answers, and where the reader then stands. -/
def rText (most : Int) (xs : List Int) (f : Nat) : List Int × List Int × Nat :=
  if f ≠ 0 then ([], xs, f) else
  if tFault (signedN (rNum xs 0).1) most (rNum xs 0).2.1 (rNum xs 0).2.2 ≠ 0 then ([], xs, tFault (signedN (rNum xs 0).1) most (rNum xs 0).2.1 (rNum xs 0).2.2)
  else rRaw (signedN (rNum xs 0).1) (rNum xs 0).2.1 (rNum xs 0).2.2
def rEnd (xs : List Int) (f : Nat) : Nat := if f ≠ 0 then f else if 0 < xs.length then 4 else 0

theorem own_base {w : World} {B B' n : Nat} {v : Value} {vs : List Value} (h : w.ownsRow B 5 1 v n vs) (hB : B' ≤ B) : w.ownsRow B' 5 1 v n vs := by
  refine ⟨h.1, ?_⟩
  rcases h.2 with h1 | ⟨g, cap, cur, h1, h2, h3⟩
  · exact .inl h1
  · exact .inr ⟨g, cap, cur, h1, by omega, h3⟩
theorem BytesPost.after {w w1 : World} {p : Nat} {r : List Int × List Int × Nat} {e : Ending} {w' : World} (h : BytesPost w1 p r e w') (hg : w.grownBy w1 (some p)) : BytesPost w p r e w' := by
  obtain ⟨A, c, he, hown, hr, hg'⟩ := h
  exact ⟨A, c, he, own_base hown hg.size, hr, hg.trans hg'⟩

set_option maxHeartbeats 400000 in
theorem text_rd (p : Nat) (most : Int) (xs : List Int) (f : Nat) (w : World) (h : Rdr w p xs f) : Calls Tryd.prog 60 #[.pointer (some ⟨p, 0, none⟩), .int .i64 most] w (BytesPost w p (rText most xs f)) := by
  by_cases hf : f = 0
  · subst hf
    have HT : Hid (rText most xs 0 = if tFault (signedN (rNum xs 0).1) most (rNum xs 0).2.1 (rNum xs 0).2.2 ≠ 0 then ([], xs, tFault (signedN (rNum xs 0).1) most (rNum xs 0).2.1 (rNum xs 0).2.2)
      else rRaw (signedN (rNum xs 0).1) (rNum xs 0).2.1 (rNum xs 0).2.2) := Lib.hid (by unfold rText; rw [if_neg (by omega)])
    obtain ⟨A, c, c0, c1, f0, f1, hr, hl, hh⟩ := h.parts
    have HH := Lib.hid hh
    clear hh
    go_enter Tryd.func60, Tryd.ntmps60
    go_wp2_with fail
    refine (err_rd p xs 0 w h).mono ?_
    rintro e w1 ⟨rfl, rfl⟩
    go_wp2_with fail
    refine (zig_rd p xs 0 w h).mono ?_
    rintro e w1 ⟨rfl, h1, hg⟩
    have hr1 : Rd w1 p A xs.length c xs := rd_far hr HH.out fun q hq hne => World.cell?_of_block (hg.block _ (Nat.lt_trans hq (blk_lt HH.out)) (fun e => hne (by injection e)))
    clear hr c0 c1 f0 f1
    generalize rNum xs 0 = r at *
    obtain ⟨u, ys, f2⟩ := r
    simp only at HT h1
    go_wp2_with fail
    refine (textFault_any p _ most ys f2 w1 h1).mono ?_
    rintro e w2 ⟨rfl, rfl⟩
    simp only
    by_cases ht : tFault (signedN u) most ys f2 = 0
    · have hz : ((tFault (signedN u) most ys f2 : Int) != 0) = false := by simp [ht]
      have HR : Hid (rText most xs 0 = rRaw (signedN u) ys f2) := Lib.hid (by rw [HT.out, if_neg (by omega)])
      clear HT ht
      generalize tFault (signedN u) most ys f2 = t at *
      go_wp2_with fail
      refine (raw_rd p _ ys f2 w1 h1).mono ?_
      rintro e w3 ⟨A3, c3, rfl, hown3, h3, hg3⟩
      go_wp2
      go_ret
      rw [HR.out]
      exact BytesPost.after ⟨A3, c3, rfl, hown3, h3, hg3⟩ hg
    · have hz : ((tFault (signedN u) most ys f2 : Int) != 0) = true := by simp; omega
      have HR : Hid (rText most xs 0 = ([], xs, tFault (signedN u) most ys f2)) := Lib.hid (by rw [HT.out, if_pos ht])
      clear HT ht
      generalize tFault (signedN u) most ys f2 = t at *
      obtain ⟨A1, ca, d0, d1, e0, e1, _, _, hh1⟩ := h1.parts
      have HH1 := Lib.hid hh1
      clear hh1
      go_wp2
      go_ret
      have h2 := Rdr.put (f2 := t) HH1.out hr1 hl
      exact bytesPost_none HR.out h2.1 (hg.trans h2.2)
  · have hr : rText most xs f = ([], xs, f) := by unfold rText; rw [if_pos hf]
    have HR := Lib.hid hr
    clear hr
    have hf'' : ((f : Int) != 0) = true := by simp; omega
    go_enter Tryd.func60, Tryd.ntmps60
    go_wp2_with fail
    refine (err_rd p xs f w h).mono ?_
    rintro e w1 ⟨rfl, rfl⟩
    go_wp2
    go_ret
    exact bytesPost_none HR.out h (World.grownBy.refl _ _)

end Go.Proofs.YtlkbcdbjmkfkkaaDoor
