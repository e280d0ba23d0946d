/-
  'resolve.symbol': the place of a symbol, or of the default.
-/
import Derived.Test.YtcmillbjpplfjaaGreatDoorRcl
namespace Go.Proofs.YtcmillbjpplfjaaGreatDoor
open Go.RowKit

theorem firstI_lo {α : Type} (p : α → Bool) (xs : List α) : -1 ≤ firstI p xs 0 := by
  rcases firstI_spec p xs 0 with ⟨h, _⟩ | ⟨i, a, _, h, _⟩ <;> rw [h] <;> omega
theorem firstI_hi {α : Type} (p : α → Bool) (xs : List α) : firstI p xs 0 < xs.length ∨ firstI p xs 0 = -1 := by
  rcases firstI_spec p xs 0 with ⟨h, _⟩ | ⟨i, a, hi, h, _⟩
  · exact .inr h
  · left; rw [h]; have := (List.getElem?_eq_some_iff.1 hi).1; omega
set_option maxRecDepth 100000 in
set_option maxHeartbeats 2000000 in
theorem symbol_any (n : Nd) (c : Nat → Value) (s : ByteArray) (w : World) (ok : Nat → Prop) (hn : NdIn w ok n c) :
    Calls Tryz.prog 88 #[ndv c, .string s] w fun e w' => e = .returned (.int .i64 (symM n s)) ∧ Below w.heap.size w w' := by
  have hb0 : Below w.heap.size w (w.alloc (.cells #[c 0, c 1, c 2, c 3, c 4, c 5, c 6, c 7, c 8, c 9] 50)) := (Below.refl _ w).alloc (Nat.le_refl _) _
  have h1 : (w.alloc (.cells #[c 0, c 1, c 2, c 3, c 4, c 5, c 6, c 7, c 8, c 9] 50)).heap[w.heap.size]? = some (.cells #[c 0, c 1, c 2, c 3, c 4, c 5, c 6, c 7, c 8, c 9] 50 (0, 0)) := new_at rfl _
  have p4 := (cells_10 h1).2.2.2.2.1
  have p5 : (w.alloc (.cells #[c 0, c 1, c 2, c 3, c 4, c 5, c 6, c 7, c 8, c 9] 50)).cell? ⟨w.heap.size, 5, none⟩ = some (.bool n.has) := by rw [← hn.has]; exact (cells_10 h1).2.2.2.2.2.1
  have p6 : (w.alloc (.cells #[c 0, c 1, c 2, c 3, c 4, c 5, c 6, c 7, c 8, c 9] 50)).cell? ⟨w.heap.size, 6, none⟩ = some (.string n.dflt) := by rw [← hn.dflt]; exact (cells_10 h1).2.2.2.2.2.2.1
  have hsy := hn.sy.fr (below_fr0 hb0) (fun _ _ => trivial)
  have HM : Hid (symM n s = if firstI (eqB s) n.sy 0 = -1 ∧ n.has = true then firstI (eqB n.dflt) n.sy 0 else firstI (eqB s) n.sy 0) := rfl
  generalize symM n s = M at *
  clear hn
  go_enter Tryz.func88, Tryz.ntmps88
  go_upto_region 1 with fail
  change Code.wp _ _ _ _ (w.alloc (.cells #[c 0, c 1, c 2, c 3, c 4, c 5, c 6, c 7, c 8, c 9] 50))
  generalize (w.alloc (.cells #[c 0, c 1, c 2, c 3, c 4, c 5, c 6, c 7, c 8, c 9] 50)) = W0 at *
  have H1 := index_any n.sy s _ W0 _ hsy
  have H2 := index_any n.sy n.dflt _ W0 _ hsy
  generalize c 4 = c4 at *
  have hlo := firstI_lo (eqB s) n.sy
  generalize firstI (eqB s) n.sy 0 = a at *
  generalize firstI (eqB n.dflt) n.sy 0 = b at *
  generalize n.dflt = df at *
  generalize n.has = hs at *
  have HB0 := Lib.hid hb0
  clear hb0 h1 hsy
  by_cases ha : a = -1
  · subst ha
    cases hs with
    | true =>
      go_upto_region 2 with (go_at_call 125; refine H1.mono ?_; rintro e w1 ⟨rfl, rfl⟩)
      clear H1
      go_wp2_with (go_at_call 125; refine H2.mono ?_; rintro e w1 ⟨rfl, rfl⟩)
      go_ret
      exact ⟨by rw [HM.out]; simp, HB0.out⟩
    | false =>
      go_upto_region 2 with (go_at_call 125; refine H1.mono ?_; rintro e w1 ⟨rfl, rfl⟩)
      clear H1
      go_wp2_with (go_at_call 125; refine H2.mono ?_; rintro e w1 ⟨rfl, rfl⟩)
      go_ret
      exact ⟨by rw [HM.out]; simp, HB0.out⟩
  · have HA := Lib.hid ha
    go_upto_region 2 with (go_at_call 125; refine H1.mono ?_; rintro e w1 ⟨rfl, rfl⟩)
    clear H1
    go_wp2_with (go_at_call 125; refine H2.mono ?_; rintro e w1 ⟨rfl, rfl⟩)
    go_ret
    exact ⟨by rw [HM.out, if_neg (fun h => HA.out h.1)]; rfl, HB0.out⟩
end Go.Proofs.YtcmillbjpplfjaaGreatDoor
