/-
  'awake' of stage 10.
-/
import Derived.Test.YtcmillbjpplfjaaGreatDoorRpw
namespace Go.Proofs.YtcmillbjpplfjaaGreatDoor
open Go.RowKit Go.Shelf

abbrev awW (w : World) : World := (((w.alloc (.cells (kA 3) 50)).alloc (.cells (kA 4) 50)).alloc (.cells #[.slice (some ⟨w.heap.size, 0, none⟩) 1 1] 29)).alloc (.cells #[.slice (some ⟨w.heap.size + 1, 0, none⟩) 1 1] 29)
set_option maxRecDepth 100000 in
set_option maxHeartbeats 8000000 in
theorem awake10 (w : World) : Calls Tryz.prog 13 #[] w fun e w' => e = .returned (.bool true) ∧ Below w.heap.size w w' := by
  go_enter Tryz.func13, Tryz.ntmps13
  go_upto_region 2 with fail
  change Code.wp _ _ _ _ (awW w)
  have hb0 : Below w.heap.size w (awW w) := ((((Below.refl _ w).alloc (Nat.le_refl _) _).alloc (by simp) _).alloc (by simp; omega) _).alloc (by simp; omega) _
  have h0 : (awW w).heap[w.heap.size]? = some (.cells (kA 3) 50 (0, 0)) := old_at _ (old_at _ (old_at _ (new_at rfl _)))
  have h1 : (awW w).heap[w.heap.size + 1]? = some (.cells (kA 4) 50 (0, 0)) := old_at _ (old_at _ (new_at (by simp) _))
  have h2 : (awW w).heap[w.heap.size + 1 + 1]? = some (.cells #[.slice (some ⟨w.heap.size, 0, none⟩) 1 1] 29 (0, 0)) := old_at _ (new_at (by simp) _)
  have h3 : (awW w).heap[w.heap.size + 1 + 1 + 1]? = some (.cells #[.slice (some ⟨w.heap.size + 1, 0, none⟩) 1 1] 29 (0, 0)) := new_at (by simp) _
  have hcall := resolve_leaf 3 4 5 [] (by decide) (by decide) (by decide) (by decide) (by decide) (by simp) leaf35 (awW w) _ _ h0 h1 none 0 0 rfl (by omega) (by unfold maxLen; omega) (fun h => absurd h (by omega)) (fun h => absurd h (by decide))
  rw [m34] at hcall
  generalize awW w = W0 at *
  have s0 := cell_of_row _ _ 0 _ _ _ h2
  have r0 := cell_of_row _ _ 0 _ _ _ h3
  have HB0 := Lib.hid hb0
  clear h0 h1 h2 h3 hb0
  go_wp2_with fail
  refine hcall.mono ?_
  rintro e w1 ⟨hv, hb1⟩
  have HB1 := Lib.hid (HB0.out.trans (hb1.mono HB0.out.size))
  clear hcall s0 r0 hb1
  rcases hv with ⟨_, B1, c1, A1, c1', rfl, _, _⟩ | ⟨h, _⟩
  · go_upto_region 3 with fail
    have hx : (w1.alloc (.cells #[.int .i64 4, .int .i64 5, .slice B1 0 c1, .slice none 0 0, .slice A1 0 c1'] 26)).heap[w1.heap.size]? = some (.cells #[.int .i64 4, .int .i64 5, .slice B1 0 c1, .slice none 0 0, .slice A1 0 c1'] 26 (0, 0)) := new_at rfl _
    have x0 := cell_of_row _ _ 0 _ _ _ hx
    have x1 := cell_of_row _ _ 1 _ _ _ hx
    have HB2 := Lib.hid (HB1.out.alloc HB1.out.size (.cells #[.int .i64 4, .int .i64 5, .slice B1 0 c1, .slice none 0 0, .slice A1 0 c1'] 26))
    generalize (w1.alloc (.cells #[.int .i64 4, .int .i64 5, .slice B1 0 c1, .slice none 0 0, .slice A1 0 c1'] 26)) = w2 at *
    clear hx
    go_wp2
    go_ret
    exact ⟨rfl, HB2.out⟩
  · cases h
end Go.Proofs.YtcmillbjpplfjaaGreatDoor
