/-
  'Full' of the program.
-/
import Derived.Test.YtikhdhnehceagaaPcs
namespace Go.Proofs.Ytikhdhnehceagaa
open Go.RowKit Go.Shelf
attribute [local go_sem] Oper.semAt_some

/-- A piece has been refused. -/
def Bad (w : World) (pre : List Bs) (W : World) : Prop :=
  Below w.heap.size w W ∧ w.heap.size + 2 ≤ W.heap.size ∧ W.heap[w.heap.size]? = some (.cells #[.bool false] 4 (0, 0)) ∧ pre.all simpL = false
theorem Bad.grown {w : World} {pre : List Bs} {W W' : World} {row : Option Nat} (h : Bad w pre W) (hg : W.grownBy W' row) (hr : ∀ r, row = some r → w.heap.size + 2 ≤ r) : Bad w pre W' := by
  obtain ⟨h1, h2, h3, h4⟩ := h
  exact ⟨h1.grown hg (by omega) (fun k e => by have := hr k e; omega), Nat.le_trans h2 hg.size, (hg.block _ (by omega) (fun e => by have := hr _ e.symm; omega)).trans h3, h4⟩
theorem all_snoc (pre : List Bs) (x : Bs) : (pre ++ [x]).all simpL = (pre.all simpL && simpL x) := by simp
set_option maxRecDepth 100000 in
set_option maxHeartbeats 4000000 in
theorem full_l (l : Bs) (w : World) (hl : l.length ≤ 1000000) : Calls Try.prog 10 #[.string (str l)] w fun e w' => e = .returned (.bool (fullL l)) ∧ Below w.heap.size w w' := by
  have hz := str_size l
  by_cases h100 : l.length ≤ 100
  · have hd : decide (100 < ((str l).size : Int)) = false := by simp; omega
    have HF : Hid (fullL l = (pcs l).all simpL) := by show _ = _; unfold fullL; simp [h100]
    refine (callsIn_wide (n := 4)).1 ?_
    refine callsIn_of_wp_marks Try.func10 rfl trivial ?_
    simp only [Try.ntmps10, List.size_toArray, List.length_cons, List.length_nil, Nat.reduceAdd, Nat.reduceSub, Array.replicate_succ, Array.replicate_zero, List.push_toArray, List.append_toArray, List.nil_append, List.cons_append]
    have HZ := Lib.hid hz
    clear hz
    gi_wp2_with (refine ⟨trivial, ?_⟩; gi_at_call 24; refine (pieces_call _ (str l) _).mono ?_; rintro e w' ⟨rfl, rfl⟩)
    have hb0 : Below w.heap.size w ((w.alloc (.cells #[.bool false] 4)).alloc (.cells #[.string (str l)] 9)) := ((Below.refl _ w).alloc (Nat.le_refl _) _).alloc (by simp) _
    have hs0 : ((w.alloc (.cells #[.bool false] 4)).alloc (.cells #[.string (str l)] 9)).heap.size = w.heap.size + 2 := by simp
    have hbx : ((w.alloc (.cells #[.bool false] 4)).alloc (.cells #[.string (str l)] 9)).heap[w.heap.size + 1]? = some (.cells #[.string (str l)] 9 (0, 0)) := by
      have := heap_alloc_new (w.alloc (.cells #[.bool false] 4)) (.cells #[.string (str l)] 9 (0, 0))
      simpa using this
    have hrb : ((w.alloc (.cells #[.bool false] 4)).alloc (.cells #[.string (str l)] 9)).heap[w.heap.size]? = some (.cells #[.bool false] 4 (0, 0)) := by
      rw [Below.heap_alloc _ _ _ (by simp)]
      exact heap_alloc_new w (.cells #[.bool false] 4 (0, 0))
    generalize (w.alloc (.cells #[.bool false] 4)).alloc (.cells #[.string (str l)] 9) = W0 at *
    refine range_ret (F := Fence.wide) (n := 4) (ps := #[9]) rfl (by omega) (gf := 29) (lb := #[.pointer (some ⟨w.heap.size + 1, 0, none⟩)]) rfl trivial (enters_of Try.func29 (by kernel_rfl) rfl) (encs := encP) (fun _ => rfl)
      (pieces_it 3 (by omega) (w.heap.size + 1) l W0 (by omega) hbx hl)
      (fun pre W => Below W0.heap.size W0 W ∧ pre.all simpL = true) (fun pre W => Bad w pre W)
      (fun s W W' row h hg hr => ⟨h.1.grown hg h.1.size (fun k e => (hr k e).1), h.2⟩) (fun s W W' row h hg hr => ⟨h.1.grown hg h.1.size (fun k e => by have := (hr k e).1; omega), h.2⟩)
      (fun s W W' row h hg hr => h.grown hg (fun r e => by have := (hr r e).1; omega)) (fun s W W' row h hg hr => h.grown hg (fun r e => by have := (hr r e).1; omega)) ⟨Below.refl _ _, rfl⟩ ?round ?done ?stop
    case stop =>
      intro pre rest W hx hbad hdf
      obtain ⟨hb, hsz, hc, hp⟩ := hbad
      have q0 : W.cell? ⟨w.heap.size, 0, none⟩ = some (.bool false) := by rw [cell_of_row _ _ _ _ _ _ hc]; rfl
      gi_wp2
      have q1 : (W.putObj W0.heap.size (.deferred none)).cell? ⟨w.heap.size, 0, none⟩ = some (.bool false) := by
        rw [cell_of_row _ _ _ _ _ _ ((put_other (show w.heap.size ≠ W0.heap.size by omega)).trans hc)]; rfl
      refine ⟨by simp, .inl ⟨_, _, rfl, run_takeDeferred hdf, ?_⟩⟩
      refine ⟨.bool false, (by simp [results, Try.results10, go_sem, q1]), (by rw [HF.out, hx, List.all_append, hp]; rfl), ?_⟩
      exact hb.grown (grownBy_putObj' _ _ _) (by omega) (fun k e => by cases e; omega)
    case done =>
      intro W hI hdf
      obtain ⟨hb, hall⟩ := hI
      have hrb2 : W.heap[w.heap.size]? = some (.cells #[.bool false] 4 (0, 0)) := (hb.block _ (by omega)).trans hrb
      have q0 : W.cell? ⟨w.heap.size, 0, none⟩ = some (.bool false) := by rw [cell_of_row _ _ _ _ _ _ hrb2]; rfl
      have y0 := frozen_of_row W w.heap.size 0 _ 4 hrb2
      gi_wp2
      have hd' : (W.setCell ⟨w.heap.size, 0, none⟩ (.bool true)).heap[W0.heap.size]? = some (.deferred (some [])) := (Below.heap_setCell _ _ _ _ (by show W0.heap.size ≠ w.heap.size; omega)).trans hdf
      have q1 : ((W.setCell ⟨w.heap.size, 0, none⟩ (.bool true)).putObj W0.heap.size (.deferred none)).cell? ⟨w.heap.size, 0, none⟩ = some (.bool true) := by
        have h1 : (W.setCell ⟨w.heap.size, 0, none⟩ (.bool true)).heap[w.heap.size]? = some (.cells #[.bool true] 4 (0, 0)) := by rw [heap_setCell_same W _ 0 _ 4 _ hrb2]; rfl
        rw [cell_of_row _ _ _ _ _ _ ((put_other (show w.heap.size ≠ W0.heap.size by omega)).trans h1)]; rfl
      refine ⟨by simp, .inl ⟨_, _, rfl, run_takeDeferred hd', ?_⟩⟩
      refine ⟨.bool true, (by simp [results, Try.results10, go_sem, q1]), (by rw [HF.out, hall]), ?_⟩
      have hb3 := (hb0.trans (hb.mono (by omega))).setCell (p := ⟨w.heap.size, 0, none⟩) (show w.heap.size ≤ w.heap.size by omega) (.bool true)
      exact hb3.grown (grownBy_putObj' _ _ _) hb3.size (fun k e => by cases e; omega)
    case round =>
      intro pre x rest W hx hI hlt
      obtain ⟨hb, hall⟩ := hI
      show Code.wpIn _ _ _ _ _ { tmps := _, defers := _ } _
      simp only [encP, List.zip_cons_cons, List.zip_nil_right, List.foldl_toArray', List.foldl_toArray, List.foldl_cons, List.foldl_nil, List.setIfInBounds_toArray, List.set_cons_succ, List.set_cons_zero, Array.zip]
      gi_wp2
      refine ⟨Fr.refl W _, ⟨hb, hall⟩, fun W2 hf2 hl2 hI2 => ?_⟩
      obtain ⟨hb2, _⟩ := hI2
      obtain ⟨o, ho, _⟩ := hl2
      have hxl : x.length ≤ 1000000 := Nat.le_trans (pcs_len l x (by rw [hx]; simp)) hl
      have hcall := simple_l x W2 hxl
      have hrb2 : W2.heap[w.heap.size]? = some (.cells #[.bool false] 4 (0, 0)) := (hb2.block _ (by omega)).trans hrb
      have q0 : W2.cell? ⟨w.heap.size, 0, none⟩ = some (.bool false) := by rw [cell_of_row _ _ _ _ _ _ hrb2]; rfl
      have y0 := frozen_of_row W2 w.heap.size 0 _ 4 hrb2
      by_cases hsx : simpL x = true
      · rw [hsx] at hcall
        have HS := Lib.hid hsx
        have HA := Lib.hid hall
        clear hsx hall hx
        gi_wp2_with (refine ⟨trivial, ?_⟩; gi_at_call 8; refine (CallsIn.inRound (W0.heap.size + 1) (callsIn_wide.2 hcall)).mono ?_; rintro e w5 ⟨rfl, rfl⟩)
        exact ⟨Fr.refl _ _, rfl, hb2, by rw [all_snoc, HA.out, HS.out]; rfl⟩
      · have hsx' : simpL x = false := by simpa using hsx
        rw [hsx'] at hcall
        have HS := Lib.hid hsx'
        have HA := Lib.hid hall
        clear hsx hsx' hall hx
        gi_wp2_with (refine ⟨trivial, ?_⟩; gi_at_call 8; refine (CallsIn.inRound (W0.heap.size + 1) (callsIn_wide.2 hcall)).mono ?_; rintro e w5 ⟨rfl, rfl⟩)
        refine ⟨Below.heap_setCell _ _ _ _ (by show _ ≠ w.heap.size; omega), Below.heap_setCell _ _ _ _ (by show _ ≠ w.heap.size; omega), ?_⟩
        refine ⟨(hb0.trans (hb2.mono (by omega))).setCell (p := ⟨w.heap.size, 0, none⟩) (Nat.le_refl _) _, ?_, ?_, by rw [all_snoc, HS.out]; simp⟩
        · have := hb2.size
          simp [World.setCell]; omega
        · rw [heap_setCell_same W2 _ 0 _ 4 _ hrb2]; rfl
  · have hd : decide (100 < ((str l).size : Int)) = true := by simp; omega
    have HF : Hid (fullL l = false) := by show _ = _; unfold fullL; simp [h100]
    clear h100 hz
    go_enter Try.func10, Try.ntmps10
    go_wp2
    refine bodyPost_ret (v := .bool false) (by simp [results, Try.results10, go_sem]) rfl ?_
    exact ⟨by rw [HF.out], (Below.refl _ _).alloc (Nat.le_refl _) _⟩
end Go.Proofs.Ytikhdhnehceagaa
