/-
  'Encode' of a value that fits, and is too deep.
-/
import Derived.Test.YtlkbcdbjmkfkkaaDoorDeeM
namespace Go.Proofs.YtlkbcdbjmkfkkaaDoor
open Go.RowKit Go.Shelf

def EncL (w : World) (e : Ending) (w' : World) : Prop := Below w.heap.size w w' ∧ e = .returned (.tuple #[.slice none 0 0, .int .i64 5])
set_option maxHeartbeats 8000000 in
set_option maxRecDepth 100000 in
theorem encode_deep (S : List Nd) (hS : ∀ nd, nd ∈ S → nd.kind ≠ 8 ∧ nd.kind ≠ 12) (hSl : S.length ≤ 1000000) (z : U) (hfit : fitsU aM0 S 0 z = true) (hd : 64 < maxD (pu 1 z)) (hc : uc z ≤ 10000)
    (w : World) (vs v0 v1 v2 v3 v4 : Value) (hN : NdsAt w (fun b => b < w.heap.size) S vs) (hz : UIn w (fun b => b < w.heap.size) z v0 v1 v2 v3 v4) :
    Calls Tryd.prog 9 #[.agg #[vs], .agg #[v0, v1, v2, v3, v4]] w (EncL w) := by
  obtain ⟨As, caps, cs, rfl, _⟩ := id hN
  have hz' := hz
  obtain ⟨k, nn, B, n0, c0, A, n1, c1, A', n2, c2, rfl, rfl, rfl, rfl, rfl⟩ := uin_agg hz
  obtain ⟨W0, hW0⟩ : ∃ W0, (((w.alloc (.cells #[.slice As S.length caps] 32)).alloc (.cells #[.int .i64 k, .int .i64 nn, .slice B n0 c0, .slice A n1 c1, .slice A' n2 c2] 38)).alloc (.cells #[.slice none 0 0] 33)).alloc (.cells #[.int .i64 0] 39) = W0 := ⟨_, rfl⟩
  have hb0 : Below w.heap.size w W0 := by rw [← hW0]; exact ((((Below.refl _ w).alloc (Nat.le_refl _) _).alloc (by simp) _).alloc (by simp; omega) _).alloc (by simp; omega) _
  have h0 : W0.heap[w.heap.size]? = some (.cells #[.slice As S.length caps] 32 (0, 0)) := by rw [← hW0]; exact old_at _ (old_at _ (old_at _ (new_at rfl _)))
  have h1 : W0.heap[w.heap.size + 1]? = some (.cells #[.int .i64 k, .int .i64 nn, .slice B n0 c0, .slice A n1 c1, .slice A' n2 c2] 38 (0, 0)) := by rw [← hW0]; exact old_at _ (old_at _ (new_at (by simp) _))
  have h2 : W0.heap[w.heap.size + 2]? = some (.cells #[.slice none 0 0] 33 (0, 0)) := by rw [← hW0]; exact old_at _ (new_at (by simp) _)
  have h3 : W0.heap[w.heap.size + 3]? = some (.cells #[.int .i64 0] 39 (0, 0)) := by rw [← hW0]; exact new_at (by simp) _
  have hs0 : W0.heap.size = w.heap.size + 4 := by rw [← hW0]; simp
  have hzb : ∀ W', Fr W0 W' (fun _ => True) → UIn W' (fun b => b < W'.heap.size) z (.int .i64 k) (.int .i64 nn) (.slice B n0 c0) (.slice A n1 c1) (.slice A' n2 c2) := fun W' hf => ((hz.fr (below_fr0 hb0) (fun _ _ => trivial)).fr hf (fun _ _ => trivial)).mono (fun b hb _ => hb)
  have hN0 := nds_mono (nds_fr (below_fr0 hb0) (fun _ _ => trivial) hN) (ok' := fun b => b < W0.heap.size) (fun b hb => by omega)
  have hfits := fits_any aM0 S (alone_leaves _ _ S) hSl 0 z (by omega) W0 _ _ _ _ _ _ (hzb W0 (Fr.refl _ _)) hN0 (alone_c S hS W0)
  rw [hfit] at hfits
  obtain ⟨z0, z1, z2, z3, z4⟩ := cells_5 h1
  have s0 : W0.cell? ⟨w.heap.size, 0, none⟩ = some (.slice As S.length caps) := cell_of_row _ _ 0 _ _ _ h0
  have HB0 := Lib.hid hb0
  have H1 := Lib.hid h1
  have H2 := Lib.hid h2
  have H3 := Lib.hid h3
  have HS0 := Lib.hid hs0
  have HZB := Lib.hid hzb
  have HW0 := Lib.hid hW0
  clear hb0 h0 h1 h2 h3 hs0 hzb hN hN0 hz hz' hfit hW0
  refine (callsIn_wide (n := 10)).1 ?_
  refine callsIn_of_wp_marks Tryd.func9 rfl trivial ?_
  simp only [Tryd.ntmps9, List.size_toArray, List.length_cons, List.length_nil, Nat.reduceAdd, Nat.reduceSub, Array.replicate_succ, Array.replicate_zero, List.push_toArray, List.append_toArray, List.nil_append, List.cons_append]
  have hW0 := HW0.out
  gi_wp2_with fail
  refine ⟨trivial, (callsIn_wide.2 hfits).mono ?_⟩
  rintro e w1 ⟨rfl, hb1⟩
  have hf1 : Fr W0 w1 (fun _ => True) := ⟨hb1.os, hb1.tape, hb1.output, hb1.size, fun k hk _ => hb1.block k hk⟩
  have hdep := depth_any z w1 _ _ _ _ _ (HZB.out w1 hf1) (by omega)
  obtain ⟨y0, y1, y2, y3, y4⟩ := cells_5 (hf1.at H1.out trivial)
  have HF1 := Lib.hid hf1
  clear hfits hb1 hf1 s0 z0 z1 z2 z3 z4 hW0
  obtain ⟨D, hD⟩ : ∃ D, maxD (pu 1 z) = D := ⟨_, rfl⟩
  rw [hD] at hdep hd
  have HD := Lib.hid hD
  have hd1 : decide ((64 : Int) < (D : Int)) = true := decide_eq_true (by omega)
  have hd3 : decide (64 < D) = true := decide_eq_true (by omega)
  clear hD
  gi_wp2_with fail
  refine ⟨trivial, (callsIn_wide.2 hdep).mono ?_⟩
  rintro e w2 ⟨rfl, hb2⟩
  have hf2 : Fr W0 w2 (fun _ => True) := HF1.out.trans ⟨hb2.os, hb2.tape, hb2.output, hb2.size, fun k hk _ => hb2.block k hk⟩
  have hr2 := hf2.at H2.out trivial
  have hr3 := hf2.at H3.out trivial
  have k2 : w2.cell? ⟨w.heap.size + 2, 0, none⟩ = some (.slice none 0 0) := cell_of_row _ _ 0 _ _ _ hr2
  have k3 : w2.cell? ⟨w.heap.size + 3, 0, none⟩ = some (.int .i64 0) := cell_of_row _ _ 0 _ _ _ hr3
  have f2 := frozen_of_row w2 (w.heap.size + 2) 0 _ _ hr2
  have f3 := frozen_of_row w2 (w.heap.size + 3) 0 _ _ hr3
  have hbw : Below w.heap.size w w2 := HB0.out.trans ⟨hf2.os, hf2.tape, hf2.output, hf2.size, fun i hi => hf2.block i (by have := HS0.out; omega) trivial⟩
  have HR2 := Lib.hid hr2
  have HR3 := Lib.hid hr3
  have HBW := Lib.hid hbw
  clear hdep hb2 hf2 y0 y1 y2 y3 y4 hr2 hr3 hbw
  gi_wp2
  refine ⟨trivial, ?_⟩
  gi_wp2
  have hf6 : Fr w2 ((w2.setCell ⟨w.heap.size + 1 + 1, 0, none⟩ (.slice none 0 0)).setCell ⟨w.heap.size + 1 + 1 + 1, 0, none⟩ (.int .i64 5)) (fun k => k ≠ w.heap.size + 2 ∧ k ≠ w.heap.size + 3) := ((set_fr w2 (w.heap.size + 2) 0 _).mono (fun k _ hk => hk.1)).trans ((set_fr _ (w.heap.size + 3) 0 _).mono (fun k _ hk => hk.2))
  have g2 : ((w2.setCell ⟨w.heap.size + 1 + 1, 0, none⟩ (.slice none 0 0)).setCell ⟨w.heap.size + 1 + 1 + 1, 0, none⟩ (.int .i64 5)).heap[w.heap.size + 2]? = some (.cells #[.slice none 0 0] 33 (0, 0)) :=
    (set_fr _ (w.heap.size + 3) 0 _).at (by simpa using heap_setCell_same w2 (w.heap.size + 2) 0 _ 33 (.slice none 0 0) HR2.out) (by omega)
  have g3 : ((w2.setCell ⟨w.heap.size + 1 + 1, 0, none⟩ (.slice none 0 0)).setCell ⟨w.heap.size + 1 + 1 + 1, 0, none⟩ (.int .i64 5)).heap[w.heap.size + 3]? = some (.cells #[.int .i64 5] 39 (0, 0)) := by
    simpa using heap_setCell_same _ (w.heap.size + 3) 0 _ 39 (.int .i64 5) ((set_fr w2 (w.heap.size + 2) 0 (.slice none 0 0)).at HR3.out (by omega))
  generalize (w2.setCell ⟨w.heap.size + 1 + 1, 0, none⟩ (.slice none 0 0)).setCell ⟨w.heap.size + 1 + 1 + 1, 0, none⟩ (.int .i64 5) = W6 at *
  have q2 : W6.cell? ⟨w.heap.size + 1 + 1, 0, none⟩ = some (.slice none 0 0) := cell_of_row _ _ 0 _ _ _ g2
  have q3 : W6.cell? ⟨w.heap.size + 1 + 1 + 1, 0, none⟩ = some (.int .i64 5) := cell_of_row _ _ 0 _ _ _ g3
  refine ⟨.tuple #[.slice none 0 0, .int .i64 5], by simp [results, Tryd.results9, go_sem, q2, q3], ?_⟩
  exact ⟨HBW.out.trans ⟨hf6.os, hf6.tape, hf6.output, hf6.size, fun i hi => hf6.block i (by have := HBW.out.size; omega) ⟨by omega, by omega⟩⟩, rfl⟩
end Go.Proofs.YtlkbcdbjmkfkkaaDoor
