/-
  JsonPrints: which values are right, what they are printed as, and what a key has. For every value and every key whose bulk together is at most 1,048,576, at every memory.
-/
import Derived.Test.YtjcnjaebmndeiaaDoorAvz
import Derived.Test.YtjcnjaebmndeiaaDoorGet
import Derived.Test.YtjcnjaebmndeiaaDoorZsm
import Derived.Test.YtjcnjaebmndeiaaDoorPrnF
import Derived.Test.YtjcnjaebmndeiaaDoorAwk
import Derived.Deep.DeepCutAuto
namespace Go.Proofs.YtjcnjaebmndeiaaDoor
open Go.RowKit

theorem getF_mem : ∀ (ks : List ByteArray) (l : List Z) (key : ByteArray) (x : Z), getF ks l key = some x → x ∈ l
  | [], _, _, _, h => by simp [getF] at h
  | k :: ks, [], _, _, h => by simp [getF] at h
  | k :: ks, y :: l, key, x, h => by
    rw [getF] at h
    split at h
    · simp only [Option.some.injEq] at h
      rw [h]; exact List.mem_cons_self ..
    · exact List.mem_cons_of_mem _ (getF_mem ks l key x h)
theorem getZ_small (z : Z) (key : ByteArray) : zn ((getZ z key).getD zeroZ) ≤ zn z := by
  have h1 : zn zeroZ = 1 := rfl
  have h0 : zn zeroZ ≤ zn z := by
    rw [h1]
    cases z with
    | mk k t l ks => rw [zn]; omega
  unfold getZ
  split
  · cases h : getF z.ks z.l key with
    | none => exact h0
    | some x =>
      have := znL_mem (getF_mem _ _ _ _ h)
      cases z with
      | mk k t l ks =>
        have h1 : zn x ≤ znL l := this
        rw [zn]
        show zn x ≤ _
        omega
  · exact h0
theorem right_bool (R : Prop) : ∃ b : Bool, (b = true ↔ R) := by
  by_cases h : R
  · exact ⟨true, by simp [h]⟩
  · exact ⟨false, by simp [h]⟩
theorem right_text (R : Prop) (X : Bs) : ∃ T : ByteArray, (R → T = str X) ∧ (¬ R → T = ⟨#[]⟩) := by
  by_cases h : R
  · exact ⟨str X, fun _ => rfl, fun h' => absurd h h'⟩
  · exact ⟨⟨#[]⟩, fun h' => absurd h' h, fun _ => rfl⟩
theorem bp_is {w w' : World} {R : Prop} {e : Ending} {b : Bool} (hb : b = true ↔ R) (h : BoolPost w R e w') : e = .returned (.bool b) ∧ Below w.heap.size w w' := by
  obtain ⟨b', rfl, h1, h2⟩ := h
  have : b' = b := by cases b' <;> cases b <;> simp_all
  rw [this]
  exact ⟨rfl, h2⟩
theorem tp_is {w w' : World} {R : Prop} {X : Bs} {e : Ending} {T : ByteArray} (h1 : R → T = str X) (h2 : ¬ R → T = ⟨#[]⟩) (h : TextPost w R X e w') : e = .returned (.string T) ∧ Below w.heap.size w w' := by
  obtain ⟨s, rfl, h3, h4, h5⟩ := h
  by_cases hR : R
  · rw [h3 hR, ← h1 hR]; exact ⟨rfl, h5⟩
  · rw [h4 hR, ← h2 hR]; exact ⟨rfl, h5⟩

set_option maxHeartbeats 8000000 in
set_option maxRecDepth 100000 in
theorem prints_walk : jsonPrints.Walk := by
  intro z v0 v1 v2 v3 s w hz hzw _ hG
  have h4 := hG.size
  have hznw := zck_zn z
  have hl0 := zc_l z
  have hl1 := zk_l z
  have hl2 := zcL_len z.l
  obtain ⟨kk, tt, A, m1, d1, A', m2, d2, rfl, rfl, rfl, rfl⟩ := zin_agg hz
  have hB0 := heap_alloc_new w (.cells #[.int .i64 kk, .string tt, .slice A m1 d1, .slice A' m2 d2] 26 (0, 0))
  have hb0 : Below w.heap.size w (w.alloc (.cells #[.int .i64 kk, .string tt, .slice A m1 d1, .slice A' m2 d2] 26)) := (Below.refl _ _).alloc (Nat.le_refl _) _
  have hzat : ∀ W, Below w.heap.size w W → ZIn W (fun b => b < W.heap.size) z (.int .i64 kk) (.string tt) (.slice A m1 d1) (.slice A' m2 d2) := fun W hW => (hz.fr (below_fr hW) (fun _ h => h)).mono (fun b _ hb => Nat.lt_of_lt_of_le hb hW.size)
  have hsm : Calls Tryd.prog 15 #[.agg #[.int .i64 kk, .string tt, .slice A m1 d1, .slice A' m2 d2], .int .i64 2000] (w.alloc (.cells #[.int .i64 kk, .string tt, .slice A m1 d1, .slice A' m2 d2] 26)) fun e w' => e = .returned (.bool (decide (zn z ≤ 2000))) ∧ Below (w.alloc (.cells #[.int .i64 kk, .string tt, .slice A m1 d1, .slice A' m2 d2] 26)).heap.size (w.alloc (.cells #[.int .i64 kk, .string tt, .slice A m1 d1, .slice A' m2 d2] 26)) w' :=
    small_any z hzw 2000 (by omega) _ _ _ _ _ (hzat _ hb0)
  obtain ⟨p0, p1, p2, p3⟩ := cells_4 hB0
  have HG := Lib.hid hG
  have HZ := Lib.hid hzat
  clear hG hzat hz
  by_cases hsz : zn z ≤ 2000
  · rw [decide_eq_true hsz] at hsm
    obtain ⟨bR, hbR⟩ := right_bool (Rgt 0 z)
    obtain ⟨T, hT1, hT2⟩ := right_text (Rgt 0 z) (core [] z)
    have HJG := Lib.hid (show ∀ W, Below w.heap.size w W → Calls Tryd.prog 16 #[.agg #[.int .i64 kk, .string tt, .slice A m1 d1, .slice A' m2 d2], .string s] W (GetP W (getZ z s)) from fun W hW => jget_any z s W _ _ _ _ (HZ.out W hW) ⟨by omega, by omega⟩ (by omega) (by omega))
    have HRG := Lib.hid (show ∀ W, Below w.heap.size w W → Calls Tryd.prog 17 #[.agg #[.int .i64 kk, .string tt, .slice A m1 d1, .slice A' m2 d2], .string s] W (GetP W (getZ z s)) from fun W hW => rget_any z s W _ _ _ _ (HZ.out W hW) ⟨by omega, by omega⟩)
    have HRI := Lib.hid (show ∀ W, Below w.heap.size w W → Calls Tryd.prog 18 #[.agg #[.int .i64 kk, .string tt, .slice A m1 d1, .slice A' m2 d2]] W fun e w' => e = .returned (.bool bR) ∧ Below W.heap.size W w' from fun W hW => (right_any z (by omega) hzw W (HG.out.below hW) _ _ _ _ (HZ.out W hW)).mono fun _ _ h => bp_is hbR h)
    have HRR := Lib.hid (show ∀ W, Below w.heap.size w W → Calls Tryd.prog 19 #[.agg #[.int .i64 kk, .string tt, .slice A m1 d1, .slice A' m2 d2]] W fun e w' => e = .returned (.bool bR) ∧ Below W.heap.size W w' from fun W hW => (rright_any z (by omega) hzw W (HG.out.below hW) _ _ _ _ (HZ.out W hW)).mono fun _ _ h => bp_is hbR h)
    have HPR := Lib.hid (show ∀ W, Below w.heap.size w W → Calls Tryd.prog 20 #[.agg #[.int .i64 kk, .string tt, .slice A m1 d1, .slice A' m2 d2]] W fun e w' => e = .returned (.string T) ∧ Below W.heap.size W w' from fun W hW => (print_any z (by omega) hzw W (HG.out.below hW) _ _ _ _ (HZ.out W hW)).mono fun _ _ h => tp_is hT1 hT2 h)
    have HRP := Lib.hid (show ∀ W, Below w.heap.size w W → Calls Tryd.prog 21 #[.agg #[.int .i64 kk, .string tt, .slice A m1 d1, .slice A' m2 d2]] W fun e w' => e = .returned (.string T) ∧ Below W.heap.size W w' from fun W hW => (rprint_any z (by omega) hzw W (HG.out.below hW) _ _ _ _ (HZ.out W hW)).mono fun _ _ h => tp_is hT1 hT2 h)
    have HAW := Lib.hid (show ∀ W, Below w.heap.size w W → Calls Tryd.prog 11 #[] W fun e w' => e = .returned (.bool true) ∧ Below W.heap.size W w' from fun W hW => awake W (HG.out.below hW) (Nat.le_trans (by omega) hW.size))
    have hgs := Nat.le_trans (getZ_small z s) hsz
    clear hbR hT1 hT2 hl0 hl1 hl2 hznw
    generalize getZ z s = og at *
    have HGS := Lib.hid hgs
    clear hgs
    generalize hyy : og.getD zeroZ = y at *
    go_enter Tryd.func4, Tryd.ntmps4
    go_wp2_with fail
    generalize (w.alloc (.cells #[.int .i64 kk, .string tt, .slice A m1 d1, .slice A' m2 d2] 26)) = W0 at *
    refine hsm.mono ?_
    rintro e w1 ⟨rfl, hb1⟩
    have hB1 := (below_fr0 hb1).at hB0 trivial
    have hbw1 : Below w.heap.size w w1 := hb0.trans (hb1.mono hb0.size)
    obtain ⟨q0, q1, q2, q3⟩ := cells_4 hB1
    clear hsm hB0 p0 p1 p2 p3 hb1
    go_wp2_with fail
    refine (HJG.out w1 hbw1).mono ?_
    rintro e w2 ⟨x0, x1, x2, x3, rfl, hx, hb2⟩
    rw [hyy] at hx
    obtain ⟨k2, t2, B, e1, f1, B', e2, f2, rfl, rfl, rfl, rfl⟩ := zin_agg hx
    have hbw2 : Below w.heap.size w w2 := hbw1.trans (hb2.mono hbw1.size)
    have hbwa : Below w.heap.size w (w2.alloc (.cells #[.int .i64 k2, .string t2, .slice B e1 f1, .slice B' e2 f2] 26)) := hbw2.alloc hbw2.size _
    have hfa : Fr w2 (w2.alloc (.cells #[.int .i64 k2, .string t2, .slice B e1 f1, .slice B' e2 f2] 26)) (fun _ => True) := (Fr.refl w2 _).alloc _
    have hB2 := hfa.at ((below_fr0 hb2).at hB1 trivial) trivial
    have hA2 := heap_alloc_new w2 (.cells #[.int .i64 k2, .string t2, .slice B e1 f1, .slice B' e2 f2] 26 (0, 0))
    have hx2 := hx.fr (ok' := fun _ => True) hfa (fun _ _ => trivial)
    obtain ⟨p0, p1, p2, p3⟩ := cells_4 hB2
    clear hB1 q0 q1 q2 q3 hb2 hx hfa
    go_wp2_with fail
    generalize hW2 : (w2.alloc (.cells #[.int .i64 k2, .string t2, .slice B e1 f1, .slice B' e2 f2] 26)) = W2 at *
    have HW2 := Lib.hid hW2
    clear hW2
    refine (HRG.out W2 hbwa).mono ?_
    rintro e w3 ⟨x0, x1, x2, x3, rfl, hy, hb3⟩
    rw [hyy] at hy
    obtain ⟨k3, t3, C, e3, f3, C', e4, f4, rfl, rfl, rfl, rfl⟩ := zin_agg hy
    have hbw3 : Below w.heap.size w w3 := hbwa.trans (hb3.mono hbwa.size)
    have hbwc : Below w.heap.size w (w3.alloc (.cells #[.int .i64 k3, .string t3, .slice C e3 f3, .slice C' e4 f4] 26)) := hbw3.alloc hbw3.size _
    have hfc : Fr w3 (w3.alloc (.cells #[.int .i64 k3, .string t3, .slice C e3 f3, .slice C' e4 f4] 26)) (fun _ => True) := (Fr.refl w3 _).alloc _
    have hf3 : Fr W2 (w3.alloc (.cells #[.int .i64 k3, .string t3, .slice C e3 f3, .slice C' e4 f4] 26)) (fun _ => True) := (below_fr0 hb3).trans hfc
    have hB3 := hf3.at hB2 trivial
    have hA3 := hf3.at hA2 trivial
    have hC3 := heap_alloc_new w3 (.cells #[.int .i64 k3, .string t3, .slice C e3 f3, .slice C' e4 f4] 26 (0, 0))
    have hx3 := hx2.fr (ok' := fun _ => True) hf3 (fun _ _ => trivial)
    have hy3 := hy.fr (ok' := fun _ => True) hfc (fun _ _ => trivial)
    clear p0 p1 p2 p3 hB2 hA2 hb3 hx2 hy hfc hf3
    obtain ⟨p0, p1, p2, p3⟩ := cells_4 hB3
    obtain ⟨a0, a1, a2, a3⟩ := cells_4 hA3
    obtain ⟨c0, c1, c2, c3⟩ := cells_4 hC3
    have hsame : ∀ W, Fr (w3.alloc (.cells #[.int .i64 k3, .string t3, .slice C e3 f3, .slice C' e4 f4] 26)) W (fun _ => True) → Calls Tryd.prog 14 #[.agg #[.int .i64 k2, .string t2, .slice B e1 f1, .slice B' e2 f2], .agg #[.int .i64 k3, .string t3, .slice C e3 f3, .slice C' e4 f4]] W fun e w' => e = .returned (.bool true) ∧ Below W.heap.size W w' := fun W hW =>
      zsame_any (Nat.le_trans HGS.out (by omega)) W _ _ _ _ _ _ _ _ _ _ (hx3.fr (ok' := fun _ => True) hW (fun _ _ => trivial)) (hy3.fr (ok' := fun _ => True) hW (fun _ _ => trivial))
    have HSM := Lib.hid hsame
    clear hsame hx3 hy3 hB3 hA3 hC3 HJG HRG
    go_upto_region 5 with fail
    generalize (w3.alloc (.cells #[.int .i64 k3, .string t3, .slice C e3 f3, .slice C' e4 f4] 26)) = W3 at *
    have hbd : Below w.heap.size w W3.drew := ⟨hbwc.os, hbwc.tape, hbwc.output, hbwc.size, hbwc.block⟩
    refine wp_region_noPanic ?_
    refine wp_region_held_drew (S := (fun w' => w'.cell? ⟨w.heap.size, 0, none⟩ = some (.int .i64 kk) ∧ w'.cell? ⟨w.heap.size, 1, none⟩ = some (.string tt) ∧ w'.cell? ⟨w.heap.size, 2, none⟩ = some (.slice A m1 d1) ∧ w'.cell? ⟨w.heap.size, 3, none⟩ = some (.slice A' m2 d2) ∧ w'.cell? ⟨w2.heap.size, 0, none⟩ = some (.int .i64 k2) ∧ w'.cell? ⟨w2.heap.size, 1, none⟩ = some (.string t2) ∧ w'.cell? ⟨w2.heap.size, 2, none⟩ = some (.slice B e1 f1) ∧ w'.cell? ⟨w2.heap.size, 3, none⟩ = some (.slice B' e2 f2) ∧ w'.cell? ⟨w3.heap.size, 0, none⟩ = some (.int .i64 k3) ∧ w'.cell? ⟨w3.heap.size, 1, none⟩ = some (.string t3) ∧ w'.cell? ⟨w3.heap.size, 2, none⟩ = some (.slice C e3 f3) ∧ w'.cell? ⟨w3.heap.size, 3, none⟩ = some (.slice C' e4 f4))) (by kernel_rfl) ⟨p0, p1, p2, p3, a0, a1, a2, a3, c0, c1, c2, c3⟩ (fun hHeld => ?_)
    refine wpAnyH_ready (rs := [0]) (by kernel_rfl) (by simp) ?_
    refine AllReadyH.cons rfl (fun K hK => ?_) AllReadyH.nil
    go_simp
    refine Calls.mono (HAW.out W3.drew hbd) ?_
    rintro e w4 ⟨rfl, hb4⟩
    have hf4 : Fr W3 w4 (fun _ => True) := (fr_drew (Fr.refl W3 _)).trans (below_fr0 hb4)
    have hbw4 : Below w.heap.size w w4 := hbd.trans (hb4.mono hbd.size)
    refine hK.out _ _ ⟨hf4.cell p0 trivial, hf4.cell p1 trivial, hf4.cell p2 trivial, hf4.cell p3 trivial, hf4.cell a0 trivial, hf4.cell a1 trivial, hf4.cell a2 trivial, hf4.cell a3 trivial, hf4.cell c0 trivial, hf4.cell c1 trivial, hf4.cell c2 trivial, hf4.cell c3 trivial⟩ (fun hHeld => ?_)
    clear hK K
    try simp only [Act.put, List.getElem_toArray, List.getElem_cons_succ, List.getElem_cons_zero, List.setIfInBounds_toArray, List.set_cons_zero, List.set_cons_succ]
    refine wpAnyH_take (i := 1) (v := ?_) rfl (by kernel_rfl) (by kernel_rfl) (by kernel_rfl) (fun _ _ _ h => h) (Or.inl ⟨by rfl, ?_⟩) (by assumption) ?_
    rotate_left
    · (intro w hSw; (try dsimp only at hSw); go_simp; try with_reducible rfl)
    simp only [Act.put, List.getElem_toArray, List.getElem_cons_succ, List.getElem_cons_zero, List.setIfInBounds_toArray, List.set_cons_zero, List.set_cons_succ]
    refine wpAnyH_take (i := 2) (v := ?_) rfl (by kernel_rfl) (by kernel_rfl) (by kernel_rfl) (fun _ _ _ h => h) (Or.inl ⟨by simp [Region.wanted, yielded], ?_⟩) (by assumption) ?_
    rotate_left
    · (intro w hSw; (try dsimp only at hSw); go_simp; try with_reducible rfl)
    simp only [Act.put, List.getElem_toArray, List.getElem_cons_succ, List.getElem_cons_zero, List.setIfInBounds_toArray, List.set_cons_zero, List.set_cons_succ]
    refine wpAnyH_take (i := 4) (v := ?_) rfl (by kernel_rfl) (by kernel_rfl) (by kernel_rfl) (fun _ _ _ h => h) (Or.inl ⟨by simp [Region.wanted, yielded], ?_⟩) (by assumption) ?_
    rotate_left
    · (intro w hSw; (try dsimp only at hSw); go_simp; try with_reducible rfl)
    simp only [Act.put, List.getElem_toArray, List.getElem_cons_succ, List.getElem_cons_zero, List.setIfInBounds_toArray, List.set_cons_zero, List.set_cons_succ]
    refine wpAnyH_ready (rs := [3]) (by kernel_rfl) (by simp) ?_
    refine AllReadyH.cons rfl (fun K hK => ?_) AllReadyH.nil
    go_simp
    refine Calls.mono (HRI.out w4 hbw4) ?_
    rintro e w5 ⟨rfl, hb5⟩
    have hf5 : Fr W3 w5 (fun _ => True) := hf4.trans (below_fr0 hb5)
    have hbw5 : Below w.heap.size w w5 := hbw4.trans (hb5.mono hbw4.size)
    refine hK.out _ _ ⟨hf5.cell p0 trivial, hf5.cell p1 trivial, hf5.cell p2 trivial, hf5.cell p3 trivial, hf5.cell a0 trivial, hf5.cell a1 trivial, hf5.cell a2 trivial, hf5.cell a3 trivial, hf5.cell c0 trivial, hf5.cell c1 trivial, hf5.cell c2 trivial, hf5.cell c3 trivial⟩ (fun hHeld => ?_)
    clear hK K
    try simp only [Act.put, List.getElem_toArray, List.getElem_cons_succ, List.getElem_cons_zero, List.setIfInBounds_toArray, List.set_cons_zero, List.set_cons_succ]
    refine wpAnyH_ready (rs := [5]) (by kernel_rfl) (by simp) ?_
    refine AllReadyH.cons rfl (fun K hK => ?_) AllReadyH.nil
    go_simp
    refine Calls.mono (HRR.out w5 hbw5) ?_
    rintro e w6 ⟨rfl, hb6⟩
    have hf6 : Fr W3 w6 (fun _ => True) := hf5.trans (below_fr0 hb6)
    have hbw6 : Below w.heap.size w w6 := hbw5.trans (hb6.mono hbw5.size)
    refine hK.out _ _ ⟨hf6.cell p0 trivial, hf6.cell p1 trivial, hf6.cell p2 trivial, hf6.cell p3 trivial, hf6.cell a0 trivial, hf6.cell a1 trivial, hf6.cell a2 trivial, hf6.cell a3 trivial, hf6.cell c0 trivial, hf6.cell c1 trivial, hf6.cell c2 trivial, hf6.cell c3 trivial⟩ (fun hHeld => ?_)
    clear hK K
    try simp only [Act.put, List.getElem_toArray, List.getElem_cons_succ, List.getElem_cons_zero, List.setIfInBounds_toArray, List.set_cons_zero, List.set_cons_succ]
    refine wpAnyH_take (i := 6) (v := ?_) rfl (by kernel_rfl) (by kernel_rfl) (by kernel_rfl) (fun _ _ _ h => h) (Or.inl ⟨by simp [Region.wanted, yielded], ?_⟩) (by assumption) ?_
    rotate_left
    · (intro w hSw; (try dsimp only at hSw); go_simp; try with_reducible rfl)
    simp only [Act.put, List.getElem_toArray, List.getElem_cons_succ, List.getElem_cons_zero, List.setIfInBounds_toArray, List.set_cons_zero, List.set_cons_succ]
    refine wpAnyH_take (i := 7) (v := ?_) rfl (by kernel_rfl) (by kernel_rfl) (by kernel_rfl) (fun _ _ _ h => h) (Or.inl ⟨by rfl, ?_⟩) (by assumption) ?_
    rotate_left
    · (intro w hSw; (try dsimp only at hSw); go_simp; try with_reducible rfl)
    simp only [Act.put, List.getElem_toArray, List.getElem_cons_succ, List.getElem_cons_zero, List.setIfInBounds_toArray, List.set_cons_zero, List.set_cons_succ]
    refine wpAnyH_take (i := 8) (v := ?_) rfl (by kernel_rfl) (by kernel_rfl) (by kernel_rfl) (fun _ _ _ h => h) (Or.inl ⟨by rfl, ?_⟩) (by assumption) ?_
    rotate_left
    · (intro w hSw; (try dsimp only at hSw); go_simp; try with_reducible rfl)
    simp only [Act.put, List.getElem_toArray, List.getElem_cons_succ, List.getElem_cons_zero, List.setIfInBounds_toArray, List.set_cons_zero, List.set_cons_succ]
    refine wpAnyH_take (i := 9) (v := ?_) rfl (by kernel_rfl) (by kernel_rfl) (by kernel_rfl) (fun _ _ _ h => h) (Or.inl ⟨by simp [Region.wanted, yielded], ?_⟩) (by assumption) ?_
    rotate_left
    · (intro w hSw; (try dsimp only at hSw); go_simp; try with_reducible rfl)
    simp only [Act.put, List.getElem_toArray, List.getElem_cons_succ, List.getElem_cons_zero, List.setIfInBounds_toArray, List.set_cons_zero, List.set_cons_succ]
    refine wpAnyH_take (i := 11) (v := ?_) rfl (by kernel_rfl) (by kernel_rfl) (by kernel_rfl) (fun _ _ _ h => h) (Or.inl ⟨by simp [Region.wanted, yielded], ?_⟩) (by assumption) ?_
    rotate_left
    · (intro w hSw; (try dsimp only at hSw); go_simp; try with_reducible rfl)
    simp only [Act.put, List.getElem_toArray, List.getElem_cons_succ, List.getElem_cons_zero, List.setIfInBounds_toArray, List.set_cons_zero, List.set_cons_succ]
    refine wpAnyH_ready (rs := [10]) (by kernel_rfl) (by simp) ?_
    refine AllReadyH.cons rfl (fun K hK => ?_) AllReadyH.nil
    go_simp
    refine Calls.mono (HPR.out w6 hbw6) ?_
    rintro e w7 ⟨rfl, hb7⟩
    have hf7 : Fr W3 w7 (fun _ => True) := hf6.trans (below_fr0 hb7)
    have hbw7 : Below w.heap.size w w7 := hbw6.trans (hb7.mono hbw6.size)
    refine hK.out _ _ ⟨hf7.cell p0 trivial, hf7.cell p1 trivial, hf7.cell p2 trivial, hf7.cell p3 trivial, hf7.cell a0 trivial, hf7.cell a1 trivial, hf7.cell a2 trivial, hf7.cell a3 trivial, hf7.cell c0 trivial, hf7.cell c1 trivial, hf7.cell c2 trivial, hf7.cell c3 trivial⟩ (fun hHeld => ?_)
    clear hK K
    try simp only [Act.put, List.getElem_toArray, List.getElem_cons_succ, List.getElem_cons_zero, List.setIfInBounds_toArray, List.set_cons_zero, List.set_cons_succ]
    refine wpAnyH_ready (rs := [12]) (by kernel_rfl) (by simp) ?_
    refine AllReadyH.cons rfl (fun K hK => ?_) AllReadyH.nil
    go_simp
    refine Calls.mono (HRP.out w7 hbw7) ?_
    rintro e w8 ⟨rfl, hb8⟩
    have hf8 : Fr W3 w8 (fun _ => True) := hf7.trans (below_fr0 hb8)
    have hbw8 : Below w.heap.size w w8 := hbw7.trans (hb8.mono hbw7.size)
    refine hK.out _ _ ⟨hf8.cell p0 trivial, hf8.cell p1 trivial, hf8.cell p2 trivial, hf8.cell p3 trivial, hf8.cell a0 trivial, hf8.cell a1 trivial, hf8.cell a2 trivial, hf8.cell a3 trivial, hf8.cell c0 trivial, hf8.cell c1 trivial, hf8.cell c2 trivial, hf8.cell c3 trivial⟩ (fun hHeld => ?_)
    clear hK K
    try simp only [Act.put, List.getElem_toArray, List.getElem_cons_succ, List.getElem_cons_zero, List.setIfInBounds_toArray, List.set_cons_zero, List.set_cons_succ]
    refine wpAnyH_take (i := 13) (v := ?_) rfl (by kernel_rfl) (by kernel_rfl) (by kernel_rfl) (fun _ _ _ h => h) (Or.inl ⟨by simp [Region.wanted, yielded], ?_⟩) (by assumption) ?_
    rotate_left
    · (intro w hSw; (try dsimp only at hSw); go_simp; try with_reducible rfl)
    simp only [Act.put, List.getElem_toArray, List.getElem_cons_succ, List.getElem_cons_zero, List.setIfInBounds_toArray, List.set_cons_zero, List.set_cons_succ]
    refine wpAnyH_take (i := 14) (v := ?_) rfl (by kernel_rfl) (by kernel_rfl) (by kernel_rfl) (fun _ _ _ h => h) (Or.inl ⟨by rfl, ?_⟩) (by assumption) ?_
    rotate_left
    · (intro w hSw; (try dsimp only at hSw); go_simp; try with_reducible rfl)
    simp only [Act.put, List.getElem_toArray, List.getElem_cons_succ, List.getElem_cons_zero, List.setIfInBounds_toArray, List.set_cons_zero, List.set_cons_succ]
    refine wpAnyH_take (i := 15) (v := ?_) rfl (by kernel_rfl) (by kernel_rfl) (by kernel_rfl) (fun _ _ _ h => h) (Or.inl ⟨by rfl, ?_⟩) (by assumption) ?_
    rotate_left
    · (intro w hSw; (try dsimp only at hSw); go_simp; try with_reducible rfl)
    simp only [Act.put, List.getElem_toArray, List.getElem_cons_succ, List.getElem_cons_zero, List.setIfInBounds_toArray, List.set_cons_zero, List.set_cons_succ]
    refine wpAnyH_take (i := 16) (v := ?_) rfl (by kernel_rfl) (by kernel_rfl) (by kernel_rfl) (fun _ _ _ h => h) (Or.inl ⟨by simp [Region.wanted, yielded], ?_⟩) (by assumption) ?_
    rotate_left
    · (intro w hSw; (try dsimp only at hSw); go_simp; try with_reducible rfl)
    simp only [Act.put, List.getElem_toArray, List.getElem_cons_succ, List.getElem_cons_zero, List.setIfInBounds_toArray, List.set_cons_zero, List.set_cons_succ]
    refine wpAnyH_take (i := 17) (v := ?_) rfl (by kernel_rfl) (by kernel_rfl) (by kernel_rfl) (fun _ _ _ h => h) (Or.inl ⟨by simp [Region.wanted, yielded], ?_⟩) (by assumption) ?_
    rotate_left
    · (intro w hSw; (try dsimp only at hSw); go_simp; try with_reducible rfl)
    simp only [Act.put, List.getElem_toArray, List.getElem_cons_succ, List.getElem_cons_zero, List.setIfInBounds_toArray, List.set_cons_zero, List.set_cons_succ]
    refine wpAnyH_ready (rs := [18]) (by kernel_rfl) (by simp) ?_
    refine AllReadyH.cons rfl (fun K hK => ?_) AllReadyH.nil
    go_simp
    refine Calls.mono (HSM.out w8 hf8) ?_
    rintro e w9 ⟨rfl, hb9⟩
    have hf9 : Fr W3 w9 (fun _ => True) := hf8.trans (below_fr0 hb9)
    have hbw9 : Below w.heap.size w w9 := hbw8.trans (hb9.mono hbw8.size)
    refine hK.out _ _ ⟨hf9.cell p0 trivial, hf9.cell p1 trivial, hf9.cell p2 trivial, hf9.cell p3 trivial, hf9.cell a0 trivial, hf9.cell a1 trivial, hf9.cell a2 trivial, hf9.cell a3 trivial, hf9.cell c0 trivial, hf9.cell c1 trivial, hf9.cell c2 trivial, hf9.cell c3 trivial⟩ (fun hHeld => ?_)
    clear hK K
    try simp only [Act.put, List.getElem_toArray, List.getElem_cons_succ, List.getElem_cons_zero, List.setIfInBounds_toArray, List.set_cons_zero, List.set_cons_succ]
    refine wpAnyH_take (i := 19) (v := ?_) rfl (by kernel_rfl) (by kernel_rfl) (by kernel_rfl) (fun _ _ _ h => h) (Or.inl ⟨by rfl, ?_⟩) (by assumption) ?_
    rotate_left
    · (intro w hSw; (try dsimp only at hSw); go_simp; try with_reducible rfl)
    simp only [Act.put, List.getElem_toArray, List.getElem_cons_succ, List.getElem_cons_zero, List.setIfInBounds_toArray, List.set_cons_zero, List.set_cons_succ]
    refine wpAnyH_take (i := 20) (v := ?_) rfl (by kernel_rfl) (by kernel_rfl) (by kernel_rfl) (fun _ _ _ h => h) (Or.inl ⟨by rfl, ?_⟩) (by assumption) ?_
    rotate_left
    · (intro w hSw; (try dsimp only at hSw); go_simp; try with_reducible rfl)
    simp only [Act.put, List.getElem_toArray, List.getElem_cons_succ, List.getElem_cons_zero, List.setIfInBounds_toArray, List.set_cons_zero, List.set_cons_succ]
    refine wpAnyH_take (i := 21) (v := ?_) rfl (by kernel_rfl) (by kernel_rfl) (by kernel_rfl) (fun _ _ _ h => h) (Or.inl ⟨by simp [Region.wanted, yielded], ?_⟩) (by assumption) ?_
    rotate_left
    · (intro w hSw; (try dsimp only at hSw); go_simp; try with_reducible rfl)
    simp only [Act.put, List.getElem_toArray, List.getElem_cons_succ, List.getElem_cons_zero, List.setIfInBounds_toArray, List.set_cons_zero, List.set_cons_succ]
    refine wpAnyH_take (i := 22) (v := ?_) rfl (by kernel_rfl) (by kernel_rfl) (by kernel_rfl) (fun _ _ _ h => h) (Or.inl ⟨by simp [Region.wanted, yielded], ?_⟩) (by assumption) ?_
    rotate_left
    · (intro w hSw; (try dsimp only at hSw); go_simp; try with_reducible rfl)
    simp only [Act.put, List.getElem_toArray, List.getElem_cons_succ, List.getElem_cons_zero, List.setIfInBounds_toArray, List.set_cons_zero, List.set_cons_succ]
    refine wpAnyH_take (i := 23) (v := ?_) rfl (by kernel_rfl) (by kernel_rfl) (by kernel_rfl) (fun _ _ _ h => h) (Or.inl ⟨by simp [Region.wanted, yielded], ?_⟩) (by assumption) ?_
    rotate_left
    · (intro w hSw; (try dsimp only at hSw); go_simp; try with_reducible rfl)
    simp only [Act.put, List.getElem_toArray, List.getElem_cons_succ, List.getElem_cons_zero, List.setIfInBounds_toArray, List.set_cons_zero, List.set_cons_succ]
    refine wpAnyH_take (i := 24) (v := ?_) rfl (by kernel_rfl) (by kernel_rfl) (by kernel_rfl) (fun _ _ _ h => h) (Or.inl ⟨by rfl, ?_⟩) (by assumption) ?_
    rotate_left
    · (intro w hSw; (try dsimp only at hSw); go_simp; try with_reducible rfl)
    simp only [Act.put, List.getElem_toArray, List.getElem_cons_succ, List.getElem_cons_zero, List.setIfInBounds_toArray, List.set_cons_zero, List.set_cons_succ]
    refine wpAnyH_take (i := 25) (v := ?_) rfl (by kernel_rfl) (by kernel_rfl) (by kernel_rfl) (fun _ _ _ h => h) (Or.inl ⟨by rfl, ?_⟩) (by assumption) ?_
    rotate_left
    · (intro w hSw; (try dsimp only at hSw); go_simp; try with_reducible rfl)
    simp only [Act.put, List.getElem_toArray, List.getElem_cons_succ, List.getElem_cons_zero, List.setIfInBounds_toArray, List.set_cons_zero, List.set_cons_succ]
    refine wpAnyH_done (by kernel_rfl) ?_ _
    refine NoPanic.normal ?_
    clear p0 p1 p2 p3 a0 a1 a2 a3 c0 c1 c2 c3
    go_wp2
    go_ret
    exact ⟨rfl, hbw9⟩
  · rw [decide_eq_false hsz] at hsm
    go_enter Tryd.func4, Tryd.ntmps4
    go_wp2_with fail
    generalize (w.alloc (.cells #[.int .i64 kk, .string tt, .slice A m1 d1, .slice A' m2 d2] 26)) = W0 at *
    refine hsm.mono ?_
    rintro e w1 ⟨rfl, hb1⟩
    have hbw1 : Below w.heap.size w w1 := hb0.trans (hb1.mono hb0.size)
    have haw := awake w1 (HG.out.below hbw1) (Nat.le_trans (by omega) hbw1.size)
    clear hsm
    go_wp2_with fail
    refine haw.mono ?_
    rintro e w3 ⟨rfl, hb3⟩
    go_wp2
    go_ret
    exact ⟨rfl, hbw1.trans (hb3.mono hbw1.size)⟩
theorem jsonPrints_holds : Rows.JsonPrintsUptoCardSaid := jsonPrints.card prints_walk
end Go.Proofs.YtjcnjaebmndeiaaDoor
