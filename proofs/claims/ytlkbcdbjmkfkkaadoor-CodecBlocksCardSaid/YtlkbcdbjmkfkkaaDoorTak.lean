/-
  'Take' and 'Decode' of a schema of arrays, longs and nulls.
-/
import Derived.Test.YtlkbcdbjmkfkkaaDoorVas
import Derived.Deep.RegionHeld3
import Derived.IntWalk
namespace Go.Proofs.YtlkbcdbjmkfkkaaDoor
open Go.RowKit Go.Shelf

/-- What 'Take' answers. -/
def TakeP (w : World) (n : Nat) (r : Except Nat (U × List Int × Nat)) (e : Ending) (w' : World) : Prop :=
  Below w.heap.size w w' ∧ match r with
  | .ok (z, ys, _) => ∃ v0 v1 v2 v3 v4, e = .returned (.tuple #[.agg #[v0, v1, v2, v3, v4], .int .i64 ((n - ys.length : Nat) : Int), .int .i64 0]) ∧ UIn w' (fun b => w.heap.size ≤ b) z v0 v1 v2 v3 v4
  | .error f => 0 < f ∧ e = .returned (.tuple #[.agg #[.int .i64 0, .int .i64 0, .slice none 0 0, .slice none 0 0, .slice none 0 0], .int .i64 0, .int .i64 f])
theorem takeP_err {w : World} {n : Nat} {r : Except Nat (U × List Int × Nat)} {f : Nat} {w' : World} (hr : r = .error f) (hf : Below w.heap.size w w') (h : 0 < f) : TakeP w n r (.returned (.tuple #[.agg #[.int .i64 0, .int .i64 0, .slice none 0 0, .slice none 0 0, .slice none 0 0], .int .i64 0, .int .i64 f])) w' := by
  subst hr; exact ⟨hf, h, rfl⟩
theorem takeP_ok {w : World} {n m : Nat} {r : Except Nat (U × List Int × Nat)} {z : U} {ys : List Int} {c : Nat} {v0 v1 v2 v3 v4 : Value} {w' : World} (hr : r = .ok (z, ys, c)) (hf : Below w.heap.size w w') (h : UIn w' (fun b => w.heap.size ≤ b) z v0 v1 v2 v3 v4) (hm : n - ys.length = m) : TakeP w n r (.returned (.tuple #[.agg #[v0, v1, v2, v3, v4], .int .i64 (m : Nat), .int .i64 0])) w' := by
  subst hr hm; exact ⟨hf, v0, v1, v2, v3, v4, rfl, h⟩
theorem fr_below {w w' : World} {n : Nat} (h : Fr w w' (fun k => k < n)) (hn : n ≤ w.heap.size) : Below n w w' := ⟨h.os, h.tape, h.output, h.size, fun k hk => h.block k (by omega) hk⟩

set_option maxHeartbeats 8000000 in
set_option maxRecDepth 100000 in
theorem take_any (S : List Nd) (hS : Kinds S) (w : World) (vs : Value) (A : Option Addr) (n c : Nat) (xs : List Int) (hN : NdsAt w (fun b => b < w.heap.size) S vs) (hr : Rd w w.heap.size A n c xs) (hn : n ≤ 100000) :
    Calls Tryd.prog 14 #[.agg #[vs], .slice A n c] w (TakeP w n (valueM S 64 0 xs 0)) := by
  obtain ⟨As, caps, cs, rfl, _⟩ := id hN
  obtain ⟨W0, hW0⟩ : ∃ W0, (w.alloc (.cells #[.slice As S.length caps] 32)).alloc (.cells #[.int .i64 0, .int .i64 0, .slice none 0 0, .slice none 0 0, .slice none 0 0] 38) = W0 := ⟨_, rfl⟩
  have hb0 : Below w.heap.size w W0 := by rw [← hW0]; exact ((Below.refl _ w).alloc (Nat.le_refl _) _).alloc (by simp) _
  have h0 : W0.heap[w.heap.size]? = some (.cells #[.slice As S.length caps] 32 (0, 0)) := by rw [← hW0]; exact old_at _ (new_at rfl _)
  have h1 : W0.heap[w.heap.size + 1]? = some (.cells #[.int .i64 0, .int .i64 0, .slice none 0 0, .slice none 0 0, .slice none 0 0] 38 (0, 0)) := by rw [← hW0]; exact new_at (by simp) _
  have hs0 : W0.heap.size = w.heap.size + 2 := by rw [← hW0]; simp
  have c0 : W0.cell? ⟨w.heap.size, 0, none⟩ = some (.slice As S.length caps) := cell_of_row _ _ 0 _ _ _ h0
  have hr0 : Rd W0 w.heap.size A n c xs := hr.below hb0
  have hr0l := hr.len
  have HN := Lib.hid hN
  have HB0 := Lib.hid hb0
  have H0 := Lib.hid h0
  have H1 := Lib.hid h1
  have HR0 := Lib.hid hr0
  have HS0 := Lib.hid hs0
  have HL := Lib.hid hr0l
  clear hN hb0 h0 h1 hr0 hr hs0 hr0l
  go_enter Tryd.func14, Tryd.ntmps14
  go_upto_region 1 with fail
  clear hW0
  go_region_held3 (fun w' => w'.cell? ⟨w.heap.size, 0, none⟩ = some (.slice As S.length caps)) (first | exact c0 | exact k1 | exact k2 _) (first | (go_at_call 21; refine (new_any w.heap.size A n c xs W0.drew HR0.out hn).mono ?_; rintro e w1 ⟨q, rfl, hq, hrq, hb1⟩; have k1 : w1.cell? ⟨w.heap.size, 0, none⟩ = some (.slice As S.length caps) := (hb1.cell (p := ⟨w.heap.size, 0, none⟩) (by show w.heap.size < W0.heap.size; have := HS0.out; omega)).trans c0; have k2 : ∀ o, (w1.alloc o).cell? ⟨w.heap.size, 0, none⟩ = some (.slice As S.length caps) := fun o => ((Fr.refl w1 (fun _ => True)).alloc o).cell k1 trivial))
  have hs1 := hb1.size
  have hs0 := HS0.out
  obtain ⟨W2, hW2⟩ : ∃ W2, w1.alloc (.cells #[.slice As S.length caps, .pointer (some ⟨q, 0, none⟩), .int .i64 0] 65) = W2 := ⟨_, rfl⟩
  have hs1' : w.heap.size + 2 ≤ w1.heap.size := by rw [← hs0]; exact hs1
  have hq' : w.heap.size + 2 ≤ q := by rw [← hs0]; exact hq
  have hf2 : Fr w1 W2 (fun _ => True) := by rw [← hW2]; exact (Fr.refl w1 _).alloc _
  have ht2 : Tk W2 w1.heap.size q (.slice As S.length caps) xs 0 := ⟨by rw [← hW2]; exact new_at rfl _, hrq.fr hf2 (fun _ _ => trivial), by have := hrq.lt; omega⟩
  have hf02 : Fr w W2 (fun _ => True) := (below_fr0 HB0.out).trans ((show Fr W0 w1 (fun _ => True) from ⟨hb1.os, hb1.tape, hb1.output, hb1.size, fun k hk _ => hb1.block k hk⟩).trans hf2)
  have hN2 := nds_fr hf02 (fun _ _ => trivial) HN.out
  have hcall : Calls Tryd.prog 22 #[.pointer (some ⟨w1.heap.size, 0, none⟩), .int .i64 0, .int .i64 1] W2 (ValP W2 w1.heap.size q (.slice As S.length caps) (valueM S 64 0 xs 0)) := val_any S hS 64 W2 w1.heap.size q 1 _ 0 xs 0 (fun b => b < w.heap.size) rfl ht2 hN2 (fun b hb => ⟨by have := hf02.size; omega, by omega, by omega⟩) (by decide) (by omega)
  have h12 := hf2.at ((show Fr W0 w1 (fun _ => True) from ⟨hb1.os, hb1.tape, hb1.output, hb1.size, fun k hk _ => hb1.block k hk⟩).at H1.out trivial) trivial
  have H12 := Lib.hid h12
  have HF02 := Lib.hid hf02
  have HS2 : Hid (w1.heap.size < W2.heap.size) := Lib.hid (by rw [← hW2]; simp)
  clear hN2 ht2 hf2 hf02 h12 hrq hb1 k1 k2 c0 hs0 hs1 hq
  show Exit.then _ _ Exit.normal _ _
  rw [hW2]
  clear hW2
  go_wp2_with fail
  refine hcall.mono ?_
  rintro e w3 ⟨hf3, hr3⟩
  clear hcall
  have hb3 : Below w.heap.size w w3 := fr_below ((HF02.out.mono (fun _ _ _ => trivial)).trans (hf3.mono (fun k _ hk => ⟨by omega, by omega⟩))) (Nat.le_refl _)
  have hz3 := hf3.at H12.out (by omega)
  have HB3 := Lib.hid hb3
  have HZ3 := Lib.hid hz3
  have hsz3 := hf3.size
  have hs2 := HS2.out
  have hpl : w1.heap.size < w3.heap.size := by omega
  clear hb3 hz3 hf3 hsz3 hs2
  cases hm : valueM S 64 0 xs 0 with
  | error f =>
    rw [hm] at hr3
    obtain ⟨hf0, rfl⟩ := hr3
    have hfz : ((f : Int) != 0) = true := by simp; omega
    have HM := Lib.hid hm
    clear hm
    have hfa : Fr w3 (w3.alloc (.cells #[.int .i64 0, .int .i64 0, .slice none 0 0, .slice none 0 0, .slice none 0 0] 38)) (fun _ => True) := (Fr.refl w3 _).alloc _
    have hz4 := hfa.at HZ3.out trivial
    have hb4 : Below w.heap.size w (w3.alloc (.cells #[.int .i64 0, .int .i64 0, .slice none 0 0, .slice none 0 0, .slice none 0 0] 38)) := HB3.out.alloc HB3.out.size _
    go_upto_region 3 with fail
    generalize w3.alloc (.cells #[.int .i64 0, .int .i64 0, .slice none 0 0, .slice none 0 0, .slice none 0 0] 38) = w4 at *
    obtain ⟨z0, z1, z2, z3, z4⟩ := cells_5 hz4
    have y0 := frozen_of_row w4 (w.heap.size + 1) 0 _ 38 hz4
    have y1 := frozen_of_row w4 (w.heap.size + 1) 1 _ 38 hz4
    have y2 := frozen_of_row w4 (w.heap.size + 1) 2 _ 38 hz4
    have y3 := frozen_of_row w4 (w.heap.size + 1) 3 _ 38 hz4
    have y4 := frozen_of_row w4 (w.heap.size + 1) 4 _ 38 hz4
    have HZ4 := Lib.hid hz4
    have HB4 := Lib.hid hb4
    clear hz4 hb4 hfa
    go_wp2
    have hn5 := set5_new w4 (w.heap.size + 1) _ _ _ _ _ (.int .i64 0) (.int .i64 0) (.slice none 0 0) (.slice none 0 0) (.slice none 0 0) HZ4.out
    have hfn := set5_fr0 w4 (w.heap.size + 1) (.int .i64 0) (.int .i64 0) (.slice none 0 0) (.slice none 0 0) (.slice none 0 0)
    generalize (((((w4.setCell ⟨w.heap.size + 1, 0, none⟩ (.int .i64 0)).setCell ⟨w.heap.size + 1, 1, none⟩ (.int .i64 0)).setCell ⟨w.heap.size + 1, 2, none⟩ (.slice none 0 0)).setCell ⟨w.heap.size + 1, 3, none⟩ (.slice none 0 0)).setCell ⟨w.heap.size + 1, 4, none⟩ (.slice none 0 0)) = W5 at *
    obtain ⟨r0, r1, r2, r3, r4⟩ := cells_5 hn5
    refine bodyPost_ret (v := .tuple #[.agg #[.int .i64 0, .int .i64 0, .slice none 0 0, .slice none 0 0, .slice none 0 0], .int .i64 0, .int .i64 f]) (by simp [results, Tryd.results14, go_sem, r0, r1, r2, r3, r4]) rfl ?_
    exact takeP_err HM.out (HB4.out.trans (fr_below (hfn.mono (fun k _ hk => by omega)) HB4.out.size)) hf0
  | ok v =>
    obtain ⟨z, ys, cc⟩ := v
    rw [hm] at hr3
    obtain ⟨v0, v1, v2, v3, v4, rfl, hz, htk⟩ := hr3
    obtain ⟨k, nn, B, n0, x0, A1, n1, x1, A2, n2, x2, rfl, rfl, rfl, rfl, rfl⟩ := uin_agg hz
    have hlen := (valueM_len S 64 0 _ _ _ _ _ hm).1
    have HM := Lib.hid hm
    clear hm
    have hfa : Fr w3 (w3.alloc (.cells #[.int .i64 k, .int .i64 nn, .slice B n0 x0, .slice A1 n1 x1, .slice A2 n2 x2] 38)) (fun _ => True) := (Fr.refl w3 _).alloc _
    have hz4 := hfa.at HZ3.out trivial
    have hb4 : Below w.heap.size w (w3.alloc (.cells #[.int .i64 k, .int .i64 nn, .slice B n0 x0, .slice A1 n1 x1, .slice A2 n2 x2] 38)) := HB3.out.alloc HB3.out.size _
    have ho4 : (w3.alloc (.cells #[.int .i64 k, .int .i64 nn, .slice B n0 x0, .slice A1 n1 x1, .slice A2 n2 x2] 38)).heap[w3.heap.size]? = some (.cells #[.int .i64 k, .int .i64 nn, .slice B n0 x0, .slice A1 n1 x1, .slice A2 n2 x2] 38 (0, 0)) := new_at rfl _
    have huz := hz.fr hfa (fun _ _ => trivial)
    have htk4 := htk.fr (N := w3.heap.size) hfa htk.lt.1 htk.lt.2 (fun _ _ => trivial)
    go_upto_region 5 with fail
    generalize w3.alloc (.cells #[.int .i64 k, .int .i64 nn, .slice B n0 x0, .slice A1 n1 x1, .slice A2 n2 x2] 38) = w4 at *
    obtain ⟨z0, z1, z2, z3, z4⟩ := cells_5 hz4
    have y0 := frozen_of_row w4 (w.heap.size + 1) 0 _ 38 hz4
    have y1 := frozen_of_row w4 (w.heap.size + 1) 1 _ 38 hz4
    have y2 := frozen_of_row w4 (w.heap.size + 1) 2 _ 38 hz4
    have y3 := frozen_of_row w4 (w.heap.size + 1) 3 _ 38 hz4
    have y4 := frozen_of_row w4 (w.heap.size + 1) 4 _ 38 hz4
    obtain ⟨u0, u1, u2, u3, u4⟩ := cells_5 ho4
    have t1 := htk4.cells.2.1
    have hrdl : Rdr w4.drew q ys 0 := htk4.rdr
    have HZ4 := Lib.hid hz4
    have HB4 := Lib.hid hb4
    have HUZ := Lib.hid huz
    clear hz4 hb4 hfa ho4 huz htk4 hz htk
    have e1 : IntKind.i64.wrap ((n : Int) - (ys.length : Int)) = ((n - ys.length : Nat) : Int) := (IntWalk.i64_in _ (by have := HL.out; omega)).trans (by have := HL.out; omega)
    refine wp_region_noPanic ?_
    refine wp_region_held_drew (S := (fun w' => w'.cell? ⟨w3.heap.size, 0, none⟩ = some (.int .i64 k) ∧ w'.cell? ⟨w3.heap.size, 1, none⟩ = some (.int .i64 nn) ∧ w'.cell? ⟨w3.heap.size, 2, none⟩ = some (.slice B n0 x0) ∧ w'.cell? ⟨w3.heap.size, 3, none⟩ = some (.slice A1 n1 x1) ∧ w'.cell? ⟨w3.heap.size, 4, none⟩ = some (.slice A2 n2 x2) ∧ w'.cell? ⟨w1.heap.size, 1, none⟩ = some (.pointer (some ⟨q, 0, none⟩)))) (by kernel_rfl) ⟨u0, u1, u2, u3, u4, t1⟩ (fun hHeld => ?_)
    refine wpAnyH_take (i := 0) (v := ?_) rfl (by kernel_rfl) (by kernel_rfl) (by kernel_rfl) (fun _ _ _ h => h) (Or.inl ⟨by rfl, ?_⟩) (by assumption) ?_
    rotate_left
    · (intro w hSw; (try dsimp only at hSw); go_simp; try with_reducible rfl)
    simp only [Act.put, List.getElem_toArray, List.getElem_cons_succ, List.getElem_cons_zero, List.setIfInBounds_toArray, List.set_cons_zero, List.set_cons_succ]
    refine wpAnyH_take (i := 1) (v := ?_) rfl (by kernel_rfl) (by kernel_rfl) (by kernel_rfl) (fun _ _ _ h => h) (Or.inl ⟨by rfl, ?_⟩) (by assumption) ?_
    rotate_left
    · (intro w hSw; (try dsimp only at hSw); go_simp; try with_reducible rfl)
    simp only [Act.put, List.getElem_toArray, List.getElem_cons_succ, List.getElem_cons_zero, List.setIfInBounds_toArray, List.set_cons_zero, List.set_cons_succ]
    refine wpAnyH_take (i := 2) (v := ?_) rfl (by kernel_rfl) (by kernel_rfl) (by kernel_rfl) (fun _ _ _ h => h) (Or.inl ⟨by rfl, ?_⟩) (by assumption) ?_
    rotate_left
    · (intro w hSw; (try dsimp only at hSw); go_simp; try with_reducible rfl)
    simp only [Act.put, List.getElem_toArray, List.getElem_cons_succ, List.getElem_cons_zero, List.setIfInBounds_toArray, List.set_cons_zero, List.set_cons_succ]
    refine wpAnyH_take (i := 3) (v := ?_) rfl (by kernel_rfl) (by kernel_rfl) (by kernel_rfl) (fun _ _ _ h => h) (Or.inl ⟨by rfl, ?_⟩) (by assumption) ?_
    rotate_left
    · (intro w hSw; (try dsimp only at hSw); go_simp; try with_reducible rfl)
    simp only [Act.put, List.getElem_toArray, List.getElem_cons_succ, List.getElem_cons_zero, List.setIfInBounds_toArray, List.set_cons_zero, List.set_cons_succ]
    refine wpAnyH_take (i := 4) (v := ?_) rfl (by kernel_rfl) (by kernel_rfl) (by kernel_rfl) (fun _ _ _ h => h) (Or.inl ⟨by rfl, ?_⟩) (by assumption) ?_
    rotate_left
    · (intro w hSw; (try dsimp only at hSw); go_simp; try with_reducible rfl)
    simp only [Act.put, List.getElem_toArray, List.getElem_cons_succ, List.getElem_cons_zero, List.setIfInBounds_toArray, List.set_cons_zero, List.set_cons_succ]
    refine wpAnyH_take (i := 5) (v := ?_) rfl (by kernel_rfl) (by kernel_rfl) (by kernel_rfl) (fun _ _ _ h => h) (Or.inl ⟨by rfl, ?_⟩) (by assumption) ?_
    rotate_left
    · (intro w hSw; (try dsimp only at hSw); go_simp; try with_reducible rfl)
    simp only [Act.put, List.getElem_toArray, List.getElem_cons_succ, List.getElem_cons_zero, List.setIfInBounds_toArray, List.set_cons_zero, List.set_cons_succ]
    refine wpAnyH_take (i := 6) (v := ?_) rfl (by kernel_rfl) (by kernel_rfl) (by kernel_rfl) (fun _ _ _ h => h) (Or.inl ⟨by rfl, ?_⟩) (by assumption) ?_
    rotate_left
    · (intro w hSw; (try dsimp only at hSw); go_simp; try with_reducible rfl)
    simp only [Act.put, List.getElem_toArray, List.getElem_cons_succ, List.getElem_cons_zero, List.setIfInBounds_toArray, List.set_cons_zero, List.set_cons_succ]
    refine wpAnyH_ready (rs := [7]) (by kernel_rfl) (by simp) ?_
    refine AllReadyH.cons rfl (fun K hK => ?_) AllReadyH.nil
    go_simp
    refine Calls.mono (left_rd q ys 0 w4.drew hrdl) ?_
    rintro e w5 ⟨rfl, rfl⟩
    refine hK.out _ _ ⟨u0, u1, u2, u3, u4, t1⟩ (fun hHeld => ?_)
    clear hK K
    try simp only [Act.put, List.getElem_toArray, List.getElem_cons_succ, List.getElem_cons_zero, List.setIfInBounds_toArray, List.set_cons_zero, List.set_cons_succ]
    refine wpAnyH_take (i := 8) (v := ?_) rfl (by kernel_rfl) (by kernel_rfl) (by kernel_rfl) (fun _ _ _ h => h) (Or.inl ⟨by rfl, ?_⟩) (by assumption) ?_
    rotate_left
    · (intro w hSw; (try dsimp only at hSw); go_simp; try with_reducible rfl)
    simp only [Act.put, List.getElem_toArray, List.getElem_cons_succ, List.getElem_cons_zero, List.setIfInBounds_toArray, List.set_cons_zero, List.set_cons_succ]
    clear e1
    refine wpAnyH_ready (rs := [9]) (by kernel_rfl) (by simp) ?_
    refine AllReadyH.cons rfl (fun K hK => ?_) AllReadyH.nil
    go_simp
    have hn5 := set5_new w4 (w.heap.size + 1) _ _ _ _ _ (.int .i64 k) (.int .i64 nn) (.slice B n0 x0) (.slice A1 n1 x1) (.slice A2 n2 x2) HZ4.out
    have hfn := set5_fr0 w4 (w.heap.size + 1) (.int .i64 k) (.int .i64 nn) (.slice B n0 x0) (.slice A1 n1 x1) (.slice A2 n2 x2)
    generalize (((((w4.setCell ⟨w.heap.size + 1, 0, none⟩ (.int .i64 k)).setCell ⟨w.heap.size + 1, 1, none⟩ (.int .i64 nn)).setCell ⟨w.heap.size + 1, 2, none⟩ (.slice B n0 x0)).setCell ⟨w.heap.size + 1, 3, none⟩ (.slice A1 n1 x1)).setCell ⟨w.heap.size + 1, 4, none⟩ (.slice A2 n2 x2)) = W5 at *
    have kS := hfn.cell (b := w3.heap.size) (o := 0) u0 (by omega)
    have kS1 := hfn.cell (b := w3.heap.size) (o := 1) u1 (by omega)
    have kS2 := hfn.cell (b := w3.heap.size) (o := 2) u2 (by omega)
    have kS3 := hfn.cell (b := w3.heap.size) (o := 3) u3 (by omega)
    have kS4 := hfn.cell (b := w3.heap.size) (o := 4) u4 (by omega)
    have kS5 := hfn.cell (b := w1.heap.size) (o := 1) t1 (by omega)
    refine hK.out _ _ ⟨kS, kS1, kS2, kS3, kS4, kS5⟩ (fun hHeld => ?_)
    clear hK K
    try simp only [Act.put, List.getElem_toArray, List.getElem_cons_succ, List.getElem_cons_zero, List.setIfInBounds_toArray, List.set_cons_zero, List.set_cons_succ]
    refine wpAnyH_take (i := 10) (v := ?_) rfl (by kernel_rfl) (by kernel_rfl) (by kernel_rfl) (fun _ _ _ h => h) (Or.inl ⟨by rfl, ?_⟩) (by assumption) ?_
    rotate_left
    · (intro w hSw; (try dsimp only at hSw); go_simp; try with_reducible rfl)
    simp only [Act.put, List.getElem_toArray, List.getElem_cons_succ, List.getElem_cons_zero, List.setIfInBounds_toArray, List.set_cons_zero, List.set_cons_succ]
    refine wpAnyH_take (i := 11) (v := ?_) rfl (by kernel_rfl) (by kernel_rfl) (by kernel_rfl) (fun _ _ _ h => h) (Or.inl ⟨by rfl, ?_⟩) (by assumption) ?_
    rotate_left
    · (intro w hSw; (try dsimp only at hSw); go_simp; try with_reducible rfl)
    simp only [Act.put, List.getElem_toArray, List.getElem_cons_succ, List.getElem_cons_zero, List.setIfInBounds_toArray, List.set_cons_zero, List.set_cons_succ]
    refine wpAnyH_done (by kernel_rfl) ?_ _
    refine NoPanic.normal ?_
    clear u0 u1 u2 u3 u4 t1 kS kS1 kS2 kS3 kS4 kS5 hHeld z0 z1 z2 z3 z4 y0 y1 y2 y3 y4
    have hn6 : W5.drew.heap[w.heap.size + 1]? = some (.cells #[.int .i64 k, .int .i64 nn, .slice B n0 x0, .slice A1 n1 x1, .slice A2 n2 x2] 38 (0, 0)) := hn5
    have hf6 : Fr w4 W5.drew (fun k => k ≠ w.heap.size + 1) := hfn.drewN 1
    clear hn5 hfn
    generalize W5.drew = W6 at *
    obtain ⟨r0, r1, r2, r3, r4⟩ := cells_5 hn6
    generalize hmm : n - ys.length = m at *
    have HMM := Lib.hid hmm
    clear hmm
    go_wp2
    refine bodyPost_ret (v := .tuple #[.agg #[.int .i64 k, .int .i64 nn, .slice B n0 x0, .slice A1 n1 x1, .slice A2 n2 x2], .int .i64 (m : Nat), .int .i64 0]) (by simp [results, Tryd.results14, go_sem, r0, r1, r2, r3, r4]) rfl ?_
    have hs2 := HS2.out
    exact takeP_ok HM.out (HB4.out.trans (fr_below (hf6.mono (fun k _ hk => by omega)) HB4.out.size)) ((HUZ.out.fr hf6 (fun b hb => by omega)).mono (fun b _ hb => by omega)) HMM.out
end Go.Proofs.YtlkbcdbjmkfkkaaDoor
