/-
  'value' of what has nothing within it; 'value'.
-/
import Derived.Test.YtlkbcdbjmkfkkaaDoorVam
namespace Go.Proofs.YtlkbcdbjmkfkkaaDoor
open Go.RowKit Go.Shelf

theorem wf_i64 {n : Int} (h0 : -9223372036854775808 ≤ n) (h1 : n ≤ 9223372036854775807) : (Lit.int .i64 n).wf = true := by
  have e1 : IntKind.i64.min = -9223372036854775808 := by decide
  have e2 : IntKind.i64.max = 9223372036854775807 := by decide
  simp [Lit.wf, e1, e2]; omega
theorem singleM_wf {nd : Nd} {xs ys : List Int} {n : Int} (h : singleM nd xs = .ok (n, ys)) : (Lit.int .i64 n).wf = true := by
  unfold singleM at h
  split at h
  · have := (numberM_len h).2
    unfold minI maxI at this
    exact wf_i64 this.1 this.2
  · cases h; decide
theorem uin_leaf {ok : Nat → Prop} {w : World} {k n : Int} (hk : (Lit.int .i64 k).wf = true) (hn : (Lit.int .i64 n).wf = true) : UIn w ok (.mk k n [] [] []) (.int .i64 k) (.int .i64 n) (.slice none 0 0) (.slice none 0 0) (.slice none 0 0) :=
  .mk k n [] [] [] none none none 0 0 0 (fun _ _ => undef) hk hn (fun x hx => by simp at hx) (fun s hs => by simp at hs) ⟨Nat.le_refl _, by unfold maxLen; omega⟩ ⟨Nat.le_refl _, by unfold maxLen; omega⟩ ⟨Nat.le_refl _, by unfold maxLen; omega⟩ (fun h => absurd h (by simp)) (fun h => absurd h (by simp)) (fun h => absurd h (by simp)) (fun i z hz => by simp at hz)

set_option maxHeartbeats 8000000 in
set_option maxRecDepth 100000 in
theorem val_sing (S : List Nd) (d : Nat) (w : World) (p q dep : Nat) (nv : Value) (m : Nat) (nd : Nd) (xs : List Int) (cnt : Nat) (okN : Nat → Prop) (hd : dep + 1 + d = 65) (ht : Tk w p q nv xs cnt) (hN : NdsAt w okN S nv) (hok : ∀ b, okN b → b < w.heap.size ∧ b ≠ p ∧ b ≠ q) (hnd : S[m]? = some nd) (hkd : nd.kind = 1 ∨ nd.kind = 4) (hlim : cnt < 10000) :
    Calls Tryd.prog 22 #[.pointer (some ⟨p, 0, none⟩), .int .i64 (m : Nat), .int .i64 dep] w (ValP w p q nv (valueM S (d + 1) m xs cnt)) := by
  have hlt := ht.lt
  obtain ⟨t0, t1, t2, tf⟩ := ht.cells
  have HN := Lib.hid hN
  have HT := Lib.hid ht
  obtain ⟨A, cap, c, rfl, hn1, hn2, hn3, hn4⟩ := hN
  have HN3 := Lib.hid hn3
  have HN4 := Lib.hid hn4
  have HOK := Lib.hid hok
  clear hn3 hn4 hok ht
  obtain ⟨W0, hW0⟩ : ∃ W0, w.alloc (.cells #[.int .i64 0, .int .i64 0, .slice none 0 0, .slice none 0 0, .slice none 0 0] 38) = W0 := ⟨_, rfl⟩
  have hf0 : Fr w W0 (fun _ => True) := by rw [← hW0]; exact (Fr.refl w _).alloc _
  have hz0 : W0.heap[w.heap.size]? = some (.cells #[.int .i64 0, .int .i64 0, .slice none 0 0, .slice none 0 0, .slice none 0 0] 38 (0, 0)) := by rw [← hW0]; exact new_at rfl _
  have hfe : ∀ W', Fr W0 W' (fun k => k ≠ w.heap.size) → Fr w W' (fun k => k ≠ p ∧ k ≠ q) := fun W' h => fr_more (hf0.mono (fun _ _ _ => trivial)) h (fun k hk _ => by omega)
  have HFE := Lib.hid hfe
  have HF0 := Lib.hid hf0
  have HZ0 := Lib.hid hz0
  obtain ⟨z0, z1, z2, z3, z4⟩ := cells_5 hz0
  have y0 := frozen_of_row W0 w.heap.size 0 _ 38 hz0
  have y1 := frozen_of_row W0 w.heap.size 1 _ 38 hz0
  have y2 := frozen_of_row W0 w.heap.size 2 _ 38 hz0
  have y3 := frozen_of_row W0 w.heap.size 3 _ 38 hz0
  have y4 := frozen_of_row W0 w.heap.size 4 _ 38 hz0
  have hn5 := set5_new W0 w.heap.size _ _ _ _ _ (.int .i64 0) (.int .i64 0) (.slice none 0 0) (.slice none 0 0) (.slice none 0 0) hz0
  have hfn := set5_fr0 W0 w.heap.size (.int .i64 0) (.int .i64 0) (.slice none 0 0) (.slice none 0 0) (.slice none 0 0)
  have HN5 := Lib.hid hn5
  have HFN := Lib.hid hfn
  have s0 := hf0.cell t0 trivial
  have s1 := hf0.cell t1 trivial
  have s2 := hf0.cell t2 trivial
  clear hfe hf0 hz0 hn5 hfn t0 t1 t2 tf
  have HND := Lib.hid hnd
  have hml : m < S.length := (List.getElem?_eq_some_iff.1 hnd).1
  have hd0 : decide ((m : Int) < 0) = false := decide_eq_false (by omega)
  have hd1 : decide ((S.length : Int) ≤ (m : Int)) = false := decide_eq_false (by omega)
  have hd2 : decide ((64 : Int) < (dep : Int)) = false := decide_eq_false (by omega)
  have hd4 : decide (S.length ≤ m) = false := decide_eq_false (by omega)
  have HD := Lib.hid hd
  have hdep : dep ≤ 64 := by omega
  have hd3 : decide ((10000 : Int) ≤ (cnt : Int)) = false := decide_eq_false (by omega)
  have g1 : (nd.kind == 9) = false := by rcases hkd with h | h <;> rw [h] <;> rfl
  have g2 : (nd.kind == 11) = false := by rcases hkd with h | h <;> rw [h] <;> rfl
  have g3 : (nd.kind == 12) = false := by rcases hkd with h | h <;> rw [h] <;> rfl
  have g4 : (nd.kind == 13) = false := by rcases hkd with h | h <;> rw [h] <;> rfl
  have HKD := Lib.hid hkd
  clear hd hnd hkd
  have hndin := HN4.out m nd HND.out
  have e0 := hndin.kind
  have e7 := hndin.items
  have hiw := hndin.itemsw
  have HKW := Lib.hid hndin.kindw
  have e1 := hndin.name
  obtain ⟨Aal, cal, e2, _⟩ := hndin.al
  obtain ⟨Afs, cfs, _, e3, _⟩ := hndin.fs
  obtain ⟨Asy, csy, e4, _⟩ := hndin.sy
  have e5 := hndin.has
  have e6 := hndin.dflt
  obtain ⟨Abr, cbr, e8, _⟩ := hndin.br
  have e9 := hndin.size
  obtain ⟨gS, oS, rfl, hgS, hcS⟩ := HN3.out (by omega)
  have hgo := HOK.out gS hgS
  have hmi : (m : Int) < (S.length : Int) := by omega
  obtain ⟨W2, hW2⟩ : ∃ W2, (W0.setCell ⟨p, 2, none⟩ (.int .i64 ((cnt : Int) + 1))).alloc (.cells #[.int .i64 0, .int .i64 0, .slice none 0 0, .slice none 0 0, .slice none 0 0] 38) = W2 := ⟨_, rfl⟩
  have hW0s : W0.heap.size = w.heap.size + 1 := by rw [← hW0]; simp
  have hf1 : Fr W0 (W0.setCell ⟨p, 2, none⟩ (.int .i64 ((cnt : Int) + 1))) (fun k => k ≠ p) := set_fr W0 p 2 _
  have hf2 : Fr W0 W2 (fun k => k ≠ p) := by rw [← hW2]; exact hf1.alloc _
  have hp2 : W2.heap[p]? = some (.cells #[.slice (some ⟨gS, oS, none⟩) S.length cap, .pointer (some ⟨q, 0, none⟩), .int .i64 ((cnt : Int) + 1)] 65 (0, 0)) := by
    rw [← hW2]
    refine old_at _ ?_
    have := heap_setCell_same W0 p 2 _ 65 (.int .i64 ((cnt : Int) + 1)) (HF0.out.at HT.out.box trivial)
    simpa using this
  have hq2 : Rdr W2 q xs 0 := by
    have h1 := HT.out.rdr.fr HF0.out (fun _ _ => trivial)
    obtain ⟨A', c', hh, hr, hl⟩ := h1
    exact ⟨A', c', hf2.at hh (fun e => HT.out.ne e.symm), rd_far2 hr (HF0.out.at HT.out.box trivial) (fun a ha hne => World.cell?_of_block (hf2.block _ (by have := blk_lt hh; omega) hne)) (by simp) (by simp) (by simp), hl⟩
  have ht2 : Tk W2 p q (.slice (some ⟨gS, oS, none⟩) S.length cap) xs (cnt + 1) := ⟨by rw [hp2]; rfl, hq2, HT.out.ne⟩
  have hW2s : W2.heap.size = w.heap.size + 2 := by rw [← hW2]; simp [hW0s]
  have hfw2 : Fr w W2 (fun k => k ≠ p) := (HF0.out.mono (fun _ _ _ => trivial)).trans hf2
  have ncell : ∀ j, j < 10 → W2.cell? ⟨gS, oS + m * 10 + j, none⟩ = some (c m j) := fun j hj => by
    have := hfw2.cell (hcS m j hml hj) hgo.2.1
    rwa [show oS + (10 * m + j) = oS + m * 10 + j by omega] at this
  have n0 := ncell 0 (by omega)
  rw [Nat.add_zero, e0] at n0
  have n1 := ncell 1 (by omega)
  rw [e1] at n1
  have n2 := ncell 2 (by omega)
  rw [e2] at n2
  have n3 := ncell 3 (by omega)
  rw [e3] at n3
  have n4 := ncell 4 (by omega)
  rw [e4] at n4
  have n5 := ncell 5 (by omega)
  rw [e5] at n5
  have n6 := ncell 6 (by omega)
  rw [e6] at n6
  have n7 := ncell 7 (by omega)
  rw [e7] at n7
  have n8 := ncell 8 (by omega)
  rw [e8] at n8
  have n9 := ncell 9 (by omega)
  rw [e9] at n9
  have x0 : W2.cell? ⟨p, 0, none⟩ = some (.slice (some ⟨gS, oS, none⟩) S.length cap) := cell_of_row _ _ 0 _ _ _ hp2
  obtain ⟨W3, hW3⟩ : ∃ W3, W2.alloc (.cells #[.int .i64 nd.kind, .string nd.name, .slice Aal nd.al.length cal, .slice Afs nd.fs.length cfs, .slice Asy nd.sy.length csy, .bool nd.has, .string nd.dflt, .int .i64 nd.items, .slice Abr nd.br.length cbr, .int .i64 nd.size] 29) = W3 := ⟨_, rfl⟩
  have hf3 : Fr W2 W3 (fun _ => True) := by rw [← hW3]; exact (Fr.refl W2 _).alloc _
  have HF3 := Lib.hid hf3
  have hk3 : W3.heap[w.heap.size + 2]? = some (.cells #[.int .i64 nd.kind, .string nd.name, .slice Aal nd.al.length cal, .slice Afs nd.fs.length cfs, .slice Asy nd.sy.length csy, .bool nd.has, .string nd.dflt, .int .i64 nd.items, .slice Abr nd.br.length cbr, .int .i64 nd.size] 29 (0, 0)) := by rw [← hW3]; exact new_at hW2s _
  have k0 : W3.cell? ⟨w.heap.size + 2, 0, none⟩ = some (.int .i64 nd.kind) := cell_of_row _ _ 0 _ _ _ hk3
  have k1 : W3.cell? ⟨w.heap.size + 2, 1, none⟩ = some (.string nd.name) := cell_of_row _ _ 1 _ _ _ hk3
  have k2 : W3.cell? ⟨w.heap.size + 2, 2, none⟩ = some (.slice Aal nd.al.length cal) := cell_of_row _ _ 2 _ _ _ hk3
  have k3 : W3.cell? ⟨w.heap.size + 2, 3, none⟩ = some (.slice Afs nd.fs.length cfs) := cell_of_row _ _ 3 _ _ _ hk3
  have k4 : W3.cell? ⟨w.heap.size + 2, 4, none⟩ = some (.slice Asy nd.sy.length csy) := cell_of_row _ _ 4 _ _ _ hk3
  have k5 : W3.cell? ⟨w.heap.size + 2, 5, none⟩ = some (.bool nd.has) := cell_of_row _ _ 5 _ _ _ hk3
  have k6 : W3.cell? ⟨w.heap.size + 2, 6, none⟩ = some (.string nd.dflt) := cell_of_row _ _ 6 _ _ _ hk3
  have k7 : W3.cell? ⟨w.heap.size + 2, 7, none⟩ = some (.int .i64 nd.items) := cell_of_row _ _ 7 _ _ _ hk3
  have k8 : W3.cell? ⟨w.heap.size + 2, 8, none⟩ = some (.slice Abr nd.br.length cbr) := cell_of_row _ _ 8 _ _ _ hk3
  have k9 : W3.cell? ⟨w.heap.size + 2, 9, none⟩ = some (.int .i64 nd.size) := cell_of_row _ _ 9 _ _ _ hk3
  have hz3 : W3.heap[w.heap.size]? = some (.cells #[.int .i64 0, .int .i64 0, .slice none 0 0, .slice none 0 0, .slice none 0 0] 38 (0, 0)) := hf3.at (hf2.at HZ0.out (by omega)) trivial
  have ho3 : W3.heap[w.heap.size + 1]? = some (.cells #[.int .i64 0, .int .i64 0, .slice none 0 0, .slice none 0 0, .slice none 0 0] 38 (0, 0)) := hf3.at (by rw [← hW2]; exact new_at (by simp [hW0s]) _) trivial
  have HZ3 := Lib.hid hz3
  have HO3 := Lib.hid ho3
  have ht3 := ht2.fr (N := w.heap.size) hf3 hlt.1 hlt.2 (fun _ _ => trivial)
  have hfw3 : Fr w W3 (fun k => k ≠ p) := hfw2.trans (hf3.mono (fun _ _ _ => trivial))
  have HFW3 := Lib.hid (hfw3.mono (ok' := fun k => k ≠ p ∧ k ≠ q) (fun _ _ h => h.1))
  have hN3' : NdsAt W3 okN S (.slice (some ⟨gS, oS, none⟩) S.length cap) := nds_fr hfw3 (fun b hb => (HOK.out b hb).2.1) HN.out
  have hW3s : W3.heap.size = w.heap.size + 3 := by rw [← hW3]; simp [hW2s]
  have HOK3 : Hid (∀ b, okN b → b < W3.heap.size ∧ b ≠ p ∧ b ≠ q) := Lib.hid (fun b hb => ⟨by have := HOK.out b hb; omega, (HOK.out b hb).2⟩)
  have sf := frozen_of_row W0 p 2 _ 65 (HF0.out.at HT.out.box trivial)
  have hcall := single_any W3 p q _ nd (c m) xs (cnt + 1) e0 HKD.out ht3
  simp only [ndv, e0, e1, e2, e3, e4, e5, e6, e7, e8, e9] at hcall
  have HCALL := Lib.hid hcall
  clear hcall ncell hp2 hq2 ht2 hf1 hf2 hf3 hcS hndin HN3 HN4 hfw2 hfw3 hN3' hk3 hgo hz3 ho3 hiw e0 e7 e1 e2 e3 e4 e5 e6 e8 e9
  have HW2s := Lib.hid hW2s
  have HW3s := Lib.hid hW3s
  have HW0s := Lib.hid hW0s
  clear hW2s hW3s hW0s
  have HW2 := Lib.hid hW2
  have HW3 := Lib.hid hW3
  clear hW2 hW3
  go_enter Tryd.func22, Tryd.ntmps22
  go_upto_region 7 with fail
  rw [HW2.out]
  go_upto_region 8 with fail
  rw [HW3.out]
  have HNC : Hid (W3.cell? ⟨gS, oS + m * 10, none⟩ = some (.int .i64 nd.kind)) := Lib.hid (HF3.out.cell n0 trivial)
  rw [HW0s.out, HW2s.out]
  clear n0 n1 n2 n3 n4 n5 n6 n7 n8 n9 x0 s0 s1 s2 sf z0 z1 z2 z3 z4 y0 y1 y2 y3 y4
  go_wp2_with fail
  refine HCALL.out.mono ?_
  rintro e w4 ⟨hf4, hr⟩
  clear HCALL k0 k1 k2 k3 k4 k5 k6 k7 k8 k9
  have hz4 := hf4.at HZ3.out (by omega)
  have ho4 := hf4.at HO3.out (by omega)
  have HBF := Lib.hid hf4
  have hz4s := hf4.size
  obtain ⟨z0, z1, z2, z3, z4⟩ := cells_5 hz4
  have y0 := frozen_of_row w4 w.heap.size 0 _ 38 hz4
  have y1 := frozen_of_row w4 w.heap.size 1 _ 38 hz4
  have y2 := frozen_of_row w4 w.heap.size 2 _ 38 hz4
  have y3 := frozen_of_row w4 w.heap.size 3 _ 38 hz4
  have y4 := frozen_of_row w4 w.heap.size 4 _ 38 hz4
  obtain ⟨u0, u1, u2, u3, u4⟩ := cells_5 ho4
  have x0 := frozen_of_row w4 (w.heap.size + 1) 0 _ 38 ho4
  have x1 := frozen_of_row w4 (w.heap.size + 1) 1 _ 38 ho4
  have x2 := frozen_of_row w4 (w.heap.size + 1) 2 _ 38 ho4
  have x3 := frozen_of_row w4 (w.heap.size + 1) 3 _ 38 ho4
  have x4 := frozen_of_row w4 (w.heap.size + 1) 4 _ 38 ho4
  have HZ4 := Lib.hid hz4
  have HO4 := Lib.hid ho4
  have HFW : Hid (Fr w w4 (fun k => k ≠ p ∧ k ≠ q)) := Lib.hid (HFW3.out.trans (hf4.mono (fun k _ hk => hk.2)))
  clear hf4 hz4 ho4
  have hfin : ∀ (n : Int) (f : Nat), True := fun _ _ => trivial
  have ho5 := fun n : Int => set5_new w4 (w.heap.size + 1) _ _ _ _ _ (.int .i64 0) (.int .i64 n) (.slice none 0 0) (.slice none 0 0) (.slice none 0 0) HO4.out
  have HO5 := Lib.hid ho5
  clear ho5 hfin
  cases hm : singleM nd xs with
  | error f =>
    rw [hm] at hr
    obtain ⟨hf0, n, rfl⟩ := hr
    have HM : Hid (valueM S (d + 1) m xs cnt = .error f) := Lib.hid (by rw [valueM_sing HND.out (by omega) HKD.out, hm])
    have hfz : ((f : Int) != 0) = true := by simp; omega
    clear hm
    go_upto_region 18 with fail
    have hf5 := set5_fr0 w4 (w.heap.size + 1) (.int .i64 0) (.int .i64 n) (.slice none 0 0) (.slice none 0 0) (.slice none 0 0)
    have hz5 := hf5.at HZ4.out (by omega)
    have HF5 := Lib.hid (fr_more HFW.out hf5 (fun k hk _ => by omega))
    clear z0 z1 z2 z3 z4 y0 y1 y2 y3 y4 u0 u1 u2 u3 u4 x0 x1 x2 x3 x4 hf5
    generalize (((((w4.setCell ⟨w.heap.size + 1, 0, none⟩ (.int .i64 0)).setCell ⟨w.heap.size + 1, 1, none⟩ (.int .i64 n)).setCell ⟨w.heap.size + 1, 2, none⟩ (.slice none 0 0)).setCell ⟨w.heap.size + 1, 3, none⟩ (.slice none 0 0)).setCell ⟨w.heap.size + 1, 4, none⟩ (.slice none 0 0)) = w5 at *
    obtain ⟨z0, z1, z2, z3, z4⟩ := cells_5 hz5
    have y0 := frozen_of_row w5 w.heap.size 0 _ 38 hz5
    have y1 := frozen_of_row w5 w.heap.size 1 _ 38 hz5
    have y2 := frozen_of_row w5 w.heap.size 2 _ 38 hz5
    have y3 := frozen_of_row w5 w.heap.size 3 _ 38 hz5
    have y4 := frozen_of_row w5 w.heap.size 4 _ 38 hz5
    have HZ5 := Lib.hid hz5
    clear hz5
    go_wp2
    have hn5 := set5_new w5 w.heap.size _ _ _ _ _ (.int .i64 0) (.int .i64 0) (.slice none 0 0) (.slice none 0 0) (.slice none 0 0) HZ5.out
    have hfn := set5_fr0 w5 w.heap.size (.int .i64 0) (.int .i64 0) (.slice none 0 0) (.slice none 0 0) (.slice none 0 0)
    generalize (((((w5.setCell ⟨w.heap.size, 0, none⟩ (.int .i64 0)).setCell ⟨w.heap.size, 1, none⟩ (.int .i64 0)).setCell ⟨w.heap.size, 2, none⟩ (.slice none 0 0)).setCell ⟨w.heap.size, 3, none⟩ (.slice none 0 0)).setCell ⟨w.heap.size, 4, none⟩ (.slice none 0 0)) = W5 at *
    obtain ⟨r0, r1, r2, r3, r4⟩ := cells_5 hn5
    refine bodyPost_ret (v := .tuple #[.agg #[.int .i64 0, .int .i64 0, .slice none 0 0, .slice none 0 0, .slice none 0 0], .int .i64 f]) (by simp [results, Tryd.results22, go_sem, r0, r1, r2, r3, r4]) rfl ?_
    exact valP_err HM.out (fr_more HF5.out hfn (fun k hk _ => by omega)) hf0
  | ok v =>
    obtain ⟨n, ys⟩ := v
    rw [hm] at hr
    obtain ⟨rfl, htk⟩ := hr
    have hnw : (Lit.int .i64 n).wf = true := singleM_wf hm
    have HM : Hid (valueM S (d + 1) m xs cnt = .ok (.mk nd.kind n [] [] [], ys, cnt + 1)) := Lib.hid (by rw [valueM_sing HND.out (by omega) HKD.out, hm])
    have HTK := Lib.hid htk
    have HUZ := Lib.hid (fun W : World => uin_leaf (w := W) (n := n) (ok := fun b => w.heap.size ≤ b) HKW.out hnw)
    have hgo := HOK.out gS hgS
    have nc4 := HBF.out.cell HNC.out hgo.2.2
    have pc4 := htk.cells.1
    clear hm htk hnw
    go_upto_region 18 with fail
    have hf5 := set5_fr0 w4 (w.heap.size + 1) (.int .i64 0) (.int .i64 n) (.slice none 0 0) (.slice none 0 0) (.slice none 0 0)
    have hz5 := hf5.at HZ4.out (by omega)
    have ho5 := HO5.out n
    have nc5 := hf5.cell nc4 (by omega)
    have pc5 := hf5.cell pc4 (by omega)
    have HF5 := Lib.hid hf5
    clear z0 z1 z2 z3 z4 y0 y1 y2 y3 y4 u0 u1 u2 u3 u4 x0 x1 x2 x3 x4 hf5 nc4 pc4 HO5
    generalize (((((w4.setCell ⟨w.heap.size + 1, 0, none⟩ (.int .i64 0)).setCell ⟨w.heap.size + 1, 1, none⟩ (.int .i64 n)).setCell ⟨w.heap.size + 1, 2, none⟩ (.slice none 0 0)).setCell ⟨w.heap.size + 1, 3, none⟩ (.slice none 0 0)).setCell ⟨w.heap.size + 1, 4, none⟩ (.slice none 0 0)) = w5 at *
    obtain ⟨u0, u1, u2, u3, u4⟩ := cells_5 ho5
    have x0 := frozen_of_row w5 (w.heap.size + 1) 0 _ 38 ho5
    have HZ5 := Lib.hid hz5
    have HO5 := Lib.hid ho5
    clear hz5 ho5
    go_upto_region 21 with fail
    have hf6 := set_fr w5 (w.heap.size + 1) 0 (.int .i64 nd.kind)
    have hz6 := hf6.at HZ5.out (by omega)
    have ho6 : (w5.setCell ⟨w.heap.size + 1, 0, none⟩ (.int .i64 nd.kind)).heap[w.heap.size + 1]? = some (.cells #[.int .i64 nd.kind, .int .i64 n, .slice none 0 0, .slice none 0 0, .slice none 0 0] 38 (0, 0)) := by simpa using heap_setCell_same w5 (w.heap.size + 1) 0 _ 38 (.int .i64 nd.kind) HO5.out
    have HF6 := Lib.hid (HF5.out.trans hf6)
    clear u0 u1 u2 u3 u4 x0 hf6 nc5 pc5
    generalize w5.setCell ⟨w.heap.size + 1, 0, none⟩ (.int .i64 nd.kind) = w6 at *
    obtain ⟨u0, u1, u2, u3, u4⟩ := cells_5 ho6
    obtain ⟨z0, z1, z2, z3, z4⟩ := cells_5 hz6
    have y0 := frozen_of_row w6 w.heap.size 0 _ 38 hz6
    have y1 := frozen_of_row w6 w.heap.size 1 _ 38 hz6
    have y2 := frozen_of_row w6 w.heap.size 2 _ 38 hz6
    have y3 := frozen_of_row w6 w.heap.size 3 _ 38 hz6
    have y4 := frozen_of_row w6 w.heap.size 4 _ 38 hz6
    have HZ6 := Lib.hid hz6
    clear hz6 ho6
    go_wp2
    have hn5 := set5_new w6 w.heap.size _ _ _ _ _ (.int .i64 nd.kind) (.int .i64 n) (.slice none 0 0) (.slice none 0 0) (.slice none 0 0) HZ6.out
    have hfn := set5_fr0 w6 w.heap.size (.int .i64 nd.kind) (.int .i64 n) (.slice none 0 0) (.slice none 0 0) (.slice none 0 0)
    generalize (((((w6.setCell ⟨w.heap.size, 0, none⟩ (.int .i64 nd.kind)).setCell ⟨w.heap.size, 1, none⟩ (.int .i64 n)).setCell ⟨w.heap.size, 2, none⟩ (.slice none 0 0)).setCell ⟨w.heap.size, 3, none⟩ (.slice none 0 0)).setCell ⟨w.heap.size, 4, none⟩ (.slice none 0 0)) = W7 at *
    obtain ⟨r0, r1, r2, r3, r4⟩ := cells_5 hn5
    refine bodyPost_ret (v := .tuple #[.agg #[.int .i64 nd.kind, .int .i64 n, .slice none 0 0, .slice none 0 0, .slice none 0 0], .int .i64 0]) (by simp [results, Tryd.results22, go_sem, r0, r1, r2, r3, r4]) rfl ?_
    have hF7 : Fr w4 W7 (fun k => k ≠ w.heap.size ∧ k ≠ w.heap.size + 1) := (HF6.out.mono (fun k _ hk => hk.2)).trans (hfn.mono (fun k _ hk => hk.1))
    exact valP_ok HM.out ⟨hF7.os.trans HFW.out.os, hF7.tape.trans HFW.out.tape, hF7.output.trans HFW.out.output, Nat.le_trans HFW.out.size hF7.size, fun k hk ho => (hF7.block k (Nat.lt_of_lt_of_le hk HFW.out.size) ⟨by omega, by omega⟩).trans (HFW.out.block k hk ho)⟩
      (HUZ.out W7) (HTK.out.fr (N := w.heap.size) hF7 hlt.1 hlt.2 (fun k hk => ⟨by omega, by omega⟩))

set_option maxHeartbeats 8000000 in
set_option maxRecDepth 100000 in
theorem val_step (S : List Nd) (hS : Kinds S) (d : Nat) (hV : ∀ d', d = d' + 1 → ValC S d') : ValC S d := by
  intro w p q dep nv node xs cnt okN hd ht hN hok hw hcnt
  have hlt := ht.lt
  obtain ⟨t0, t1, t2, tf⟩ := ht.cells
  have HN := Lib.hid hN
  have HT := Lib.hid ht
  obtain ⟨A, cap, c, rfl, hn1, hn2, hn3, hn4⟩ := hN
  have HN3 := Lib.hid hn3
  have HN4 := Lib.hid hn4
  have HOK := Lib.hid hok
  have HV := Lib.hid hV
  have HS := Lib.hid hS
  clear hn3 hn4 hok hV hS ht
  obtain ⟨W0, hW0⟩ : ∃ W0, w.alloc (.cells #[.int .i64 0, .int .i64 0, .slice none 0 0, .slice none 0 0, .slice none 0 0] 38) = W0 := ⟨_, rfl⟩
  have hf0 : Fr w W0 (fun _ => True) := by rw [← hW0]; exact (Fr.refl w _).alloc _
  have hz0 : W0.heap[w.heap.size]? = some (.cells #[.int .i64 0, .int .i64 0, .slice none 0 0, .slice none 0 0, .slice none 0 0] 38 (0, 0)) := by rw [← hW0]; exact new_at rfl _
  have hfe : ∀ W', Fr W0 W' (fun k => k ≠ w.heap.size) → Fr w W' (fun k => k ≠ p ∧ k ≠ q) := fun W' h => fr_more (hf0.mono (fun _ _ _ => trivial)) h (fun k hk _ => by omega)
  have HFE := Lib.hid hfe
  have HF0 := Lib.hid hf0
  have HZ0 := Lib.hid hz0
  obtain ⟨z0, z1, z2, z3, z4⟩ := cells_5 hz0
  have y0 := frozen_of_row W0 w.heap.size 0 _ 38 hz0
  have y1 := frozen_of_row W0 w.heap.size 1 _ 38 hz0
  have y2 := frozen_of_row W0 w.heap.size 2 _ 38 hz0
  have y3 := frozen_of_row W0 w.heap.size 3 _ 38 hz0
  have y4 := frozen_of_row W0 w.heap.size 4 _ 38 hz0
  have hn5 := set5_new W0 w.heap.size _ _ _ _ _ (.int .i64 0) (.int .i64 0) (.slice none 0 0) (.slice none 0 0) (.slice none 0 0) hz0
  have hfn := set5_fr0 W0 w.heap.size (.int .i64 0) (.int .i64 0) (.slice none 0 0) (.slice none 0 0) (.slice none 0 0)
  have HN5 := Lib.hid hn5
  have HFN := Lib.hid hfn
  have s0 := hf0.cell t0 trivial
  have s1 := hf0.cell t1 trivial
  have s2 := hf0.cell t2 trivial
  clear hfe hf0 hz0 hn5 hfn t0 t1 t2 tf
  by_cases hneg : node < 0
  · have HM : Hid (valueM S d node xs cnt = .error 9) := Lib.hid (valueM_neg hneg)
    have hd1 : decide (node < 0) = true := decide_eq_true hneg
    go_enter Tryd.func22, Tryd.ntmps22
    go_wp2
    have hn5 := HN5.out
    have hfn := HFN.out
    clear HN5 HFN
    generalize (((((W0.setCell ⟨w.heap.size, 0, none⟩ (.int .i64 0)).setCell ⟨w.heap.size, 1, none⟩ (.int .i64 0)).setCell ⟨w.heap.size, 2, none⟩ (.slice none 0 0)).setCell ⟨w.heap.size, 3, none⟩ (.slice none 0 0)).setCell ⟨w.heap.size, 4, none⟩ (.slice none 0 0)) = W5 at *
    obtain ⟨r0, r1, r2, r3, r4⟩ := cells_5 hn5
    refine bodyPost_ret (v := .tuple #[.agg #[.int .i64 0, .int .i64 0, .slice none 0 0, .slice none 0 0, .slice none 0 0], .int .i64 9]) (by simp [results, Tryd.results22, go_sem, r0, r1, r2, r3, r4]) rfl ?_
    exact valP_err (f := 9) HM.out (HFE.out _ hfn) (by omega)
  · obtain ⟨m, hm⟩ : ∃ m : Nat, node = m := ⟨node.toNat, by omega⟩
    subst hm
    have hd0 : decide ((m : Int) < 0) = false := decide_eq_false (by omega)
    by_cases hge : S.length ≤ m
    · have HM : Hid (valueM S d m xs cnt = .error 9) := Lib.hid (valueM_none hge)
      have hd1 : decide ((S.length : Int) ≤ (m : Int)) = true := decide_eq_true (by omega)
      go_enter Tryd.func22, Tryd.ntmps22
      go_wp2
      have hn5 := HN5.out
      have hfn := HFN.out
      clear HN5 HFN
      generalize (((((W0.setCell ⟨w.heap.size, 0, none⟩ (.int .i64 0)).setCell ⟨w.heap.size, 1, none⟩ (.int .i64 0)).setCell ⟨w.heap.size, 2, none⟩ (.slice none 0 0)).setCell ⟨w.heap.size, 3, none⟩ (.slice none 0 0)).setCell ⟨w.heap.size, 4, none⟩ (.slice none 0 0)) = W5 at *
      obtain ⟨r0, r1, r2, r3, r4⟩ := cells_5 hn5
      refine bodyPost_ret (v := .tuple #[.agg #[.int .i64 0, .int .i64 0, .slice none 0 0, .slice none 0 0, .slice none 0 0], .int .i64 9]) (by simp [results, Tryd.results22, go_sem, r0, r1, r2, r3, r4]) rfl ?_
      exact valP_err (f := 9) HM.out (HFE.out _ hfn) (by omega)
    · obtain ⟨nd, hnd⟩ : ∃ nd, S[m]? = some nd := ⟨_, List.getElem?_eq_getElem (by omega)⟩
      have hd1 : decide ((S.length : Int) ≤ (m : Int)) = false := decide_eq_false (by omega)
      have HND := Lib.hid hnd
      clear hnd
      cases d with
      | zero =>
        have HM : Hid (valueM S 0 m xs cnt = .error 5) := Lib.hid (valueM_zero HND.out)
        have hd2 : decide ((64 : Int) < (dep : Int)) = true := decide_eq_true (by omega)
        clear hd
        go_enter Tryd.func22, Tryd.ntmps22
        go_wp2
        have hn5 := HN5.out
        have hfn := HFN.out
        clear HN5 HFN
        generalize (((((W0.setCell ⟨w.heap.size, 0, none⟩ (.int .i64 0)).setCell ⟨w.heap.size, 1, none⟩ (.int .i64 0)).setCell ⟨w.heap.size, 2, none⟩ (.slice none 0 0)).setCell ⟨w.heap.size, 3, none⟩ (.slice none 0 0)).setCell ⟨w.heap.size, 4, none⟩ (.slice none 0 0)) = W5 at *
        obtain ⟨r0, r1, r2, r3, r4⟩ := cells_5 hn5
        refine bodyPost_ret (v := .tuple #[.agg #[.int .i64 0, .int .i64 0, .slice none 0 0, .slice none 0 0, .slice none 0 0], .int .i64 5]) (by simp [results, Tryd.results22, go_sem, r0, r1, r2, r3, r4]) rfl ?_
        exact valP_err (f := 5) HM.out (HFE.out _ hfn) (by omega)
      | succ d' =>
        have hV' := HV.out d' rfl
        have HV' := Lib.hid hV'
        clear hV' HV
        have hd2 : decide ((64 : Int) < (dep : Int)) = false := decide_eq_false (by omega)
        have HD : Hid (dep + 1 + d' = 65) := Lib.hid (by omega)
        have hdep : dep ≤ 64 := by omega
        clear hd
        by_cases hlim : 10000 ≤ cnt
        · have HM : Hid (valueM S (d' + 1) m xs cnt = .error 5) := Lib.hid (valueM_lim HND.out hlim)
          have hd3 : decide ((10000 : Int) ≤ (cnt : Int)) = true := decide_eq_true (by omega)
          go_enter Tryd.func22, Tryd.ntmps22
          go_wp2
          have hn5 := HN5.out
          have hfn := HFN.out
          clear HN5 HFN
          generalize (((((W0.setCell ⟨w.heap.size, 0, none⟩ (.int .i64 0)).setCell ⟨w.heap.size, 1, none⟩ (.int .i64 0)).setCell ⟨w.heap.size, 2, none⟩ (.slice none 0 0)).setCell ⟨w.heap.size, 3, none⟩ (.slice none 0 0)).setCell ⟨w.heap.size, 4, none⟩ (.slice none 0 0)) = W5 at *
          obtain ⟨r0, r1, r2, r3, r4⟩ := cells_5 hn5
          refine bodyPost_ret (v := .tuple #[.agg #[.int .i64 0, .int .i64 0, .slice none 0 0, .slice none 0 0, .slice none 0 0], .int .i64 5]) (by simp [results, Tryd.results22, go_sem, r0, r1, r2, r3, r4]) rfl ?_
          exact valP_err (f := 5) HM.out (HFE.out _ hfn) (by omega)
        · have hd3 : decide ((10000 : Int) ≤ (cnt : Int)) = false := decide_eq_false (by omega)
          rcases HS.out nd (List.mem_of_getElem? HND.out) with hkd | hkd | hkd
          · exact val_sing S d' w p q dep _ m nd xs cnt okN HD.out HT.out HN.out HOK.out HND.out (.inl hkd) (by omega)
          · exact val_sing S d' w p q dep _ m nd xs cnt okN HD.out HT.out HN.out HOK.out HND.out (.inr hkd) (by omega)
          · exact val_arr S d' HV'.out w p q dep _ m nd xs cnt okN HD.out HT.out HN.out HOK.out HND.out hkd (by omega)
theorem val_any (S : List Nd) (hS : Kinds S) : ∀ d, ValC S d
  | 0 => val_step S hS 0 (fun d' h => by omega)
  | d + 1 => by
    refine val_step S hS (d + 1) (fun d' h => ?_)
    have hh : d' = d := by omega
    rw [hh]
    exact val_any S hS d

end Go.Proofs.YtlkbcdbjmkfkkaaDoor
