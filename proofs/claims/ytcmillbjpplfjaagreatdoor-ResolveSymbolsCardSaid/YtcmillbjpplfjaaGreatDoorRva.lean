/-
  'resolve.Value' of a leaf.
-/
import Derived.Test.YtcmillbjpplfjaaGreatDoorRvl
import Derived.Carry
namespace Go.Proofs.YtcmillbjpplfjaaGreatDoor
open Go.RowKit Go.Maps

theorem strs_mono {w : World} {ok ok' : Nat → Prop} (hk : ∀ b, ok b → ok' b) {ss : List ByteArray} {v : Value} (h : StrsAt w ok ss v) : StrsAt w ok' ss v := by
  obtain ⟨A, cap, h1, h2, h3, h4, h5⟩ := h
  exact ⟨A, cap, h1, h2, h3, h4, fun hp => by obtain ⟨g, off, e, hg, hc⟩ := h5 hp; exact ⟨g, off, e, hk g hg, hc⟩⟩
theorem rows_mono {α : Type} {k : Nat} {one one' : α → (Nat → Value) → Prop} {w : World} {ok ok' : Nat → Prop} (hk : ∀ b, ok b → ok' b) (ho : ∀ x c, one x c → one' x c) {xs : List α} {v : Value} (h : RowsAt k one w ok xs v) : RowsAt k one' w ok' xs v := by
  obtain ⟨A, cap, c, h1, h2, h3, h4, h5⟩ := h
  exact ⟨A, cap, c, h1, h2, h3, fun hp => by obtain ⟨g, off, e, hg, hc⟩ := h4 hp; exact ⟨g, off, e, hk g hg, hc⟩, fun i x hx => ho x _ (h5 i x hx)⟩
theorem nds_mono {w : World} {ok ok' : Nat → Prop} {ns : List Nd} {v : Value} (h : NdsAt w ok ns v) (hk : ∀ b, ok b → ok' b) : NdsAt w ok' ns v :=
  rows_mono hk (fun _ _ hx => ⟨hx.kind, hx.name, strs_mono hk hx.al, rows_mono hk (fun _ _ hf => ⟨hf.name, strs_mono hk hf.al, hf.ty, hf.has, hf.dflt, hf.tyw, hf.namel, hf.dfltl⟩) hx.fs, strs_mono hk hx.sy, hx.has, hx.dflt, hx.items, ints_mono hx.br hk, hx.size, hx.kindw, hx.itemsw, hx.sizew, hx.namel, hx.dfltl⟩) h

theorem ValLP.low {w w0 w' w'' : World} {m : Bool} {kd vn : Int} {nb : Nat} {ys : List Value} {e : Ending} {ok : Nat → Prop} (h : ValLP w m kd vn nb ys e w') (hs : w0.heap.size ≤ w.heap.size) (hf : Fr w' w'' ok) (hk : ∀ b, w.heap.size ≤ b → ok b) : ValLP w0 m kd vn nb ys e w'' := by
  rcases h with ⟨hm, B, c, A, c', he, h5, h9⟩ | h
  · exact .inl ⟨hm, B, c, A, c', he, own_low (ownsRow_fr h5 hf (fun g hg => hk g (h5.lt g hg).1)) hs, own_low (ownsRow_fr h9 hf (fun g hg => hk g (h9.lt g hg).1)) hs⟩
  · exact .inr h
theorem val14_ret {a : Act} {W : World} {b : Nat} {v0 v1 v2 v3 v4 v5 : Value} {Q : Ending → World → Prop} (h9 : W.heap[b]? = some (.cells #[v0, v1, v2, v3, v4] 26 (0, 0))) (h4 : a.tmps.getD 6 undef = .pointer (some ⟨b, 0, none⟩)) (h5 : a.tmps.getD 7 undef = v5) (hd : a.defers = [])
    (hq : Q (.returned (.tuple #[.agg #[v0, v1, v2, v3, v4], v5])) W) : bodyPost Tryz.prog Tryz.f14 Q Exit.ret a W := by
  have q0 := cell_of_row _ _ 0 _ _ _ h9
  have q1 := cell_of_row _ _ 1 _ _ _ h9
  have q2 := cell_of_row _ _ 2 _ _ _ h9
  have q3 := cell_of_row _ _ 3 _ _ _ h9
  have q4 := cell_of_row _ _ 4 _ _ _ h9
  refine bodyPost_ret (v := .tuple #[.agg #[v0, v1, v2, v3, v4], v5]) ?_ hd hq
  rw [results_cell_tmp (fn := Tryz.f14) (p := 6) (u := 7) (ty := 26) rfl, h4, h5]
  simp [go_sem, q0, q1, q2, q3, q4]
abbrev vaW (w : World) (vw vr v0 v1 v2 v3 v4 : Value) : World := (((w.alloc (.cells #[vw] 29)).alloc (.cells #[vr] 29)).alloc (.cells #[v0, v1, v2, v3, v4] 26)).alloc (.cells #[.int .i64 0, .int .i64 0, .slice none 0 0, .slice none 0 0, .slice none 0 0] 26)
set_option maxRecDepth 100000 in
set_option maxHeartbeats 8000000 in
theorem value14_leaf (S T : List Nd) (w : World) (As Ar : Option Addr) (cs cr : Nat) (hS : NdsAt w (fun b => b < w.heap.size) S (.slice As S.length cs)) (hR : NdsAt w (fun b => b < w.heap.size) T (.slice Ar T.length cr))
    (md nd : Nd) (hi : S[0]? = some md) (hk : T[0]? = some nd) (hmk : md.kind ≠ 13) (hnk : nd.kind ≠ 13 ∧ nd.kind ≠ 9 ∧ nd.kind ≠ 10)
    (kv vn : Int) (B : Option Addr) (nb cb : Nat) (ys : List Value)
    (hy : ys.length = nb) (hyb : nb ≤ 140737488355328) (hyc : 0 < nb → ∃ b off, B = some ⟨b, off, none⟩ ∧ b < w.heap.size ∧ ∀ j u, ys[j]? = some u → w.cell? ⟨b, off + j, none⟩ = some u) (hy1 : ∀ u ∈ ys, u.oneCell' = true)
    (hfit : ∀ W, Fr w W (fun _ => True) → Calls Tryz.prog 28 #[.agg #[.slice As S.length cs], .int .i64 0, .agg #[.int .i64 kv, .int .i64 vn, .slice B nb cb, .slice none 0 0, .slice none 0 0]] W fun e w' => e = .returned (.bool true) ∧ Below W.heap.size W w') :
    Calls Tryz.prog 14 #[.agg #[.slice As S.length cs], .agg #[.slice Ar T.length cr], .agg #[.int .i64 kv, .int .i64 vn, .slice B nb cb, .slice none 0 0, .slice none 0 0]] w fun e w' => ValLP w (matchT S T 0 0) nd.kind vn nb ys e w' ∧ Below w.heap.size w w' := by
  have hlT : 0 < T.length := (List.getElem?_eq_some_iff.1 hk).1
  have hvl := fun (W : World) (p pm qm : Nat) a b c d e => value_leaf S T W p pm qm As Ar cs cr a b c d e 0 0 md nd hi hk hmk hnk (by decide) (by decide) kv vn B nb cb ys hy hyb
  obtain ⟨N, hN⟩ : ∃ N, T.length = N := ⟨_, rfl⟩
  simp only [hN] at hvl hR hlT ⊢
  have hTn : ¬ ((N : Int) = 0) := by omega
  clear hN
  have hb0 : Below w.heap.size w (vaW w (.slice As S.length cs) (.slice Ar N cr) (.int .i64 kv) (.int .i64 vn) (.slice B nb cb) (.slice none 0 0) (.slice none 0 0)) := ((((Below.refl _ w).alloc (Nat.le_refl _) _).alloc (by simp) _).alloc (by simp; omega) _).alloc (by simp; omega) _
  have hf0 := below_fr0 hb0
  have h0 : (vaW w (.slice As S.length cs) (.slice Ar N cr) (.int .i64 kv) (.int .i64 vn) (.slice B nb cb) (.slice none 0 0) (.slice none 0 0)).heap[w.heap.size]? = some (.cells #[.slice As S.length cs] 29 (0, 0)) := old_at _ (old_at _ (old_at _ (new_at rfl _)))
  have h1 : (vaW w (.slice As S.length cs) (.slice Ar N cr) (.int .i64 kv) (.int .i64 vn) (.slice B nb cb) (.slice none 0 0) (.slice none 0 0)).heap[w.heap.size + 1]? = some (.cells #[.slice Ar N cr] 29 (0, 0)) := old_at _ (old_at _ (new_at (by simp) _))
  have h2 : (vaW w (.slice As S.length cs) (.slice Ar N cr) (.int .i64 kv) (.int .i64 vn) (.slice B nb cb) (.slice none 0 0) (.slice none 0 0)).heap[w.heap.size + 1 + 1]? = some (.cells #[.int .i64 kv, .int .i64 vn, .slice B nb cb, .slice none 0 0, .slice none 0 0] 26 (0, 0)) := old_at _ (new_at (by simp) _)
  have h3 : (vaW w (.slice As S.length cs) (.slice Ar N cr) (.int .i64 kv) (.int .i64 vn) (.slice B nb cb) (.slice none 0 0) (.slice none 0 0)).heap[w.heap.size + 1 + 1 + 1]? = some (.cells #[.int .i64 0, .int .i64 0, .slice none 0 0, .slice none 0 0, .slice none 0 0] 26 (0, 0)) := new_at (by simp) _
  have hmm := @run_makeMap Tryz.prog
  have HVL := Lib.hid hvl
  have HS := Lib.hid hS
  have HR := Lib.hid hR
  have HYC := Lib.hid hyc
  have HY1 := Lib.hid hy1
  have HB0 := Lib.hid hb0
  have hfit0 := hfit _ hf0
  clear hS hR hi hk hmk hnk hy hyb hyc hy1 hb0 hvl hfit
  go_enter Tryz.func14, Tryz.ntmps14
  go_upto_region 1 with fail
  change Code.wp _ _ _ _ (vaW w (.slice As S.length cs) (.slice Ar N cr) (.int .i64 kv) (.int .i64 vn) (.slice B nb cb) (.slice none 0 0) (.slice none 0 0))
  generalize vaW w (.slice As S.length cs) (.slice Ar N cr) (.int .i64 kv) (.int .i64 vn) (.slice B nb cb) (.slice none 0 0) (.slice none 0 0) = W0 at *
  have s0 := cell_of_row _ _ 0 _ _ _ h0
  have r0 := cell_of_row _ _ 0 _ _ _ h1
  have v0 := cell_of_row _ _ 0 _ _ _ h2
  have v1 := cell_of_row _ _ 1 _ _ _ h2
  have v2 := cell_of_row _ _ 2 _ _ _ h2
  have v3 := cell_of_row _ _ 3 _ _ _ h2
  have v4 := cell_of_row _ _ 4 _ _ _ h2
  have H0 := Lib.hid h0
  have H1 := Lib.hid h1
  have H2 := Lib.hid h2
  have H3 := Lib.hid h3
  have HF0 := Lib.hid hf0
  clear h0 h1 h2 h3 hf0
  go_wp2_with fail
  refine hfit0.mono ?_
  rintro e w1 ⟨rfl, hb1⟩
  have hf1 := below_fr0 hb1
  have s0 := cell_of_row _ _ 0 _ _ _ (hf1.at H0.out trivial)
  have r0 := cell_of_row _ _ 0 _ _ _ (hf1.at H1.out trivial)
  have s0m := fun o => (fr_all w1 o).cell s0 trivial
  have s0n := fun o o' => (fr_all (w1.alloc o) o').cell (s0m o) trivial
  clear hfit0 v0 v1 v2 v3 v4
  have HF1 := Lib.hid hf1
  clear hb1 hf1
  go_upto_region 4 with fail
  have hFt : Fr w1 (((w1.alloc (.map #[] 0)).alloc (.map #[] 0)).alloc (.cells #[.slice As S.length cs, .slice Ar N cr, .int .i64 0, .map (some w1.heap.size), .map (some (w1.heap.size + 1))] 70)) (fun _ => True) := ((fr_all _ _).trans (fr_all _ _)).trans (fr_all _ _)
  have hBt : (((w1.alloc (.map #[] 0)).alloc (.map #[] 0)).alloc (.cells #[.slice As S.length cs, .slice Ar N cr, .int .i64 0, .map (some w1.heap.size), .map (some (w1.heap.size + 1))] 70)).heap[w1.heap.size + 1 + 1]? = some (.cells #[.slice As S.length cs, .slice Ar N cr, .int .i64 0, .map (some w1.heap.size), .map (some (w1.heap.size + 1))] 70 (0, 0)) := new_at (by simp) _
  have hMt : MapL (((w1.alloc (.map #[] 0)).alloc (.map #[] 0)).alloc (.cells #[.slice As S.length cs, .slice Ar N cr, .int .i64 0, .map (some w1.heap.size), .map (some (w1.heap.size + 1))] 70)) w1.heap.size [] := ((mapL_made w1).fr (fr_all _ _) trivial).fr (fr_all _ _) trivial
  generalize (((w1.alloc (.map #[] 0)).alloc (.map #[] 0)).alloc (.cells #[.slice As S.length cs, .slice Ar N cr, .int .i64 0, .map (some w1.heap.size), .map (some (w1.heap.size + 1))] 70)) = Wt at *
  have hsz := HB0.out.size
  have hs1 := HF1.out.size
  have hFw : Fr w Wt (fun _ => True) := ((below_fr0 HB0.out).trans HF1.out).trans hFt
  have h2t := hFt.at (HF1.out.at H2.out trivial) trivial
  have h3t := hFt.at (HF1.out.at H3.out trivial) trivial
  have v0 := cell_of_row _ _ 0 _ _ _ h2t
  have v1 := cell_of_row _ _ 1 _ _ _ h2t
  have v2 := cell_of_row _ _ 2 _ _ _ h2t
  have v3 := cell_of_row _ _ 3 _ _ _ h2t
  have v4 := cell_of_row _ _ 4 _ _ _ h2t
  have hcall := HVL.out Wt (w1.heap.size + 1 + 1) w1.heap.size (w1.heap.size + 1) ⟨hBt⟩ hMt (by omega) (nds_mono (nds_fr (ok' := fun _ => True) hFw (fun _ _ => trivial) HS.out) (fun b hb => ⟨by omega, by omega⟩)) (nds_mono (nds_fr (ok' := fun _ => True) hFw (fun _ _ => trivial) HR.out) (fun b hb => ⟨by omega, by omega⟩))
    (fun h => by obtain ⟨b, off, e, hb, hc⟩ := HYC.out h; exact ⟨b, off, e, ⟨by omega, by omega⟩, fun j u hu => hFw.cell (hc j u hu) trivial⟩) HY1.out
  have H3T := Lib.hid h3t
  have HFW := Lib.hid hFw
  have HST := Lib.hid hFt.size
  clear hBt hMt hFw h2t h3t s0m s0n s0 r0 hFt
  go_wp2_with fail
  refine hcall.mono ?_
  rintro e w5 ⟨hv, hf5⟩
  have h35 := hf5.at H3T.out (by have := H3.out; have := blk_lt this; omega)
  obtain ⟨f0, f1, f2, f3, f4, _⟩ := frozen_10 h35
  have r0 := cell_of_row _ _ 0 _ _ _ h35
  have r1 := cell_of_row _ _ 1 _ _ _ h35
  have r2 := cell_of_row _ _ 2 _ _ _ h35
  have r3 := cell_of_row _ _ 3 _ _ _ h35
  have r4 := cell_of_row _ _ 4 _ _ _ h35
  have H35 := Lib.hid h35
  have HV := Lib.hid hv
  have HF5 := Lib.hid hf5
  clear hcall h35 hf5
  have hend : ∀ (W : World) (x0 x1 x2 x3 x4 : Value), W = (((((w5.setCell ⟨w.heap.size + 1 + 1 + 1, 0, none⟩ x0).setCell ⟨w.heap.size + 1 + 1 + 1, 1, none⟩ x1).setCell ⟨w.heap.size + 1 + 1 + 1, 2, none⟩ x2).setCell ⟨w.heap.size + 1 + 1 + 1, 3, none⟩ x3).setCell ⟨w.heap.size + 1 + 1 + 1, 4, none⟩ x4) → ValLP w (matchT S T 0 0) nd.kind vn nb ys e W ∧ Below w.heap.size w W := by
    intro W x0 x1 x2 x3 x4 hW
    subst hW
    have hst := HST.out
    refine ⟨HV.out.low (by omega) (set5_fr0' _ _ _ _ _ _ _) (fun b hb => by have := H3.out; have := blk_lt this; omega), ?_⟩
    exact fr_below (fr_gen (fr_gen HFW.out HF5.out (fun q hq _ => by omega)) (set5_fr0' _ _ _ _ _ _ _) (fun q hq _ => by omega))
  have HE := Lib.hid hend
  clear hend
  rcases hv with ⟨_, B1, c1, A1, c1', rfl, _, _⟩ | ⟨_, rfl⟩
  · go_wp2
    exact val14_ret (set5_new' _ _ _ _ _ H35.out) rfl rfl rfl (HE.out _ _ _ _ _ _ rfl)
  · go_wp2
    exact val14_ret (set5_new' _ _ _ _ _ H35.out) rfl rfl rfl (HE.out _ _ _ _ _ _ rfl)
end Go.Proofs.YtcmillbjpplfjaaGreatDoor
