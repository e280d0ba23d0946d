/-
  'turner.value' of a leaf that no pair was asked for ahead of it.
-/
import Derived.Test.YtcmillbjpplfjaaGreatDoorRwj
namespace Go.Proofs.YtcmillbjpplfjaaGreatDoor
open Go.RowKit Go.Maps

/-- What 'value' answers of a leaf. -/
def ValLP (w : World) (m : Bool) (kd vn : Int) (nb : Nat) (ys : List Value) (e : Ending) (w' : World) : Prop :=
  (m = true ∧ ∃ B c A c', e = .returned (.tuple #[.agg #[.int .i64 kd, .int .i64 vn, .slice B nb c, .slice none 0 0, .slice A 0 c'], .int .i64 0]) ∧ w'.ownsRow w.heap.size 5 1 (.slice B nb c) nb ys ∧ w'.ownsRow w.heap.size 9 1 (.slice A 0 c') 0 []) ∨
  (m = false ∧ e = .returned (.tuple #[.agg #[.int .i64 0, .int .i64 0, .slice none 0 0, .slice none 0 0, .slice none 0 0], .int .i64 11]))
theorem val_ret {a : Act} {W : World} {b : Nat} {v0 v1 v2 v3 v4 v5 : Value} {Q : Ending → World → Prop} (h9 : W.heap[b]? = some (.cells #[v0, v1, v2, v3, v4] 26 (0, 0))) (h4 : a.tmps.getD 6 undef = .pointer (some ⟨b, 0, none⟩)) (h5 : a.tmps.getD 7 undef = v5) (hd : a.defers = [])
    (hq : Q (.returned (.tuple #[.agg #[v0, v1, v2, v3, v4], v5])) W) : bodyPost Tryz.prog Tryz.f29 Q Exit.ret a W := by
  have q0 := cell_of_row _ _ 0 _ _ _ h9
  have q1 := cell_of_row _ _ 1 _ _ _ h9
  have q2 := cell_of_row _ _ 2 _ _ _ h9
  have q3 := cell_of_row _ _ 3 _ _ _ h9
  have q4 := cell_of_row _ _ 4 _ _ _ h9
  refine bodyPost_ret (v := .tuple #[.agg #[v0, v1, v2, v3, v4], v5]) ?_ hd hq
  rw [results_cell_tmp (fn := Tryz.f29) (p := 6) (u := 7) (ty := 26) rfl, h4, h5]
  simp [go_sem, q0, q1, q2, q3, q4]
theorem zeroPlanV (w : World) : (zeroValue 109).run Tryz.prog w = .ok (.agg #[.bool false, .int .i64 0, .slice none 0 0]) w := by kernel_rfl
theorem fr_gen {a b c : World} {ok ok2 : Nat → Prop} (h : Fr a b ok) (h2 : Fr b c ok2) (hk : ∀ k, k < a.heap.size → ok k → ok2 k) : Fr a c ok :=
  ((h.mono (ok' := fun k => k < a.heap.size ∧ ok k) (fun _ _ q => q.2)).trans (h2.mono (fun q _ hq => hk q hq.1 hq.2))).mono (fun q hq h => ⟨hq, h⟩)
theorem plan_vals {S T : List Nd} {i : Int} {k : Nat} {nd : Nd} (hk : T[k]? = some nd) (h13 : nd.kind ≠ 13) (h9 : nd.kind ≠ 9) : planR S T i k = matchT S T i k ∧ planB S T i k = 0 ∧ planS S T i k = [] := by
  have hk0 := ndAt_get hk
  unfold planR planB planS
  rw [hk0]
  cases matchT S T i k <;> simp [h13, h9]
theorem mapL_uniq {w : World} {b : Nat} {es es' : List (Value × Value)} (h : MapL w b es) (h' : MapL w b es') : es = es' := by
  obtain ⟨a, c, h1, h2⟩ := h
  obtain ⟨a', c', h1', h2'⟩ := h'
  rw [h1] at h1'
  cases h1'
  rw [← h2, ← h2']
theorem plan_call (S T : List Nd) (w : World) (p pm qm : Nat) (As Ar : Option Addr) (cs cr : Nat) (cnt : Int) (okS okT : Nat → Prop) (hT : Tn w p pm qm (.slice As S.length cs) (.slice Ar T.length cr) cnt) (hM : MapL w pm [])
    (hS : NdsAt w okS S (.slice As S.length cs)) (hR : NdsAt w okT T (.slice Ar T.length cr))
    (i k : Nat) (nd : Nd) (hk : T[k]? = some nd) (h13 : nd.kind ≠ 13) (h9 : nd.kind ≠ 9) (hiw : (Lit.int .i64 i).wf = true) (hkw : (Lit.int .i64 k).wf = true) :
    Calls Tryz.prog 50 #[.pointer (some ⟨p, 0, none⟩), pairV i k] w fun e w' => (∃ A c, e = .returned (.agg #[.bool (matchT S T i k), .int .i64 0, .slice A 0 c])) ∧ Fr w w' (fun b => b ≠ pm) := by
  refine (plan_leaf S T w p pm qm As Ar cs cr cnt (fun b => b = pm) okS okT hT hS hR ⟨[], hM, by simp⟩ rfl i k nd hk hiw hkw ⟨h13, h9⟩ (fun W hW => ?_) (fun es h q hq => ?_)).mono ?_
  · rcases (hM.fr hW trivial).look pair_law Tryz.underlying67 zeroPlanV (by simp) (pair_key hiw hkw) with ⟨_, h⟩ | ⟨v, hv, _⟩
    · exact h
    · simp at hv
  · rw [mapL_uniq h hM] at hq; simp at hq
  · rintro e w' ⟨src, rfl, hI, _, hF⟩
    obtain ⟨hp1, hp2, hp3⟩ := plan_vals (S := S) (i := i) hk h13 h9
    rw [hp3] at hI
    obtain ⟨A, c, rfl, _⟩ := hI
    exact ⟨⟨A, c, by rw [planV, hp1, hp2]; rfl⟩, hF⟩
abbrev vlW (w : World) (i k : Int) (v0 v1 v2 v3 v4 : Value) : World := ((w.alloc (.cells #[.int .i64 i, .int .i64 k] 73)).alloc (.cells #[v0, v1, v2, v3, v4] 26)).alloc (.cells #[.int .i64 0, .int .i64 0, .slice none 0 0, .slice none 0 0, .slice none 0 0] 26)
set_option maxRecDepth 100000 in
set_option maxHeartbeats 8000000 in
theorem value_leaf (S T : List Nd) (w : World) (p pm qm : Nat) (As Ar : Option Addr) (cs cr : Nat) (hT : Tn w p pm qm (.slice As S.length cs) (.slice Ar T.length cr) 0) (hM : MapL w pm []) (hpp : pm ≠ p)
    (hS : NdsAt w (fun b => b ≠ p ∧ b ≠ pm) S (.slice As S.length cs)) (hR : NdsAt w (fun b => b ≠ p ∧ b ≠ pm) T (.slice Ar T.length cr))
    (i k : Nat) (md nd : Nd) (hi : S[i]? = some md) (hk : T[k]? = some nd) (hmk : md.kind ≠ 13) (hnk : nd.kind ≠ 13 ∧ nd.kind ≠ 9 ∧ nd.kind ≠ 10) (hiw : (Lit.int .i64 i).wf = true) (hkw : (Lit.int .i64 k).wf = true)
    (kv vn : Int) (B : Option Addr) (nb cb : Nat) (ys : List Value)
    (hy : ys.length = nb) (hyb : nb ≤ 140737488355328) (hyc : 0 < nb → ∃ b off, B = some ⟨b, off, none⟩ ∧ (b ≠ p ∧ b ≠ pm) ∧ ∀ j u, ys[j]? = some u → w.cell? ⟨b, off + j, none⟩ = some u) (hy1 : ∀ u ∈ ys, u.oneCell' = true) :
    Calls Tryz.prog 29 #[.pointer (some ⟨p, 0, none⟩), pairV i k, .agg #[.int .i64 kv, .int .i64 vn, .slice B nb cb, .slice none 0 0, .slice none 0 0]] w fun e w' => ValLP w (matchT S T i k) nd.kind vn nb ys e w' ∧ Fr w w' (fun b => b ≠ p ∧ b ≠ pm) := by
  have hb0 : Below w.heap.size w (vlW w i k (.int .i64 kv) (.int .i64 vn) (.slice B nb cb) (.slice none 0 0) (.slice none 0 0)) := (((Below.refl _ w).alloc (Nat.le_refl _) _).alloc (by simp) _).alloc (by simp; omega) _
  have hf0 := below_fr0 hb0
  have h0 : (vlW w i k (.int .i64 kv) (.int .i64 vn) (.slice B nb cb) (.slice none 0 0) (.slice none 0 0)).heap[w.heap.size]? = some (.cells #[.int .i64 i, .int .i64 k] 73 (0, 0)) := old_at _ (old_at _ (new_at rfl _))
  have h1 : (vlW w i k (.int .i64 kv) (.int .i64 vn) (.slice B nb cb) (.slice none 0 0) (.slice none 0 0)).heap[w.heap.size + 1]? = some (.cells #[.int .i64 kv, .int .i64 vn, .slice B nb cb, .slice none 0 0, .slice none 0 0] 26 (0, 0)) := old_at _ (new_at (by simp) _)
  have h2 : (vlW w i k (.int .i64 kv) (.int .i64 vn) (.slice B nb cb) (.slice none 0 0) (.slice none 0 0)).heap[w.heap.size + 1 + 1]? = some (.cells #[.int .i64 0, .int .i64 0, .slice none 0 0, .slice none 0 0, .slice none 0 0] 26 (0, 0)) := new_at (by simp) _
  have hsz0 : (vlW w i k (.int .i64 kv) (.int .i64 vn) (.slice B nb cb) (.slice none 0 0) (.slice none 0 0)).heap.size = w.heap.size + 3 := by simp
  have hlt := hT.lt
  have hltm := hM.lt
  have hT0 := hT.fr hf0 trivial
  have hM0 := hM.fr hf0 trivial
  have hS0 : NdsAt (vlW w i k (.int .i64 kv) (.int .i64 vn) (.slice B nb cb) (.slice none 0 0) (.slice none 0 0)) _ S _ := nds_fr (ok' := fun _ => True) hf0 (fun _ _ => trivial) hS
  have hR0 : NdsAt (vlW w i k (.int .i64 kv) (.int .i64 vn) (.slice B nb cb) (.slice none 0 0) (.slice none 0 0)) _ T _ := nds_fr (ok' := fun _ => True) hf0 (fun _ _ => trivial) hR
  have hyc0 : 0 < nb → ∃ b off, B = some ⟨b, off, none⟩ ∧ (b ≠ p ∧ b ≠ pm) ∧ ∀ j u, ys[j]? = some u → (vlW w i k (.int .i64 kv) (.int .i64 vn) (.slice B nb cb) (.slice none 0 0) (.slice none 0 0)).cell? ⟨b, off + j, none⟩ = some u := fun h => by
    obtain ⟨b, off, e, hb, hc⟩ := hyc h
    exact ⟨b, off, e, hb, fun j u hu => hf0.cell (hc j u hu) trivial⟩
  clear hT hM hS hR hyc
  obtain ⟨m, hm⟩ : ∃ m, matchT S T i k = m := ⟨_, rfl⟩
  rw [hm]
  have HMM := Lib.hid hm
  clear hm
  go_enter Tryz.func29, Tryz.ntmps29
  go_upto_region 1 with fail
  change Code.wp _ _ _ _ (vlW w i k (.int .i64 kv) (.int .i64 vn) (.slice B nb cb) (.slice none 0 0) (.slice none 0 0))
  generalize vlW w i k (.int .i64 kv) (.int .i64 vn) (.slice B nb cb) (.slice none 0 0) (.slice none 0 0) = W0 at *
  have HT0 := Lib.hid hT0
  have HM0 := Lib.hid hM0
  have HS0 := Lib.hid hS0
  have HR0 := Lib.hid hR0
  have HYC := Lib.hid hyc0
  have HF0 := Lib.hid hf0
  have H0 := Lib.hid h0
  have H1 := Lib.hid h1
  have H2 := Lib.hid h2
  have HI := Lib.hid hi
  have HK := Lib.hid hk
  obtain ⟨g, off, A2, n2, c2, A3, n3, c3, A4, n4, c4, A8, n8, c8, rfl, _, hgl, _, hNC⟩ := node_at hS0 hi
  have hli := (List.getElem?_eq_some_iff.1 hi).1
  obtain ⟨_, _, _, hsl, hlcs, hmcs, _⟩ := id hS0
  cases hsl
  unfold maxLen at hmcs
  have z0 := hNC.1
  have p0 := cell_of_row _ _ 0 _ _ _ hT0.box
  have a0 := cell_of_row _ _ 0 _ _ _ h0
  have HSZ := Lib.hid hsz0
  obtain ⟨h13, h9, h10⟩ := hnk
  clear hT0 hM0 hS0 hR0 hyc0 hf0 h0 h1 h2 hi hk hNC hgl hsz0 hb0
  go_loopg [12] 0 (fun _ _ wr => wr = W0)
  case atStart => rfl
  case round =>
    obtain rfl := hrel
    generalize md.kind = mk at *
    go_upto_region 1 with fail
    go_quiet (fail)
    have hfq : Fr wr (wr.drewN nq) (fun _ => True) := (Fr.refl _ _).drewN nq
    clear z0 p0 a0
    generalize wr.drewN nq = w0 at *
    have hH0 := hfq.at H0.out trivial
    have a0 := cell_of_row _ _ 0 _ _ _ hH0
    have a1 := cell_of_row _ _ 1 _ _ _ hH0
    have hpl := plan_call S T w0 p pm qm _ Ar cs cr 0 _ _ (HT0.out.fr hfq trivial) (HM0.out.fr hfq trivial) (nds_fr (ok' := fun _ => True) hfq (fun _ _ => trivial) HS0.out) (nds_fr (ok' := fun _ => True) hfq (fun _ _ => trivial) HR0.out) i k nd HK.out h13 h9 hiw hkw
    rw [HMM.out] at hpl
    have HFQ := Lib.hid hfq
    have HH0 := Lib.hid hH0
    clear hfq hH0
    go_upto_region 3 with fail
    go_wp2_with fail
    refine hpl.mono ?_
    rintro e w1 ⟨⟨A, c, rfl⟩, hf1⟩
    have HF1 := Lib.hid ((HFQ.out.mono (ok' := fun b => b ≠ pm) (fun _ _ _ => trivial)).trans hf1)
    clear hpl a0 a1 hf1
    go_upto_region 4 with fail
    have hF1 := HF1.out.trans ((fr_all w1 (.cells #[.bool m, .int .i64 0, .slice A 0 c] 109)).mono (ok' := fun b => b ≠ pm) (fun _ _ _ => trivial))
    have b8 : (w1.alloc (.cells #[.bool m, .int .i64 0, .slice A 0 c] 109)).heap[w1.heap.size]? = some (.cells #[.bool m, .int .i64 0, .slice A 0 c] 109 (0, 0)) := new_at rfl _
    have hw1 : w.heap.size + 3 ≤ w1.heap.size := by have := HF1.out.size; have := HSZ.out; omega
    generalize (w1.alloc (.cells #[.bool m, .int .i64 0, .slice A 0 c] 109)) = W1 at *
    have g0 := cell_of_row _ _ 0 _ _ _ b8
    have g1 := cell_of_row _ _ 1 _ _ _ b8
    have g2 := cell_of_row _ _ 2 _ _ _ b8
    have hP := hF1.at H0.out (by omega)
    have hV := hF1.at H1.out (by omega)
    have hRb := hF1.at H2.out (by omega)
    have HF := Lib.hid hF1
    have HP := Lib.hid hP
    have HV := Lib.hid hV
    have HRB := Lib.hid hRb
    have HB8 := Lib.hid b8
    clear hF1 b8
    cases m with
    | false =>
      obtain ⟨f0, f1, f2, f3, f4, _⟩ := frozen_10 hRb
      have r0 := cell_of_row _ _ 0 _ _ _ hRb
      have r1 := cell_of_row _ _ 1 _ _ _ hRb
      have r2 := cell_of_row _ _ 2 _ _ _ hRb
      have r3 := cell_of_row _ _ 3 _ _ _ hRb
      have r4 := cell_of_row _ _ 4 _ _ _ hRb
      clear hP hV hRb
      go_wp2
      refine val_ret (set5_new' _ _ _ _ _ HRB.out) rfl rfl rfl ⟨.inr ⟨rfl, rfl⟩, ?_⟩
      exact fr_more ((HF0.out.mono (ok' := fun b => b ≠ p ∧ b ≠ pm) (fun _ _ _ => trivial)).trans (HF.out.mono (fun _ _ h => h.2))) (set5_fr0' _ _ _ _ _ _ _) (fun q hq _ => by omega)
    | true =>
      have a0 := cell_of_row _ _ 0 _ _ _ hP
      have a1 := cell_of_row _ _ 1 _ _ _ hP
      have v0 := cell_of_row _ _ 0 _ _ _ hV
      have v1 := cell_of_row _ _ 1 _ _ _ hV
      have v2 := cell_of_row _ _ 2 _ _ _ hV
      have v3 := cell_of_row _ _ 3 _ _ _ hV
      have v4 := cell_of_row _ _ 4 _ _ _ hV
      have hal := alone_leaf T W1 p pm qm _ Ar cr 0 (fun b => b ≠ p ∧ b ≠ pm) (HT0.out.fr HF.out (Ne.symm hpp)) (nds_fr HF.out (fun b hb => hb.2) HR0.out) i k nd HK.out ⟨h13, h10⟩ (.bool true) (.int .i64 0) (.slice A 0 c) kv vn B none none nb cb 0 0 0 0 ys [] hy hyb
        (fun h => by obtain ⟨b, off, e, hb, hc⟩ := HYC.out h; exact ⟨b, off, e, fun j u hu => HF.out.cell (hc j u hu) hb.2⟩) hy1 rfl (by omega) (fun h => absurd h (by omega)) (by simp)
      clear hP hV hRb
      go_upto_region 6 with fail
      go_wp2_with fail
      refine hal.mono ?_
      rintro e w2 ⟨B', cb', A', ca', rfl, o5, o9, hb2⟩
      clear hal a0 a1 v0 v1 v2 v3 v4 g0 g1 g2
      go_upto_region 7 with fail
      have hF2 : Fr W1 (w2.alloc (.cells #[.int .i64 nd.kind, .int .i64 vn, .slice B' nb cb', .slice none 0 0, .slice A' 0 ca'] 26)) (fun _ => True) := (below_fr0 hb2).trans (fr_all w2 _)
      have b9 : (w2.alloc (.cells #[.int .i64 nd.kind, .int .i64 vn, .slice B' nb cb', .slice none 0 0, .slice A' 0 ca'] 26)).heap[w2.heap.size]? = some (.cells #[.int .i64 nd.kind, .int .i64 vn, .slice B' nb cb', .slice none 0 0, .slice A' 0 ca'] 26 (0, 0)) := new_at rfl _
      have q5 := (ownsRow_fr o5 (fr_all w2 (.cells #[.int .i64 nd.kind, .int .i64 vn, .slice B' nb cb', .slice none 0 0, .slice A' 0 ca'] 26)) (fun _ _ => trivial))
      have q9 := (ownsRow_fr o9 (fr_all w2 (.cells #[.int .i64 nd.kind, .int .i64 vn, .slice B' nb cb', .slice none 0 0, .slice A' 0 ca'] 26)) (fun _ _ => trivial))
      have hw2 : W1.heap.size ≤ w2.heap.size := hb2.size
      have hs1 := HF.out.size
      have hsz := HSZ.out
      generalize (w2.alloc (.cells #[.int .i64 nd.kind, .int .i64 vn, .slice B' nb cb', .slice none 0 0, .slice A' 0 ca'] 26)) = W2 at *
      have hT2 := (HT0.out.fr HF.out (Ne.symm hpp)).fr hF2 trivial
      have hco := come_any W2 p pm qm _ _ 0 1 hT2 (by omega) (by omega)
      rw [show decide ((0 : Int) + 1 ≤ 10000) = true from by decide, show (0 : Int) + 1 = 1 from rfl] at hco
      have HF2 := Lib.hid hF2
      have HB9 := Lib.hid b9
      have Q5 := Lib.hid q5
      have Q9 := Lib.hid q9
      have L5 := Lib.hid (fun g e => o5.lt g e)
      have L9 := Lib.hid (fun g e => o9.lt g e)
      clear hb2 o5 o9 q5 q9 hF2 b9 hT2
      go_upto_region 9 with fail
      go_wp2_with fail
      refine hco.mono ?_
      rintro e w3 ⟨rfl, hT3, hf3, hs3⟩
      clear hco
      have hP3 := hf3.at (HF2.out.at HP.out trivial) (by omega)
      have hV3 := hf3.at (HF2.out.at HV.out trivial) (by omega)
      have hB3 := hf3.at (HF2.out.at HB8.out trivial) (by omega)
      have a0 := cell_of_row _ _ 0 _ _ _ hP3
      have a1 := cell_of_row _ _ 1 _ _ _ hP3
      have v0 := cell_of_row _ _ 0 _ _ _ hV3
      have v1 := cell_of_row _ _ 1 _ _ _ hV3
      have v2 := cell_of_row _ _ 2 _ _ _ hV3
      have v3 := cell_of_row _ _ 3 _ _ _ hV3
      have v4 := cell_of_row _ _ 4 _ _ _ hV3
      have g0 := cell_of_row _ _ 0 _ _ _ hB3
      have g1 := cell_of_row _ _ 1 _ _ _ hB3
      have g2 := cell_of_row _ _ 2 _ _ _ hB3
      have hfw3 : Fr wr w3 (fun b => b ≠ p ∧ b ≠ pm) := ((HF.out.mono (fun _ _ h => h.2)).trans (HF2.out.mono (fun _ _ _ => trivial))).trans (hf3.mono (fun _ _ h => h.1))
      have hwi := within_leaf S T w3 p pm qm _ Ar cs cr 1 _ _ hT3 (nds_fr hfw3 (fun _ h => h) HS0.out) (nds_fr hfw3 (fun _ h => h) HR0.out) i k md nd HI.out HK.out ⟨h13, h9⟩ (.bool true) (.int .i64 0) (.slice A 0 c) kv vn B none nb cb 0 0
      have HF3 := Lib.hid hf3
      have HFW3 := Lib.hid hfw3
      clear hP3 hV3 hB3 hT3 hf3 hfw3
      go_upto_region 12 with fail
      go_wp2_with fail
      refine hwi.mono ?_
      rintro e w4 ⟨rfl, hb4⟩
      clear hwi a0 a1 v0 v1 v2 v3 v4 g0 g1 g2
      have h49 := (below_fr0 hb4).at (HF3.out.at HB9.out (by omega)) trivial
      have h4R := (below_fr0 hb4).at (HF3.out.at (HF2.out.at HRB.out trivial) (by omega)) trivial
      obtain ⟨_, _, _, f3, _⟩ := frozen_10 h49
      have r3 := cell_of_row _ _ 3 _ _ _ h49
      have h59 := heap_setCell_same w4 w2.heap.size 3 _ _ (.slice none 0 0) h49
      have h5R := (set_fr w4 w2.heap.size 3 (.slice none 0 0)).at h4R (by omega)
      have HF4 := Lib.hid (below_fr0 hb4)
      clear h49 h4R hb4
      go_upto_region 13 with fail
      have hF5 := set_fr w4 w2.heap.size 3 (.slice none 0 0)
      generalize (w4.setCell ⟨w2.heap.size, 3, none⟩ (.slice none 0 0)) = W5 at *
      have s0 : W5.cell? ⟨w2.heap.size, 0, none⟩ = some (.int .i64 nd.kind) := cell_of_row _ _ 0 _ _ _ h59
      have s1 : W5.cell? ⟨w2.heap.size, 1, none⟩ = some (.int .i64 vn) := cell_of_row _ _ 1 _ _ _ h59
      have s2 : W5.cell? ⟨w2.heap.size, 2, none⟩ = some (.slice B' nb cb') := cell_of_row _ _ 2 _ _ _ h59
      have s3 : W5.cell? ⟨w2.heap.size, 3, none⟩ = some (.slice none 0 0) := cell_of_row _ _ 3 _ _ _ h59
      have s4 : W5.cell? ⟨w2.heap.size, 4, none⟩ = some (.slice A' 0 ca') := cell_of_row _ _ 4 _ _ _ h59
      obtain ⟨f0, f1, f2, f3, f4, _⟩ := frozen_10 h5R
      have r0 := cell_of_row _ _ 0 _ _ _ h5R
      have r1 := cell_of_row _ _ 1 _ _ _ h5R
      have r2 := cell_of_row _ _ 2 _ _ _ h5R
      have r3 := cell_of_row _ _ 3 _ _ _ h5R
      have r4 := cell_of_row _ _ 4 _ _ _ h5R
      have H5R := Lib.hid h5R
      have HF5 := Lib.hid hF5
      clear h59 h5R hF5
      go_wp2
      have hall : Fr W2 W5 (fun b => b ≠ p ∧ b ≠ w2.heap.size) := ((HF3.out.mono (fun _ _ h => h.1)).trans (HF4.out.mono (fun _ _ _ => trivial))).trans (HF5.out.mono (fun _ _ h => h.2))
      refine val_ret (set5_new' _ _ _ _ _ H5R.out) rfl rfl rfl ⟨.inl ⟨rfl, B', cb', A', ca', rfl, ?_, ?_⟩, ?_⟩
      · exact own_low (ownsRow_fr (ownsRow_fr Q5.out hall (fun b hb => by have := L5.out b hb; omega)) (set5_fr0' _ _ _ _ _ _ _) (fun b hb => by have := L5.out b hb; omega)) (by omega)
      · exact own_low (ownsRow_fr (ownsRow_fr Q9.out hall (fun b hb => by have := L9.out b hb; omega)) (set5_fr0' _ _ _ _ _ _ _) (fun b hb => by have := L9.out b hb; omega)) (by omega)
      · have hA := ((HF0.out.mono (ok' := fun b => b ≠ p ∧ b ≠ pm) (fun _ _ _ => trivial)).trans (HF.out.mono (fun _ _ h => h.2))).trans (HF2.out.mono (fun _ _ _ => trivial))
        exact fr_gen (fr_gen hA hall (fun q hq h => by omega)) (set5_fr0' _ _ _ _ _ _ _) (fun q hq _ => by omega)
end Go.Proofs.YtcmillbjpplfjaaGreatDoor
