/-
  'plan': what the nodes of a pair say, kept in a map.
-/
import Derived.Test.YtcmillbjpplfjaaGreatDoorRso
import Derived.Test.YtcmillbjpplfjaaGreatDoorRsy
import Derived.Deep.RegionLaw
import Derived.StillTailTactics
import Derived.Deep.RegionHeld3
namespace Go.Proofs.YtcmillbjpplfjaaGreatDoor
open Go.RowKit Go.Maps

abbrev planV (S T : List Nd) (i k : Int) (src : Value) : Value := .agg #[.bool (planR S T i k), .int .i64 (planB S T i k), src]
/-- What is known of pairs. -/
def PlansOk (w : World) (pm : Nat) (bad : Nat → Prop) (S T : List Nd) : Prop :=
  ∃ es, MapL w pm es ∧ ∀ q, q ∈ es → ∃ i k src, q = (pairV i k, planV S T i k src) ∧ (Lit.int .i64 i).wf = true ∧ (Lit.int .i64 k).wf = true ∧ IntsAt w (fun b => b < w.heap.size ∧ ¬ bad b) (planS S T i k) src
theorem ints_new {w w' : World} {ok : Nat → Prop} {bad : Nat → Prop} {xs : List Int} {v : Value} (h : IntsAt w (fun b => b < w.heap.size ∧ ¬ bad b) xs v) (hf : Fr w w' ok) (hk : ∀ b, b < w.heap.size → ¬ bad b → ok b) : IntsAt w' (fun b => b < w'.heap.size ∧ ¬ bad b) xs v := by
  obtain ⟨A, cap, e, h1, h2, h3, h4⟩ := h
  exact ⟨A, cap, e, h1, h2, h3, fun hp => by
    obtain ⟨g, off, e, hg, hc⟩ := h4 hp
    exact ⟨g, off, e, ⟨Nat.lt_of_lt_of_le hg.1 hf.size, hg.2⟩, fun i x hx => hf.cell (hc i x hx) (hk g hg.1 hg.2)⟩⟩
theorem PlansOk.fr {w w' : World} {pm : Nat} {bad : Nat → Prop} {S T : List Nd} {ok : Nat → Prop} (h : PlansOk w pm bad S T) (hf : Fr w w' ok) (hpm : ok pm) (hk : ∀ b, b < w.heap.size → ¬ bad b → ok b) : PlansOk w' pm bad S T := by
  obtain ⟨es, h1, h2⟩ := h
  exact ⟨es, h1.fr hf hpm, fun q hq => by
    obtain ⟨i, k, src, e, hi, hk2, ha⟩ := h2 q hq
    exact ⟨i, k, src, e, hi, hk2, ints_new ha hf hk⟩⟩
def PlanP (w : World) (pm : Nat) (bad : Nat → Prop) (S T : List Nd) (i k : Int) (e : Ending) (w' : World) : Prop :=
  ∃ src, e = .returned (planV S T i k src) ∧ IntsAt w' (fun b => b < w'.heap.size ∧ ¬ bad b) (planS S T i k) src ∧ PlansOk w' pm bad S T ∧ Fr w w' (fun b => b ≠ pm)
theorem zeroPlan (w : World) : (zeroValue 109).run Tryz.prog w = .ok (.agg #[.bool false, .int .i64 0, .slice none 0 0]) w := by kernel_rfl
theorem set3 {W : World} {b : Nat} {e : TypeId} {a0 a1 a2 : Value} (v0 v1 v2 : Value) (h : W.heap[b]? = some (.cells #[a0, a1, a2] e (0, 0))) :
    (((W.setCell ⟨b, 0, none⟩ v0).setCell ⟨b, 1, none⟩ v1).setCell ⟨b, 2, none⟩ v2).heap[b]? = some (.cells #[v0, v1, v2] e (0, 0)) := by
  have h1 := heap_setCell_same W b 0 _ e v0 h
  have h2 := heap_setCell_same _ b 1 _ e v1 h1
  have h3 := heap_setCell_same _ b 2 _ e v2 h2
  rw [h3]; rfl
theorem set3_fr (w : World) (b : Nat) (v0 v1 v2 : Value) : Fr w (((w.setCell ⟨b, 0, none⟩ v0).setCell ⟨b, 1, none⟩ v1).setCell ⟨b, 2, none⟩ v2) (fun k => k ≠ b) :=
  ((set_fr w b 0 v0).trans (set_fr _ b 1 v1)).trans (set_fr _ b 2 v2)
theorem results_cell_one {fn : Func} {p : Tmp} {ty : TypeId} (h : fn.results = #[.cell p ty]) (tmps : Array Value) (P : Program) (w : World) :
    (results fn tmps).run P w = ((asAddr (tmps.getD p undef)).run P w).andThen fun a w₁ => (loadVar ty a).run P w₁ := by
  simp only [results, h]
  simp [Sem.run_bind, Result.andThen]
theorem plan_ret {a : Act} {W : World} {b : Nat} {v0 v1 v2 : Value} {Q : Ending → World → Prop} (h9 : W.heap[b]? = some (.cells #[v0, v1, v2] 109 (0, 0))) (h4 : a.tmps.getD 4 undef = .pointer (some ⟨b, 0, none⟩)) (hd : a.defers = [])
    (hq : Q (.returned (.agg #[v0, v1, v2])) W) : bodyPost Tryz.prog Tryz.f50 Q Exit.ret a W := by
  have q0 := cell_of_row _ _ 0 _ _ _ h9
  have q1 := cell_of_row _ _ 1 _ _ _ h9
  have q2 := cell_of_row _ _ 2 _ _ _ h9
  refine bodyPost_ret (v := .agg #[v0, v1, v2]) ?_ hd hq
  rw [results_cell_one (fn := Tryz.f50) (p := 4) (ty := 109) rfl, h4]
  simp [go_sem, q0, q1, q2]
abbrev plW (w : World) (i k : Int) : World := (w.alloc (.cells #[.int .i64 i, .int .i64 k] 73)).alloc (.cells #[.bool false, .int .i64 0, .slice none 0 0] 109)
set_option maxRecDepth 100000 in
set_option maxHeartbeats 4000000 in
theorem plan_hit (S T : List Nd) (w : World) (p pm qm : Nat) (vw vr : Value) (cnt : Int) (bad : Nat → Prop) (hT : Tn w p pm qm vw vr cnt) (hP : PlansOk w pm bad S T) (i k : Int) (hpm : pm < w.heap.size) (src : Value)
    (hlook : ∀ W, Fr w W (fun _ => True) → (Instr.lookup 67 (.map (some pm)) (pairV i k) true).run Tryz.prog W = .ok (.tuple #[planV S T i k src, .bool true]) W)
    (hsrc : IntsAt w (fun b => b < w.heap.size ∧ ¬ bad b) (planS S T i k) src) :
    Calls Tryz.prog 50 #[.pointer (some ⟨p, 0, none⟩), pairV i k] w (PlanP w pm bad S T i k) := by
  have hb0 : Below w.heap.size w (plW w i k) := ((Below.refl _ w).alloc (Nat.le_refl _) _).alloc (by simp) _
  have hf0 := below_fr0 hb0
  have h0 : (plW w i k).heap[w.heap.size]? = some (.cells #[.int .i64 i, .int .i64 k] 73 (0, 0)) := old_at _ (new_at rfl _)
  have h1 : (plW w i k).heap[w.heap.size + 1]? = some (.cells #[.bool false, .int .i64 0, .slice none 0 0] 109 (0, 0)) := new_at (by simp) _
  have hc := (hT.fr hf0 trivial).box
  obtain ⟨A, cap, rfl, _⟩ := id hsrc
  have HSRC := Lib.hid hsrc
  have HPP := Lib.hid hP
  obtain ⟨pr, hpr⟩ : ∃ b, planR S T i k = b := ⟨_, rfl⟩
  obtain ⟨pb, hpb⟩ : ∃ b, planB S T i k = b := ⟨_, rfl⟩
  obtain ⟨n, hn⟩ : ∃ n, (planS S T i k).length = n := ⟨_, rfl⟩
  have HPV : Hid (planV S T i k (.slice A (planS S T i k).length cap) = .agg #[.bool pr, .int .i64 pb, .slice A n cap]) := Lib.hid (by rw [planV, hpr, hpb, hn])
  simp only [planV, hpr, hpb, hn] at hlook
  have HLK := Lib.hid hlook
  have H0 := Lib.hid h0
  have H1 := Lib.hid h1
  have HC := Lib.hid hc
  have HF0 := Lib.hid hf0
  clear hT hP hsrc hlook hpr hpb hn hb0
  go_enter Tryz.func50, Tryz.ntmps50
  go_upto_region 1 with fail
  change Code.wp _ _ _ _ (plW w i k)
  generalize plW w i k = W0 at *
  have c3 := cell_of_row _ _ 3 _ _ _ hc
  have a0 := cell_of_row _ _ 0 _ _ _ h0
  have a1 := cell_of_row _ _ 1 _ _ _ h0
  have c3o : ∀ o, (W0.alloc o).cell? ⟨p, 3, none⟩ = some (.map (some pm)) := fun o => (fr_all W0 o).cell c3 trivial
  have a0o : ∀ o, (W0.alloc o).cell? ⟨w.heap.size, 0, none⟩ = some (.int .i64 i) := fun o => (fr_all W0 o).cell a0 trivial
  have a1o : ∀ o, (W0.alloc o).cell? ⟨w.heap.size, 1, none⟩ = some (.int .i64 k) := fun o => (fr_all W0 o).cell a1 trivial
  have l3 := HLK.out W0.drew (HF0.out.drewN 1)
  have l4 := fun o => HLK.out (W0.drew.alloc o) ((HF0.out.drewN 1).trans (fr_all W0.drew o))
  have l5 := fun o => HLK.out (W0.alloc o).drew ((HF0.out.trans (fr_all W0 o)).drewN 1)
  clear hc h0 h1
  go_cut [5, 6] (fun a c wx => a = .pointer (some ⟨W0.heap.size, 0, none⟩) ∧ c = .bool true ∧ wx.heap[W0.heap.size]? = some (.cells #[.bool pr, .int .i64 pb, .slice A n cap] 109 (0, 0)) ∧ Fr W0 wx (fun _ => True))
  case first =>
    go_region_law (fail)
    all_goals
      go_wp2_with fail
      go_meet
      exact ⟨rfl, rfl, new_at rfl _, (fr_all W0 _).drewN 1⟩
  case rest =>
    obtain ⟨rfl, rfl, hB, hfc⟩ := hcut
    have q0 := cell_of_row _ _ 0 _ _ _ hB
    have q1 := cell_of_row _ _ 1 _ _ _ hB
    have q2 := cell_of_row _ _ 2 _ _ _ hB
    have HFC := Lib.hid hfc
    have hR := hfc.at H1.out trivial
    obtain ⟨f0, f1, f2, _⟩ := frozen_10 hR
    have r0 := cell_of_row _ _ 0 _ _ _ hR
    have r1 := cell_of_row _ _ 1 _ _ _ hR
    have r2 := cell_of_row _ _ 2 _ _ _ hR
    have HR := Lib.hid hR
    clear hR hfc hB
    go_wp2
    refine plan_ret (set3 _ _ _ HR.out) rfl rfl ⟨.slice A (planS S T i k).length cap, by rw [HPV.out], ?_, ?_, ?_⟩
    · exact ints_new HSRC.out (fr_more (HF0.out.trans HFC.out) (set3_fr _ _ _ _ _) (fun k hk _ => by omega)) (fun _ _ _ => trivial)
    · exact HPP.out.fr (fr_more (HF0.out.trans HFC.out) (set3_fr _ _ _ _ _) (fun k hk _ => by omega)) trivial (fun _ _ _ => trivial)
    · exact (fr_more (HF0.out.trans HFC.out) (set3_fr _ _ _ _ _) (fun k hk _ => by omega)).mono (fun _ _ _ => trivial)
end Go.Proofs.YtcmillbjpplfjaaGreatDoor
