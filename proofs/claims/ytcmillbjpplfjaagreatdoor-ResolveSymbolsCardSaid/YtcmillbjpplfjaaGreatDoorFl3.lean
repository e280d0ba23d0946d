/-
  'reg_flow' with one thing more: what holds of all that is done so far, whichever that is (two blocks that are made are two).
-/
import Derived.Test.YtcmillbjpplfjaaGreatDoorFl2
namespace Go.Proofs.YtcmillbjpplfjaaGreatDoor
open Go Go.RowKit

section
variable {P : Program} {ops : List Oper} {Q : Exit → Act → World → Prop} {ds : List Deferred} {G : World → Prop} {Rel : Nat → (Nat → Value) → World → World → Prop} {E : (Nat → Prop) → (Nat → Value) → World → Prop}
/-- One operation: it leaves what it should. -/
def FlowOne3 (P : Program) (ops : List Oper) (Q : Exit → Act → World → Prop) (G : World → Prop) (Rel : Nat → (Nat → Value) → World → World → Prop) (E : (Nat → Prop) → (Nat → Value) → World → Prop) (ds : List Deferred) (J : List (Option Nat)) (t : List Value) (I : Nat → (Nat → Value) → World → Prop) (D : List Nat) (i : Nat) (o : Oper) : Prop :=
  ∀ (dn : Nat → Prop) (x : Nat → Value) (w : World), G w → E dn x w → ¬ dn i → (∀ j ∈ D, dn j) → (∀ j ∈ D, I j x w) → ∀ K : Act → World → Prop, (∀ v w', Rel i x w w' → G w' → I i (upd x i v) w' → E (fun j => j = i ∨ dn j) (upd x i v) w' → K (Act.put { tmps := (fillZ J t x).toArray, defers := ds } o.dst v) w') →
    if Region.wanted o (yielded ops.toArray (fillZ J t x).toArray) then o.wp P { tmps := (fillZ J t x).toArray, defers := ds } w K Q else K (Act.put { tmps := (fillZ J t x).toArray, defers := ds } o.dst undef) w
theorem flow_any3 {J : List (Option Nat)} {t : List Value} {D : List (List Nat)} {I : Nat → (Nat → Value) → World → Prop} (hB : flowB ops J D = true) (hl : J.length = t.length)
    (hI : ∀ i j (dn : Nat → Prop) x v w w', i ≠ j → j ∉ D.getD i [] → dn i → (∀ q ∈ D.getD i [], dn q) → (∀ q ∈ D.getD j [], dn q) → E (fun q => q = j ∨ dn q) (upd x j v) w' → I i x w → Rel j x w w' → I i (upd x j v) w') (hEq : ∀ d d' x w, (∀ q, d q ↔ d' q) → E d x w → E d' x w)
    (hops : flowAll (fun i o => FlowOne3 P ops Q G Rel E ds J t I (D.getD i []) i o) 0 ops)
    (hend : ∀ x w, G w → (∀ j, j < ops.length → I j x w) → Q .normal { tmps := (fillZ J t x).toArray, defers := ds } w) :
    ∀ f L a w, (∃ x, a = { tmps := (fillZ J t x).toArray, defers := ds } ∧ G w ∧ E (fun q => L[q]? = some true) x w ∧ L.size = ops.length ∧ f = cntF L.toList ∧
      ∀ (i : Nat) (o : Oper), ops[i]? = some o → L[i]? = some true → I i x w ∧ ∀ e ∈ o.after.toList, Region.binds .any e = true → L[e.on]? = some true) → wpAny P .any ops.toArray Q f L a w := by
  unfold flowB at hB
  simp only [Bool.and_eq_true] at hB
  obtain ⟨⟨hS, hE⟩, hD⟩ := hB
  have hclo : ∀ (L : Array Bool), (∀ (i : Nat) (o : Oper), ops[i]? = some o → L[i]? = some true → ∀ e ∈ o.after.toList, Region.binds .any e = true → L[e.on]? = some true) →
      ∀ (f i j : Nat) (o : Oper), ops[i]? = some o → (∀ e ∈ o.after.toList, Region.binds .any e = true → L[e.on]? = some true) → clo ops f i j = true → L[j]? = some true := by
    intro L hL f
    induction f with
    | zero => intro i j o _ _ hc; simp [clo] at hc
    | succ f ih =>
      intro i j o ho hr hc
      rw [clo, ho] at hc
      simp only at hc
      rw [← Array.any_toList] at hc
      obtain ⟨e, he, hc⟩ := List.any_eq_true.1 hc
      rw [Bool.and_eq_true, Bool.or_eq_true] at hc
      have h1 := hr e he hc.1
      rcases hc.2 with h2 | h2
      · rw [← eq_of_beq h2]; exact h1
      · cases ho2 : ops[e.on]? with
        | none => cases f with
          | zero => simp [clo] at h2
          | succ f => rw [clo, ho2] at h2; cases h2
        | some o2 => exact ih e.on j o2 ho2 (hL e.on o2 ho2 h1) h2
  have hready : ∀ (L : Array Bool), L.size = ops.length → ∀ (i : Nat), i ∈ Region.ready .any ops.toArray L → ∃ o : Oper, ops[i]? = some o ∧ L[i]? = some false ∧ ∀ e ∈ o.after.toList, Region.binds .any e = true → L[e.on]? = some true := by
    intro L hL i hi
    unfold Region.ready at hi
    rw [List.mem_filter] at hi
    obtain ⟨h1, h2⟩ := hi
    have hlt : i < ops.length := by simpa using h1
    rw [Bool.and_eq_true] at h2
    refine ⟨ops[i], List.getElem?_eq_getElem hlt, ?_, ?_⟩
    · have h3 := h2.1
      rw [Array.getD_eq_getD_getElem?] at h3
      have h4 : i < L.size := by omega
      rw [Array.getElem?_eq_getElem h4] at h3 ⊢
      simpa using h3
    · intro e he hb
      have h3 := h2.2
      rw [List.getElem?_toArray, List.getElem?_eq_getElem hlt] at h3
      simp only [Option.map_some, Option.getD_some] at h3
      rw [← Array.all_toList] at h3
      have h4 := List.all_eq_true.1 h3 e he
      rw [hb] at h4
      simp only [Bool.not_true, Bool.false_or] at h4
      rw [Array.getD_eq_getD_getElem?] at h4
      cases h5 : L[e.on]? with
      | none => rw [h5] at h4; cases h4
      | some b => rw [h5] at h4; simp at h4; rw [h4]
  have hnone : ∀ (L : Array Bool), L.size = ops.length → Region.ready .any ops.toArray L = [] → ∀ (i : Nat), i < ops.length → L[i]? = some true := by
    intro L hL hn i
    induction i using Nat.strongRecOn with
    | ind i ih =>
      intro hi
      have h4 : i < L.size := by omega
      rw [Array.getElem?_eq_getElem h4]
      cases hb : L[i] with
      | true => rfl
      | false =>
        exfalso
        have hmem : i ∈ Region.ready .any ops.toArray L := by
          unfold Region.ready
          rw [List.mem_filter]
          refine ⟨by simpa using hi, ?_⟩
          rw [Bool.and_eq_true]
          refine ⟨by rw [Array.getD_eq_getD_getElem?, Array.getElem?_eq_getElem h4, hb]; rfl, ?_⟩
          rw [List.getElem?_toArray, List.getElem?_eq_getElem hi]
          simp only [Option.map_some, Option.getD_some]
          rw [← Array.all_toList, List.all_eq_true]
          intro e he
          cases hbe : Region.binds .any e with
          | false => rfl
          | true =>
            have h5 := List.all_eq_true.1 hE i (by simpa using hi)
            rw [List.getElem?_eq_getElem hi] at h5
            simp only at h5
            rw [← Array.all_toList] at h5
            have h6 := List.all_eq_true.1 h5 e he
            rw [hbe] at h6
            simp only [Bool.not_true, Bool.false_or, decide_eq_true_eq] at h6
            have h7 := ih e.on h6 (by omega)
            rw [Array.getD_eq_getD_getElem?, h7]
            rfl
        rw [hn] at hmem
        cases hmem
  intro f
  induction f with
  | zero =>
    rintro L a w ⟨x, rfl, hf, hEx, hL, hc, hi⟩
    have hno : Region.ready .any ops.toArray L = [] := List.eq_nil_iff_forall_not_mem.2 fun i hi => by
      obtain ⟨o, _, h2, _⟩ := hready L hL i hi
      have := cntF_set L.toList i (by rw [Array.getElem?_toList]; exact h2)
      omega
    refine ⟨hno, hend x w hf fun j hj => ?_⟩
    exact (hi j ops[j] (List.getElem?_eq_getElem hj) (hnone L hL hno j hj)).1
  | succ f ih =>
    rintro L a w ⟨x, rfl, hf, hEx, hL, hc, hi⟩
    refine ⟨fun hno => hend x w hf fun j hj => (hi j ops[j] (List.getElem?_eq_getElem hj) (hnone L hL hno j hj)).1, fun i hir => ?_⟩
    obtain ⟨o, ho, hfl, haf⟩ := hready L hL i hir
    have hlt := (List.getElem?_eq_some_iff.1 ho).1
    have hone := flowAll_get _ _ _ hops ho
    rw [Nat.zero_add] at hone
    have hnd : ∀ (j : Nat) (oj : Oper), ops[j]? = some oj → L[j]? = some true → i ∉ D.getD j [] := by
      intro j oj hoj hjt hmem
      have h5 := List.all_eq_true.1 hD j (by have := (List.getElem?_eq_some_iff.1 hoj).1; simpa using this)
      have h6 := List.all_eq_true.1 h5 i hmem
      have h7 := hclo L (fun i o ho hl => (hi i o ho hl).2) 50 j i oj hoj (hi j oj hoj hjt).2 h6
      rw [hfl] at h7
      cases h7
    have hdd : ∀ (i : Nat) (o : Oper), ops[i]? = some o → (∀ e ∈ o.after.toList, Region.binds .any e = true → L[e.on]? = some true) → ∀ j ∈ D.getD i [], L[j]? = some true := by
      intro i o ho haf j hj
      have h5 := List.all_eq_true.1 hD i (by have := (List.getElem?_eq_some_iff.1 ho).1; simpa using this)
      exact hclo L (fun i o ho hl => (hi i o ho hl).2) 50 i j o ho haf (List.all_eq_true.1 h5 j hj)
    have hdep : ∀ j ∈ D.getD i [], I j x w := by
      intro j hj
      have h5 := List.all_eq_true.1 hD i (by simpa using hlt)
      have h6 := List.all_eq_true.1 h5 j hj
      have h7 := hclo L (fun i o ho hl => (hi i o ho hl).2) 50 i j o ho haf h6
      have hjl : j < ops.length := by
        have := (Array.getElem?_eq_some_iff.1 h7).1
        omega
      exact (hi j ops[j] (List.getElem?_eq_getElem hjl) h7).1
    have hK : ∀ v w', Rel i x w w' → G w' → I i (upd x i v) w' → E (fun j => j = i ∨ L[j]? = some true) (upd x i v) w' → wpAny P .any ops.toArray Q f (L.setIfInBounds i true) (Act.put { tmps := (fillZ J t x).toArray, defers := ds } o.dst v) w' := by
      intro v w' hfw hG' hIv hEv
      have hset : ∀ q, (q = i ∨ L[q]? = some true) ↔ (L.setIfInBounds i true)[q]? = some true := by
        intro q
        rw [Array.getElem?_setIfInBounds]
        by_cases hq : i = q
        · subst hq
          have := (Array.getElem?_eq_some_iff.1 hfl).1
          simp [this]
        · rw [if_neg hq]
          exact ⟨fun h => h.elim (fun e => absurd e.symm hq) id, .inr⟩
      refine ih _ _ _ ⟨upd x i v, ?_, hG', hEq _ _ _ _ hset hEv, by simpa using hL, ?_, ?_⟩
      · cases hd : o.dst with
        | none => rw [← fillZ_none hS hl ho hd]; rfl
        | some d =>
          show Act.mk _ _ = _
          rw [fillZ_put hS hl (slots_fst hS ho hd)]
      · rw [Array.toList_setIfInBounds]
        have := cntF_set L.toList i (by rw [Array.getElem?_toList]; exact hfl)
        omega
      · intro j oj hoj hjt
        rw [Array.getElem?_setIfInBounds] at hjt
        by_cases hji : i = j
        · subst hji
          have : oj = o := by rw [hoj] at ho; exact Option.some.inj ho
          subst this
          refine ⟨hIv, fun e he hb => ?_⟩
          have h8 := haf e he hb
          rw [Array.getElem?_setIfInBounds]
          split
          · rename_i h9; subst h9; simp; have := (Array.getElem?_eq_some_iff.1 hfl).1; omega
          · exact h8
        · rw [if_neg hji] at hjt
          obtain ⟨h9, h10⟩ := hi j oj hoj hjt
          refine ⟨hI _ _ _ _ _ _ _ (Ne.symm hji) (hnd j oj hoj hjt) hjt (hdd j oj hoj h10) (hdd i o ho haf) hEv h9 hfw, fun e he hb => ?_⟩
          have h8 := h10 e he hb
          rw [Array.getElem?_setIfInBounds]
          split
          · rename_i h9; subst h9; simp; have := (Array.getElem?_eq_some_iff.1 hfl).1; omega
          · exact h8
    have h1 := hone (fun q => L[q]? = some true) x w hf hEx (by rw [hfl]; simp) (hdd i o ho haf) hdep _ hK
    unfold wpOp
    rw [List.getElem?_toArray, ho]
    simp only
    split
    · rename_i hw
      rw [if_pos hw] at h1
      exact .inl h1
    · rename_i hw
      rw [if_neg hw] at h1
      exact h1
/-- THE REGION. -/
theorem reg_flow3 {J : List (Option Nat)} {t : List Value} {id : Nat} {w0 : World} (G : World → Prop) (Rel : Nat → (Nat → Value) → World → World → Prop) (E : (Nat → Prop) → (Nat → Value) → World → Prop) (D : List (List Nat)) (I : Nat → (Nat → Value) → World → Prop) (hm : P.follows .mixedOrders = true) (hB : flowB ops J D = true) (hl : J.length = t.length)
    (hI : ∀ i j (dn : Nat → Prop) x v w w', i ≠ j → j ∉ D.getD i [] → dn i → (∀ q ∈ D.getD i [], dn q) → (∀ q ∈ D.getD j [], dn q) → E (fun q => q = j ∨ dn q) (upd x j v) w' → I i x w → Rel j x w w' → I i (upd x j v) w') (hEq : ∀ d d' x w, (∀ q, d q ↔ d' q) → E d x w → E d' x w) (hG : G (w0.drewN 1)) (hE0 : ∀ x, E (fun _ => False) x (w0.drewN 1))
    (hops : flowAll (fun i o => FlowOne3 P ops Q G Rel E ds J t I (D.getD i []) i o) 0 ops)
    (hend : ∀ x w, G w → (∀ j, j < ops.length → I j x w) → Q .normal { tmps := (fillZ J t x).toArray, defers := ds } w) :
    (Code.region id ops.toArray true).wp P Q { tmps := t.toArray, defers := ds } w0 := by
  refine wp_region_any hm ?_
  have hx : ∃ x, t = fillZ J t x := by
    have hS : slotsOk ops J = true := by unfold flowB at hB; simp only [Bool.and_eq_true] at hB; exact hB.1.1
    refine ⟨fun j => t.getD (((ops[j]?).bind (·.dst)).getD 0) undef, List.ext_getElem? fun k => ?_⟩
    rw [fillZ_get _ J t hl]
    cases hj : J[k]? with
    | none =>
      have := List.getElem?_eq_none_iff.1 hj
      exact List.getElem?_eq_none (by omega)
    | some q =>
      cases q with
      | none => rfl
      | some j =>
        have hkl := (List.getElem?_eq_some_iff.1 hj).1
        simp only [slots_snd hS hj, Option.getD_some]
        rw [List.getD_eq_getElem?_getD, List.getElem?_eq_getElem (by omega)]
        rfl
  obtain ⟨x, hx⟩ := hx
  have hsz : ∀ (n : Nat), cntF (List.replicate n false) = n := fun n => by
    induction n with
    | zero => rfl
    | succ n ih => rw [List.replicate_succ, cntF, ih]; simp; omega
  refine flow_any3 hB hl hI hEq hops hend _ _ _ _ ⟨x, by rw [← hx], hG, hEq _ _ _ _ (fun q => by rw [Array.getElem?_replicate]; split <;> simp) (hE0 x), by simp, by simp [hsz], fun i o _ h => ?_⟩
  rw [Array.getElem?_replicate] at h
  split at h <;> cases h
end
end Go.Proofs.YtcmillbjpplfjaaGreatDoor
