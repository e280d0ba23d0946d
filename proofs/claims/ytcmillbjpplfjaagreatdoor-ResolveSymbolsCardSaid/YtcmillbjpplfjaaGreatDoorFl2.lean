/-
  A region that draws its order, walked by what each operation leaves, operations that write and that make memory too: an operation comes up behind those that it looks at; what they left still stands, if each other operation leaves it.
-/
import Derived.Test.YtcmillbjpplfjaaGreatDoorMbs
import Derived.Orders
namespace Go.Proofs.YtcmillbjpplfjaaGreatDoor
open Go Go.RowKit

/-- The slots, those that the region's operations write by letters. -/
def fillZ : List (Option Nat) → List Value → (Nat → Value) → List Value
  | some j :: r, _ :: t, x => x j :: fillZ r t x
  | none :: r, v :: t, x => v :: fillZ r t x
  | [], t, _ => t
  | _ :: _, [], _ => []
theorem fillZ_get (x : Nat → Value) : ∀ (J : List (Option Nat)) (t : List Value), J.length = t.length → ∀ (k : Nat), (fillZ J t x)[k]? = (match J[k]? with | some (some j) => some (x j) | some none => t[k]? | none => none : Option Value)
  | [], [], _, k => by simp [fillZ]
  | some j :: r, v :: t, h, 0 => by simp [fillZ]
  | none :: r, v :: t, h, 0 => by simp [fillZ]
  | some j :: r, v :: t, h, k + 1 => by simpa [fillZ] using fillZ_get x r t (by simpa using h) k
  | none :: r, v :: t, h, k + 1 => by simpa [fillZ] using fillZ_get x r t (by simpa using h) k
theorem fillZ_len (x : Nat → Value) : ∀ (J : List (Option Nat)) (t : List Value), J.length = t.length → (fillZ J t x).length = t.length
  | [], [], _ => rfl
  | some j :: r, v :: t, h => by simp [fillZ, fillZ_len x r t (by simpa using h)]
  | none :: r, v :: t, h => by simp [fillZ, fillZ_len x r t (by simpa using h)]
def upd (x : Nat → Value) (i : Nat) (v : Value) (j : Nat) : Value := if j = i then v else x j
/-- Which slot each operation writes, and which operation writes each slot. -/
def slotsOk (ops : List Oper) (J : List (Option Nat)) : Bool :=
  ((List.range ops.length).all fun i => match (ops[i]?).bind (·.dst) with | some d => J[d]? == some (some i) | none => true) &&
  ((List.range J.length).all fun k => match J[k]? with | some (some j) => (ops[j]?).bind (·.dst) == some k | _ => true)
theorem slots_fst {ops : List Oper} {J : List (Option Nat)} (h : slotsOk ops J = true) {i : Nat} {o : Oper} (ho : ops[i]? = some o) {d : Nat} (hd : o.dst = some d) : J[d]? = some (some i) := by
  unfold slotsOk at h
  rw [Bool.and_eq_true] at h
  have hi := (List.getElem?_eq_some_iff.1 ho).1
  have := List.all_eq_true.1 h.1 i (by simpa using hi)
  rw [ho] at this
  simpa [hd] using this
theorem slots_snd {ops : List Oper} {J : List (Option Nat)} (h : slotsOk ops J = true) {k j : Nat} (hk : J[k]? = some (some j)) : (ops[j]?).bind (·.dst) = some k := by
  unfold slotsOk at h
  rw [Bool.and_eq_true] at h
  have hl := (List.getElem?_eq_some_iff.1 hk).1
  have := List.all_eq_true.1 h.2 k (by simpa using hl)
  rw [hk] at this
  simpa using this
theorem fillZ_put {ops : List Oper} {J : List (Option Nat)} {t : List Value} (h : slotsOk ops J = true) (hl : J.length = t.length) {i d : Nat} (hd : J[d]? = some (some i)) (x : Nat → Value) (v : Value) :
    ((fillZ J t x).toArray.setIfInBounds d v) = (fillZ J t (upd x i v)).toArray := by
  have hdl := (List.getElem?_eq_some_iff.1 hd).1
  apply Array.ext_getElem?
  intro k
  rw [Array.getElem?_setIfInBounds]
  simp only [List.getElem?_toArray, List.size_toArray]
  rw [fillZ_get x J t hl, fillZ_get (upd x i v) J t hl]
  by_cases hk : d = k
  · subst hk
    rw [if_pos rfl, hd]
    simp [upd, fillZ_len x J t hl, ← hl, hdl]
  · rw [if_neg hk]
    cases hj : J[k]? with
    | none => rfl
    | some q =>
      cases q with
      | none => rfl
      | some j =>
        have hne : j ≠ i := by
          rintro rfl
          have h1 := slots_snd h hj
          have h2 := slots_snd h hd
          rw [h1] at h2
          exact hk (Option.some.inj h2).symm
        simp [upd, hne]
theorem fillZ_none {ops : List Oper} {J : List (Option Nat)} {t : List Value} (h : slotsOk ops J = true) (hl : J.length = t.length) {i : Nat} {o : Oper} (ho : ops[i]? = some o) (hd : o.dst = none) (x : Nat → Value) (v : Value) :
    fillZ J t x = fillZ J t (upd x i v) := by
  apply List.ext_getElem?
  intro k
  rw [fillZ_get x J t hl, fillZ_get (upd x i v) J t hl]
  cases hj : J[k]? with
  | none => rfl
  | some q =>
    cases q with
    | none => rfl
    | some j =>
      have hne : j ≠ i := by
        rintro rfl
        have h1 := slots_snd h hj
        rw [ho] at h1
        simp [hd] at h1
      simp [upd, hne]
/-- What has to be done ahead of operation i. -/
def clo (ops : List Oper) : Nat → Nat → Nat → Bool
  | 0, _, _ => false
  | f + 1, i, j => match ops[i]? with | some o => o.after.any (fun e => Region.binds .any e && (e.on == j || clo ops f e.on j)) | none => false
def edgesOk (ops : List Oper) : Bool := (List.range ops.length).all fun i => match ops[i]? with | some o => o.after.all (fun e => !Region.binds .any e || decide (e.on < i)) | none => true
def depsOk (ops : List Oper) (D : List (List Nat)) : Bool := (List.range ops.length).all fun i => (D.getD i []).all fun j => clo ops 50 i j
def flowB (ops : List Oper) (J : List (Option Nat)) (D : List (List Nat)) : Bool := slotsOk ops J && edgesOk ops && depsOk ops D
def cntF : List Bool → Nat
  | [] => 0
  | b :: r => (if b then 0 else 1) + cntF r
theorem cntF_set : ∀ (l : List Bool) (i : Nat), l[i]? = some false → cntF l = cntF (l.set i true) + 1
  | b :: r, 0, h => by simp at h; subst h; simp [cntF]; omega
  | b :: r, i + 1, h => by
    have := cntF_set r i (by simpa using h)
    simp only [List.set_cons_succ, cntF]
    omega
section
variable {P : Program} {ops : List Oper} {Q : Exit → Act → World → Prop} {ds : List Deferred} {G : World → Prop} {Rel : Nat → World → World → Prop}
/-- One operation: it leaves what it should. -/
def FlowOne (P : Program) (ops : List Oper) (Q : Exit → Act → World → Prop) (G : World → Prop) (Rel : Nat → World → World → Prop) (ds : List Deferred) (J : List (Option Nat)) (t : List Value) (I : Nat → (Nat → Value) → World → Prop) (D : List Nat) (i : Nat) (o : Oper) : Prop :=
  ∀ (x : Nat → Value) (w : World), G w → (∀ j ∈ D, I j x w) → ∀ K : Act → World → Prop, (∀ v w', Rel i w w' → G w' → I i (upd x i v) w' → K (Act.put { tmps := (fillZ J t x).toArray, defers := ds } o.dst v) w') →
    if Region.wanted o (yielded ops.toArray (fillZ J t x).toArray) then o.wp P { tmps := (fillZ J t x).toArray, defers := ds } w K Q else K (Act.put { tmps := (fillZ J t x).toArray, defers := ds } o.dst undef) w
def flowAll (F : Nat → Oper → Prop) : Nat → List Oper → Prop
  | _, [] => True
  | i, o :: r => F i o ∧ flowAll F (i + 1) r
theorem flowAll_get {F : Nat → Oper → Prop} {o : Oper} : ∀ (l : List Oper) (k i : Nat), flowAll F k l → l[i]? = some o → F (k + i) o := by
  intro l
  induction l with
  | nil => intro k i _ h; simp at h
  | cons o' r ih =>
    intro k i h hi
    cases i with
    | zero =>
      simp only [List.getElem?_cons_zero, Option.some.injEq] at hi
      rw [← hi]; exact h.1
    | succ i =>
      have h1 := ih (k + 1) i h.2 (by simpa using hi)
      have e : k + 1 + i = k + (i + 1) := by omega
      rw [e] at h1
      exact h1
theorem flow_any {J : List (Option Nat)} {t : List Value} {D : List (List Nat)} {I : Nat → (Nat → Value) → World → Prop} (hB : flowB ops J D = true) (hl : J.length = t.length)
    (hI : ∀ i j x v w w', i ≠ j → j ∉ D.getD i [] → I i x w → Rel j w w' → I i (upd x j v) w')
    (hops : flowAll (fun i o => FlowOne P ops Q G Rel ds J t I (D.getD i []) i o) 0 ops)
    (hend : ∀ x w, G w → (∀ j, j < ops.length → I j x w) → Q .normal { tmps := (fillZ J t x).toArray, defers := ds } w) :
    ∀ f L a w, (∃ x, a = { tmps := (fillZ J t x).toArray, defers := ds } ∧ G w ∧ L.size = ops.length ∧ f = cntF L.toList ∧
      ∀ (i : Nat) (o : Oper), ops[i]? = some o → L[i]? = some true → I i x w ∧ ∀ e ∈ o.after.toList, Region.binds .any e = true → L[e.on]? = some true) → wpAny P .any ops.toArray Q f L a w := by
  unfold flowB at hB
  simp only [Bool.and_eq_true] at hB
  obtain ⟨⟨hS, hE⟩, hD⟩ := hB
  have hclo : ∀ (L : Array Bool), (∀ (i : Nat) (o : Oper), ops[i]? = some o → L[i]? = some true → ∀ e ∈ o.after.toList, Region.binds .any e = true → L[e.on]? = some true) →
      ∀ (f i j : Nat) (o : Oper), ops[i]? = some o → (∀ e ∈ o.after.toList, Region.binds .any e = true → L[e.on]? = some true) → clo ops f i j = true → L[j]? = some true := by
    intro L hL f
    induction f with
    | zero => intro i j o _ _ hc; simp [clo] at hc
    | succ f ih =>
      intro i j o ho hr hc
      rw [clo, ho] at hc
      simp only at hc
      rw [← Array.any_toList] at hc
      obtain ⟨e, he, hc⟩ := List.any_eq_true.1 hc
      rw [Bool.and_eq_true, Bool.or_eq_true] at hc
      have h1 := hr e he hc.1
      rcases hc.2 with h2 | h2
      · rw [← eq_of_beq h2]; exact h1
      · cases ho2 : ops[e.on]? with
        | none => cases f with
          | zero => simp [clo] at h2
          | succ f => rw [clo, ho2] at h2; cases h2
        | some o2 => exact ih e.on j o2 ho2 (hL e.on o2 ho2 h1) h2
  have hready : ∀ (L : Array Bool), L.size = ops.length → ∀ (i : Nat), i ∈ Region.ready .any ops.toArray L → ∃ o : Oper, ops[i]? = some o ∧ L[i]? = some false ∧ ∀ e ∈ o.after.toList, Region.binds .any e = true → L[e.on]? = some true := by
    intro L hL i hi
    unfold Region.ready at hi
    rw [List.mem_filter] at hi
    obtain ⟨h1, h2⟩ := hi
    have hlt : i < ops.length := by simpa using h1
    rw [Bool.and_eq_true] at h2
    refine ⟨ops[i], List.getElem?_eq_getElem hlt, ?_, ?_⟩
    · have h3 := h2.1
      rw [Array.getD_eq_getD_getElem?] at h3
      have h4 : i < L.size := by omega
      rw [Array.getElem?_eq_getElem h4] at h3 ⊢
      simpa using h3
    · intro e he hb
      have h3 := h2.2
      rw [List.getElem?_toArray, List.getElem?_eq_getElem hlt] at h3
      simp only [Option.map_some, Option.getD_some] at h3
      rw [← Array.all_toList] at h3
      have h4 := List.all_eq_true.1 h3 e he
      rw [hb] at h4
      simp only [Bool.not_true, Bool.false_or] at h4
      rw [Array.getD_eq_getD_getElem?] at h4
      cases h5 : L[e.on]? with
      | none => rw [h5] at h4; cases h4
      | some b => rw [h5] at h4; simp at h4; rw [h4]
  have hnone : ∀ (L : Array Bool), L.size = ops.length → Region.ready .any ops.toArray L = [] → ∀ (i : Nat), i < ops.length → L[i]? = some true := by
    intro L hL hn i
    induction i using Nat.strongRecOn with
    | ind i ih =>
      intro hi
      have h4 : i < L.size := by omega
      rw [Array.getElem?_eq_getElem h4]
      cases hb : L[i] with
      | true => rfl
      | false =>
        exfalso
        have hmem : i ∈ Region.ready .any ops.toArray L := by
          unfold Region.ready
          rw [List.mem_filter]
          refine ⟨by simpa using hi, ?_⟩
          rw [Bool.and_eq_true]
          refine ⟨by rw [Array.getD_eq_getD_getElem?, Array.getElem?_eq_getElem h4, hb]; rfl, ?_⟩
          rw [List.getElem?_toArray, List.getElem?_eq_getElem hi]
          simp only [Option.map_some, Option.getD_some]
          rw [← Array.all_toList, List.all_eq_true]
          intro e he
          cases hbe : Region.binds .any e with
          | false => rfl
          | true =>
            have h5 := List.all_eq_true.1 hE i (by simpa using hi)
            rw [List.getElem?_eq_getElem hi] at h5
            simp only at h5
            rw [← Array.all_toList] at h5
            have h6 := List.all_eq_true.1 h5 e he
            rw [hbe] at h6
            simp only [Bool.not_true, Bool.false_or, decide_eq_true_eq] at h6
            have h7 := ih e.on h6 (by omega)
            rw [Array.getD_eq_getD_getElem?, h7]
            rfl
        rw [hn] at hmem
        cases hmem
  intro f
  induction f with
  | zero =>
    rintro L a w ⟨x, rfl, hf, hL, hc, hi⟩
    have hno : Region.ready .any ops.toArray L = [] := List.eq_nil_iff_forall_not_mem.2 fun i hi => by
      obtain ⟨o, _, h2, _⟩ := hready L hL i hi
      have := cntF_set L.toList i (by rw [Array.getElem?_toList]; exact h2)
      omega
    refine ⟨hno, hend x w hf fun j hj => ?_⟩
    exact (hi j ops[j] (List.getElem?_eq_getElem hj) (hnone L hL hno j hj)).1
  | succ f ih =>
    rintro L a w ⟨x, rfl, hf, hL, hc, hi⟩
    refine ⟨fun hno => hend x w hf fun j hj => (hi j ops[j] (List.getElem?_eq_getElem hj) (hnone L hL hno j hj)).1, fun i hir => ?_⟩
    obtain ⟨o, ho, hfl, haf⟩ := hready L hL i hir
    have hlt := (List.getElem?_eq_some_iff.1 ho).1
    have hone := flowAll_get _ _ _ hops ho
    rw [Nat.zero_add] at hone
    have hnd : ∀ (j : Nat) (oj : Oper), ops[j]? = some oj → L[j]? = some true → i ∉ D.getD j [] := by
      intro j oj hoj hjt hmem
      have h5 := List.all_eq_true.1 hD j (by have := (List.getElem?_eq_some_iff.1 hoj).1; simpa using this)
      have h6 := List.all_eq_true.1 h5 i hmem
      have h7 := hclo L (fun i o ho hl => (hi i o ho hl).2) 50 j i oj hoj (hi j oj hoj hjt).2 h6
      rw [hfl] at h7
      cases h7
    have hdep : ∀ j ∈ D.getD i [], I j x w := by
      intro j hj
      have h5 := List.all_eq_true.1 hD i (by simpa using hlt)
      have h6 := List.all_eq_true.1 h5 j hj
      have h7 := hclo L (fun i o ho hl => (hi i o ho hl).2) 50 i j o ho haf h6
      have hjl : j < ops.length := by
        have := (Array.getElem?_eq_some_iff.1 h7).1
        omega
      exact (hi j ops[j] (List.getElem?_eq_getElem hjl) h7).1
    have hK : ∀ v w', Rel i w w' → G w' → I i (upd x i v) w' → wpAny P .any ops.toArray Q f (L.setIfInBounds i true) (Act.put { tmps := (fillZ J t x).toArray, defers := ds } o.dst v) w' := by
      intro v w' hfw hG' hIv
      refine ih _ _ _ ⟨upd x i v, ?_, hG', by simpa using hL, ?_, ?_⟩
      · cases hd : o.dst with
        | none => rw [← fillZ_none hS hl ho hd]; rfl
        | some d =>
          show Act.mk _ _ = _
          rw [fillZ_put hS hl (slots_fst hS ho hd)]
      · rw [Array.toList_setIfInBounds]
        have := cntF_set L.toList i (by rw [Array.getElem?_toList]; exact hfl)
        omega
      · intro j oj hoj hjt
        rw [Array.getElem?_setIfInBounds] at hjt
        by_cases hji : i = j
        · subst hji
          have : oj = o := by rw [hoj] at ho; exact Option.some.inj ho
          subst this
          refine ⟨hIv, fun e he hb => ?_⟩
          have h8 := haf e he hb
          rw [Array.getElem?_setIfInBounds]
          split
          · rename_i h9; subst h9; simp; have := (Array.getElem?_eq_some_iff.1 hfl).1; omega
          · exact h8
        · rw [if_neg hji] at hjt
          obtain ⟨h9, h10⟩ := hi j oj hoj hjt
          refine ⟨hI _ _ _ _ _ _ (Ne.symm hji) (hnd j oj hoj hjt) h9 hfw, fun e he hb => ?_⟩
          have h8 := h10 e he hb
          rw [Array.getElem?_setIfInBounds]
          split
          · rename_i h9; subst h9; simp; have := (Array.getElem?_eq_some_iff.1 hfl).1; omega
          · exact h8
    have h1 := hone x w hf hdep _ hK
    unfold wpOp
    rw [List.getElem?_toArray, ho]
    simp only
    split
    · rename_i hw
      rw [if_pos hw] at h1
      exact .inl h1
    · rename_i hw
      rw [if_neg hw] at h1
      exact h1
/-- THE REGION. -/
theorem reg_flow {J : List (Option Nat)} {t : List Value} {id : Nat} {w0 : World} (G : World → Prop) (Rel : Nat → World → World → Prop) (D : List (List Nat)) (I : Nat → (Nat → Value) → World → Prop) (hm : P.follows .mixedOrders = true) (hB : flowB ops J D = true) (hl : J.length = t.length)
    (hI : ∀ i j x v w w', i ≠ j → j ∉ D.getD i [] → I i x w → Rel j w w' → I i (upd x j v) w') (hG : G (w0.drewN 1))
    (hops : flowAll (fun i o => FlowOne P ops Q G Rel ds J t I (D.getD i []) i o) 0 ops)
    (hend : ∀ x w, G w → (∀ j, j < ops.length → I j x w) → Q .normal { tmps := (fillZ J t x).toArray, defers := ds } w) :
    (Code.region id ops.toArray true).wp P Q { tmps := t.toArray, defers := ds } w0 := by
  refine wp_region_any hm ?_
  have hx : ∃ x, t = fillZ J t x := by
    have hS : slotsOk ops J = true := by unfold flowB at hB; simp only [Bool.and_eq_true] at hB; exact hB.1.1
    refine ⟨fun j => t.getD (((ops[j]?).bind (·.dst)).getD 0) undef, List.ext_getElem? fun k => ?_⟩
    rw [fillZ_get _ J t hl]
    cases hj : J[k]? with
    | none =>
      have := List.getElem?_eq_none_iff.1 hj
      exact List.getElem?_eq_none (by omega)
    | some q =>
      cases q with
      | none => rfl
      | some j =>
        have hkl := (List.getElem?_eq_some_iff.1 hj).1
        simp only [slots_snd hS hj, Option.getD_some]
        rw [List.getD_eq_getElem?_getD, List.getElem?_eq_getElem (by omega)]
        rfl
  obtain ⟨x, hx⟩ := hx
  have hsz : ∀ (n : Nat), cntF (List.replicate n false) = n := fun n => by
    induction n with
    | zero => rfl
    | succ n ih => rw [List.replicate_succ, cntF, ih]; simp; omega
  refine flow_any hB hl hI hops hend _ _ _ _ ⟨x, by rw [← hx], hG, by simp, by simp [hsz], fun i o _ h => ?_⟩
  rw [Array.getElem?_replicate] at h
  split at h <;> cases h
end
end Go.Proofs.YtcmillbjpplfjaaGreatDoor
