/-
  A loop over what 'Walk$1' tells: the values come in new memory, which the body may keep.
  Seq2, told of a walk.
-/
import Derived.Test.YtfboecnhakihnaaGreatDoorUwn
namespace Go.Proofs.YtfboecnhakihnaaGreatDoor
open Go.RowKit Go.Shelf

/-- How the body of a round may be left: it goes on. -/
def goPw (l B m : Nat) (Rd : Nat → Prop) (I : List (Nat × U) → (Nat → Prop) → World → Prop) (xs : List (Nat × U)) (S : Nat → Prop) (W : World) : Exit → Act → World → Prop
  | .normal, _, W' => Fr W W' (fun k => (Rd k ∨ B ≤ k) ∧ ¬ S k) ∧ W'.heap[l]? = W.heap[l]? ∧ W'.heap[l - 1]? = W.heap[l - 1]? ∧ ∃ S', I xs S' W' ∧ ∀ k, S' k → (S k ∨ m ≤ k) ∧ k < W'.heap.size
  | _, _, _ => False

theorem range_f {n : Nat} {g : Operand} {q1 q2 : Tmp} {assign body : Code} {Q : Exit → Act → World → Prop} {a : Act} {w : World} (h1 : 1 ≤ n) {p : Nat}
    (hg : a.eval g = .func (.func 48) #[] #[.pointer (some ⟨p, 0, none⟩)]) (eg : ∀ args w, (callFunc 48 args).run Tryz.prog w = .ok (.enter 48 args) w) {xs : List (Nat × U)} {Rd : Nat → Prop} (hit : ItF (n - 1) p xs Rd w) (hRd : ∀ k, Rd k → k < w.heap.size)
    (I : List (Nat × U) → (Nat → Prop) → World → Prop) (hI : StW w.heap.size I) (h0 : I [] (fun _ => False) w)
    (hround : ∀ pre x rest S W m c0 c1 c2 c3 c4, xs = pre ++ x :: rest → I pre S W → (∀ k, S k → w.heap.size + 2 ≤ k ∧ k < m) → w.heap.size + 2 ≤ m → m ≤ W.heap.size → UIn W (fun b => m ≤ b) x.2 c0 c1 c2 c3 c4 → assign.wpIn (Fence.wide.inRound (w.heap.size + 1)) (n - 1 - 1) Tryz.prog
      (Exit.then (fun a1 W1 => Fr W W1 (fun _ => True) ∧ ∀ W2, Fr W1 W2 (fun k => k ≠ w.heap.size + 1) → (∃ o : Obj, W2.heap[w.heap.size + 1]? = some o ∧ o.isCells = false) → (∃ o : Obj, W2.heap[w.heap.size]? = some o ∧ o.isCells = false) → I pre S W2 → body.wpIn (Fence.wide.inRound (w.heap.size + 1)) (n - 1 - 1) Tryz.prog (goPw (w.heap.size + 1) (w.heap.size + 2) m Rd I (pre ++ [x]) S W2) a1 W2) (fun _ _ _ => False))
      { tmps := ((#[q1, q2] : Array Tmp).zip #[.int .i64 (x.1 : Nat), .agg #[c0, c1, c2, c3, c4]]).foldl (fun t (p, v) => t.setIfInBounds p v) a.tmps, defers := [] } W)
    (hdone : ∀ S W, I xs S W → (∀ k, S k → w.heap.size + 2 ≤ k) → W.heap[w.heap.size]? = some (.deferred (some [])) → Q .normal { a with defers := { target := .collected w.heap.size, args := #[] } :: a.defers } W) :
    (Code.rangeFunc g #[q1, q2] assign body).wpIn Fence.wide n Tryz.prog Q a w := by
  refine wpIn_rangeFunc fun fn hfn => ?_
  rw [show Fence.wide.round = none from rfl]
  let rc : LoopState → Option Code → Obj := fun st pe => .loop { state := st, pending := pe, fn, tmps := a.tmps, params := #[q1, q2], assign, body, defers := w.heap.size }
  have hd1 : ((w.alloc (.deferred (some []))).alloc (rc .ready none)).heap[w.heap.size]? = some (.deferred (some [])) := (Below.heap_alloc _ _ _ (by simp)).trans (heap_alloc_new w _)
  have hr1 : ((w.alloc (.deferred (some []))).alloc (rc .ready none)).heap[w.heap.size + 1]? = some (rc .ready none) := by
    have := heap_alloc_new (w.alloc (.deferred (some []))) (rc .ready none)
    simpa using this
  have hfa : Fr w ((w.alloc (.deferred (some []))).alloc (rc .ready none)) (fun _ => True) := ((Fr.refl w _).alloc _).alloc _
  have hi1 : I [] (fun _ => False) ((w.alloc (.deferred (some []))).alloc (rc .ready none)) := hI _ _ _ _ h0 (hfa.mono (fun _ _ _ => trivial))
  refine ⟨w.heap.size + 1, [{ target := .collected w.heap.size, args := #[] }], (w.alloc (.deferred (some []))).alloc (rc .ready none), { target := .fn (.func 48) #[.pointer (some ⟨p, 0, none⟩)], args := #[.func (.yield (w.heap.size + 1)) #[] #[]] }, (w.alloc (.deferred (some []))).alloc (rc .ready none), 48, #[.func (.yield (w.heap.size + 1)) #[] #[]] ++ #[.pointer (some ⟨p, 0, none⟩)], (w.alloc (.deferred (some []))).alloc (rc .ready none), run_enterLoop_outer _ _ _ _ _, ?_, ?_, ?_, fun _ => h1, ?_⟩
  · simp only [resolve, hg]
    simp [go_sem]
  · intro f' hf'
    simp [Target.leads] at hf'
    subst hf'
    trivial
  · simp [invoke, go_sem, eg]
  · have hsz : ((w.alloc (.deferred (some []))).alloc (rc .ready none)).heap.size = w.heap.size + 2 := by simp
    have hput : ∀ (s : List (Nat × U)) (S : Nat → Prop) (A : World) (o : Obj), (∀ k, S k → w.heap.size + 2 ≤ k) → I s S A → I s S (A.putObj (w.heap.size + 1) o) := fun s S A o hS h => hI s S _ _ h ((fr_put A (w.heap.size + 1) o).mono (fun k _ hk => hk.elim (fun h => by have := hS k h; omega) (fun h => by omega)))
    refine (hit (w.heap.size + 1) (fun pre S W => I pre S W ∧ W.heap[w.heap.size + 1]? = some (rc .ready none) ∧ W.heap[w.heap.size]? = some (.deferred (some [])) ∧ ∀ k, S k → w.heap.size + 2 ≤ k)
      (fun _ _ _ => False) _ (hfa.mono (fun _ _ _ => trivial)) (by rw [hsz]; omega) (fun h => by have := hRd _ h; omega) ?_ ?_ ?_ ⟨hi1, hr1, hd1, fun k h => h.elim⟩).mono ?_
    · rw [hsz]
      exact fun s S A A' hs hf => ⟨hI s S A A' hs.1 (hf.mono (fun k _ hk => hk.elim .inl (fun h => .inr (by omega)))), hf.at hs.2.1 (.inr (by omega)), hf.at hs.2.2.1 (.inr (by omega)), hs.2.2.2⟩
    · exact fun s S A A' hs hf => hs
    · -- one round
      rw [hsz]
      rintro pre x rest S W m c0 c1 c2 c3 c4 ⟨hi, hl, hk, hS2⟩ hx hS hWs hmW hzx
      refine ⟨fn, _, assign, body, run_yield (P := Tryz.prog) (args := #[.int .i64 (x.1 : Nat), .agg #[c0, c1, c2, c3, c4]]) hl rfl, roundIn_of_wpIn hfn (wpIn_mono (hround pre x rest S W m c0 c1 c2 c3 c4 hx hi hS hWs hmW hzx) ?_)⟩
      intro e a1 W1 hp
      cases e with
      | normal =>
        obtain ⟨hf1, hbody⟩ := hp
        have hl1 := hf1.at hl trivial
        have hk1 := hf1.at hk trivial
        have hi1' := hI _ _ _ _ hi (hf1.mono (fun _ _ _ => trivial))
        refine ⟨_, run_beginRound hl1 rfl, ?_⟩
        have hl2 : (W1.putObj (w.heap.size + 1) (rc .busy none)).heap[w.heap.size + 1]? = some (rc .busy none) := put_same hl1
        have hk2 : (W1.putObj (w.heap.size + 1) (rc .busy none)).heap[w.heap.size]? = some (.deferred (some [])) := (put_other (by omega)).trans hk1
        refine wpIn_mono (hbody _ (fr_put W1 _ _) ⟨_, hl2, rfl⟩ ⟨_, hk2, rfl⟩ (hput _ _ _ _ hS2 hi1')) ?_
        intro e a3 W3 hp3
        have hs2 : ∀ o, W.heap.size ≤ (W1.putObj (w.heap.size + 1) o).heap.size := fun o => Nat.le_trans hf1.size (fr_put W1 _ _).size
        cases e with
        | normal =>
          obtain ⟨hf3, hl3, hd3, S', hi3, hS3⟩ := hp3
          have hl3' := hl3.trans hl2
          have hd3' : W3.heap[w.heap.size]? = some (.deferred (some [])) := hd3.trans hk2
          have hSb : ∀ k, S' k → w.heap.size + 2 ≤ k := fun k h => by
            rcases (hS3 k h).1 with h1 | h1
            · exact hS2 k h1
            · omega
          refine ⟨_, _, run_endRound (P := Tryz.prog) none hl3', .inl ⟨rfl, S', ⟨hput _ _ _ _ hSb hi3, put_same hl3', (put_other (by omega)).trans hd3', hSb⟩, ?_, fun k h => ?_⟩⟩
          · have hne : ∀ k, (Rd k ∨ w.heap.size + 2 ≤ k) ∧ ¬ S k → k ≠ w.heap.size + 1 := fun k h e => by
              rcases h.1 with h1 | h1
              · have := hRd k h1; omega
              · omega
            exact (((hf1.mono (fun _ _ _ => trivial)).trans ((fr_put W1 _ _).mono (fun k _ h => hne k h))).trans hf3).trans ((fr_put W3 _ _).mono (fun k _ h => hne k h))
          · refine ⟨?_, Nat.lt_of_lt_of_le (hS3 k h).2 (fr_put W3 _ _).size⟩
            rcases (hS3 k h).1 with h1 | h1
            · exact .inl h1
            · exact .inr h1
        | ret => exact hp3.elim
        | exit id => exact hp3.elim
        | goto t => exact hp3.elim
        | panic ch => exact hp3.elim
        | outgrown => exact hp3.elim
      | ret => exact hp.elim
      | exit id => exact hp.elim
      | goto t => exact hp.elim
      | panic ch => exact hp.elim
      | outgrown => exact hp.elim
    · rintro e W2 ⟨⟨v, rfl⟩, hfin⟩
      rcases hfin with ⟨S, hi, hl, hk, hS⟩ | ⟨pre, rest, S, hx, hi⟩
      · exact ⟨none, _, run_endLoop (P := Tryz.prog) hl (by simp), hdone S _ (hput _ _ _ _ hS hi) hS ((put_other (by omega)).trans hk)⟩
      · exact hi.elim
end Go.Proofs.YtfboecnhakihnaaGreatDoor

namespace Go.Proofs.YtfboecnhakihnaaGreatDoor
open Go.RowKit Go.Shelf
attribute [local go_sem] Oper.semAt_some

/-- What Seq2 has gathered. -/
def SqRow (base : Nat) (S : Nat → Prop) (L : List (Nat × U)) (A B : Value) (w' : World) : Prop :=
  ∃ (xb : List Value) (c : Nat → Nat → Value), w'.ownsRow base 3 1 A L.length (L.map fun p => Value.int .i64 (p.1 : Nat)) ∧ w'.ownsRow base 29 5 B L.length xb ∧ (∀ g, A.ownBlock = some g → B.ownBlock ≠ some g) ∧ (∀ g, A.ownBlock = some g → S g) ∧ (∀ g, B.ownBlock = some g → S g) ∧
    (∀ (i j : Nat), i < L.length → j < 5 → xb[5 * i + j]? = some (c i j)) ∧ (∀ (i : Nat) (p : Nat × U), L[i]? = some p → UIn w' (fun b => S b ∧ A.ownBlock ≠ some b ∧ B.ownBlock ≠ some b) p.2 (c i 0) (c i 1) (c i 2) (c i 3) (c i 4))
theorem sq_fr {base : Nat} {S : Nat → Prop} {L : List (Nat × U)} {A B : Value} {w w' : World} {ok : Nat → Prop} (h : SqRow base S L A B w) (hf : Fr w w' ok) (hS : ∀ k, S k → ok k) : SqRow base S L A B w' := by
  obtain ⟨xb, c, h1, h2, h3, h4, h5, h6, h7⟩ := h
  exact ⟨xb, c, ownsRow_fr h1 hf (fun g e => hS g (h4 g e)), ownsRow_fr h2 hf (fun g e => hS g (h5 g e)), h3, h4, h5, h6, fun i p hp => (h7 i p hp).fr hf (fun b hb => hS b hb.1)⟩
theorem sq_nil (base : Nat) (w : World) : SqRow base (fun _ => False) [] (.slice none 0 0) (.slice none 0 0) w :=
  ⟨[], fun _ _ => undef, World.ownsRow_nil w base 3 1, World.ownsRow_nil w base 29 5, fun g h => by simp [Value.ownBlock] at h, fun g h => by simp [Value.ownBlock] at h, fun g h => by simp [Value.ownBlock] at h, fun i j h => by simp at h, fun i p h => by simp at h⟩
/-- One more. -/
theorem sq_more {base m n1 : Nat} {S S' : Nat → Prop} {L : List (Nat × U)} {A B A' B' c0 c1 c2 c3 c4 : Value} {x : Nat × U} {w w' : World} (h : SqRow base S L A B w) (hm : ∀ k, S k → k < m) (hf : Fr w w' (fun k => A.ownBlock ≠ some k ∧ B.ownBlock ≠ some k ∧ base ≤ k ∧ k < n1)) (hb0 : ∀ k, S k → base ≤ k) (hbm : base ≤ m) (hmn : m ≤ n1)
    (h1 : ∀ xb, w.ownsRow base 29 5 B L.length xb → w'.ownsRow base 29 5 B' (L.length + 1) (xb ++ [c0, c1, c2, c3, c4])) (h2 : w'.ownsRow base 3 1 A' (L.length + 1) ((L.map fun p => Value.int .i64 (p.1 : Nat)) ++ [.int .i64 (x.1 : Nat)]))
    (hA : A'.ownBlock = A.ownBlock ∨ ∃ g, A'.ownBlock = some g ∧ n1 ≤ g) (hB : B'.ownBlock = B.ownBlock ∨ ∃ g, B'.ownBlock = some g ∧ n1 ≤ g) (hAB : ∀ g, A'.ownBlock = some g → B'.ownBlock ≠ some g)
    (hx : UIn w (fun b => m ≤ b ∧ b < n1) x.2 c0 c1 c2 c3 c4) (hS1 : ∀ k, S k → S' k) (hS2 : ∀ k, m ≤ k → k < w'.heap.size → S' k) : SqRow base S' (L ++ [x]) A' B' w' := by
  obtain ⟨xb, c, r1, r2, r3, r4, r5, r6, r7⟩ := h
  have hl := r2.1
  have hlt : ∀ {v : Value} {e s n : Nat} {xs : List Value} {g : Nat}, w'.ownsRow base e s v n xs → v.ownBlock = some g → g < w'.heap.size := fun h e => (h.lt _ e).2
  have hA2 : ∀ g, A'.ownBlock = some g → S' g := fun g e => by
    rcases hA with h | ⟨g', h, hg⟩
    · exact hS1 g (r4 g (h ▸ e))
    · rw [h] at e; cases e; exact hS2 _ (by omega) (hlt h2 h)
  have hB2 : ∀ g, B'.ownBlock = some g → S' g := fun g e => by
    rcases hB with h | ⟨g', h, hg⟩
    · exact hS1 g (r5 g (h ▸ e))
    · rw [h] at e; cases e; exact hS2 _ (by omega) (hlt (h1 xb r2) h)
  have hnA : ∀ b, b < n1 → A.ownBlock ≠ some b → A'.ownBlock ≠ some b := fun b hb hne e => by
    rcases hA with h | ⟨g', h, hg⟩
    · exact hne (h ▸ e)
    · rw [h] at e; cases e; omega
  have hnB : ∀ b, b < n1 → B.ownBlock ≠ some b → B'.ownBlock ≠ some b := fun b hb hne e => by
    rcases hB with h | ⟨g', h, hg⟩
    · exact hne (h ▸ e)
    · rw [h] at e; cases e; omega
  refine ⟨xb ++ [c0, c1, c2, c3, c4], fun i j => if i < L.length then c i j else [c0, c1, c2, c3, c4].getD j undef, by rw [List.length_append, List.length_singleton, List.map_append]; exact h2, by rw [List.length_append, List.length_singleton]; exact h1 xb r2, hAB, hA2, hB2, fun i j hi hj => ?_, fun i p hp => ?_⟩
  · rw [List.length_append, List.length_singleton] at hi
    by_cases hlt : i < L.length
    · rw [List.getElem?_append_left (by omega), r6 i j hlt hj]; simp only [if_pos hlt]
    · have : i = L.length := by omega
      subst this
      rw [List.getElem?_append_right (by omega), show 5 * L.length + j - xb.length = j by omega]
      simp only [if_neg (Nat.lt_irrefl _)]
      have : j = 0 ∨ j = 1 ∨ j = 2 ∨ j = 3 ∨ j = 4 := by omega
      rcases this with rfl | rfl | rfl | rfl | rfl <;> rfl
  · by_cases hlt : i < L.length
    · rw [List.getElem?_append_left hlt] at hp
      simp only [if_pos hlt]
      exact ((r7 i p hp).fr hf (fun b hb => ⟨hb.2.1, hb.2.2, hb0 b hb.1, by have := hm b hb.1; omega⟩)).mono (fun b _ hb => ⟨hS1 b hb.1, hnA b (by have := hm b hb.1; omega) hb.2.1, hnB b (by have := hm b hb.1; omega) hb.2.2⟩)
    · have hi := (List.getElem?_eq_some_iff.1 hp).1
      rw [List.length_append, List.length_singleton] at hi
      have : i = L.length := by omega
      subst this
      rw [List.getElem?_append_right (Nat.le_refl _), Nat.sub_self] at hp
      cases hp
      simp only [if_neg (Nat.lt_irrefl _)]
      have ha : ∀ b, m ≤ b → A.ownBlock ≠ some b := fun b hb e => by have := hm b (r4 b e); omega
      have hbb : ∀ b, m ≤ b → B.ownBlock ≠ some b := fun b hb e => by have := hm b (r5 b e); omega
      exact (hx.fr hf (fun b hb => ⟨ha b hb.1, hbb b hb.1, by omega, hb.2⟩)).mono (fun b hlt hb => ⟨hS2 b hb.1 hlt, hnA b hb.2 (ha b hb.1), hnB b hb.2 (hbb b hb.1)⟩)
/-- What holds between the rounds. -/
def SqI (w : World) (N b : Nat) (pre : List (Nat × U)) (S : Nat → Prop) (W' : World) : Prop := ∃ A B, W'.heap[w.heap.size]? = some (.cells #[.int .i64 (N : Nat)] 3 (0, 0)) ∧ W'.heap[w.heap.size + 1]? = some (.cells #[.slice none 0 0] 50 (0, 0)) ∧ W'.heap[w.heap.size + 2]? = some (.cells #[.slice none 0 0] 26 (0, 0)) ∧ W'.heap[w.heap.size + 3]? = some (.cells #[.bool false] 4 (0, 0)) ∧
      W'.heap[w.heap.size + 4]? = some (.cells #[A] 50 (0, 0)) ∧ W'.heap[w.heap.size + 5]? = some (.cells #[B] 26 (0, 0)) ∧ SqRow b S pre A B W' ∧ Fr w W' (fun k => k < w.heap.size)
theorem ownsRow_uniq {w : World} {base e s n : Nat} {v : Value} {xs ys : List Value} (h : w.ownsRow base e s v n xs) (h' : w.ownsRow base e s v n ys) : xs = ys := by
  have hl : xs.length = ys.length := h.1.trans h'.1.symm
  rcases h.2 with ⟨rfl, rfl⟩ | ⟨g, cap, cur, rfl, _⟩
  · have h0 : xs.length = 0 := by rw [h.1]; simp
    have hx := List.eq_nil_of_length_eq_zero h0
    have hy := List.eq_nil_of_length_eq_zero (l := ys) (by omega)
    rw [hx, hy]
  · refine List.ext_getElem? fun j => ?_
    by_cases hj : j < xs.length
    · have e1 := List.getElem?_eq_getElem hj
      have e2 := List.getElem?_eq_getElem (hl ▸ hj)
      have c1 := h.cells (g := g) rfl j _ e1
      have c2 := h'.cells (g := g) rfl j _ e2
      rw [c1] at c2
      rw [e1, e2]
      exact c2
    · rw [List.getElem?_eq_none (by omega), List.getElem?_eq_none (by omega)]
theorem wpIn_append_round {l n : Nat} {P : Program} {o : Oper} {a : Act} {w w' : World} {K : Act → World → Prop} {Q : Exit → Act → World → Prop} (s x : Operand) (t : TypeId) (ho : o.op = .call { callee := .builtin .append, args := #[s, x], argTypes := #[t, t] }) {v sl v' : Value} (hs : a.eval s = v) (hx : a.eval x = sl)
    (hr : (Builtin.append_ #[t, t] o.type #[v, sl]).run P w = .ok v' w') (h : K (a.put o.dst v') w') : o.wpIn (Fence.wide.inRound l) n P a w K Q := by
  unfold Oper.wpIn
  refine ⟨fun f _ => trivial, ?_⟩
  have he : o.semAt (Fence.wide.inRound l).round a.eval = execOp a.eval o := Oper.semAt_some l _ _ (by rw [ho]; simp)
  rw [he]
  unfold execOp
  simp only [ho, resolve, invoke, builtin, Sem.run_bind, Sem.run_pure, Result.andThen_ok, List.map_toArray, List.map_cons, List.map_nil, hs, hx, hr, Oper.uponIn]
  exact h
end Go.Proofs.YtfboecnhakihnaaGreatDoor
