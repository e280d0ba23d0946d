/-
  A loop over what 'Walk$1' tells: the values come in new memory, which the body may keep.
-/
import Derived.Test.YtjcnjaebmndeiaaDoorWon
namespace Go.Proofs.YtjcnjaebmndeiaaDoor
open Go.RowKit Go.Shelf

/-- How the body of a round may be left: it goes on. -/
def goPw (l B m : Nat) (Rd : Nat → Prop) (I : List (Nat × Z) → (Nat → Prop) → World → Prop) (xs : List (Nat × Z)) (S : Nat → Prop) (W : World) : Exit → Act → World → Prop
  | .normal, _, W' => Fr W W' (fun k => (Rd k ∨ B ≤ k) ∧ ¬ S k) ∧ W'.heap[l]? = W.heap[l]? ∧ W'.heap[l - 1]? = W.heap[l - 1]? ∧ ∃ S', I xs S' W' ∧ ∀ k, S' k → (S k ∨ m ≤ k) ∧ k < W'.heap.size
  | _, _, _ => False

theorem range_f {n : Nat} {g : Operand} {q1 q2 : Tmp} {assign body : Code} {Q : Exit → Act → World → Prop} {a : Act} {w : World} (h1 : 1 ≤ n) {p : Nat}
    (hg : a.eval g = .func (.func 48) #[] #[.pointer (some ⟨p, 0, none⟩)]) (eg : ∀ args w, (callFunc 48 args).run Tryd.prog w = .ok (.enter 48 args) w) {xs : List (Nat × Z)} {Rd : Nat → Prop} (hit : ItF (n - 1) p xs Rd w) (hRd : ∀ k, Rd k → k < w.heap.size)
    (I : List (Nat × Z) → (Nat → Prop) → World → Prop) (hI : StW w.heap.size I) (h0 : I [] (fun _ => False) w)
    (hround : ∀ pre x rest S W m c0 c1 c2 c3, xs = pre ++ x :: rest → I pre S W → (∀ k, S k → w.heap.size + 2 ≤ k ∧ k < m) → w.heap.size + 2 ≤ m → m ≤ W.heap.size → ZIn W (fun b => m ≤ b) x.2 c0 c1 c2 c3 → assign.wpIn (Fence.wide.inRound (w.heap.size + 1)) (n - 1 - 1) Tryd.prog
      (Exit.then (fun a1 W1 => Fr W W1 (fun _ => True) ∧ ∀ W2, Fr W1 W2 (fun k => k ≠ w.heap.size + 1) → (∃ o : Obj, W2.heap[w.heap.size + 1]? = some o ∧ o.isCells = false) → (∃ o : Obj, W2.heap[w.heap.size]? = some o ∧ o.isCells = false) → I pre S W2 → body.wpIn (Fence.wide.inRound (w.heap.size + 1)) (n - 1 - 1) Tryd.prog (goPw (w.heap.size + 1) (w.heap.size + 2) m Rd I (pre ++ [x]) S W2) a1 W2) (fun _ _ _ => False))
      { tmps := ((#[q1, q2] : Array Tmp).zip #[.int .i64 (x.1 : Nat), .agg #[c0, c1, c2, c3]]).foldl (fun t (p, v) => t.setIfInBounds p v) a.tmps, defers := [] } W)
    (hdone : ∀ S W, I xs S W → (∀ k, S k → w.heap.size + 2 ≤ k) → W.heap[w.heap.size]? = some (.deferred (some [])) → Q .normal { a with defers := { target := .collected w.heap.size, args := #[] } :: a.defers } W) :
    (Code.rangeFunc g #[q1, q2] assign body).wpIn Fence.wide n Tryd.prog Q a w := by
  refine wpIn_rangeFunc fun fn hfn => ?_
  rw [show Fence.wide.round = none from rfl]
  let rc : LoopState → Option Code → Obj := fun st pe => .loop { state := st, pending := pe, fn, tmps := a.tmps, params := #[q1, q2], assign, body, defers := w.heap.size }
  have hd1 : ((w.alloc (.deferred (some []))).alloc (rc .ready none)).heap[w.heap.size]? = some (.deferred (some [])) := (Below.heap_alloc _ _ _ (by simp)).trans (heap_alloc_new w _)
  have hr1 : ((w.alloc (.deferred (some []))).alloc (rc .ready none)).heap[w.heap.size + 1]? = some (rc .ready none) := by
    have := heap_alloc_new (w.alloc (.deferred (some []))) (rc .ready none)
    simpa using this
  have hfa : Fr w ((w.alloc (.deferred (some []))).alloc (rc .ready none)) (fun _ => True) := ((Fr.refl w _).alloc _).alloc _
  have hi1 : I [] (fun _ => False) ((w.alloc (.deferred (some []))).alloc (rc .ready none)) := hI _ _ _ _ h0 (hfa.mono (fun _ _ _ => trivial))
  refine ⟨w.heap.size + 1, [{ target := .collected w.heap.size, args := #[] }], (w.alloc (.deferred (some []))).alloc (rc .ready none), { target := .fn (.func 48) #[.pointer (some ⟨p, 0, none⟩)], args := #[.func (.yield (w.heap.size + 1)) #[] #[]] }, (w.alloc (.deferred (some []))).alloc (rc .ready none), 48, #[.func (.yield (w.heap.size + 1)) #[] #[]] ++ #[.pointer (some ⟨p, 0, none⟩)], (w.alloc (.deferred (some []))).alloc (rc .ready none), run_enterLoop_outer _ _ _ _ _, ?_, ?_, ?_, fun _ => h1, ?_⟩
  · simp only [resolve, hg]
    simp [go_sem]
  · intro f' hf'
    simp [Target.leads] at hf'
    subst hf'
    trivial
  · simp [invoke, go_sem, eg]
  · have hsz : ((w.alloc (.deferred (some []))).alloc (rc .ready none)).heap.size = w.heap.size + 2 := by simp
    have hput : ∀ (s : List (Nat × Z)) (S : Nat → Prop) (A : World) (o : Obj), (∀ k, S k → w.heap.size + 2 ≤ k) → I s S A → I s S (A.putObj (w.heap.size + 1) o) := fun s S A o hS h => hI s S _ _ h ((fr_put A (w.heap.size + 1) o).mono (fun k _ hk => hk.elim (fun h => by have := hS k h; omega) (fun h => by omega)))
    refine (hit (w.heap.size + 1) (fun pre S W => I pre S W ∧ W.heap[w.heap.size + 1]? = some (rc .ready none) ∧ W.heap[w.heap.size]? = some (.deferred (some [])) ∧ ∀ k, S k → w.heap.size + 2 ≤ k)
      (fun _ _ _ => False) _ (hfa.mono (fun _ _ _ => trivial)) (by rw [hsz]; omega) (fun h => by have := hRd _ h; omega) ?_ ?_ ?_ ⟨hi1, hr1, hd1, fun k h => h.elim⟩).mono ?_
    · rw [hsz]
      exact fun s S A A' hs hf => ⟨hI s S A A' hs.1 (hf.mono (fun k _ hk => hk.elim .inl (fun h => .inr (by omega)))), hf.at hs.2.1 (.inr (by omega)), hf.at hs.2.2.1 (.inr (by omega)), hs.2.2.2⟩
    · exact fun s S A A' hs hf => hs
    · -- one round
      rw [hsz]
      rintro pre x rest S W m c0 c1 c2 c3 ⟨hi, hl, hk, hS2⟩ hx hS hWs hmW hzx
      refine ⟨fn, _, assign, body, run_yield (P := Tryd.prog) (args := #[.int .i64 (x.1 : Nat), .agg #[c0, c1, c2, c3]]) hl rfl, roundIn_of_wpIn hfn (wpIn_mono (hround pre x rest S W m c0 c1 c2 c3 hx hi hS hWs hmW hzx) ?_)⟩
      intro e a1 W1 hp
      cases e with
      | normal =>
        obtain ⟨hf1, hbody⟩ := hp
        have hl1 := hf1.at hl trivial
        have hk1 := hf1.at hk trivial
        have hi1' := hI _ _ _ _ hi (hf1.mono (fun _ _ _ => trivial))
        refine ⟨_, run_beginRound hl1 rfl, ?_⟩
        have hl2 : (W1.putObj (w.heap.size + 1) (rc .busy none)).heap[w.heap.size + 1]? = some (rc .busy none) := put_same hl1
        have hk2 : (W1.putObj (w.heap.size + 1) (rc .busy none)).heap[w.heap.size]? = some (.deferred (some [])) := (put_other (by omega)).trans hk1
        refine wpIn_mono (hbody _ (fr_put W1 _ _) ⟨_, hl2, rfl⟩ ⟨_, hk2, rfl⟩ (hput _ _ _ _ hS2 hi1')) ?_
        intro e a3 W3 hp3
        have hs2 : ∀ o, W.heap.size ≤ (W1.putObj (w.heap.size + 1) o).heap.size := fun o => Nat.le_trans hf1.size (fr_put W1 _ _).size
        cases e with
        | normal =>
          obtain ⟨hf3, hl3, hd3, S', hi3, hS3⟩ := hp3
          have hl3' := hl3.trans hl2
          have hd3' : W3.heap[w.heap.size]? = some (.deferred (some [])) := hd3.trans hk2
          have hSb : ∀ k, S' k → w.heap.size + 2 ≤ k := fun k h => by
            rcases (hS3 k h).1 with h1 | h1
            · exact hS2 k h1
            · omega
          refine ⟨_, _, run_endRound (P := Tryd.prog) none hl3', .inl ⟨rfl, S', ⟨hput _ _ _ _ hSb hi3, put_same hl3', (put_other (by omega)).trans hd3', hSb⟩, ?_, fun k h => ?_⟩⟩
          · have hne : ∀ k, (Rd k ∨ w.heap.size + 2 ≤ k) ∧ ¬ S k → k ≠ w.heap.size + 1 := fun k h e => by
              rcases h.1 with h1 | h1
              · have := hRd k h1; omega
              · omega
            exact (((hf1.mono (fun _ _ _ => trivial)).trans ((fr_put W1 _ _).mono (fun k _ h => hne k h))).trans hf3).trans ((fr_put W3 _ _).mono (fun k _ h => hne k h))
          · refine ⟨?_, Nat.lt_of_lt_of_le (hS3 k h).2 (fr_put W3 _ _).size⟩
            rcases (hS3 k h).1 with h1 | h1
            · exact .inl h1
            · exact .inr h1
        | ret => exact hp3.elim
        | exit id => exact hp3.elim
        | goto t => exact hp3.elim
        | panic ch => exact hp3.elim
        | outgrown => exact hp3.elim
      | ret => exact hp.elim
      | exit id => exact hp.elim
      | goto t => exact hp.elim
      | panic ch => exact hp.elim
      | outgrown => exact hp.elim
    · rintro e W2 ⟨⟨v, rfl⟩, hfin⟩
      rcases hfin with ⟨S, hi, hl, hk, hS⟩ | ⟨pre, rest, S, hx, hi⟩
      · exact ⟨none, _, run_endLoop (P := Tryd.prog) hl (by simp), hdone S _ (hput _ _ _ _ hS hi) hS ((put_other (by omega)).trans hk)⟩
      · exact hi.elim
end Go.Proofs.YtjcnjaebmndeiaaDoor
