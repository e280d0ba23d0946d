/-
  A loop that ranges over a function which keeps a list of its own in memory; its body writes, too, into blocks that it had, and into blocks of its own that come on the way.
-/
import Derived.Test.YtpajccehkcgoaaaDoorRng
namespace Go.Proofs.YtpajccehkcgoaaaDoor
open Go.RowKit Go.Shelf

/-- It abides whatever leaves the blocks of S, and those below b, as they were. -/
def StW {β : Type} (b : Nat) (J : β → (Nat → Prop) → World → Prop) : Prop :=
  ∀ s S A A', J s S A → Fr A A' (fun k => S k ∨ k < b) → J s S A'
/-- What such a function does, called with a loop's own body; Rd: the blocks that it reads; S: the body's own new blocks. -/
def ItW {α : Type} (F : Fence) (n : Nat) (P : Program) (gf : Nat) (lb : Array Value) (encs : α → Array Value) (xs : List α) (Rd : Nat → Prop) (w : World) : Prop :=
  ∀ (l : Nat) (J Jx : List α → (Nat → Prop) → World → Prop) (W : World), Fr w W Rd → l < W.heap.size → ¬ Rd l → StW W.heap.size J → StW W.heap.size Jx →
    (∀ pre x rest S W1, J pre S W1 → xs = pre ++ x :: rest → (∀ k, S k → W.heap.size ≤ k ∧ k < W1.heap.size) → W.heap.size ≤ W1.heap.size → YieldAt F (n - 1) P l (encs x) W1 fun e W' =>
      (e = .returned (.bool true) ∧ ∃ S', J (pre ++ [x]) S' W' ∧ Fr W1 W' (fun k => (Rd k ∨ W.heap.size ≤ k) ∧ ¬ S k) ∧ ∀ k, S' k → (S k ∨ W1.heap.size ≤ k) ∧ k < W'.heap.size) ∨ (e = .returned (.bool false) ∧ ∃ S', Jx (pre ++ [x]) S' W' ∧ ∀ k, S' k → S k ∨ W1.heap.size ≤ k)) →
    J [] (fun _ => False) W → CallsIn F n P gf (#[.func (.yield l) #[] #[]] ++ lb) W fun e W' => (∃ v, e = .returned v) ∧ ((∃ S, J xs S W') ∨ ∃ pre rest S, xs = pre ++ rest ∧ Jx pre S W')

/-- How the body of a round may be left: on, or by a return. -/
def retPw {α : Type} (l B : Nat) (Rd : Nat → Prop) (I Ix : List α → (Nat → Prop) → World → Prop) (xs : List α) (S : Nat → Prop) (W : World) : Exit → Act → World → Prop
  | .normal, _, W' => Fr W W' (fun k => (Rd k ∨ B ≤ k) ∧ ¬ S k) ∧ W'.heap[l]? = W.heap[l]? ∧ W'.heap[l - 1]? = W.heap[l - 1]? ∧ ∃ S', I xs S' W' ∧ ∀ k, S' k → (S k ∨ W.heap.size ≤ k) ∧ k < W'.heap.size
  | .ret, _, W' => W'.heap[l]? = W.heap[l]? ∧ W'.heap[l - 1]? = W.heap[l - 1]? ∧ ∃ S', Ix xs S' W' ∧ ∀ k, S' k → S k ∨ W.heap.size ≤ k
  | _, _, _ => False

/-- THE LOOP: its body goes on, or returns. -/
theorem range_w {α : Type} {F : Fence} {n : Nat} {P : Program} {g : Operand} {ps : Array Tmp} {assign body : Code} {Q : Exit → Act → World → Prop} {a : Act} {w : World} (hro : F.round = none) (h1 : 1 ≤ n) {gf : Nat} {lb : Array Value}
    (hg : a.eval g = .func (.func gf) #[] lb) (hFg : F.fn gf) (eg : ∀ args w, (callFunc gf args).run P w = .ok (.enter gf args) w) {encs : α → Array Value} (hps : ∀ x, (encs x).size = ps.size) {xs : List α} {Rd : Nat → Prop} (hit : ItW F (n - 1) P gf lb encs xs Rd w) (hRd : ∀ k, Rd k → k < w.heap.size)
    (I Ix : List α → (Nat → Prop) → World → Prop) (hI : StW w.heap.size I) (hX : StW w.heap.size Ix) (h0 : I [] (fun _ => False) w)
    (hround : ∀ pre x rest S W, xs = pre ++ x :: rest → I pre S W → (∀ k, S k → w.heap.size + 2 ≤ k ∧ k < W.heap.size) → w.heap.size + 1 < W.heap.size → assign.wpIn (F.inRound (w.heap.size + 1)) (n - 1 - 1) P
      (Exit.then (fun a1 W1 => Fr W W1 (fun _ => True) ∧ ∀ W2, Fr W1 W2 (fun k => k ≠ w.heap.size + 1) → (∃ o : Obj, W2.heap[w.heap.size + 1]? = some o ∧ o.isCells = false) → (∃ o : Obj, W2.heap[w.heap.size]? = some o ∧ o.isCells = false) → I pre S W2 → body.wpIn (F.inRound (w.heap.size + 1)) (n - 1 - 1) P (retPw (w.heap.size + 1) (w.heap.size + 2) Rd I Ix (pre ++ [x]) S W2) a1 W2) (fun _ _ _ => False))
      { tmps := (ps.zip (encs x)).foldl (fun t (p, v) => t.setIfInBounds p v) a.tmps, defers := [] } W)
    (hdone : ∀ S W, I xs S W → (∀ k, S k → w.heap.size + 2 ≤ k) → W.heap[w.heap.size]? = some (.deferred (some [])) → Q .normal { a with defers := { target := .collected w.heap.size, args := #[] } :: a.defers } W)
    (hstop : ∀ pre rest S W, xs = pre ++ rest → Ix pre S W → (∀ k, S k → w.heap.size + 2 ≤ k) → W.heap[w.heap.size]? = some (.deferred (some [])) → Code.ret.wpIn F n P Q { a with defers := { target := .collected w.heap.size, args := #[] } :: a.defers } W) :
    (Code.rangeFunc g ps assign body).wpIn F n P Q a w := by
  refine wpIn_rangeFunc fun fn hfn => ?_
  rw [hro]
  let rc : LoopState → Option Code → Obj := fun st pe => .loop { state := st, pending := pe, fn, tmps := a.tmps, params := ps, assign, body, defers := w.heap.size }
  have hd1 : ((w.alloc (.deferred (some []))).alloc (rc .ready none)).heap[w.heap.size]? = some (.deferred (some [])) := (Below.heap_alloc _ _ _ (by simp)).trans (heap_alloc_new w _)
  have hr1 : ((w.alloc (.deferred (some []))).alloc (rc .ready none)).heap[w.heap.size + 1]? = some (rc .ready none) := by
    have := heap_alloc_new (w.alloc (.deferred (some []))) (rc .ready none)
    simpa using this
  have hfa : Fr w ((w.alloc (.deferred (some []))).alloc (rc .ready none)) (fun _ => True) := ((Fr.refl w _).alloc _).alloc _
  have hi1 : I [] (fun _ => False) ((w.alloc (.deferred (some []))).alloc (rc .ready none)) := hI _ _ _ _ h0 (hfa.mono (fun _ _ _ => trivial))
  refine ⟨w.heap.size + 1, [{ target := .collected w.heap.size, args := #[] }], (w.alloc (.deferred (some []))).alloc (rc .ready none), { target := .fn (.func gf) lb, args := #[.func (.yield (w.heap.size + 1)) #[] #[]] }, (w.alloc (.deferred (some []))).alloc (rc .ready none), gf, #[.func (.yield (w.heap.size + 1)) #[] #[]] ++ lb, (w.alloc (.deferred (some []))).alloc (rc .ready none), run_enterLoop_outer _ _ _ _ _, ?_, ?_, ?_, fun _ => h1, ?_⟩
  · simp only [resolve, hg]
    simp [go_sem]
  · intro f' hf'
    simp [Target.leads] at hf'
    subst hf'
    exact hFg
  · simp [invoke, go_sem, eg]
  · have hsz : ((w.alloc (.deferred (some []))).alloc (rc .ready none)).heap.size = w.heap.size + 2 := by simp
    have hput : ∀ (s : List α) (S : Nat → Prop) (A : World) (o : Obj), (∀ k, S k → w.heap.size + 2 ≤ k) → I s S A → I s S (A.putObj (w.heap.size + 1) o) := fun s S A o hS h => hI s S _ _ h ((fr_put A (w.heap.size + 1) o).mono (fun k _ hk => hk.elim (fun h => by have := hS k h; omega) (fun h => by omega)))
    have hputX : ∀ (s : List α) (S : Nat → Prop) (A : World) (o : Obj), (∀ k, S k → w.heap.size + 2 ≤ k) → Ix s S A → Ix s S (A.putObj (w.heap.size + 1) o) := fun s S A o hS h => hX s S _ _ h ((fr_put A (w.heap.size + 1) o).mono (fun k _ hk => hk.elim (fun h => by have := hS k h; omega) (fun h => by omega)))
    refine (hit (w.heap.size + 1) (fun pre S W => I pre S W ∧ W.heap[w.heap.size + 1]? = some (rc .ready none) ∧ W.heap[w.heap.size]? = some (.deferred (some [])) ∧ ∀ k, S k → w.heap.size + 2 ≤ k)
      (fun pre S W => Ix pre S W ∧ W.heap[w.heap.size + 1]? = some (rc .done (some .ret)) ∧ W.heap[w.heap.size]? = some (.deferred (some [])) ∧ ∀ k, S k → w.heap.size + 2 ≤ k) _ (hfa.mono (fun _ _ _ => trivial)) (by rw [hsz]; omega) (fun h => by have := hRd _ h; omega) ?_ ?_ ?_ ⟨hi1, hr1, hd1, fun k h => h.elim⟩).mono ?_
    · rw [hsz]
      exact fun s S A A' hs hf => ⟨hI s S A A' hs.1 (hf.mono (fun k _ hk => hk.elim .inl (fun h => .inr (by omega)))), hf.at hs.2.1 (.inr (by omega)), hf.at hs.2.2.1 (.inr (by omega)), hs.2.2.2⟩
    · rw [hsz]
      exact fun s S A A' hs hf => ⟨hX s S A A' hs.1 (hf.mono (fun k _ hk => hk.elim .inl (fun h => .inr (by omega)))), hf.at hs.2.1 (.inr (by omega)), hf.at hs.2.2.1 (.inr (by omega)), hs.2.2.2⟩
    · -- one round
      rw [hsz]
      rintro pre x rest S W ⟨hi, hl, hk, hS2⟩ hx hS hWs
      refine ⟨fn, _, assign, body, run_yield (P := P) (args := encs x) hl (hps x), roundIn_of_wpIn hfn (wpIn_mono (hround pre x rest S W hx hi hS (blk_lt hl)) ?_)⟩
      intro e a1 W1 hp
      cases e with
      | normal =>
        obtain ⟨hf1, hbody⟩ := hp
        have hl1 := hf1.at hl trivial
        have hk1 := hf1.at hk trivial
        have hi1' := hI _ _ _ _ hi (hf1.mono (fun _ _ _ => trivial))
        refine ⟨_, run_beginRound hl1 rfl, ?_⟩
        have hl2 : (W1.putObj (w.heap.size + 1) (rc .busy none)).heap[w.heap.size + 1]? = some (rc .busy none) := put_same hl1
        have hk2 : (W1.putObj (w.heap.size + 1) (rc .busy none)).heap[w.heap.size]? = some (.deferred (some [])) := (put_other (by omega)).trans hk1
        refine wpIn_mono (hbody _ (fr_put W1 _ _) ⟨_, hl2, rfl⟩ ⟨_, hk2, rfl⟩ (hput _ _ _ _ hS2 hi1')) ?_
        intro e a3 W3 hp3
        have hs2 : ∀ o, W.heap.size ≤ (W1.putObj (w.heap.size + 1) o).heap.size := fun o => Nat.le_trans hf1.size (fr_put W1 _ _).size
        cases e with
        | normal =>
          obtain ⟨hf3, hl3, hd3, S', hi3, hS3⟩ := hp3
          have hl3' := hl3.trans hl2
          have hd3' : W3.heap[w.heap.size]? = some (.deferred (some [])) := hd3.trans hk2
          have hSb : ∀ k, S' k → w.heap.size + 2 ≤ k := fun k h => by
            rcases (hS3 k h).1 with h1 | h1
            · exact hS2 k h1
            · have := Nat.le_trans (hs2 _) h1; omega
          refine ⟨_, _, run_endRound (P := P) none hl3', .inl ⟨rfl, S', ⟨hput _ _ _ _ hSb hi3, put_same hl3', (put_other (by omega)).trans hd3', hSb⟩, ?_, fun k h => ?_⟩⟩
          · have hne : ∀ k, (Rd k ∨ w.heap.size + 2 ≤ k) ∧ ¬ S k → k ≠ w.heap.size + 1 := fun k h e => by
              rcases h.1 with h1 | h1
              · have := hRd k h1; omega
              · omega
            exact (((hf1.mono (fun _ _ _ => trivial)).trans ((fr_put W1 _ _).mono (fun k _ h => hne k h))).trans hf3).trans ((fr_put W3 _ _).mono (fun k _ h => hne k h))
          · refine ⟨?_, Nat.lt_of_lt_of_le (hS3 k h).2 (fr_put W3 _ _).size⟩
            rcases (hS3 k h).1 with h1 | h1
            · exact .inl h1
            · exact .inr (Nat.le_trans (hs2 _) h1)
        | ret =>
          obtain ⟨hl3, hd3, S', hi3, hS3⟩ := hp3
          have hl3' := hl3.trans hl2
          have hd3' : W3.heap[w.heap.size]? = some (.deferred (some [])) := hd3.trans hk2
          have hSb : ∀ k, S' k → w.heap.size + 2 ≤ k := fun k h => by
            rcases hS3 k h with h1 | h1
            · exact hS2 k h1
            · have := Nat.le_trans (hs2 _) h1; omega
          exact ⟨_, _, run_endRound (P := P) (some .ret) hl3', .inr ⟨rfl, S', ⟨hputX _ _ _ _ hSb hi3, put_same hl3', (put_other (by omega)).trans hd3', hSb⟩, fun k h => (hS3 k h).elim .inl (fun h1 => .inr (Nat.le_trans (hs2 _) h1))⟩⟩
        | exit id => exact hp3.elim
        | goto t => exact hp3.elim
        | panic ch => exact hp3.elim
        | outgrown => exact hp3.elim
      | ret => exact hp.elim
      | exit id => exact hp.elim
      | goto t => exact hp.elim
      | panic ch => exact hp.elim
      | outgrown => exact hp.elim
    · rintro e W2 ⟨⟨v, rfl⟩, hfin⟩
      rcases hfin with ⟨S, hi, hl, hk, hS⟩ | ⟨pre, rest, S, hx, hi, hl, hk, hS⟩
      · exact ⟨none, _, run_endLoop (P := P) hl (by simp), hdone S _ (hput _ _ _ _ hS hi) hS ((put_other (by omega)).trans hk)⟩
      · exact ⟨some .ret, _, run_endLoop (P := P) hl (by simp), hstop pre rest S _ hx (hputX _ _ _ _ hS hi) hS ((put_other (by omega)).trans hk)⟩
end Go.Proofs.YtpajccehkcgoaaaDoor
