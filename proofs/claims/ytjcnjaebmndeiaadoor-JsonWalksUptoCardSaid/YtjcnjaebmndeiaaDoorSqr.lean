/-
  Seq2, told of a walk.
-/
import Derived.Test.YtjcnjaebmndeiaaDoorRgf
namespace Go.Proofs.YtjcnjaebmndeiaaDoor
open Go.RowKit Go.Shelf
attribute [local go_sem] Oper.semAt_some

/-- What Seq2 has gathered. -/
def SqRow (base : Nat) (S : Nat → Prop) (L : List (Nat × Z)) (A B : Value) (w' : World) : Prop :=
  ∃ (xb : List Value) (c : Nat → Nat → Value), w'.ownsRow base 3 1 A L.length (L.map fun p => Value.int .i64 (p.1 : Nat)) ∧ w'.ownsRow base 26 4 B L.length xb ∧ (∀ g, A.ownBlock = some g → B.ownBlock ≠ some g) ∧ (∀ g, A.ownBlock = some g → S g) ∧ (∀ g, B.ownBlock = some g → S g) ∧
    (∀ (i j : Nat), i < L.length → j < 4 → xb[4 * i + j]? = some (c i j)) ∧ (∀ (i : Nat) (p : Nat × Z), L[i]? = some p → ZIn w' (fun b => S b ∧ A.ownBlock ≠ some b ∧ B.ownBlock ≠ some b) p.2 (c i 0) (c i 1) (c i 2) (c i 3))
theorem sq_fr {base : Nat} {S : Nat → Prop} {L : List (Nat × Z)} {A B : Value} {w w' : World} {ok : Nat → Prop} (h : SqRow base S L A B w) (hf : Fr w w' ok) (hS : ∀ k, S k → ok k) : SqRow base S L A B w' := by
  obtain ⟨xb, c, h1, h2, h3, h4, h5, h6, h7⟩ := h
  exact ⟨xb, c, ownsRow_fr h1 hf (fun g e => hS g (h4 g e)), ownsRow_fr h2 hf (fun g e => hS g (h5 g e)), h3, h4, h5, h6, fun i p hp => (h7 i p hp).fr hf (fun b hb => hS b hb.1)⟩
theorem sq_nil (base : Nat) (w : World) : SqRow base (fun _ => False) [] (.slice none 0 0) (.slice none 0 0) w :=
  ⟨[], fun _ _ => undef, World.ownsRow_nil w base 3 1, World.ownsRow_nil w base 26 4, fun g h => by simp [Value.ownBlock] at h, fun g h => by simp [Value.ownBlock] at h, fun g h => by simp [Value.ownBlock] at h, fun i j h => by simp at h, fun i p h => by simp at h⟩
/-- One more. -/
theorem sq_more {base m n1 : Nat} {S S' : Nat → Prop} {L : List (Nat × Z)} {A B A' B' c0 c1 c2 c3 : Value} {x : Nat × Z} {w w' : World} (h : SqRow base S L A B w) (hm : ∀ k, S k → k < m) (hf : Fr w w' (fun k => A.ownBlock ≠ some k ∧ B.ownBlock ≠ some k ∧ base ≤ k ∧ k < n1)) (hb0 : ∀ k, S k → base ≤ k) (hbm : base ≤ m) (hmn : m ≤ n1)
    (h1 : ∀ xb, w.ownsRow base 26 4 B L.length xb → w'.ownsRow base 26 4 B' (L.length + 1) (xb ++ [c0, c1, c2, c3])) (h2 : w'.ownsRow base 3 1 A' (L.length + 1) ((L.map fun p => Value.int .i64 (p.1 : Nat)) ++ [.int .i64 (x.1 : Nat)]))
    (hA : A'.ownBlock = A.ownBlock ∨ ∃ g, A'.ownBlock = some g ∧ n1 ≤ g) (hB : B'.ownBlock = B.ownBlock ∨ ∃ g, B'.ownBlock = some g ∧ n1 ≤ g) (hAB : ∀ g, A'.ownBlock = some g → B'.ownBlock ≠ some g)
    (hx : ZIn w (fun b => m ≤ b ∧ b < n1) x.2 c0 c1 c2 c3) (hS1 : ∀ k, S k → S' k) (hS2 : ∀ k, m ≤ k → k < w'.heap.size → S' k) : SqRow base S' (L ++ [x]) A' B' w' := by
  obtain ⟨xb, c, r1, r2, r3, r4, r5, r6, r7⟩ := h
  have hl := r2.1
  have hlt : ∀ {v : Value} {e s n : Nat} {xs : List Value} {g : Nat}, w'.ownsRow base e s v n xs → v.ownBlock = some g → g < w'.heap.size := fun h e => (h.lt _ e).2
  have hA2 : ∀ g, A'.ownBlock = some g → S' g := fun g e => by
    rcases hA with h | ⟨g', h, hg⟩
    · exact hS1 g (r4 g (h ▸ e))
    · rw [h] at e; cases e; exact hS2 _ (by omega) (hlt h2 h)
  have hB2 : ∀ g, B'.ownBlock = some g → S' g := fun g e => by
    rcases hB with h | ⟨g', h, hg⟩
    · exact hS1 g (r5 g (h ▸ e))
    · rw [h] at e; cases e; exact hS2 _ (by omega) (hlt (h1 xb r2) h)
  have hnA : ∀ b, b < n1 → A.ownBlock ≠ some b → A'.ownBlock ≠ some b := fun b hb hne e => by
    rcases hA with h | ⟨g', h, hg⟩
    · exact hne (h ▸ e)
    · rw [h] at e; cases e; omega
  have hnB : ∀ b, b < n1 → B.ownBlock ≠ some b → B'.ownBlock ≠ some b := fun b hb hne e => by
    rcases hB with h | ⟨g', h, hg⟩
    · exact hne (h ▸ e)
    · rw [h] at e; cases e; omega
  refine ⟨xb ++ [c0, c1, c2, c3], fun i j => if i < L.length then c i j else [c0, c1, c2, c3].getD j undef, by rw [List.length_append, List.length_singleton, List.map_append]; exact h2, by rw [List.length_append, List.length_singleton]; exact h1 xb r2, hAB, hA2, hB2, fun i j hi hj => ?_, fun i p hp => ?_⟩
  · rw [List.length_append, List.length_singleton] at hi
    by_cases hlt : i < L.length
    · rw [List.getElem?_append_left (by omega), r6 i j hlt hj]; simp only [if_pos hlt]
    · have : i = L.length := by omega
      subst this
      rw [List.getElem?_append_right (by omega), show 4 * L.length + j - xb.length = j by omega]
      simp only [if_neg (Nat.lt_irrefl _)]
      have : j = 0 ∨ j = 1 ∨ j = 2 ∨ j = 3 := by omega
      rcases this with rfl | rfl | rfl | rfl <;> rfl
  · by_cases hlt : i < L.length
    · rw [List.getElem?_append_left hlt] at hp
      simp only [if_pos hlt]
      exact ((r7 i p hp).fr hf (fun b hb => ⟨hb.2.1, hb.2.2, hb0 b hb.1, by have := hm b hb.1; omega⟩)).mono (fun b _ hb => ⟨hS1 b hb.1, hnA b (by have := hm b hb.1; omega) hb.2.1, hnB b (by have := hm b hb.1; omega) hb.2.2⟩)
    · have hi := (List.getElem?_eq_some_iff.1 hp).1
      rw [List.length_append, List.length_singleton] at hi
      have : i = L.length := by omega
      subst this
      rw [List.getElem?_append_right (Nat.le_refl _), Nat.sub_self] at hp
      cases hp
      simp only [if_neg (Nat.lt_irrefl _)]
      have ha : ∀ b, m ≤ b → A.ownBlock ≠ some b := fun b hb e => by have := hm b (r4 b e); omega
      have hbb : ∀ b, m ≤ b → B.ownBlock ≠ some b := fun b hb e => by have := hm b (r5 b e); omega
      exact (hx.fr hf (fun b hb => ⟨ha b hb.1, hbb b hb.1, by omega, hb.2⟩)).mono (fun b hlt hb => ⟨hS2 b hb.1 hlt, hnA b hb.2 (ha b hb.1), hnB b hb.2 (hbb b hb.1)⟩)
/-- What holds between the rounds. -/
def SqI (w : World) (N b : Nat) (pre : List (Nat × Z)) (S : Nat → Prop) (W' : World) : Prop := ∃ A B, W'.heap[w.heap.size]? = some (.cells #[.int .i64 (N : Nat)] 3 (0, 0)) ∧ W'.heap[w.heap.size + 1]? = some (.cells #[.slice none 0 0] 41 (0, 0)) ∧ W'.heap[w.heap.size + 2]? = some (.cells #[.slice none 0 0] 23 (0, 0)) ∧ W'.heap[w.heap.size + 3]? = some (.cells #[.bool false] 4 (0, 0)) ∧
      W'.heap[w.heap.size + 4]? = some (.cells #[A] 41 (0, 0)) ∧ W'.heap[w.heap.size + 5]? = some (.cells #[B] 23 (0, 0)) ∧ SqRow b S pre A B W' ∧ Fr w W' (fun k => k < w.heap.size)
theorem ownsRow_uniq {w : World} {base e s n : Nat} {v : Value} {xs ys : List Value} (h : w.ownsRow base e s v n xs) (h' : w.ownsRow base e s v n ys) : xs = ys := by
  have hl : xs.length = ys.length := h.1.trans h'.1.symm
  rcases h.2 with ⟨rfl, rfl⟩ | ⟨g, cap, cur, rfl, _⟩
  · have h0 : xs.length = 0 := by rw [h.1]; simp
    have hx := List.eq_nil_of_length_eq_zero h0
    have hy := List.eq_nil_of_length_eq_zero (l := ys) (by omega)
    rw [hx, hy]
  · refine List.ext_getElem? fun j => ?_
    by_cases hj : j < xs.length
    · have e1 := List.getElem?_eq_getElem hj
      have e2 := List.getElem?_eq_getElem (hl ▸ hj)
      have c1 := h.cells (g := g) rfl j _ e1
      have c2 := h'.cells (g := g) rfl j _ e2
      rw [c1] at c2
      rw [e1, e2]
      exact c2
    · rw [List.getElem?_eq_none (by omega), List.getElem?_eq_none (by omega)]
theorem wpIn_append_round {l n : Nat} {P : Program} {o : Oper} {a : Act} {w w' : World} {K : Act → World → Prop} {Q : Exit → Act → World → Prop} (s x : Operand) (t : TypeId) (ho : o.op = .call { callee := .builtin .append, args := #[s, x], argTypes := #[t, t] }) {v sl v' : Value} (hs : a.eval s = v) (hx : a.eval x = sl)
    (hr : (Builtin.append_ #[t, t] o.type #[v, sl]).run P w = .ok v' w') (h : K (a.put o.dst v') w') : o.wpIn (Fence.wide.inRound l) n P a w K Q := by
  unfold Oper.wpIn
  refine ⟨fun f _ => trivial, ?_⟩
  have he : o.semAt (Fence.wide.inRound l).round a.eval = execOp a.eval o := Oper.semAt_some l _ _ (by rw [ho]; simp)
  rw [he]
  unfold execOp
  simp only [ho, resolve, invoke, builtin, Sem.run_bind, Sem.run_pure, Result.andThen_ok, List.map_toArray, List.map_cons, List.map_nil, hs, hx, hr, Oper.uponIn]
  exact h
end Go.Proofs.YtjcnjaebmndeiaaDoor
