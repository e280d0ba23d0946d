/-
  The one that finds ranks, in memory: its nodes, the ranks, and for each node a row of the steps that wait for it; 'asked'.
-/
import Derived.Test.YtpajccehkcgoaaaDoorLvm
import Derived.Test.YtpajccehkcgoaaaDoorMbs
import Derived.Deep.RegionLaw
import Derived.Deep.AppendLies
namespace Go.Proofs.YtpajccehkcgoaaaDoor
open Go.RowKit Go.Shelf Lv

theorem infoStep : (Tryd.prog.info? 79).map (fun i => (i.zero, i.size, i.bytes)) = some (some (.agg #[.int .i64 0, .int .i64 0]), 2, 16) := by kernel_rfl
/-- Steps as cells. -/
def tk (l : List (Nat × Nat)) : List Value := l.flatMap fun t => [.int .i64 (t.1 : Nat), .int .i64 (t.2 : Nat)]
theorem tk_len : ∀ l : List (Nat × Nat), (tk l).length = l.length * 2
  | [] => rfl
  | x :: xs => by
    have := tk_len xs
    unfold tk at this ⊢
    rw [List.flatMap_cons, List.length_append, this]
    simp
    omega
theorem tk_app (l m : List (Nat × Nat)) : tk (l ++ m) = tk l ++ tk m := by unfold tk; rw [List.flatMap_append]
theorem tk_at : ∀ (l : List (Nat × Nat)) (i : Nat) (x : Nat × Nat), l[i]? = some x → (tk l)[2 * i]? = some (.int .i64 (x.1 : Nat)) ∧ (tk l)[2 * i + 1]? = some (.int .i64 (x.2 : Nat))
  | y :: ys, 0, x, h => by cases h; exact ⟨rfl, rfl⟩
  | y :: ys, i + 1, x, h => by
    have := tk_at ys i x (by simpa using h)
    have e : tk (y :: ys) = .int .i64 (y.1 : Nat) :: .int .i64 (y.2 : Nat) :: tk ys := by simp [tk]
    rw [e, show 2 * (i + 1) = 2 * i + 1 + 1 by omega, show 2 * i + 1 + 1 + 1 = (2 * i + 1) + 1 + 1 by omega]
    simp only [List.getElem?_cons_succ]
    exact this
  | [], i, x, h => by simp at h

/-- A block is one of the rows'. -/
def RowOf (n : Nat) (vs : Nat → Value) (b : Nat) : Prop := ∃ i, i < n ∧ (vs i).ownBlock = some b
/-- The one that finds ranks. -/
structure RkAt (w : World) (base g rg wg n : Nat) (nsv : Value) (s : St) (vs : Nat → Value) : Prop where
  hdr : w.heap[g]? = some (.cells #[nsv, .slice (some ⟨rg, 0, none⟩) n n, .slice (some ⟨wg, 0, none⟩) n n] 76 (0, 0))
  rks : ∃ a : Array Value, w.heap[rg]? = some (.cells a 3 (0, 0)) ∧ a.size = n ∧ ∀ i, i < n → a[i]? = some (.int .i64 (s.rk i))
  wts : ∃ a : Array Value, w.heap[wg]? = some (.cells a 77 (0, 0)) ∧ a.size = n ∧ ∀ i, i < n → a[i]? = some (vs i)
  rows : ∀ i, i < n → w.ownsRow base 79 2 (vs i) (s.wt i).length (tk (s.wt i))
  apart : ∀ i j, i < n → j < n → i ≠ j → ∀ b, (vs i).ownBlock = some b → (vs j).ownBlock ≠ some b
  lt : g < base ∧ rg < base ∧ wg < base ∧ g ≠ rg ∧ g ≠ wg ∧ rg ≠ wg
  hb : base ≤ w.heap.size
section
variable {w w' : World} {base g rg wg n : Nat} {nsv : Value} {s : St} {vs : Nat → Value}
theorem RkAt.row_lt (h : RkAt w base g rg wg n nsv s vs) {b : Nat} (hr : RowOf n vs b) : base ≤ b ∧ b < w.heap.size := by
  obtain ⟨i, hi, e⟩ := hr
  exact (h.rows i hi).lt b e
/-- It abides whatever leaves its blocks. -/
theorem RkAt.fr {ok : Nat → Prop} (h : RkAt w base g rg wg n nsv s vs) (hf : Fr w w' ok) (hk : ∀ b, b = g ∨ b = rg ∨ b = wg ∨ RowOf n vs b → ok b) : RkAt w' base g rg wg n nsv s vs := by
  obtain ⟨a, ha, h1, h2⟩ := h.rks
  obtain ⟨a', ha', h1', h2'⟩ := h.wts
  exact ⟨hf.at h.hdr (hk _ (.inl rfl)), ⟨a, hf.at ha (hk _ (.inr (.inl rfl))), h1, h2⟩, ⟨a', hf.at ha' (hk _ (.inr (.inr (.inl rfl)))), h1', h2'⟩,
    fun i hi => ownsRow_fr (h.rows i hi) hf (fun b e => hk b (.inr (.inr (.inr ⟨i, hi, e⟩)))), h.apart, h.lt, Nat.le_trans h.hb hf.size⟩
theorem RkAt.up (h : RkAt w base g rg wg n nsv s vs) (hf : Fr w w' (fun _ => True)) : RkAt w' base g rg wg n nsv s vs := h.fr hf (fun _ _ => trivial)
end
/-- What a call may do: write the ranks, the rows, and make new blocks. -/
structure Stp (w w' : World) (rg wg n : Nat) (vs vs' : Nat → Value) : Prop where
  fr : Fr w w' (fun b => b ≠ rg ∧ b ≠ wg ∧ ¬ RowOf n vs b)
  new : ∀ b, RowOf n vs' b → RowOf n vs b ∨ w.heap.size ≤ b
theorem Stp.refl (w : World) (rg wg n : Nat) (vs : Nat → Value) : Stp w w rg wg n vs vs := ⟨Fr.refl w _, fun _ h => .inl h⟩
theorem Stp.of {w w' : World} {rg wg n : Nat} {vs : Nat → Value} (h : Fr w w' (fun _ => True)) : Stp w w' rg wg n vs vs := ⟨h.mono (fun _ _ _ => trivial), fun _ h => .inl h⟩
theorem Stp.trans {w w' w'' : World} {rg wg n : Nat} {vs vs' vs'' : Nat → Value} (h : Stp w w' rg wg n vs vs') (k : Stp w' w'' rg wg n vs' vs'') : Stp w w'' rg wg n vs vs'' :=
  ⟨⟨k.fr.os.trans h.fr.os, k.fr.tape.trans h.fr.tape, k.fr.output.trans h.fr.output, Nat.le_trans h.fr.size k.fr.size, fun i hi hk => by
    refine (k.fr.block i (Nat.lt_of_lt_of_le hi h.fr.size) ⟨hk.1, hk.2.1, fun hr => ?_⟩).trans (h.fr.block i hi hk)
    rcases h.new i hr with h1 | h1
    · exact hk.2.2 h1
    · omega⟩, fun b hb => by
    rcases k.new b hb with h1 | h1
    · exact h.new b h1
    · exact .inr (Nat.le_trans h.fr.size h1)⟩
theorem Stp.at {w w' : World} {rg wg n : Nat} {vs vs' : Nat → Value} (h : Stp w w' rg wg n vs vs') {b : Nat} {o : Obj} (ho : w.heap[b]? = some o) (h1 : b ≠ rg) (h2 : b ≠ wg) (h3 : ¬ RowOf n vs b) : w'.heap[b]? = some o := h.fr.at ho ⟨h1, h2, h3⟩
/-- A block that is no row's stays none. -/
theorem Stp.no {w w' : World} {rg wg n : Nat} {vs vs' : Nat → Value} (h : Stp w w' rg wg n vs vs') {b : Nat} (hb : b < w.heap.size) (hn : ¬ RowOf n vs b) : ¬ RowOf n vs' b := fun hr => (h.new b hr).elim hn (fun h => by omega)

theorem set_frL (w : World) (g j : Nat) (v : Value) : Fr w (w.setCell ⟨g, j, none⟩ v) (fun k => k ≠ g) := Fr.of (gset w g j v) (fun b _ hb e => hb (by cases e; rfl))
/-- Behind an append onto a row, and the store of what comes of it. -/
theorem pushed {w w2 : World} {base g rg wg n i : Nat} {nsv v2 : Value} {s : St} {vs : Nat → Value} {x : Nat × Nat} (h : RkAt w base g rg wg n nsv s vs) (hi : i < n) (hown : w2.ownsRow base 79 2 v2 ((s.wt i).length + 1) (tk (s.wt i ++ [x]))) (hg : w.grownBy w2 (vs i).ownBlock)
    (hv : (vs i).ownBlock = v2.ownBlock ∨ v2.ownBlock = some w.heap.size) : RkAt (w2.setCell ⟨wg, i, none⟩ v2) base g rg wg n nsv ⟨s.rk, upd s.wt i (s.wt i ++ [x])⟩ (upd vs i v2) ∧ Stp w (w2.setCell ⟨wg, i, none⟩ v2) rg wg n vs (upd vs i v2) := by
  have hlt : ∀ b, RowOf n vs b → base ≤ b ∧ b < w.heap.size := fun b hr => h.row_lt hr
  have hfr : Fr w w2 (fun b => (vs i).ownBlock ≠ some b) := Fr.of hg (fun b _ hb e => hb e.symm)
  have hfr2 := set_frL w2 wg i v2
  obtain ⟨a, ha, h1, h2⟩ := h.rks
  obtain ⟨a', ha', h1', h2'⟩ := h.wts
  obtain ⟨l1, l2, l3, l4, l5, l6⟩ := h.lt
  have hno : ∀ b, b < base → (vs i).ownBlock ≠ some b := fun b hb e => by have := (hlt b ⟨i, hi, e⟩).1; omega
  have hw2 : w2.heap[wg]? = some (.cells a' 77 (0, 0)) := hfr.at ha' (hno wg l3)
  refine ⟨⟨?_, ⟨a, ?_, h1, h2⟩, ⟨a'.setIfInBounds i v2, ?_, by rw [Array.size_setIfInBounds]; exact h1', fun j hj => ?_⟩, fun j hj => ?_, fun j k hj hk hjk b e1 e2 => ?_, h.lt, Nat.le_trans h.hb (Nat.le_trans hg.size hfr2.size)⟩, ⟨?_, fun b hb => ?_⟩⟩
  · exact hfr2.at (hfr.at h.hdr (hno g l1)) l5
  · exact hfr2.at (hfr.at ha (hno rg l2)) l6
  · exact heap_setCell_same w2 wg i _ _ v2 hw2
  · by_cases e : j = i
    · subst e
      rw [upd_same, Array.getElem?_setIfInBounds_self_of_lt (by omega)]
    · rw [upd_ne _ _ e, Array.getElem?_setIfInBounds_ne (fun h => e h.symm)]
      exact h2' j hj
  · by_cases e : j = i
    · subst e
      simp only [upd_same, List.length_append, List.length_cons, List.length_nil]
      refine ownsRow_fr hown hfr2 (fun b hb => ?_)
      have := (hown.lt b hb).1
      omega
    · simp only [upd_ne _ _ e]
      refine ownsRow_fr (ownsRow_fr (h.rows j hj) hfr (fun b hb => h.apart j i hj hi e b hb)) hfr2 (fun b hb => ?_)
      have := (hlt b ⟨j, hj, hb⟩).1
      omega
  · have key : ∀ j, j < n → j ≠ i → ∀ b, (vs j).ownBlock = some b → v2.ownBlock ≠ some b := fun j hj hji b hb hb2 => by
      rcases hv with hv | hv
      · rw [← hv] at hb2; exact h.apart j i hj hi hji b hb hb2
      · rw [hv] at hb2; cases hb2; have := (hlt _ ⟨j, hj, hb⟩).2; omega
    by_cases ej : j = i
    · subst ej
      rw [upd_same] at e1
      rw [upd_ne _ _ (fun h => hjk h.symm)] at e2
      exact key k hk (fun h => hjk h.symm) b e2 e1
    · rw [upd_ne _ _ ej] at e1
      by_cases ek : k = i
      · subst ek
        rw [upd_same] at e2
        exact key j hj ej b e1 e2
      · rw [upd_ne _ _ ek] at e2
        exact h.apart j k hj hk hjk b e1 e2
  · refine ⟨hfr2.os.trans hfr.os, hfr2.tape.trans hfr.tape, hfr2.output.trans hfr.output, Nat.le_trans hfr.size hfr2.size, fun b hb hk => ?_⟩
    exact (hfr2.block b (Nat.lt_of_lt_of_le hb hfr.size) hk.2.1).trans (hfr.block b hb (fun e => hk.2.2 ⟨i, hi, e⟩))
  · obtain ⟨j, hj, e⟩ := hb
    by_cases ej : j = i
    · subst ej
      rw [upd_same] at e
      rcases hv with hv | hv
      · exact .inl ⟨j, hj, hv.trans e⟩
      · rw [hv] at e; cases e; exact .inr (Nat.le_refl _)
    · rw [upd_ne _ _ ej] at e
      exact .inl ⟨j, hj, e⟩
end Go.Proofs.YtpajccehkcgoaaaDoor
