/-
  A slice of byte slices that came in; the texts of some byte slices, one behind the other.
-/
import Derived.Test.YtfodccjineallaaTrip
import Derived.Deep.Slices
namespace Go.Proofs.Ytfodccjineallaa
open Go.RowKit

theorem rd_of_trod {H : Type} {enc : TypeId × Value → H} {P : Program} {t e : TypeId} {W : World} {v : Value} {fuel : Nat} {x : DataW H × List MemPlace} (ht : P.underlying t = some (.slice e)) (he : P.underlying e = some (.int .u8)) (hc : P.cellsOf e = 1)
    (hf : DataW.trod enc P W 0 (fun _ => true) true fuel t [v] = some x) : ∃ A l c xs, v = .slice A l c ∧ Rd W W.heap.size A l c xs := by
  rcases ChangeShapes.open_ints ht he hc hf with ⟨hcs, _⟩ | ⟨x, l, c, zs, hcs, _, hl, hm, hz, _, hcell, hwz⟩
  · simp at hcs
    subst hcs
    exact ⟨_, _, _, [], rfl, rfl, Nat.le_refl _, by unfold maxLen; omega, by simp, fun h => absurd h (by omega)⟩
  · simp at hcs
    subst hcs
    simp only [if_true] at hz
    refine ⟨_, _, _, zs.take l, rfl, by simp; omega, hl, hm, fun y hy => wf_byte (hwz y (List.mem_of_mem_take hy)), fun hn => ?_⟩
    have h0 := hcell 0 (by omega)
    obtain ⟨b, off, spot⟩ := x
    have hspot : spot = none := by simpa [Addr.add] using World.cell?_spot h0
    subst hspot
    refine ⟨b, off, rfl, by have := cell_lt h0; simpa [Addr.add] using this, fun j u hu => ?_⟩
    rw [List.getElem?_take] at hu
    split at hu
    · have h2 := hcell j (by omega)
      rw [addr_add] at h2
      rw [h2, List.getD_eq_getElem?_getD, hu]
      rfl
    · cases hu

/-- The slice value (A, n, c) holds byte slices, the k-th one with the bytes X k. -/
def Rds (w : World) (A : Option Addr) (n c : Nat) (X : Nat → List Int) : Prop :=
  n ≤ c ∧ c ≤ maxLen ∧ (0 < n → ∃ b off, A = some ⟨b, off, none⟩ ∧ b < w.heap.size ∧ ∀ k, k < n → ∃ A' c', w.cell? ⟨b, off + k, none⟩ = some (.slice A' (X k).length c') ∧ Rd w w.heap.size A' (X k).length c' (X k))

theorem open_rds {H : Type} {enc : TypeId × Value → H} {P : Program} {t e e' : TypeId} {W : World} {base : Nat} {v : Value} {d : DataW H} {ps : List MemPlace} (ht : P.underlying t = some (.slice e)) (hc : P.cellsOf e = 1) (he : P.underlying e = some (.slice e')) (he' : P.underlying e' = some (.int .u8)) (hc' : P.cellsOf e' = 1)
    (hval : Value.okWide P W .any base t v) (h : DataW.Trod enc P W 0 (fun _ => true) true t v d ps) : ∃ A l c X, v = .slice A l c ∧ Rds W A l c X := by
  obtain ⟨A, l, c, rfl⟩ := WideShapes.okWide_slice ht hval
  obtain ⟨fuel, hf⟩ := h
  rcases Deep.open_slice1 ht hc hf with ⟨hcs, _⟩ | ⟨a, len, cap, m, n, V, D, Pl, hcs, _, hl, hm, hmm, _, hx⟩
  · simp [Value.cells] at hcs
    obtain ⟨rfl, rfl, rfl⟩ := hcs
    exact ⟨_, _, _, fun _ => [], rfl, Nat.le_refl _, by unfold maxLen; omega, fun h => absurd h (by omega)⟩
  · simp [Value.cells] at hcs
    obtain ⟨rfl, rfl, rfl⟩ := hcs
    simp only [if_true] at hmm
    have hex : ∀ i, ∃ xs : List Int, i < m → ∃ A' c', W.cell? (a.add i) = some (.slice A' xs.length c') ∧ Rd W W.heap.size A' xs.length c' xs := by
      intro i
      by_cases hi : i < m
      · obtain ⟨h1, h2⟩ := hx i hi
        obtain ⟨A', l', c', xs, hv, hr⟩ := rd_of_trod he he' hc' h2
        obtain rfl : xs.length = l' := hr.1
        exact ⟨xs, fun _ => ⟨A', c', by rw [h1, hv], hr⟩⟩
      · exact ⟨[], fun h => absurd h hi⟩
    obtain ⟨X, hX⟩ := Classical.axiomOfChoice hex
    refine ⟨_, _, _, X, rfl, hl, hm, fun hn => ?_⟩
    obtain ⟨A0, c0, h0, _⟩ := hX 0 (by omega)
    obtain ⟨b, off, spot⟩ := a
    have hspot : spot = none := by simpa [Addr.add] using World.cell?_spot h0
    subst hspot
    refine ⟨b, off, rfl, by have := cell_lt h0; simpa [Addr.add] using this, fun k hk => ?_⟩
    have := hX k (by omega)
    rwa [addr_add] at this

/-- The texts of X k, X (k + 1) .., so many, one behind the other. -/
def cat (X : Nat → List Int) (k : Nat) : Nat → List Int
  | 0 => []
  | m + 1 => textL (X k) ++ cat X (k + 1) m
theorem cat_snoc (X : Nat → List Int) : ∀ (k m : Nat), cat X k (m + 1) = cat X k m ++ textL (X (k + m))
  | k, 0 => by simp [cat]
  | k, m + 1 => by
    rw [cat, cat_snoc X (k + 1) m, cat, List.append_assoc, show k + 1 + m = k + (m + 1) by omega]
theorem cat_byte {X : Nat → List Int} : ∀ (m k : Nat), (∀ j, k ≤ j → j < k + m → ∀ x ∈ X j, 0 ≤ x ∧ x < 256) → ∀ x ∈ cat X k m, 0 ≤ x ∧ x < 256
  | 0, k, _, x, hx => by simp [cat] at hx
  | m + 1, k, h, x, hx => by
    rw [cat] at hx
    rcases List.mem_append.1 hx with hx | hx
    · unfold textL at hx
      rcases List.mem_append.1 hx with hx | hx
      · revert hx
        have : ∀ (k v : Nat), v ≤ k → ∀ x ∈ numL v, 0 ≤ x ∧ x < 256 := by
          intro k
          induction k with
          | zero => intro v hv x hx; obtain rfl : v = 0 := by omega
                    rw [numL_lt 0 (by omega)] at hx; simp at hx; omega
          | succ k ih =>
            intro v hv x hx
            by_cases h : v < 128
            · rw [numL_lt v h] at hx; simp at hx; omega
            · rw [numL_ge v (by omega)] at hx
              rcases List.mem_cons.1 hx with hx | hx
              · omega
              · exact ih (v / 128) (by omega) x hx
        exact this _ _ (Nat.le_refl _) x
      · exact h k (by omega) (by omega) x hx
    · exact cat_byte m (k + 1) (fun j h1 h2 => h j (by omega) (by omega)) x hx
theorem cat_len {X : Nat → List Int} : ∀ (m k : Nat), (∀ j, k ≤ j → j < k + m → (X j).length ≤ 500) → (cat X k m).length ≤ 510 * m
  | 0, k, _ => by simp [cat]
  | m + 1, k, h => by
    have h1 := h k (by omega) (by omega)
    have h2 := cat_len m (k + 1) (fun j h1 h2 => h j (by omega) (by omega))
    have h3 := zigLen (n := (X k).length) (by omega)
    rw [cat, List.length_append]
    unfold textL
    rw [List.length_append]
    omega

/-- How many bytes are still to be counted. -/
def lenK (k : Nat) : Nat := if k = 0 then 0 else (numL k).length
theorem lenK_step {k : Nat} (h : 0 < k) : lenK k = 1 + lenK (k / 128) := by
  unfold lenK
  rw [if_neg (by omega)]
  by_cases hk : k < 128
  · rw [numL_lt k hk, if_pos (by omega)]; rfl
  · rw [numL_ge k (by omega), if_neg (by omega), List.length_cons]; omega
theorem lenK_start (v : Nat) : 1 + lenK (v / 128) = (numL v).length := by
  rcases Nat.eq_zero_or_pos v with h | h
  · subst h; rw [numL_lt 0 (by omega)]; rfl
  · rw [← lenK_step h]; unfold lenK; rw [if_neg (by omega)]
theorem double_pos {n : Int} (h : I64 n) (h0 : 0 ≤ n) : IntKind.u64.wrap (IntKind.u64.wrap n * 2) = (zigN n : Int) := (zig_pos h h0).2
end Go.Proofs.Ytfodccjineallaa
