/-
  Slices of numbers and of truths as arguments.
-/
import Derived.Test.YtcmillbjpplfjaaGreatDoorRow
import Derived.Test.YtcmillbjpplfjaaGreatDoorZib
import Derived.Deep.Grids
namespace Go.Proofs.YtcmillbjpplfjaaGreatDoor
open Go.RowKit

/-- The slice value (A, n, c) holds these numbers. -/
def IntsB (w : World) (A : Option Addr) (n c : Nat) (xs : List Int) : Prop :=
  xs.length = n ∧ n ≤ c ∧ c ≤ maxLen ∧ (∀ x ∈ xs, I64 x) ∧ (0 < n → ∃ b off, A = some ⟨b, off, none⟩ ∧ b < w.heap.size ∧ ∀ j p, xs[j]? = some p → w.cell? ⟨b, off + j, none⟩ = some (.int .i64 p))
/-- The slice value (A, n, c) holds these truths. -/
def BoolsB (w : World) (A : Option Addr) (n c : Nat) (xs : List Bool) : Prop :=
  xs.length = n ∧ n ≤ c ∧ c ≤ maxLen ∧ (0 < n → ∃ b off, A = some ⟨b, off, none⟩ ∧ b < w.heap.size ∧ ∀ j p, xs[j]? = some p → w.cell? ⟨b, off + j, none⟩ = some (.bool p))
theorem open_intsB {H : Type} {enc : TypeId × Value → H} {P : Program} {t e : TypeId} {W : World} {base : Nat} {v : Value} {d : DataW H} {ps : List MemPlace} (ht : P.underlying t = some (.slice e)) (he : P.underlying e = some (.int .i64)) (hc : P.cellsOf e = 1)
    (hval : Value.okWide P W .any base t v) (h : DataW.Trod enc P W 0 (fun _ => true) true t v d ps) : ∃ A l c xs, v = .slice A l c ∧ IntsB W A l c xs := by
  obtain ⟨A, l, c, rfl⟩ := WideShapes.okWide_slice ht hval
  obtain ⟨fuel, hf⟩ := h
  rcases ChangeShapes.open_ints ht he hc hf with ⟨hcs, _⟩ | ⟨x, l', c', zs, hcs, _, hl, hm, hz, _, hcell, hwz⟩
  · simp [Value.cells] at hcs
    obtain ⟨rfl, rfl, rfl⟩ := hcs
    exact ⟨_, _, _, [], rfl, rfl, Nat.le_refl _, by unfold maxLen; omega, by simp, fun h => absurd h (by omega)⟩
  · simp [Value.cells] at hcs
    obtain ⟨rfl, rfl, rfl⟩ := hcs
    simp only [if_true] at hz
    refine ⟨_, _, _, zs.take l, rfl, by simp; omega, hl, hm, fun y hy => wf_I64 (hwz y (List.mem_of_mem_take hy)), fun hn => ?_⟩
    have h0 := hcell 0 (by omega)
    obtain ⟨b, off, spot⟩ := x
    have hspot : spot = none := by simpa [Addr.add] using World.cell?_spot h0
    subst hspot
    refine ⟨b, off, rfl, by have := cell_lt h0; simpa [Addr.add] using this, fun j u hu => ?_⟩
    rw [List.getElem?_take] at hu
    split at hu
    · have h2 := hcell j (by omega)
      rw [addr_add] at h2
      rw [h2, List.getD_eq_getElem?_getD, hu]
      rfl
    · cases hu
theorem open_boolsB {H : Type} {enc : TypeId × Value → H} {P : Program} {t e : TypeId} {W : World} {base : Nat} {v : Value} {d : DataW H} {ps : List MemPlace} (ht : P.underlying t = some (.slice e)) (he : P.underlying e = some .bool) (hc : P.cellsOf e = 1)
    (hval : Value.okWide P W .any base t v) (h : DataW.Trod enc P W 0 (fun _ => true) true t v d ps) : ∃ A l c xs, v = .slice A l c ∧ BoolsB W A l c xs := by
  obtain ⟨A, l, c, rfl⟩ := WideShapes.okWide_slice ht hval
  obtain ⟨fuel, hf⟩ := h
  rcases Deep.open_bools ht he hc hf with ⟨hcs, _⟩ | ⟨x, l', c', zs, hcs, _, hl, hm, _, hcell⟩
  · simp [Value.cells] at hcs
    obtain ⟨rfl, rfl, rfl⟩ := hcs
    exact ⟨_, _, _, [], rfl, rfl, Nat.le_refl _, by unfold maxLen; omega, fun h => absurd h (by omega)⟩
  · simp [Value.cells] at hcs
    obtain ⟨rfl, rfl, rfl⟩ := hcs
    refine ⟨_, _, _, (List.range l).map zs, rfl, by simp, hl, hm, fun hn => ?_⟩
    have h0 := hcell 0 (by omega)
    obtain ⟨b, off, spot⟩ := x
    have hspot : spot = none := by simpa [Addr.add] using World.cell?_spot h0
    subst hspot
    refine ⟨b, off, rfl, by have := cell_lt h0; simpa [Addr.add] using this, fun j u hu => ?_⟩
    rw [List.getElem?_map] at hu
    obtain ⟨i, hi, rfl⟩ := Option.map_eq_some_iff.1 hu
    have hj := (List.getElem?_eq_some_iff.1 hi).1
    have hi2 := List.getElem?_range (i := j) (n := l) (by simpa using hj)
    rw [hi2] at hi
    cases hi
    have h2 := hcell j (by simp at hj; omega)
    rw [addr_add] at h2
    exact h2
end Go.Proofs.YtcmillbjpplfjaaGreatDoor
