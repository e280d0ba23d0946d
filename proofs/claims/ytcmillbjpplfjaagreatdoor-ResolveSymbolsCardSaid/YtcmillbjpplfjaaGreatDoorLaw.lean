/-
  'few', 'awake'; the walks of the laws.
-/
import Derived.Test.YtcmillbjpplfjaaGreatDoorFst
namespace Go.Proofs.YtcmillbjpplfjaaGreatDoor
open Go.RowKit

theorem fr_all (w : World) (o : Obj) : Fr w (w.alloc o) (fun _ => True) := below_fr0 ((Below.refl _ w).alloc (Nat.le_refl _) o)
/-- It answers something. -/
def SomeB (w : World) (e : Ending) (w' : World) : Prop := ∃ b, e = .returned (.bool b) ∧ Below w.heap.size w w'
theorem wf0 : (Lit.int .i64 0).wf = true := by decide
theorem sz0 : (⟨#[]⟩ : ByteArray).size ≤ maxLen := by decide
/-- Nodes in a block of their own. -/
theorem nds_arr {W : World} {ok : Nat → Prop} {g : Nat} {e : TypeId} {a : Array Value} {ns : List Nd} (h : W.heap[g]? = some (.cells a e (0, 0))) (hs : a.size = 10 * ns.length) (hg : ok g) (hl : ns.length ≤ 1000) (hone : ∀ i n, ns[i]? = some n → NdIn W ok n (fun j => a.getD (10 * i + j) undef)) :
    NdsAt W ok ns (.slice (some ⟨g, 0, none⟩) ns.length ns.length) := by
  refine ⟨some ⟨g, 0, none⟩, ns.length, fun i j => a.getD (10 * i + j) undef, rfl, Nat.le_refl _, by unfold maxLen; omega, fun _ => ⟨g, 0, rfl, hg, fun i j hi hj => ?_⟩, hone⟩
  have hlt : 10 * i + j < a.size := by omega
  have := cell_of_row W g (10 * i + j) _ _ _ h
  rw [Nat.zero_add, this, Array.getElem?_eq_getElem hlt]
  show _ = some (a.getD (10 * i + j) undef)
  rw [Array.getD_eq_getD_getElem?, Array.getElem?_eq_getElem hlt]
  rfl
/-- A node of a kind alone; a union of the node beside. -/
def kNd (k : Int) : Nd := ⟨k, ⟨#[]⟩, [], [], [], false, ⟨#[]⟩, 0, [], 0⟩
def uNd : Nd := ⟨13, ⟨#[]⟩, [], [], [], false, ⟨#[]⟩, 0, [1], 0⟩
abbrev kA (k : Int) : Array Value := #[.int .i64 k, .string ⟨#[]⟩, .slice none 0 0, .slice none 0 0, .slice none 0 0, .bool false, .string ⟨#[]⟩, .int .i64 0, .slice none 0 0, .int .i64 0]
theorem one_nds {W : World} {g : Nat} (k : Int) (hk : (Lit.int .i64 k).wf = true) (h : W.heap[g]? = some (.cells (kA k) 50 (0, 0))) : NdsAt W (fun _ => True) [kNd k] (.slice (some ⟨g, 0, none⟩) 1 1) := by
  refine nds_arr (ns := [kNd k]) h rfl trivial (by simp) (fun i n hi => ?_)
  rcases i with _ | i
  · simp only [List.getElem?_cons_zero, Option.some.injEq] at hi
    subst hi
    exact ⟨rfl, rfl, strs_nil _ _, rows_nil _ _, strs_nil _ _, rfl, rfl, rfl, ints_nil _ _, rfl, hk, wf0, wf0, sz0, sz0⟩
  · simp at hi
theorem m34 : matchT [kNd 3] [kNd 4] 0 0 = true := by decide +kernel
theorem m43 : matchT [kNd 4] [kNd 3] 0 0 = false := by decide +kernel
end Go.Proofs.YtcmillbjpplfjaaGreatDoor
