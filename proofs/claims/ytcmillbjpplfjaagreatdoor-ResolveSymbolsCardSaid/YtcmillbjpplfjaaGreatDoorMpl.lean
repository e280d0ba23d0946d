/-
  A map of the call's own as the list of its entries: made, asked, more.
-/
import Derived.Test.YtcmillbjpplfjaaGreatDoorMbs
import Derived.Maps.Own
import Derived.Maps.OwnOps
import Derived.DeepKeys4
import Derived.WideKeyPair
namespace Go.Proofs.YtcmillbjpplfjaaGreatDoor
open Go.RowKit Go.Maps

/-- Block b is a map of these entries. -/
def MapL (w : World) (b : Nat) (es : List (Value × Value)) : Prop :=
  ∃ a clock, w.heap[b]? = some (.map a clock) ∧ a.toList.map (fun e => (e.key, e.val)) = es
theorem mapL_made (w : World) : MapL (w.alloc (.map #[] 0)) w.heap.size [] := ⟨#[], 0, heap_alloc_new w _, rfl⟩
theorem MapL.fr {w w' : World} {b : Nat} {es : List (Value × Value)} {ok : Nat → Prop} (h : MapL w b es) (hf : Fr w w' ok) (hb : ok b) : MapL w' b es := by
  obtain ⟨a, c, h1, h2⟩ := h
  exact ⟨a, c, hf.at h1 hb, h2⟩
theorem MapL.lt {w : World} {b : Nat} {es : List (Value × Value)} (h : MapL w b es) : b < w.heap.size := by
  obtain ⟨a, c, h1, _⟩ := h
  exact blk_lt h1
/-- Asked for a key: it is there, or not. -/
theorem MapL.look {w : World} {b : Nat} {es : List (Value × Value)} (h : MapL w b es) {P : Program} {k e t : TypeId} (K : Keyed P k) (ht : P.underlying t = some (.map k e)) {z : Value} (hz : ∀ w : World, (zeroValue e).run P w = .ok z w)
    (hk : ∀ p, p ∈ es → ∃ l, keyOf P k p.1 = some l) {key : Value} {kl : Lit} (hkey : keyOf P k key = some kl) :
    ((∀ p, p ∈ es → p.1 ≠ key) ∧ (Instr.lookup t (.map (some b)) key true).run P w = .ok (.tuple #[z, .bool false]) w) ∨
    ∃ v, (key, v) ∈ es ∧ (Instr.lookup t (.map (some b)) key true).run P w = .ok (.tuple #[v, .bool true]) w := by
  obtain ⟨a, c, hb, rfl⟩ := h
  have hks : ∀ x ∈ a.toList, ∃ l, keyOf P k x.key = some l := fun x hx => hk _ (List.mem_map.2 ⟨x, hx, rfl⟩)
  rcases K.find w hkey a.toList hks with ⟨h1, h2⟩ | ⟨j, e0, h1, h2, h3⟩
  · refine .inl ⟨fun p hp => ?_, by simp [Instr.lookup, run_underlying ht, MapKept.run_getObj_map hb, K.check w _ hkey, h1, hz, Result.andThen]⟩
    obtain ⟨x, hx, rfl⟩ := List.mem_map.1 hp
    exact h2 x hx
  · exact .inr ⟨e0.val, List.mem_map.2 ⟨e0, List.mem_of_getElem? h2, by rw [h3]⟩, by simp [Instr.lookup, run_underlying ht, MapKept.run_getObj_map hb, K.check w _ hkey, h1, Result.andThen]⟩
/-- One more entry, at a key that is not there. -/
theorem MapL.more {w : World} {b : Nat} {es : List (Value × Value)} (h : MapL w b es) {P : Program} {k e t : TypeId} (K : Keyed P k) (ht : P.underlying t = some (.map k e))
    (hk : ∀ p, p ∈ es → ∃ l, keyOf P k p.1 = some l) {key : Value} {kl : Lit} (hkey : keyOf P k key = some kl) (hn : ∀ p, p ∈ es → p.1 ≠ key) (val : Value) :
    ∃ w', (Instr.mapUpdate t (.map (some b)) key val).run P w = .ok () w' ∧ MapL w' b (es ++ [(key, val)]) ∧ Fr w w' (fun g => g ≠ b) ∧ w'.heap.size = w.heap.size := by
  obtain ⟨a, c, hb, rfl⟩ := h
  have hks : ∀ x ∈ a.toList, ∃ l, keyOf P k x.key = some l := fun x hx => hk _ (List.mem_map.2 ⟨x, hx, rfl⟩)
  rcases K.find w hkey a.toList hks with ⟨h1, h2⟩ | ⟨j, e0, h1, h2, h3⟩
  · refine ⟨{ w with heap := w.heap.setIfInBounds b (.map (a.push ⟨key, val, c⟩) (c + 1)) }, by simp [Instr.mapUpdate, run_underlying ht, MapKept.run_getObj_map hb, K.check w false hkey, h1, MapKept.run_setObj_map _ hb, Result.andThen], ⟨a.push ⟨key, val, c⟩, c + 1, ?_, ?_⟩, ⟨rfl, rfl, rfl, by simp, fun g _ hg => ?_⟩, by simp⟩
    · show (w.heap.setIfInBounds b _)[b]? = _
      rw [Array.getElem?_setIfInBounds_self_of_lt (blk_lt hb)]
    · rw [Array.toList_push, List.map_append]; rfl
    · show (w.heap.setIfInBounds b _)[g]? = w.heap[g]?
      rw [Array.getElem?_setIfInBounds_ne (fun e => hg e.symm)]
  · exact absurd h3 (hn _ (List.mem_map.2 ⟨e0, List.mem_of_getElem? h2, rfl⟩))
/-- What a struct of two numbers reads as, as a key. -/
theorem keyOf_two {P : Program} {k : TypeId} {fs : Array Field} (hu : P.underlying k = some (.struct fs)) (hkt : P.keyType k = true) (hc : P.cellsOf k = 2) (hsz : ∃ m, P.types.size = m + 1) (h3 : P.underlying 3 = some (.int .i64)) (hc3 : P.cellsOf 3 = 1)
    (hnm : fs.all (·.name != "_") = true) (hfs : fs.toList.map (fun f => (f.type, f.offset)) = [(3, 0), (3, 1)]) {a b : Int} (wa : (Lit.int .i64 a).wf = true) (wb : (Lit.int .i64 b).wf = true) :
    keyOf P k (.agg #[.int .i64 a, .int .i64 b]) = some (.string (keyBytes [.int .i64 a, .int .i64 b])) := by
  obtain ⟨m, hm⟩ := hsz
  have e1 : ∀ n, P.keyLits (n + 1) 3 [.int .i64 a] = some [.int .i64 a] := fun n => by unfold Program.keyLits; simp [h3, wa]
  have e2 : ∀ n, P.keyLits (n + 1) 3 [.int .i64 b] = some [.int .i64 b] := fun n => by unfold Program.keyLits; simp [h3, wb]
  obtain ⟨l, hl⟩ : ∃ l, fs.toList = l := ⟨_, rfl⟩
  rw [hl] at hfs
  rcases l with _ | ⟨f0, _ | ⟨f1, _ | ⟨f2, r⟩⟩⟩
  · simp at hfs
  · simp at hfs
  · simp only [List.map_cons, List.map_nil, List.cons.injEq, Prod.mk.injEq, and_true] at hfs
    obtain ⟨⟨t0, o0⟩, t1, o1⟩ := hfs
    unfold keyOf
    simp only [hu]
    rw [if_pos (by simp [hkt, Value.formed, hu, hc]), hm]
    unfold Program.keyLits
    simp only [hu, Value.cells]
    rw [if_pos ⟨by rw [hc]; rfl, hnm⟩, hl]
    simp [List.mapM_cons, List.mapM_nil, t0, t1, o0, o1, hc3, e1, e2]
  · simp at hfs
abbrev pairV (i k : Int) : Value := .agg #[.int .i64 i, .int .i64 k]
theorem pair_law : Keyed Tryz.prog 73 := Keyed.of_law (deep_law_laid (m := 3) (by kernel_rfl) (by decide) (of_decide_eq_true (by kernel_rfl)) (by kernel_rfl) (by kernel_rfl))
theorem spot_law : Keyed Tryz.prog 201 := Keyed.of_law (deep_law_laid (m := 3) (by kernel_rfl) (by decide) (of_decide_eq_true (by kernel_rfl)) (by kernel_rfl) (by kernel_rfl))
theorem pair_key {i k : Int} (hi : (Lit.int .i64 i).wf = true) (hk : (Lit.int .i64 k).wf = true) : keyOf Tryz.prog 73 (pairV i k) = some (.string (keyBytes [.int .i64 i, .int .i64 k])) :=
  keyOf_two Tryz.underlying73 (by kernel_rfl) (by kernel_rfl) ⟨_, rfl⟩ Tryz.underlying3 (by kernel_rfl) (by kernel_rfl) rfl hi hk
theorem spot_key {i k : Int} (hi : (Lit.int .i64 i).wf = true) (hk : (Lit.int .i64 k).wf = true) : keyOf Tryz.prog 201 (pairV i k) = some (.string (keyBytes [.int .i64 i, .int .i64 k])) :=
  keyOf_two Tryz.underlying201 (by kernel_rfl) (by kernel_rfl) ⟨_, rfl⟩ Tryz.underlying3 (by kernel_rfl) (by kernel_rfl) rfl hi hk
end Go.Proofs.YtcmillbjpplfjaaGreatDoor
