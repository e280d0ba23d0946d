/-
  What lies in memory: frames, a set of keys, a JSON value.
-/
import Derived.Test.YtfboecnhakihnaaGreatDoorJWord
import Derived.Maps.OwnSet
import Derived.Maps.Views
import Derived.Maps.Own
namespace Go.Proofs.YtfboecnhakihnaaGreatDoor.js
open Go.RowKit

/-- Blocks of which ok holds are as they were. -/
structure Fr (w w' : World) (ok : Nat → Prop) : Prop where
  os : w'.os = w.os
  tape : w'.tape = w.tape
  output : w'.output = w.output
  size : w.heap.size ≤ w'.heap.size
  block : ∀ k, k < w.heap.size → ok k → w'.heap[k]? = w.heap[k]?
section
variable {w w' w'' : World} {ok ok' : Nat → Prop}
theorem Fr.refl (w : World) (ok : Nat → Prop) : Fr w w ok := ⟨rfl, rfl, rfl, Nat.le_refl _, fun _ _ _ => rfl⟩
theorem Fr.trans (h : Fr w w' ok) (k : Fr w' w'' ok) : Fr w w'' ok :=
  ⟨k.os.trans h.os, k.tape.trans h.tape, k.output.trans h.output, Nat.le_trans h.size k.size, fun i hi ho => (k.block i (by have := h.size; omega) ho).trans (h.block i hi ho)⟩
theorem Fr.mono (h : Fr w w' ok) (hk : ∀ b, b < w.heap.size → ok' b → ok b) : Fr w w' ok' := ⟨h.os, h.tape, h.output, h.size, fun i hi ho => h.block i hi (hk i hi ho)⟩
theorem Fr.of {row : Option Nat} (h : w.grownBy w' row) (hk : ∀ b, b < w.heap.size → ok b → some b ≠ row) : Fr w w' ok := ⟨h.os, h.tape, h.output, h.size, fun i hi ho => h.block i hi (hk i hi ho)⟩
theorem Fr.grown {row : Option Nat} (h : Fr w w' ok) (hk : ∀ b, b < w.heap.size → some b ≠ row → ok b) : w.grownBy w' row := ⟨h.os, h.tape, h.output, h.size, fun i hi ho => h.block i hi (hk i hi ho)⟩
theorem Fr.cell (h : Fr w w' ok) {b o : Nat} {v : Value} (hc : w.cell? ⟨b, o, none⟩ = some v) (hb : ok b) : w'.cell? ⟨b, o, none⟩ = some v :=
  (World.cell?_of_block (h.block b (World.block_lt_of_cell? w ⟨b, o, none⟩ hc) hb)).trans hc
theorem Fr.at (h : Fr w w' ok) {b : Nat} {o : Obj} (hc : w.heap[b]? = some o) (hb : ok b) : w'.heap[b]? = some o := (h.block b (blk_lt hc) hb).trans hc
theorem Fr.drewN (h : Fr w w' ok) (n : Nat) : Fr w (w'.drewN n) ok := ⟨h.os, h.tape, h.output, h.size, h.block⟩
theorem Fr.alloc (h : Fr w w' ok) (o : Obj) : Fr w (w'.alloc o) ok := h.trans (Fr.of (World.grownBy_alloc w' o none) (fun _ _ _ => by simp))
end
theorem Step.fr {w w' : World} {p : Nat} {s : ByteArray} {ys : Bs} (h : Step w p s ys w') : Fr w w' (fun b => b ≠ p) := Fr.of h.2 (fun b _ hb e => hb (by cases e; rfl))

/-- The set of keys that were seen. -/
def Seen (w : World) (b n : Nat) (ks : List ByteArray) : Prop :=
  ∃ D : DataW Unit, w.ownsMap Tryz.prog 9 (unitElem (H := Unit)) b n D ∧ Maps.IsMap D ∧ ∀ s : ByteArray, Maps.has D (.string s.data.toList) = ks.any (fun k => decide (k = s))
theorem Seen.lt {w : World} {b n : Nat} {ks : List ByteArray} (h : Seen w b n ks) : b < w.heap.size := by obtain ⟨D, h1, _⟩ := h; exact h1.lt
theorem Seen.fr {w w' : World} {b n : Nat} {ks : List ByteArray} {ok : Nat → Prop} (h : Seen w b n ks) (hf : Fr w w' ok) (hb : ok b) : Seen w' b n ks := by
  obtain ⟨D, ⟨es, clock, h1, h2⟩, hr⟩ := h
  exact ⟨D, ⟨es, clock, hf.at h1 hb, h2⟩, hr⟩
theorem Seen.made (w : World) : Seen (w.alloc (.map #[] 0)) w.heap.size 0 [] := ⟨.map [], World.ownsMap_made _ _ _ _, Maps.isMap_empty, fun _ => rfl⟩

/-- A JSON value in memory: its four cells; what it leads to lies in blocks of which ok holds. -/
inductive JIn (w : World) (ok : Nat → Prop) : J → Value → Value → Value → Value → Prop
  | mk (k : Nat) (t : ByteArray) (l : List J) (ks : List ByteArray) (A A' : Option Addr) (cap cap' : Nat) (c : Nat → Nat → Value)
      (hcap : l.length ≤ cap ∧ cap ≤ maxLen) (hcap' : ks.length ≤ cap' ∧ cap' ≤ maxLen)
      (hL : 0 < l.length → ∃ g off, A = some ⟨g, off, none⟩ ∧ ok g ∧ ∀ i j, i < l.length → j < 4 → w.cell? ⟨g, off + (4 * i + j), none⟩ = some (c i j))
      (hK : 0 < ks.length → ∃ g off, A' = some ⟨g, off, none⟩ ∧ ok g ∧ ∀ i s, ks[i]? = some s → w.cell? ⟨g, off + i, none⟩ = some (.string s))
      (hE : ∀ i t', l[i]? = some t' → JIn w ok t' (c i 0) (c i 1) (c i 2) (c i 3)) :
      JIn w ok (.mk k t l ks) (.int .i64 k) (.string t) (.slice A l.length cap) (.slice A' ks.length cap')
theorem JIn.fr {w w' : World} {ok ok' : Nat → Prop} (hf : Fr w w' ok') (hk : ∀ b, ok b → ok' b) {t : J} {v0 v1 v2 v3 : Value} (h : JIn w ok t v0 v1 v2 v3) : JIn w' ok t v0 v1 v2 v3 := by
  induction h with
  | mk k t l ks A A' cap cap' c hcap hcap' hL hK _ ih =>
    refine .mk k t l ks A A' cap cap' c hcap hcap' (fun h => ?_) (fun h => ?_) ih
    · obtain ⟨g, off, e, ho, hc⟩ := hL h
      exact ⟨g, off, e, ho, fun i j hi hj => hf.cell (hc i j hi hj) (hk g ho)⟩
    · obtain ⟨g, off, e, ho, hc⟩ := hK h
      exact ⟨g, off, e, ho, fun i s hs => hf.cell (hc i s hs) (hk g ho)⟩
theorem JIn.mono {w : World} {ok ok' : Nat → Prop} (hk : ∀ b, b < w.heap.size → ok b → ok' b) {t : J} {v0 v1 v2 v3 : Value} (h : JIn w ok t v0 v1 v2 v3) : JIn w ok' t v0 v1 v2 v3 := by
  induction h with
  | mk k t l ks A A' cap cap' c hcap hcap' hL hK _ ih =>
    refine .mk k t l ks A A' cap cap' c hcap hcap' (fun h => ?_) (fun h => ?_) ih
    · obtain ⟨g, off, e, ho, hc⟩ := hL h
      exact ⟨g, off, e, hk g (World.block_lt_of_cell? w _ (hc 0 0 h (by omega))) ho, hc⟩
    · obtain ⟨g, off, e, ho, hc⟩ := hK h
      exact ⟨g, off, e, hk g (World.block_lt_of_cell? w _ (hc 0 _ (List.getElem?_eq_getElem h))) ho, hc⟩
theorem JIn.leaf (w : World) (ok : Nat → Prop) (k : Nat) (t : ByteArray) : JIn w ok (.mk k t [] []) (.int .i64 k) (.string t) (.slice none 0 0) (.slice none 0 0) :=
  .mk k t [] [] none none 0 0 (fun _ _ => undef) ⟨Nat.le_refl _, by unfold maxLen; omega⟩ ⟨Nat.le_refl _, by unfold maxLen; omega⟩ (fun h => by simp at h) (fun h => by simp at h) (fun i t' h => by simp at h)
end Go.Proofs.YtfboecnhakihnaaGreatDoor.js
