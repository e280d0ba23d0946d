/-
  A JSON value with the cells of all within it, and the order in which they are told.
-/
import Derived.Test.YtfboecnhakihnaaGreatDoorJRng
import Derived.Test.YtfboecnhakihnaaGreatDoorJNsv
namespace Go.Proofs.YtfboecnhakihnaaGreatDoor.js
open Go.RowKit

inductive VT where
  | mk (t : J) (v0 v1 v2 v3 : Value) (kids : List VT)
def VT.t : VT → J | .mk t _ _ _ _ _ => t
def VT.v0 : VT → Value | .mk _ a _ _ _ _ => a
def VT.v1 : VT → Value | .mk _ _ a _ _ _ => a
def VT.v2 : VT → Value | .mk _ _ _ a _ _ => a
def VT.v3 : VT → Value | .mk _ _ _ _ a _ => a
def VT.kids : VT → List VT | .mk _ _ _ _ _ k => k
abbrev VT.val (x : VT) : Value := .agg #[x.v0, x.v1, x.v2, x.v3]
mutual
def pre : Nat → VT → List (Nat × VT)
  | d, .mk t a b c e ks => (d, .mk t a b c e ks) :: preL (d + 1) ks
def preL : Nat → List VT → List (Nat × VT)
  | _, [] => []
  | d, x :: r => pre d x ++ preL d r
end
theorem pre_eq (d : Nat) (x : VT) : pre d x = (d, x) :: preL (d + 1) x.kids := by cases x; rw [pre]; rfl
/-- What is still to come, of the lists on the way (the innermost first). -/
def rem : List (List VT) → List (Nat × VT)
  | [] => []
  | r :: s => preL s.length r ++ rem s
theorem rem_nil (s : List (List VT)) : rem ([] :: s) = rem s := by rw [rem, preL]; rfl
theorem rem_cons (x : VT) (r : List VT) (s : List (List VT)) : rem ((x :: r) :: s) = (s.length, x) :: rem (x.kids :: r :: s) := by
  rw [rem, preL, pre_eq, rem, rem]
  simp

def J.l : J → List J | .mk _ _ l _ => l
/-- A slice of JSON values in memory. -/
def SlV (w : World) (ok : Nat → Prop) (v : Value) (xs : List VT) : Prop :=
  ∃ A cap, v = .slice A xs.length cap ∧ xs.length ≤ cap ∧ cap ≤ maxLen ∧
    (0 < xs.length → ∃ g off, A = some ⟨g, off, none⟩ ∧ ok g ∧ ∀ i x, xs[i]? = some x → w.cell? ⟨g, off + 4 * i, none⟩ = some x.v0 ∧ w.cell? ⟨g, off + 4 * i + 1, none⟩ = some x.v1 ∧ w.cell? ⟨g, off + 4 * i + 2, none⟩ = some x.v2 ∧ w.cell? ⟨g, off + 4 * i + 3, none⟩ = some x.v3)
inductive VIn (w : World) (ok : Nat → Prop) : VT → Prop
  | mk (t : J) (v0 v1 v2 v3 : Value) (kids : List VT) (hs : SlV w ok v2 kids) (hj : JIn w ok t v0 v1 v2 v3) (ht : kids.map VT.t = t.l) (hk : ∀ x, x ∈ kids → VIn w ok x) : VIn w ok (.mk t v0 v1 v2 v3 kids)
theorem VIn.sl {w : World} {ok : Nat → Prop} {x : VT} (h : VIn w ok x) : SlV w ok x.v2 x.kids := by cases h; assumption
theorem VIn.jin {w : World} {ok : Nat → Prop} {x : VT} (h : VIn w ok x) : JIn w ok x.t x.v0 x.v1 x.v2 x.v3 := by cases h; assumption
theorem VIn.ts {w : World} {ok : Nat → Prop} {x : VT} (h : VIn w ok x) : x.kids.map VT.t = x.t.l := by cases h; assumption
theorem VIn.kid {w : World} {ok : Nat → Prop} {x : VT} (h : VIn w ok x) : ∀ y, y ∈ x.kids → VIn w ok y := by cases h; assumption
theorem SlV.fr {w w' : World} {ok ok' : Nat → Prop} (hf : Fr w w' ok') (hk : ∀ b, ok b → ok' b) {v : Value} {xs : List VT} (h : SlV w ok v xs) : SlV w' ok v xs := by
  obtain ⟨A, cap, e, h1, h2, h3⟩ := h
  refine ⟨A, cap, e, h1, h2, fun hp => ?_⟩
  obtain ⟨g, off, ea, ho, hc⟩ := h3 hp
  exact ⟨g, off, ea, ho, fun i x hx => by
    obtain ⟨a, b, c, d⟩ := hc i x hx
    exact ⟨hf.cell a (hk g ho), hf.cell b (hk g ho), hf.cell c (hk g ho), hf.cell d (hk g ho)⟩⟩
theorem VIn.fr {w w' : World} {ok ok' : Nat → Prop} (hf : Fr w w' ok') (hk : ∀ b, ok b → ok' b) {x : VT} (h : VIn w ok x) : VIn w' ok x := by
  induction h with
  | mk t v0 v1 v2 v3 kids hs hj ht _ ih => exact .mk t v0 v1 v2 v3 kids (hs.fr hf hk) (hj.fr hf hk) ht ih
theorem SlV.tail {w : World} {ok : Nat → Prop} {A : Option Addr} {n cap : Nat} {x : VT} {r : List VT} (h : SlV w ok (.slice A n cap) (x :: r)) : n = r.length + 1 ∧ (r.length + 1 ≤ cap) ∧ cap ≤ maxLen ∧
    ∃ g off, A = some ⟨g, off, none⟩ ∧ ok g ∧ w.cell? ⟨g, off, none⟩ = some x.v0 ∧ w.cell? ⟨g, off + 1, none⟩ = some x.v1 ∧ w.cell? ⟨g, off + 2, none⟩ = some x.v2 ∧ w.cell? ⟨g, off + 3, none⟩ = some x.v3 ∧
      SlV w ok (.slice (if cap = 1 then some ⟨g, off, none⟩ else some ⟨g, off + 4, none⟩) r.length (cap - 1)) r := by
  obtain ⟨A', cap', e, h1, h2, h3⟩ := h
  cases e
  obtain ⟨g, off, ea, ho, hc⟩ := h3 (by simp)
  have h0 := hc 0 x rfl
  simp only [List.length_cons] at h1
  refine ⟨rfl, h1, h2, g, off, ea, ho, h0.1, h0.2.1, h0.2.2.1, h0.2.2.2, _, cap - 1, rfl, by omega, by omega, fun hp => ?_⟩
  rw [if_neg (by omega)]
  refine ⟨g, off + 4, rfl, ho, fun i y hy => ?_⟩
  have := hc (i + 1) y (by simpa using hy)
  rw [show off + 4 * (i + 1) = off + 4 + 4 * i by omega] at this
  exact this
theorem JIn.vt {w : World} {ok : Nat → Prop} {t : J} {v0 v1 v2 v3 : Value} (h : JIn w ok t v0 v1 v2 v3) : ∃ kids, VIn w ok (.mk t v0 v1 v2 v3 kids) := by
  have h' := h
  induction h with
  | mk k t l ks A A' cap cap' c hcap hcap' hL hK hE ih =>
    have hex : ∀ i, ∃ x : VT, ∀ h : i < l.length, VIn w ok x ∧ x.v0 = c i 0 ∧ x.v1 = c i 1 ∧ x.v2 = c i 2 ∧ x.v3 = c i 3 ∧ x.t = l[i] := by
      intro i
      by_cases hi : i < l.length
      · obtain ⟨kids, hv⟩ := ih i (l[i]) (List.getElem?_eq_getElem hi) (hE i (l[i]) (List.getElem?_eq_getElem hi))
        exact ⟨_, fun _ => ⟨hv, rfl, rfl, rfl, rfl, rfl⟩⟩
      · exact ⟨.mk (.mk 0 ByteArray.empty [] []) undef undef undef undef [], fun h => absurd h hi⟩
    obtain ⟨f, hf⟩ := Classical.axiomOfChoice hex
    have hlen : ((List.range l.length).map f).length = l.length := by simp
    refine ⟨(List.range l.length).map f, .mk _ _ _ _ _ _ ⟨A, cap, by rw [hlen], by rw [hlen]; exact hcap.1, hcap.2, fun hp => ?_⟩ h' ?_ (fun x hx => ?_)⟩
    · rw [hlen] at hp
      obtain ⟨g, off, e, ho, hc⟩ := hL hp
      refine ⟨g, off, e, ho, fun i x hx => ?_⟩
      have hi : i < l.length := by
        have := (List.getElem?_eq_some_iff.1 hx).1
        simpa using this
      have hxf : x = f i := by
        rw [List.getElem?_map, List.getElem?_range hi] at hx
        simpa using hx.symm
      subst hxf
      obtain ⟨_, e0, e1, e2, e3, _⟩ := hf i hi
      rw [e0, e1, e2, e3]
      have g0 := hc i 0 hi (by omega)
      have g1 := hc i 1 hi (by omega)
      have g2 := hc i 2 hi (by omega)
      have g3 := hc i 3 hi (by omega)
      exact ⟨by simpa using g0, by rw [Nat.add_assoc]; exact g1, by rw [Nat.add_assoc]; exact g2, by rw [Nat.add_assoc]; exact g3⟩
    · apply List.ext_getElem?
      intro i
      rw [List.getElem?_map, List.getElem?_map]
      by_cases hi : i < l.length
      · rw [List.getElem?_range hi]
        have := (hf i hi).2.2.2.2.2
        show some (VT.t (f i)) = l[i]?
        rw [this, List.getElem?_eq_getElem hi]
      · rw [List.getElem?_eq_none (by simpa using hi)]
        show none = l[i]?
        rw [List.getElem?_eq_none (by omega)]
    · obtain ⟨i, hi, rfl⟩ := List.mem_map.1 hx
      exact (hf i (List.mem_range.1 hi)).1
end Go.Proofs.YtfboecnhakihnaaGreatDoor.js
