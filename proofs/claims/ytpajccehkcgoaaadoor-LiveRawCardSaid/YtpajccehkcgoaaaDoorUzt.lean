/-
  A value with the cells of all within it, in the order in which they are told; the iterator over it.
-/
import Derived.Test.YtpajccehkcgoaaaDoorUaa
import Derived.Sort.LoopGhostIn
namespace Go.Proofs.YtpajccehkcgoaaaDoor
open Go.RowKit Go.Shelf
attribute [local go_sem] Oper.semAt_some

theorem Tryd.info36 : (Tryd.prog.info? 36).map (fun i => (i.zero, i.size, i.bytes)) = some (some (.slice none 0 0), 1, 24) := by kernel_rfl
theorem UIn.forms {w : World} {ok : Nat → Prop} {t : U} {v0 v1 v2 v3 v4 : Value} (h : UIn w ok t v0 v1 v2 v3 v4) : ∃ (k m : Int) (B A A' : Option Addr) (n0 cap0 n cap n' cap' : Nat), v0 = .int .i64 k ∧ v1 = .int .i64 m ∧ v2 = .slice B n0 cap0 ∧ v3 = .slice A n cap ∧ v4 = .slice A' n' cap' := by
  cases h; exact ⟨_, _, _, _, _, _, _, _, _, _, _, rfl, rfl, rfl, rfl, rfl⟩
inductive UT where
  | mk (t : U) (v0 v1 v2 v3 v4 : Value) (kids : List UT)
def UT.t : UT → U | .mk t _ _ _ _ _ _ => t
def UT.v0 : UT → Value | .mk _ a _ _ _ _ _ => a
def UT.v1 : UT → Value | .mk _ _ a _ _ _ _ => a
def UT.v2 : UT → Value | .mk _ _ _ a _ _ _ => a
def UT.v3 : UT → Value | .mk _ _ _ _ a _ _ => a
def UT.v4 : UT → Value | .mk _ _ _ _ _ a _ => a
def UT.kids : UT → List UT | .mk _ _ _ _ _ _ k => k
abbrev UT.val (x : UT) : Value := .agg #[x.v0, x.v1, x.v2, x.v3, x.v4]
mutual
def upre : Nat → UT → List (Nat × UT)
  | d, .mk t a b c e f ks => (d, .mk t a b c e f ks) :: upreL (d + 1) ks
def upreL : Nat → List UT → List (Nat × UT)
  | _, [] => []
  | d, x :: r => upre d x ++ upreL d r
end
theorem upre_eq (d : Nat) (x : UT) : upre d x = (d, x) :: upreL (d + 1) x.kids := by cases x; rw [upre]; rfl
/-- What is still to come, of the lists on the way (the innermost first). -/
def urem : List (List UT) → List (Nat × UT)
  | [] => []
  | r :: s => upreL (s.length + 1) r ++ urem s
theorem urem_nil (s : List (List UT)) : urem ([] :: s) = urem s := by rw [urem, upreL]; rfl
theorem urem_cons (x : UT) (r : List UT) (s : List (List UT)) : urem ((x :: r) :: s) = (s.length + 1, x) :: urem (x.kids :: r :: s) := by
  rw [urem, upreL, upre_eq, urem, urem]
  simp

def U.l : U → List U | .mk _ _ _ l _ => l
/-- A slice of values in memory. -/
def USlV (w : World) (ok : Nat → Prop) (v : Value) (xs : List UT) : Prop :=
  ∃ A cap, v = .slice A xs.length cap ∧ xs.length ≤ cap ∧ cap ≤ maxLen ∧
    (0 < xs.length → ∃ g off, A = some ⟨g, off, none⟩ ∧ ok g ∧ ∀ i x, xs[i]? = some x → w.cell? ⟨g, off + 5 * i, none⟩ = some x.v0 ∧ w.cell? ⟨g, off + 5 * i + 1, none⟩ = some x.v1 ∧ w.cell? ⟨g, off + 5 * i + 2, none⟩ = some x.v2 ∧ w.cell? ⟨g, off + 5 * i + 3, none⟩ = some x.v3 ∧ w.cell? ⟨g, off + 5 * i + 4, none⟩ = some x.v4)
inductive UVIn (w : World) (ok : Nat → Prop) : UT → Prop
  | mk (t : U) (v0 v1 v2 v3 v4 : Value) (kids : List UT) (hs : USlV w ok v3 kids) (hj : UIn w ok t v0 v1 v2 v3 v4) (ht : kids.map UT.t = t.l) (hk : ∀ x, x ∈ kids → UVIn w ok x) : UVIn w ok (.mk t v0 v1 v2 v3 v4 kids)
theorem UVIn.sl {w : World} {ok : Nat → Prop} {x : UT} (h : UVIn w ok x) : USlV w ok x.v3 x.kids := by cases h; assumption
theorem UVIn.jin {w : World} {ok : Nat → Prop} {x : UT} (h : UVIn w ok x) : UIn w ok x.t x.v0 x.v1 x.v2 x.v3 x.v4 := by cases h; assumption
theorem UVIn.ts {w : World} {ok : Nat → Prop} {x : UT} (h : UVIn w ok x) : x.kids.map UT.t = x.t.l := by cases h; assumption
theorem UVIn.kid {w : World} {ok : Nat → Prop} {x : UT} (h : UVIn w ok x) : ∀ y, y ∈ x.kids → UVIn w ok y := by cases h; assumption
theorem USlV.fr {w w' : World} {ok ok' : Nat → Prop} (hf : Fr w w' ok') (hk : ∀ b, ok b → ok' b) {v : Value} {xs : List UT} (h : USlV w ok v xs) : USlV w' ok v xs := by
  obtain ⟨A, cap, e, h1, h2, h3⟩ := h
  refine ⟨A, cap, e, h1, h2, fun hp => ?_⟩
  obtain ⟨g, off, ea, ho, hc⟩ := h3 hp
  exact ⟨g, off, ea, ho, fun i x hx => by
    obtain ⟨a, b, c, d, f⟩ := hc i x hx
    exact ⟨hf.cell a (hk g ho), hf.cell b (hk g ho), hf.cell c (hk g ho), hf.cell d (hk g ho), hf.cell f (hk g ho)⟩⟩
theorem UVIn.fr {w w' : World} {ok ok' : Nat → Prop} (hf : Fr w w' ok') (hk : ∀ b, ok b → ok' b) {x : UT} (h : UVIn w ok x) : UVIn w' ok x := by
  induction h with
  | mk t v0 v1 v2 v3 v4 kids hs hj ht _ ih => exact .mk t v0 v1 v2 v3 v4 kids (hs.fr hf hk) (hj.fr hf hk) ht ih
theorem USlV.tail {w : World} {ok : Nat → Prop} {A : Option Addr} {n cap : Nat} {x : UT} {r : List UT} (h : USlV w ok (.slice A n cap) (x :: r)) : n = r.length + 1 ∧ (r.length + 1 ≤ cap) ∧ cap ≤ maxLen ∧
    ∃ g off, A = some ⟨g, off, none⟩ ∧ ok g ∧ w.cell? ⟨g, off, none⟩ = some x.v0 ∧ w.cell? ⟨g, off + 1, none⟩ = some x.v1 ∧ w.cell? ⟨g, off + 2, none⟩ = some x.v2 ∧ w.cell? ⟨g, off + 3, none⟩ = some x.v3 ∧ w.cell? ⟨g, off + 4, none⟩ = some x.v4 ∧
      USlV w ok (.slice (if cap = 1 then some ⟨g, off, none⟩ else some ⟨g, off + 5, none⟩) r.length (cap - 1)) r := by
  obtain ⟨A', cap', e, h1, h2, h3⟩ := h
  cases e
  obtain ⟨g, off, ea, ho, hc⟩ := h3 (by simp)
  have h0 := hc 0 x rfl
  simp only [List.length_cons] at h1
  refine ⟨rfl, h1, h2, g, off, ea, ho, h0.1, h0.2.1, h0.2.2.1, h0.2.2.2.1, h0.2.2.2.2, _, cap - 1, rfl, by omega, by omega, fun hp => ?_⟩
  rw [if_neg (by omega)]
  refine ⟨g, off + 5, rfl, ho, fun i y hy => ?_⟩
  have := hc (i + 1) y (by simpa using hy)
  rw [show off + 5 * (i + 1) = off + 5 + 5 * i by omega] at this
  exact this
theorem UIn.vt {w : World} {ok : Nat → Prop} {t : U} {v0 v1 v2 v3 v4 : Value} (h : UIn w ok t v0 v1 v2 v3 v4) : ∃ kids, UVIn w ok (.mk t v0 v1 v2 v3 v4 kids) := by
  have h' := h
  induction h with
  | mk k n b l ks B A A' capb cap cap' c _ _ _ _ hcapb hcap hcap' hB hL hK hE ih =>
    have hex : ∀ i, ∃ x : UT, ∀ h : i < l.length, UVIn w ok x ∧ x.v0 = c i 0 ∧ x.v1 = c i 1 ∧ x.v2 = c i 2 ∧ x.v3 = c i 3 ∧ x.v4 = c i 4 ∧ x.t = l[i] := by
      intro i
      by_cases hi : i < l.length
      · obtain ⟨kids, hv⟩ := ih i (l[i]) (List.getElem?_eq_getElem hi) (hE i (l[i]) (List.getElem?_eq_getElem hi))
        exact ⟨_, fun _ => ⟨hv, rfl, rfl, rfl, rfl, rfl, rfl⟩⟩
      · exact ⟨.mk (.mk 0 0 [] [] []) undef undef undef undef undef [], fun h => absurd h hi⟩
    obtain ⟨f, hf⟩ := Classical.axiomOfChoice hex
    have hlen : ((List.range l.length).map f).length = l.length := by simp
    refine ⟨(List.range l.length).map f, .mk _ _ _ _ _ _ _ ⟨A, cap, by rw [hlen], by rw [hlen]; exact hcap.1, hcap.2, fun hp => ?_⟩ h' ?_ (fun x hx => ?_)⟩
    · rw [hlen] at hp
      obtain ⟨g, off, e, ho, hc⟩ := hL hp
      refine ⟨g, off, e, ho, fun i x hx => ?_⟩
      have hi : i < l.length := by
        have := (List.getElem?_eq_some_iff.1 hx).1
        simpa using this
      have hxf : x = f i := by
        rw [List.getElem?_map, List.getElem?_range hi] at hx
        simpa using hx.symm
      subst hxf
      obtain ⟨_, e0, e1, e2, e3, e4, _⟩ := hf i hi
      rw [e0, e1, e2, e3, e4]
      have g0 := hc i 0 hi (by omega)
      have g1 := hc i 1 hi (by omega)
      have g2 := hc i 2 hi (by omega)
      have g3 := hc i 3 hi (by omega)
      have g4 := hc i 4 hi (by omega)
      exact ⟨by simpa using g0, by rw [Nat.add_assoc]; exact g1, by rw [Nat.add_assoc]; exact g2, by rw [Nat.add_assoc]; exact g3, by rw [Nat.add_assoc]; exact g4⟩
    · apply List.ext_getElem?
      intro i
      rw [List.getElem?_map, List.getElem?_map]
      by_cases hi : i < l.length
      · rw [List.getElem?_range hi]
        have := (hf i hi).2.2.2.2.2.2
        show some (UT.t (f i)) = l[i]?
        rw [this, List.getElem?_eq_getElem hi]
      · rw [List.getElem?_eq_none (by simpa using hi)]
        show none = l[i]?
        rw [List.getElem?_eq_none (by omega)]
    · obtain ⟨i, hi, rfl⟩ := List.mem_map.1 hx
      exact (hf i (List.mem_range.1 hi)).1

def uencN (x : Nat × UT) : Array Value := #[.int .i64 x.1, x.2.val]
/-- The lists on the way, as slices. -/
def UStk (w : World) (ok : Nat → Prop) : List Value → List (List UT) → Prop
  | [], [] => True
  | v :: vs, r :: s => USlV w ok v r ∧ (∀ x, x ∈ r → UVIn w ok x) ∧ UStk w ok vs s
  | _, _ => False
theorem UVIn.mono {w : World} {ok ok' : Nat → Prop} {x : UT} (h : UVIn w ok x) (hk : ∀ b, ok b → ok' b) : UVIn w ok' x := by
  induction h with
  | mk t v0 v1 v2 v3 v4 kids hs hj ht _ ih =>
    refine .mk t v0 v1 v2 v3 v4 kids ?_ (hj.mono (fun b _ => hk b)) ht ih
    obtain ⟨A, cap, e, h1, h2, h3⟩ := hs
    exact ⟨A, cap, e, h1, h2, fun hp => by obtain ⟨g, off, ea, ho, hc⟩ := h3 hp; exact ⟨g, off, ea, hk g ho, hc⟩⟩
theorem UStk.fr {w w' : World} {ok ok' : Nat → Prop} (hf : Fr w w' ok') (hk : ∀ b, ok b → ok' b) : ∀ {vs : List Value} {s : List (List UT)}, UStk w ok vs s → UStk w' ok vs s
  | [], [], _ => trivial
  | _ :: _, _ :: _, ⟨h1, h2, h3⟩ => ⟨h1.fr hf hk, fun x hx => (h2 x hx).fr hf hk, h3.fr hf hk⟩
theorem UStk.len {w : World} {ok : Nat → Prop} : ∀ {vs : List Value} {s : List (List UT)}, UStk w ok vs s → vs.length = s.length
  | [], [], _ => rfl
  | _ :: _, _ :: _, ⟨_, _, h3⟩ => by simp [h3.len]
end Go.Proofs.YtpajccehkcgoaaaDoor
