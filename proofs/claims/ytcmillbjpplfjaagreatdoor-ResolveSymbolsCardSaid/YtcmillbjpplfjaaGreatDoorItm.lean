/-
  'items': the things of an array.
-/
import Derived.Test.YtcmillbjpplfjaaGreatDoorItt
namespace Go.Proofs.YtcmillbjpplfjaaGreatDoor
open Go.RowKit Go.Shelf

/-- A row of values that a call has gathered. -/
def URow (base : Nat) (L : List U) (A : Value) (w : World) : Prop :=
  ∃ (xb : List Value) (c : Nat → Nat → Value), w.ownsRow base 26 5 A L.length xb ∧ (∀ i j, i < L.length → j < 5 → xb[5 * i + j]? = some (c i j)) ∧
    ∀ (i : Nat) (z : U), L[i]? = some z → UIn w (fun b => base ≤ b ∧ A.ownBlock ≠ some b) z (c i 0) (c i 1) (c i 2) (c i 3) (c i 4)
theorem urow_nil (base : Nat) (w : World) : URow base [] (.slice none 0 0) w :=
  ⟨[], fun _ _ => undef, World.ownsRow_nil w base 26 5, fun i j h => by simp at h, fun i z h => by simp at h⟩
theorem urow_fr {base : Nat} {L : List U} {A : Value} {w w' : World} {ok : Nat → Prop} (h : URow base L A w) (hf : Fr w w' ok) (hk : ∀ k, base ≤ k → ok k) : URow base L A w' := by
  obtain ⟨xb, c, h1, h2, h3⟩ := h
  exact ⟨xb, c, ownsRow_fr h1 hf (fun g e => hk g (h1.lt g e).1), h2, fun i z hz => (h3 i z hz).fr hf (fun b hb => hk b hb.1)⟩
/-- One more. -/
theorem urow_more {base m : Nat} {L : List U} {A A' c0 c1 c2 c3 c4 : Value} {z : U} {w w' : World} (h : URow base L A w) (hf : Fr w w' (fun k => A.ownBlock ≠ some k ∧ base ≤ k ∧ k < m))
    (h1 : ∀ xb, w.ownsRow base 26 5 A L.length xb → w'.ownsRow base 26 5 A' (L.length + 1) (xb ++ [c0, c1, c2, c3, c4])) (hA : A'.ownBlock = A.ownBlock ∨ ∃ g, A'.ownBlock = some g ∧ m ≤ g)
    (hx : UIn w (fun b => base ≤ b ∧ A.ownBlock ≠ some b ∧ b < m) z c0 c1 c2 c3 c4) (hm : w.heap.size ≤ m) : URow base (L ++ [z]) A' w' := by
  obtain ⟨xb, c, r2, r6, r7⟩ := h
  have hl := r2.1
  have hnA : ∀ b, b < m → A.ownBlock ≠ some b → A'.ownBlock ≠ some b := fun b hb hne e => by
    rcases hA with h | ⟨g', h, hg⟩
    · exact hne (h ▸ e)
    · rw [h] at e; cases e; omega
  refine ⟨xb ++ [c0, c1, c2, c3, c4], fun i j => if i < L.length then c i j else [c0, c1, c2, c3, c4].getD j undef, by rw [List.length_append, List.length_singleton]; exact h1 xb r2, fun i j hi hj => ?_, fun i p hp => ?_⟩
  · rw [List.length_append, List.length_singleton] at hi
    by_cases hlt : i < L.length
    · rw [List.getElem?_append_left (by omega), r6 i j hlt hj]; simp only [if_pos hlt]
    · have : i = L.length := by omega
      subst this
      rw [List.getElem?_append_right (by omega), show 5 * L.length + j - xb.length = j by omega]
      simp only [if_neg (Nat.lt_irrefl _)]
      have : j = 0 ∨ j = 1 ∨ j = 2 ∨ j = 3 ∨ j = 4 := by omega
      rcases this with rfl | rfl | rfl | rfl | rfl <;> rfl
  · by_cases hlt : i < L.length
    · rw [List.getElem?_append_left hlt] at hp
      simp only [if_pos hlt]
      have h7 := (r7 i p hp).mono (ok' := fun b => base ≤ b ∧ A.ownBlock ≠ some b ∧ b < w.heap.size) (fun b hlt hb => ⟨hb.1, hb.2, hlt⟩)
      exact (h7.fr hf (fun b hb => ⟨hb.2.1, hb.1, by omega⟩)).mono (fun b _ hb => ⟨hb.1, hnA b (by omega) hb.2.1⟩)
    · have hi := (List.getElem?_eq_some_iff.1 hp).1
      rw [List.length_append, List.length_singleton] at hi
      have : i = L.length := by omega
      subst this
      rw [List.getElem?_append_right (Nat.le_refl _), Nat.sub_self] at hp
      cases hp
      simp only [if_neg (Nat.lt_irrefl _)]
      exact (hx.fr hf (fun b hb => ⟨hb.2.1, hb.1, hb.2.2⟩)).mono (fun b _ hb => ⟨hb.1, hnA b hb.2.2 hb.2.1⟩)

theorem urow_low {base base' : Nat} {L : List U} {A : Value} {w : World} (h : URow base L A w) (hb : base' ≤ base) : URow base' L A w := by
  obtain ⟨xb, c, h1, h2, h3⟩ := h
  refine ⟨xb, c, ⟨h1.1, ?_⟩, h2, fun i z hz => (h3 i z hz).mono (fun b _ hb' => ⟨by omega, hb'.2⟩)⟩
  rcases h1.2 with h | ⟨g, cap, cur, e, hg, hr⟩
  · exact .inl h
  · exact .inr ⟨g, cap, cur, e, by omega, hr⟩

end Go.Proofs.YtcmillbjpplfjaaGreatDoor
