/-
  Plain facts on the model: what is left is not longer; numbers as the program and as the document read them.
-/
import Derived.Test.YtcamaloekanelaaDoorNesto
namespace Go.Proofs.YtcamaloekanelaaDoor
open Go.RowKit

def Shorter (f : Bs → Res) : Prop := ∀ ys v zs, f ys = .ok (v, zs) → zs.length ≤ ys.length
theorem headM_len {obj : Bool} {ks ks' : List ByteArray} {xs ys : Bs} (h : headM obj ks xs = .ok (ks', ys)) : ys.length ≤ xs.length := by
  cases obj with
  | false => rw [headM_arr] at h; cases h; exact Nat.le_refl _
  | true =>
    cases hk : keyM ks xs with
    | error e => rw [headM_err hk] at h; cases h
    | ok kr =>
      obtain ⟨k, r⟩ := kr
      rw [headM_ok hk] at h
      cases h
      exact Nat.le_of_lt (keyM_len hk)
theorem loopM_len {sub : Bs → Res} (hs : Shorter sub) {obj : Bool} : ∀ (f : Nat) (ks : List ByteArray) (l : List J) (xs : Bs) (v : J) (zs : Bs), loopM sub obj f ks l xs = .ok (v, zs) → zs.length ≤ xs.length
  | 0, _, _, _, _, _, h => by cases h
  | f + 1, ks, l, xs, v, zs, h => by
    cases hh : headM obj ks xs with
    | error e => rw [loopM_head hh] at h; cases h
    | ok ky =>
      obtain ⟨ks', ys⟩ := ky
      have h1 := headM_len hh
      cases hv : sub ys with
      | error e => rw [loopM_err hh hv] at h; cases h
      | ok vz =>
        obtain ⟨u, z⟩ := vz
        have h2 := hs _ _ _ hv
        have h3 := white_le z
        cases hw : white z with
        | nil => rw [loopM_nil hh hv hw] at h; cases h
        | cons c q =>
          rw [hw] at h3
          simp only [List.length_cons] at h3
          rw [loopM_cons hh hv hw] at h
          split at h
          · have := loopM_len hs f _ _ _ _ _ h; omega
          · split at h
            · cases h; omega
            · cases h
theorem manyM_len {sub : Bs → Res} (hs : Shorter sub) {obj : Bool} {xs zs : Bs} {v : J} (h : manyM sub obj xs = .ok (v, zs)) : zs.length ≤ xs.length := by
  have h1 := white_le xs
  by_cases he : ∃ c t, white xs = c :: t ∧ c.toNat = finOf obj
  · obtain ⟨c, t, hw, hc⟩ := he
    rw [manyM_fin hw hc] at h
    rw [hw] at h1
    simp only [List.length_cons] at h1
    cases h; omega
  · rw [manyM_loop (fun c t hw hc => he ⟨c, t, hw, hc⟩)] at h
    have := loopM_len hs _ _ _ _ _ _ h
    omega
theorem numM_len {xs t r : Bs} (h : numM xs = some (t, r)) : r.length ≤ xs.length := by
  unfold numM at h
  split at h
  · cases h
  · cases h; simp
theorem plainM_len {xs zs : Bs} {v : J} (h : plainM xs = .ok (v, zs)) : zs.length ≤ xs.length := by
  unfold plainM at h
  split at h
  · cases h; simp
  · split at h
    · cases h; simp
    · split at h
      · cases h; simp
      · cases hn : numM xs with
        | none => rw [hn] at h; cases h
        | some tr =>
          obtain ⟨t, r⟩ := tr
          rw [hn] at h
          cases h
          exact numM_len hn
theorem valM_len {sub : Option (Bs → Res)} (hs : ∀ f, sub = some f → Shorter f) : Shorter (valM sub) := by
  intro xs v zs h
  unfold valM at h
  have h1 := white_le xs
  cases hw : white xs with
  | nil => rw [hw] at h; cases h
  | cons c r =>
    rw [hw] at h h1
    simp only [List.length_cons] at h1
    simp only at h
    split at h
    · cases sub with
      | none => cases h
      | some f => have := manyM_len (hs f rfl) h; omega
    · split at h
      · cases sub with
        | none => cases h
        | some f => have := manyM_len (hs f rfl) h; omega
      · split at h
        · cases hq : qstr r with
          | none => rw [hq] at h; cases h
          | some tr =>
            obtain ⟨t, r'⟩ := tr
            rw [hq] at h
            cases h
            have := qstr_len hq
            omega
        · have := plainM_len h
          simp only [List.length_cons] at this
          omega
theorem lev_len : ∀ n, Shorter (lev n)
  | 0 => valM_len (fun f h => by cases h)
  | n + 1 => valM_len (fun f h => by cases h; exact lev_len n)

-- numbers
theorem num_none {xs : Bs} (h : numN xs = 0) : numM xs = none := by
  unfold numN at h
  split at h
  · omega
  · split at h
    · rename_i h1; unfold numM; rw [if_pos (by omega)]
    · omega
theorem digs_head {xs : Bs} {c : UInt8} (h : xs.head? = some c) (hc : isDig c = true) : 1 ≤ digs xs := by
  cases xs with
  | nil => cases h
  | cons d r => cases h; rw [digs_yes hc]; omega
theorem digs_two {xs : Bs} (h : 1 < digs xs) : ∃ c r, xs.drop 1 = c :: r ∧ isDig c = true := by
  cases xs with
  | nil => simp [digs] at h
  | cons d r =>
    cases hd : isDig d with
    | false => rw [digs_no hd] at h; omega
    | true =>
      rw [digs_yes hd] at h
      cases r with
      | nil => simp [digs] at h
      | cons e t =>
        cases he : isDig e with
        | false => rw [digs_no he] at h; omega
        | true => exact ⟨e, t, rfl, he⟩
/-- Of a number that the program takes. -/
theorem num_some {xs : Bs} (h : 0 < numN xs) : numN xs ≤ xs.length ∧ (numM xs = some (numT (xs.take (numN xs)), xs.drop (numN xs)) ∨ (numM xs = none ∧ ∃ d r, xs.drop (numN xs) = d :: r ∧ isDig d = true)) := by
  have hl := (neg_le xs).2
  have hdl := digs_le (xs.drop (neg xs))
  rw [List.length_drop] at hdl
  by_cases h0 : (xs.drop (neg xs)).head? = some 48
  · have hn : numN xs = neg xs + 1 := numN_zero h0
    have h1 := digs_head h0 (by decide)
    rw [hn]
    refine ⟨by omega, ?_⟩
    by_cases h2 : 1 < digs (xs.drop (neg xs))
    · refine .inr ⟨by unfold numM; rw [if_pos (.inr (.inr ⟨h2, h0⟩))], ?_⟩
      obtain ⟨c, r, hc, hd⟩ := digs_two h2
      exact ⟨c, r, by rw [← List.drop_drop]; exact hc, hd⟩
    · have h3 : digs (xs.drop (neg xs)) = 1 := by omega
      refine .inl ?_
      unfold numM
      rw [if_neg (by omega), h3]
      rfl
  · have hd : 1 ≤ digs (xs.drop (neg xs)) ∧ digs (xs.drop (neg xs)) ≤ 19 := by
      unfold numN at h
      rw [if_neg h0] at h
      split at h <;> omega
    have hn : numN xs = neg xs + digs (xs.drop (neg xs)) := by unfold numN; rw [if_neg h0, if_neg (by omega)]
    rw [hn]
    refine ⟨by omega, .inl ?_⟩
    unfold numM
    rw [if_neg (by intro hc; rcases hc with hc | hc | ⟨_, hc⟩; omega; omega; exact h0 hc)]
    rfl
theorem num_word {xs : Bs} (h : 0 < numN xs) : wordNull.isPrefixOf xs = false ∧ wordFalse.isPrefixOf xs = false ∧ wordTrue.isPrefixOf xs = false := by
  cases xs with
  | nil => simp [numN, neg, digs] at h
  | cons c r =>
    have key : ∀ x : UInt8, x.toNat = 110 ∨ x.toNat = 102 ∨ x.toNat = 116 → c ≠ x := by
      intro x hx e
      subst e
      have hneg : neg (c :: r) = 0 := by
        unfold neg; rw [if_neg]; intro e; cases e; simp at hx
      unfold numN at h
      rw [hneg] at h
      simp only [List.drop_zero, List.head?_cons] at h
      have hc48 : some c ≠ some (48 : UInt8) := by intro e; cases e; simp at hx
      have hdg : isDig c = false := isDig_no (by omega)
      rw [if_neg hc48, digs_no hdg] at h
      simp at h
    have k1 := key 110 (by decide)
    have k2 := key 102 (by decide)
    have k3 := key 116 (by decide)
    simp [wordNull, wordFalse, wordTrue, List.isPrefixOf, Ne.symm k1, Ne.symm k2, Ne.symm k3]
/-- What the program's number or word comes to. -/
theorem plain_num {xs : Bs} (h : 0 < numN xs) : plainM xs = .ok (.mk 4 (str (numT (xs.take (numN xs)))) [] [], xs.drop (numN xs)) ∨ (plainM xs = .error 4 ∧ ∃ d r, xs.drop (numN xs) = d :: r ∧ isDig d = true) := by
  obtain ⟨w1, w2, w3⟩ := num_word h
  obtain ⟨_, h1 | ⟨h1, h2⟩⟩ := num_some h
  · left; simp [plainM, w1, w2, w3, h1]
  · right; exact ⟨by simp [plainM, w1, w2, w3, h1], h2⟩
theorem plain_word {xs : Bs} (h : numN xs = 0) : plainM xs = if wordNull.isPrefixOf xs then .ok (.mk 1 ByteArray.empty [] [], xs.drop 4) else if wordFalse.isPrefixOf xs then .ok (.mk 2 ByteArray.empty [] [], xs.drop 5)
    else if wordTrue.isPrefixOf xs then .ok (.mk 3 ByteArray.empty [] [], xs.drop 4) else .error 4 := by
  unfold plainM
  rw [num_none h]
end Go.Proofs.YtcamaloekanelaaDoor
