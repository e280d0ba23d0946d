/-
  Plain: what is taken out of bytes, by a schema of arrays, longs and nulls.
-/
import Derived.Test.YtlkbcdbjmkfkkaaDoorFsm
import Derived.Test.YtlkbcdbjmkfkkaaDoorTrip
namespace Go.Proofs.YtlkbcdbjmkfkkaaDoor
open Go.RowKit

abbrev minI : Int := -9223372036854775808
abbrev maxI : Int := 9223372036854775807
/-- The next number. -/
def numberM (lo hi : Int) (xs : List Int) : Except Nat (Int × List Int) :=
  if (rNum xs 0).2.2 ≠ 0 then .error (rNum xs 0).2.2
  else if signedN (rNum xs 0).1 < lo ∨ hi < signedN (rNum xs 0).1 then .error 4
  else .ok (signedN (rNum xs 0).1, (rNum xs 0).2.1)
/-- How many the next block has, and how many bytes. -/
def headM (xs : List Int) : Except Nat (Int × Int × List Int) :=
  match numberM minI maxI xs with
  | .error f => .error f
  | .ok (n, ys) => if 0 ≤ n then .ok (n, -1, ys) else
    match numberM 0 maxI ys with
    | .error f => .error f
    | .ok (s, zs) => if n = minI then .error 4 else .ok (-n, s, zs)
/-- One thing behind the other. -/
def roundsM {σ : Type} (step : σ → Except Nat σ) : Nat → σ → Except Nat σ
  | 0, s => .ok s
  | k + 1, s => match step s with
    | .error f => .error f
    | .ok s' => roundsM step k s'
/-- What is left, how many values came, what the list is. -/
structure ItS where
  xs : List Int
  cnt : Nat
  L : List U
def blocksM (step : ItS → Except Nat ItS) : Nat → ItS → Except Nat ItS
  | 0, _ => .error 99
  | f + 1, s => match headM s.xs with
    | .error e => .error e
    | .ok (n, sz, ys) => if n = 0 then .ok { s with xs := ys } else
      match roundsM step n.toNat { s with xs := ys } with
      | .error e => .error e
      | .ok s' => if 0 ≤ sz ∧ sz ≠ (ys.length : Int) - s'.xs.length then .error 4 else blocksM step f s'
def stepM (v : List Int → Nat → Except Nat (U × List Int × Nat)) (s : ItS) : Except Nat ItS :=
  match v s.xs s.cnt with
  | .error f => .error f
  | .ok (z, ys, c) => .ok ⟨ys, c, s.L ++ [z]⟩
def valueM (S : List Nd) : Nat → Int → List Int → Nat → Except Nat (U × List Int × Nat)
  | 0, node, _, _ => if node < 0 then .error 9 else match S[node.toNat]? with
    | none => .error 9
    | some _ => .error 5
  | d + 1, node, xs, cnt => if node < 0 then .error 9 else match S[node.toNat]? with
    | none => .error 9
    | some nd => if 10000 ≤ cnt then .error 5 else
      if nd.kind = 11 then match blocksM (stepM (valueM S d nd.items)) (xs.length + 1) ⟨xs, cnt + 1, []⟩ with
        | .error f => .error f
        | .ok s => .ok (.mk 11 0 [] s.L [], s.xs, s.cnt)
      else if nd.kind = 4 then match numberM minI maxI xs with
        | .error f => .error f
        | .ok (n, ys) => .ok (.mk 4 n [] [] [], ys, cnt + 1)
      else .ok (.mk nd.kind 0 [] [] [], xs, cnt + 1)

theorem scan_some : ∀ (xs : List Int) (i acc : Nat), (scan i acc xs).2.2 = 0 → i < (scan i acc xs).2.1
  | [], i, acc, h => by simp [scan] at h
  | c :: r, i, acc, h => by
    rw [scan] at h ⊢
    split
    · rename_i h1; rw [if_pos h1] at h; simp at h
    · rename_i h1
      rw [if_neg h1] at h
      split
      · simp
      · rename_i h2
        rw [if_neg h2] at h
        have := scan_some r (i + 1) _ h
        omega
theorem numberM_len {lo hi : Int} {xs ys : List Int} {n : Int} (h : numberM lo hi xs = .ok (n, ys)) : ys.length < xs.length ∧ lo ≤ n ∧ n ≤ hi := by
  unfold numberM at h
  split at h
  · cases h
  · rename_i h0
    have h0 : (rNum xs 0).2.2 = 0 := by omega
    split at h
    · cases h
    · rename_i h1
      simp only [Except.ok.injEq, Prod.mk.injEq] at h
      obtain ⟨rfl, rfl⟩ := h
      refine ⟨?_, by omega, by omega⟩
      unfold rNum at h0 ⊢
      rw [if_neg (by omega)] at h0 ⊢
      simp only [List.length_drop] at h0 ⊢
      have h2 := scan_some xs 0 0 h0
      have h3 := scan_size xs 0 0
      omega
theorem numberM_err {lo hi : Int} {xs : List Int} {f : Nat} (h : numberM lo hi xs = .error f) : 0 < f ∧ f ≤ 4 := by
  unfold numberM at h
  split at h
  · rename_i h0
    cases h
    refine ⟨by omega, ?_⟩
    unfold rNum
    rw [if_neg (by omega)]
    exact scan_fault xs 0 0
  · split at h
    · cases h; omega
    · cases h
theorem headM_len {xs ys : List Int} {n s : Int} (h : headM xs = .ok (n, s, ys)) : ys.length < xs.length ∧ 0 ≤ n ∧ n ≤ maxI ∧ -1 ≤ s ∧ s ≤ maxI := by
  unfold headM at h
  split at h
  · cases h
  · rename_i a b h1
    have h2 := numberM_len h1
    split at h
    · simp only [Except.ok.injEq, Prod.mk.injEq] at h
      obtain ⟨rfl, rfl, rfl⟩ := h
      exact ⟨h2.1, by omega, h2.2.2, by omega, by unfold maxI; omega⟩
    · split at h
      · cases h
      · rename_i c d h3
        have h4 := numberM_len h3
        split at h
        · cases h
        · rename_i h5
          simp only [Except.ok.injEq, Prod.mk.injEq] at h
          obtain ⟨rfl, rfl, rfl⟩ := h
          unfold minI at *
          unfold maxI at *
          exact ⟨by omega, by omega, by omega, by omega, by omega⟩
theorem rounds_inv {σ : Type} {step : σ → Except Nat σ} {P : σ → Prop} (hs : ∀ s s', P s → step s = .ok s' → P s') : ∀ (k : Nat) (s s' : σ), P s → roundsM step k s = .ok s' → P s'
  | 0, s, s', hp, h => by rw [roundsM] at h; cases h; exact hp
  | k + 1, s, s', hp, h => by
    rw [roundsM] at h
    split at h
    · cases h
    · rename_i t ht
      exact rounds_inv hs k t s' (hs s t hp ht) h
theorem blocks_inv {step : ItS → Except Nat ItS} {P : ItS → Prop} (hs : ∀ s s', P s → step s = .ok s' → P s') (hx : ∀ s ys, P s → ys.length ≤ s.xs.length → P { s with xs := ys }) : ∀ (f : Nat) (s s' : ItS), P s → blocksM step f s = .ok s' → P s'
  | 0, s, s', hp, h => by rw [blocksM] at h; cases h
  | f + 1, s, s', hp, h => by
    rw [blocksM] at h
    split at h
    · cases h
    · rename_i n sz ys h1
      have h2 := headM_len h1
      split at h
      · cases h; exact hx s ys hp (by omega)
      · split at h
        · cases h
        · rename_i t ht
          split at h
          · cases h
          · exact blocks_inv hs hx f t s' (rounds_inv hs _ _ _ (hx s ys hp (by omega)) ht) h
/-- Bytes do not grow; there come at most so many values. -/
theorem valueM_len (S : List Nd) : ∀ (d : Nat) (node : Int) (xs ys : List Int) (cnt c : Nat) (z : U), valueM S d node xs cnt = .ok (z, ys, c) → ys.length ≤ xs.length ∧ c ≤ 10000 ∧ cnt < c
  | 0, node, xs, ys, cnt, c, z, h => by
    rw [valueM] at h
    split at h
    · cases h
    · split at h <;> cases h
  | d + 1, node, xs, ys, cnt, c, z, h => by
    rw [valueM] at h
    split at h
    · cases h
    · split at h
      · cases h
      · split at h
        · cases h
        · rename_i hc
          split at h
          · split at h
            · cases h
            · rename_i s hb
              simp only [Except.ok.injEq, Prod.mk.injEq] at h
              obtain ⟨_, rfl, rfl⟩ := h
              have := blocks_inv (P := fun t : ItS => t.xs.length ≤ xs.length ∧ t.cnt ≤ 10000 ∧ cnt < t.cnt) (fun t t' hp ht => by
                unfold stepM at ht
                split at ht
                · cases ht
                · rename_i z' ys' c' hv
                  cases ht
                  have := valueM_len S d _ _ _ _ _ _ hv
                  simp only
                  omega) (fun t ys hp hy => by simp only; omega) _ _ _ (by simp only; omega) hb
              exact this
          · split at h
            · split at h
              · cases h
              · rename_i n ys' hn
                simp only [Except.ok.injEq, Prod.mk.injEq] at h
                obtain ⟨_, rfl, rfl⟩ := h
                have := numberM_len hn
                omega
            · simp only [Except.ok.injEq, Prod.mk.injEq] at h
              obtain ⟨_, rfl, rfl⟩ := h
              omega
end Go.Proofs.YtlkbcdbjmkfkkaaDoor
