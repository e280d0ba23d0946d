/-
  Plain facts: what is written is read, and what is read as a number, written again, is the same bytes.
-/
import Derived.Test.YtlkbcdbjmkfkkaaDoorRdr3
namespace Go.Proofs.YtlkbcdbjmkfkkaaDoor
open Go.RowKit

theorem scan_num : ∀ (k v : Nat), v ≤ k → ∀ (i acc : Nat) (rest : List Int), i ≤ 9 → v * 128 ^ i < 18446744073709551616 → (0 < i → 0 < v) →
    scan i acc (numL v ++ rest) = (acc + v * 128 ^ i, i + (numL v).length, 0)
  | k, v, hk, i, acc, rest, hi, hb, hp => by
    by_cases hv : v < 128
    · rw [numL_lt v hv, List.singleton_append, scan, if_neg, if_pos (by omega)]
      · simp
      · rintro (⟨rfl, h⟩ | ⟨h0, h⟩)
        · have : 2 * 128 ^ 9 ≤ v * 128 ^ 9 := Nat.mul_le_mul_right _ (by omega)
          omega
        · have := hp h0; omega
    · have hi9 : i ≠ 9 := by
        rintro rfl
        have : 128 * 128 ^ 9 ≤ v * 128 ^ 9 := Nat.mul_le_mul_right _ (by omega)
        omega
      rw [numL_ge v (by omega), List.cons_append, scan, if_neg (by omega), if_neg (by omega)]
      have e1 : v = v / 128 * 128 + v % 128 := by omega
      have e2 : v * 128 ^ i = v / 128 * 128 ^ (i + 1) + v % 128 * 128 ^ i := by
        conv => lhs; rw [e1]
        rw [Nat.add_mul, Nat.pow_succ, Nat.mul_assoc, Nat.mul_comm 128 (128 ^ i)]
      match k, hk with
      | 0, hk => omega
      | k + 1, hk =>
        rw [scan_num k (v / 128) (by omega) (i + 1) _ rest (by omega) (by omega) (fun _ => by omega)]
        have e3 : (((v % 128 + 128 : Nat) : Int).toNat - 128) = v % 128 := by omega
        rw [e3, List.length_cons, e2]
        simp only [Prod.mk.injEq]
        refine ⟨by omega, by omega, trivial⟩
theorem scan_num0 {v : Nat} (h : v < 18446744073709551616) (rest : List Int) : scan 0 0 (numL v ++ rest) = (v, (numL v).length, 0) := by
  have := scan_num v v (Nat.le_refl _) 0 0 rest (by omega) (by simpa using h) (by omega)
  simpa using this
theorem scan_back : ∀ (xs : List Int) (i acc r s : Nat), (∀ x ∈ xs, 0 ≤ x ∧ x < 256) → scan i acc xs = (r, s, 0) →
    ∃ v, r = acc + v * 128 ^ i ∧ i < s ∧ xs.take (s - i) = numL v ∧ (0 < i → 0 < v)
  | [], i, acc, r, s, _, h => by simp [scan] at h
  | c :: t, i, acc, r, s, hx, h => by
    have hc := hx c (by simp)
    rw [scan] at h
    split at h
    · simp at h
    · rename_i hn
      split at h
      · rename_i h8
        simp only [Prod.mk.injEq] at h
        obtain ⟨rfl, rfl, _⟩ := h
        refine ⟨c.toNat, rfl, by omega, ?_, fun h0 => ?_⟩
        · rw [show i + 1 - i = 1 by omega, numL_lt _ (by omega)]
          simp; omega
        · by_cases hz : c = 0
          · exact absurd (.inr ⟨h0, hz⟩) hn
          · omega
      · rename_i h8
        obtain ⟨v, h1, h2, h3, h4⟩ := scan_back t (i + 1) _ r s (fun x hx' => hx x (by simp [hx'])) h
        have h4 := h4 (by omega)
        refine ⟨c.toNat - 128 + 128 * v, ?_, by omega, ?_, fun _ => by omega⟩
        · rw [h1, Nat.pow_succ, Nat.add_mul]
          have : v * (128 ^ i * 128) = 128 * v * 128 ^ i := by rw [Nat.mul_comm (128 ^ i) 128, ← Nat.mul_assoc, Nat.mul_comm v 128]
          omega
        · rw [show s - i = (s - (i + 1)) + 1 by omega, List.take_succ_cons, h3, numL_ge (c.toNat - 128 + 128 * v) (by omega)]
          have e1 : (c.toNat - 128 + 128 * v) / 128 = v := by omega
          have e2 : (c.toNat - 128 + 128 * v) % 128 = c.toNat - 128 := by omega
          rw [e1, e2]
          congr 1
          omega
theorem scan_back0 {xs : List Int} (hx : ∀ x ∈ xs, 0 ≤ x ∧ x < 256) (h : (scan 0 0 xs).2.2 = 0) : xs.take (scan 0 0 xs).2.1 = numL (scan 0 0 xs).1 := by
  obtain ⟨v, h1, _, h3, _⟩ := scan_back xs 0 0 (scan 0 0 xs).1 (scan 0 0 xs).2.1 hx (Prod.ext rfl (Prod.ext rfl h))
  simp only [Nat.zero_add, Nat.pow_zero, Nat.mul_one, Nat.sub_zero] at h1 h3
  rw [h1]; exact h3
theorem zig_signed {u : Nat} : zigN (signedN u) = u := by
  unfold zigN signedN
  split <;> split <;> omega
theorem signed_zig {n : Int} : signedN (zigN n) = n := by
  unfold zigN signedN
  split <;> split <;> omega
theorem rNum_num {v : Nat} (h : v < 18446744073709551616) (rest : List Int) : rNum (numL v ++ rest) 0 = (v, rest, 0) := by
  unfold rNum
  rw [if_neg (by omega), scan_num0 h]
  simp
theorem rText_text {xs : List Int} (hl : xs.length ≤ 100000) (most : Int) (hm : (xs.length : Int) ≤ most) (rest : List Int) : rText most (textL xs ++ rest) 0 = (xs, rest, 0) := by
  have hz : zigN (xs.length : Int) < 18446744073709551616 := zigN_lt ⟨by omega, by omega⟩
  unfold rText textL
  rw [if_neg (by omega), List.append_assoc, rNum_num hz]
  simp only [signed_zig]
  have ht : tFault (xs.length : Int) most (xs ++ rest) 0 = 0 := by
    unfold tFault
    rw [if_neg (by omega), if_neg (by omega), if_neg, if_neg]
    · simp; omega
    · split <;> omega
  rw [ht, if_neg (by omega)]
  unfold rRaw
  rw [if_neg (by omega), if_neg (by simp)]
  simp
end Go.Proofs.YtlkbcdbjmkfkkaaDoor
