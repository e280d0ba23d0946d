/-
  Plain: an array of nulls, in blocks.
-/
import Derived.Test.YtlkbcdbjmkfkkaaDoorAwk
namespace Go.Proofs.YtlkbcdbjmkfkkaaDoor
open Go.RowKit

abbrev SN : List Nd := [nd0 11 1, nd0 1 0]
abbrev nullU : U := .mk 1 0 [] [] []
theorem null_val (d : Nat) (xs : List Int) (cnt : Nat) : valueM SN (d + 1) 1 xs cnt = if 10000 ≤ cnt then .error 5 else .ok (nullU, xs, cnt + 1) := by
  rw [valueM, if_neg (by omega)]
  have h : SN[Int.toNat 1]? = some (nd0 1 0) := rfl
  rw [h]
  simp only [nd0]
  rfl
theorem null_rounds (d : Nat) : ∀ (k : Nat) (xs : List Int) (cnt : Nat) (L : List U), cnt ≤ 10000 → roundsM (stepM (valueM SN (d + 1) 1)) k ⟨xs, cnt, L⟩ = if cnt + k ≤ 10000 then .ok ⟨xs, cnt + k, L ++ List.replicate k nullU⟩ else .error 5
  | 0, xs, cnt, L, h => by rw [roundsM, if_pos (by omega)]; simp
  | k + 1, xs, cnt, L, h => by
    rw [roundsM, stepM, null_val]
    by_cases hc : 10000 ≤ cnt
    · rw [if_pos hc, if_neg (by omega)]
    · rw [if_neg hc]
      simp only
      rw [null_rounds d k xs (cnt + 1) (L ++ [nullU]) (by omega), show cnt + 1 + k = cnt + (k + 1) by omega]
      by_cases hk : cnt + (k + 1) ≤ 10000
      · rw [if_pos hk, if_pos hk, List.append_assoc, List.replicate_succ]; rfl
      · rw [if_neg hk, if_neg hk]
theorem number_num {n : Nat} (hn : n < 1000000) (rest : List Int) : numberM minI maxI (numL (zigN n) ++ rest) = .ok ((n : Int), rest) := by
  have hz : zigN (n : Int) < 18446744073709551616 := zigN_lt ⟨by omega, by omega⟩
  unfold numberM
  rw [rNum_num hz]
  simp only [signed_zig]
  rw [if_neg (by omega), if_neg]
  unfold minI maxI; omega
theorem head_num {n : Nat} (hn : n < 1000000) (rest : List Int) : headM (numL (zigN n) ++ rest) = .ok ((n : Int), -1, rest) := by
  rw [headM, number_num hn]
  simp only
  rw [if_pos (by omega)]
/-- So many blocks, each of so many, and the end. -/
def blksL (N : Nat) : Nat → List Int
  | 0 => [0]
  | j + 1 => numL (zigN N) ++ blksL N j
theorem null_blocks (d N : Nat) (hN : N < 1000000) (h0 : 0 < N) : ∀ (j f : Nat) (cnt : Nat) (L : List U), cnt ≤ 10000 → j < f → blocksM (stepM (valueM SN (d + 1) 1)) f ⟨blksL N j, cnt, L⟩ = if cnt + j * N ≤ 10000 then .ok ⟨[], cnt + j * N, L ++ List.replicate (j * N) nullU⟩ else .error 5
  | 0, f + 1, cnt, L, hc, hf => by
    have h := head_num (n := 0) (by omega) []
    have e : numL (zigN ((0 : Nat) : Int)) ++ [] = [0] := by rw [show zigN ((0 : Nat) : Int) = 0 by decide, numL_lt 0 (by omega)]; rfl
    rw [e] at h
    rw [blocksM, blksL, h]
    simp only
    rw [if_pos (by rfl), if_pos (by omega)]
    simp
  | j + 1, f + 1, cnt, L, hc, hf => by
    rw [blocksM, blksL, head_num hN]
    simp only
    rw [if_neg (by omega), Int.toNat_natCast, null_rounds d N _ cnt L hc]
    have hm : (j + 1) * N = N + j * N := by rw [Nat.add_mul, Nat.one_mul, Nat.add_comm]
    by_cases h1 : cnt + N ≤ 10000
    · rw [if_pos h1]
      simp only
      rw [if_neg (by omega), null_blocks d N hN h0 j f (cnt + N) _ h1 (by omega), hm, show cnt + N + j * N = cnt + (N + j * N) by omega]
      by_cases h2 : cnt + (N + j * N) ≤ 10000
      · rw [if_pos h2, if_pos h2, List.append_assoc, List.replicate_append_replicate]
      · rw [if_neg h2, if_neg h2]
    · rw [if_neg h1, hm, if_neg (by omega)]
theorem blksL_len (N : Nat) : ∀ j, j < (blksL N j).length
  | 0 => by simp [blksL]
  | j + 1 => by have := blksL_len N j; have := numL_pos (zigN N); rw [blksL, List.length_append]; omega
/-- What 'Decode' is of an array of nulls. -/
theorem decode_nulls (N j : Nat) (hN : N < 1000000) (h0 : 0 < N) : decodeM SN (blksL N j) = if j * N < 10000 then .ok (.mk 11 0 [] (List.replicate (j * N) nullU) []) else .error 5 := by
  have hv : valueM SN 64 0 (blksL N j) 0 = match blocksM (stepM (valueM SN 63 1)) ((blksL N j).length + 1) ⟨blksL N j, 1, []⟩ with
        | .error f => .error f
        | .ok s => .ok (.mk 11 0 [] s.L [], s.xs, s.cnt) := valueM_arr (S := SN) (d := 63) (m := 0) (nd := nd0 11 1) rfl (by omega) rfl
  rw [null_blocks 62 N hN h0 j _ 1 [] (by omega) (by have := blksL_len N j; omega)] at hv
  unfold decodeM
  by_cases h : j * N < 10000
  · rw [if_pos (by omega)] at hv
    rw [hv, if_pos h]
    simp
  · rw [if_neg (by omega)] at hv
    rw [hv, if_neg h]
theorem decode_null0 : decodeM SN [0] = .ok (.mk 11 0 [] [] []) := by
  have hv : valueM SN 64 0 [0] 0 = match blocksM (stepM (valueM SN 63 1)) (([0] : List Int).length + 1) ⟨[0], 1, []⟩ with
        | .error f => .error f
        | .ok s => .ok (.mk 11 0 [] s.L [], s.xs, s.cnt) := valueM_arr (S := SN) (d := 63) (m := 0) (nd := nd0 11 1) rfl (by omega) rfl
  have hb := null_blocks 62 1 (by omega) (by omega) 0 2 1 [] (by omega) (by omega)
  rw [if_pos (by omega)] at hb
  rw [show ([0] : List Int).length + 1 = 2 by rfl, show ([0] : List Int) = blksL 1 0 by rfl, hb] at hv
  unfold decodeM
  rw [show ([0] : List Int) = blksL 1 0 by rfl, hv]
  simp
theorem blksL_bytes (N : Nat) : ∀ j, ∀ x ∈ blksL N j, 0 ≤ x ∧ x < 256
  | 0, x, h => by simp [blksL] at h; omega
  | j + 1, x, h => by
    rw [blksL, List.mem_append] at h
    rcases h with h | h
    · exact numL_byte _ _ (Nat.le_refl _) x h
    · exact blksL_bytes N j x h
end Go.Proofs.YtlkbcdbjmkfkkaaDoor
