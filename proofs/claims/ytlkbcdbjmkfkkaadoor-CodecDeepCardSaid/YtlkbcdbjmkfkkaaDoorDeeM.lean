/-
  Plain: arrays within arrays.
-/
import Derived.Test.YtlkbcdbjmkfkkaaDoorNulM
namespace Go.Proofs.YtlkbcdbjmkfkkaaDoor
open Go.RowKit

abbrev SD : List Nd := [nd0 11 0]
theorem nds_one {w : World} {b : Nat} {k0 i0 : Int} (h0 : (Lit.int .i64 k0).wf = true) (h1 : (Lit.int .i64 i0).wf = true) (hb : w.heap[b]? = some (.cells (ndc k0 i0).toArray 29 (0, 0))) :
    NdsAt w (fun g => g = b) [nd0 k0 i0] (.slice (some ⟨b, 0, none⟩) 1 1) := by
  refine ⟨_, 1, fun i j => (ndc k0 i0).getD (10 * i + j) undef, rfl, Nat.le_refl _, by unfold maxLen; omega, fun _ => ⟨b, 0, rfl, rfl, fun i j hi hj => ?_⟩, fun i x hx => ?_⟩
  · rw [cell_of_row w b _ _ _ _ hb]
    have : 0 + (10 * i + j) < 10 := by simp at hi; omega
    simp only [List.getElem?_toArray, Nat.zero_add]
    rw [List.getD_eq_getElem?_getD, List.getElem?_eq_getElem (by simp; simp at hi; omega)]
    rfl
  · match i, hx with
    | 0, hx =>
      cases hx
      exact ndin0 h0 h1 (fun j hj => by
        match j, hj with
        | 0, _ => rfl
        | 1, _ => rfl
        | 2, _ => rfl
        | 3, _ => rfl
        | 4, _ => rfl
        | 5, _ => rfl
        | 6, _ => rfl
        | 7, _ => rfl
        | 8, _ => rfl
        | 9, _ => rfl)
/-- So many more arrays, each within the one ahead. -/
def zD : Nat → U
  | 0 => .mk 11 0 [] [] []
  | k + 1 => .mk 11 0 [] [zD k] []
def bytesD : Nat → List Int
  | 0 => [0]
  | k + 1 => [2] ++ bytesD k ++ [0]
theorem bytesD_len : ∀ k, (bytesD k).length = 2 * k + 1
  | 0 => rfl
  | k + 1 => by rw [bytesD]; simp [bytesD_len k]; omega
theorem bytesD_byte : ∀ k, ∀ x ∈ bytesD k, 0 ≤ x ∧ x < 256
  | 0, x, h => by simp [bytesD] at h; omega
  | k + 1, x, h => by
    simp only [bytesD, List.mem_append, List.mem_singleton] at h
    rcases h with (h | h) | h
    · omega
    · exact bytesD_byte k x h
    · omega
theorem zD_pcs : ∀ k, (pcs (zD k)).flatten = bytesD k
  | 0 => by simp [zD, pcs, pcsL, aheadM, bytesD]
  | k + 1 => by
    have e1 : zigN 1 = 2 := by decide
    have h := zD_pcs k
    simp [zD, pcs, pcsL, aheadM, e1, numL_lt, bytesD, h]
theorem zD_facts : ∀ k, k < 70 → kuB (zD k) = true ∧ fitsU aM0 SD 0 (zD k) = true ∧ maxD (pu 1 (zD k)) = k + 1 ∧ uc (zD k) = k + 1 := by
  have h : (List.range 70).all (fun k => kuB (zD k) && fitsU aM0 SD 0 (zD k) && (maxD (pu 1 (zD k)) == k + 1) && (uc (zD k) == k + 1)) = true := by decide +kernel
  intro k hk
  have := List.all_eq_true.1 h k (by simpa using hk)
  simp only [Bool.and_eq_true, beq_iff_eq] at this
  exact ⟨this.1.1.1, this.1.1.2, this.1.2, this.2⟩
theorem zD_un : ∀ k, un (zD k) ≤ 10 * k + 10
  | 0 => by simp [zD, un, unL]
  | k + 1 => by have := zD_un k; simp [zD, un, unL]; omega
theorem head_0 (rest : List Int) : headM (0 :: rest) = .ok (0, -1, rest) := by
  have h := head_num (n := 0) (by omega) rest
  rwa [show numL (zigN ((0 : Nat) : Int)) = [0] by rw [show zigN ((0 : Nat) : Int) = 0 by decide, numL_lt 0 (by omega)]; rfl] at h
theorem head_2 (rest : List Int) : headM (2 :: rest) = .ok (1, -1, rest) := by
  have h := head_num (n := 1) (by omega) rest
  rwa [show numL (zigN ((1 : Nat) : Int)) = [2] by rw [show zigN ((1 : Nat) : Int) = 2 by decide, numL_lt 2 (by omega)]; rfl] at h
theorem deep_val : ∀ (k d : Nat) (rest : List Int) (cnt : Nat), cnt + k < 10000 → valueM SD d 0 (bytesD k ++ rest) cnt = if k < d then .ok (zD k, rest, cnt + k + 1) else .error 5
  | k, 0, rest, cnt, hc => by
    rw [valueM, if_neg (by omega), if_neg (by omega)]
    rfl
  | 0, d + 1, rest, cnt, hc => by
    have hv := valueM_arr (S := SD) (d := d) (m := 0) (nd := nd0 11 0) (xs := bytesD 0 ++ rest) (cnt := cnt) rfl (by omega) rfl
    rw [if_pos (by omega)]
    refine Eq.trans hv ?_
    rw [bytesD, List.cons_append, List.nil_append, List.length_cons, blocksM, head_0]
    rfl
  | k + 1, d + 1, rest, cnt, hc => by
    have hv := valueM_arr (S := SD) (d := d) (m := 0) (nd := nd0 11 0) (xs := bytesD (k + 1) ++ rest) (cnt := cnt) rfl (by omega) rfl
    refine Eq.trans hv ?_
    rw [bytesD, List.append_assoc, List.append_assoc, List.cons_append, List.nil_append, List.length_cons, blocksM, head_2]
    have hd := deep_val k d ([0] ++ rest) (cnt + 1) (by omega)
    simp only
    rw [if_neg (by omega), show Int.toNat 1 = 0 + 1 by rfl, roundsM, stepM]
    simp only
    rw [show ((nd0 11 0).items) = 0 by rfl, hd]
    by_cases h : k < d
    · rw [if_pos h, if_pos (by omega)]
      simp only
      rw [roundsM]
      simp only
      rw [if_neg (by omega), blocksM, List.cons_append, List.nil_append, head_0]
      simp only
      rw [if_pos trivial]
      simp only [zD, List.nil_append]
      rw [show cnt + 1 + k + 1 = cnt + (k + 1) + 1 by omega]
    · rw [if_neg h, if_neg (by omega)]
theorem decode_deep (k : Nat) (hk : k < 70) : decodeM SD (bytesD k) = if k < 64 then .ok (zD k) else .error 5 := by
  have h := deep_val k 64 [] 0 (by omega)
  rw [List.append_nil] at h
  unfold decodeM
  rw [h]
  by_cases h64 : k < 64
  · rw [if_pos h64, if_pos h64]; rfl
  · rw [if_neg h64, if_neg h64]
end Go.Proofs.YtlkbcdbjmkfkkaaDoor
