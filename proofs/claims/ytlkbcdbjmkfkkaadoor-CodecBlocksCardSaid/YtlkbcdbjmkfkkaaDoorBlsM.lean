/-
  Plain: an array of longs, in whatever blocks.
-/
import Derived.Test.YtlkbcdbjmkfkkaaDoorNulM
namespace Go.Proofs.YtlkbcdbjmkfkkaaDoor
open Go.RowKit

abbrev SL : List Nd := [nd0 11 1, nd0 4 0]
abbrev longU (x : Int) : U := .mk 4 x [] [] []
/-- The bytes of so many longs. -/
def itemsL : List Int → List Int
  | [] => []
  | x :: r => numL (zigN x) ++ itemsL r
theorem itemsL_app : ∀ a b, itemsL (a ++ b) = itemsL a ++ itemsL b
  | [], b => rfl
  | x :: r, b => by rw [List.cons_append, itemsL, itemsL, itemsL_app r b, List.append_assoc]
theorem itemsL_len : ∀ (a : List Int), (∀ x ∈ a, I64 x) → (itemsL a).length ≤ 10 * a.length
  | [], _ => by simp [itemsL]
  | x :: r, h => by
    have h1 := itemsL_len r (fun y hy => h y (List.mem_cons_of_mem _ hy))
    have h2 := numL_len10 (zigN x) (zigN_lt (h x (List.mem_cons_self ..)))
    rw [itemsL, List.length_append, List.length_cons]; omega
theorem itemsL_byte : ∀ (a : List Int), ∀ x ∈ itemsL a, 0 ≤ x ∧ x < 256
  | [], x, h => by simp [itemsL] at h
  | y :: r, x, h => by
    rw [itemsL, List.mem_append] at h
    rcases h with h | h
    · exact numL_byte _ _ (Nat.le_refl _) x h
    · exact itemsL_byte r x h
theorem number_int {x : Int} (hx : I64 x) (rest : List Int) : numberM minI maxI (numL (zigN x) ++ rest) = .ok (x, rest) := by
  have hz := zigN_lt hx
  unfold numberM
  rw [rNum_num hz]
  simp only [signed_zig]
  rw [if_neg (by omega), if_neg]
  obtain ⟨h1, h2⟩ := hx
  unfold minI maxI; omega
theorem number_size {n : Nat} (hn : n < 1000000) (rest : List Int) : numberM 0 maxI (numL (zigN n) ++ rest) = .ok ((n : Int), rest) := by
  have hz : zigN (n : Int) < 18446744073709551616 := zigN_lt ⟨by omega, by omega⟩
  unfold numberM
  rw [rNum_num hz]
  simp only [signed_zig]
  rw [if_neg (by omega), if_neg]
  unfold maxI; omega
theorem head_neg {n s : Nat} (hn : n < 1000000) (h0 : 0 < n) (hs : s < 1000000) (rest : List Int) : headM (numL (zigN (-(n : Int))) ++ (numL (zigN s) ++ rest)) = .ok ((n : Int), (s : Int), rest) := by
  rw [headM, number_int ⟨by omega, by omega⟩]
  simp only
  rw [if_neg (by omega), number_size hs]
  simp only
  rw [if_neg (by unfold minI; omega), Int.neg_neg]
theorem long_val (d : Nat) {x : Int} (hx : I64 x) (rest : List Int) (cnt : Nat) (hc : ¬ 10000 ≤ cnt) : valueM SL (d + 1) 1 (numL (zigN x) ++ rest) cnt = .ok (longU x, rest, cnt + 1) := by
  rw [valueM, if_neg (by omega)]
  have h : SL[Int.toNat 1]? = some (nd0 4 0) := rfl
  rw [h]
  simp only [nd0]
  rw [if_neg hc, if_neg (by omega), if_pos trivial, number_int hx]
theorem long_rounds (d : Nat) : ∀ (a : List Int) (rest : List Int) (cnt : Nat) (L : List U), (∀ x ∈ a, I64 x) → cnt + a.length ≤ 10000 → roundsM (stepM (valueM SL (d + 1) 1)) a.length ⟨itemsL a ++ rest, cnt, L⟩ = .ok ⟨rest, cnt + a.length, L ++ a.map longU⟩
  | [], rest, cnt, L, _, _ => by rw [List.length_nil, roundsM]; simp [itemsL]
  | x :: r, rest, cnt, L, hx, hc => by
    rw [List.length_cons] at hc ⊢
    rw [roundsM, stepM]
    simp only
    rw [itemsL, List.append_assoc, long_val d (hx x (List.mem_cons_self ..)) _ _ (by omega)]
    simp only
    rw [long_rounds d r rest (cnt + 1) _ (fun y hy => hx y (List.mem_cons_of_mem _ hy)) (by omega), show cnt + 1 + r.length = cnt + (r.length + 1) by omega]
    simp
/-- The bytes of a block: its numbers, and whether it tells its bytes (so many too many). -/
def enc1 (o : Nat) (p : List Int × Bool) : List Int :=
  (if p.2 then numL (zigN (-(p.1.length : Int))) ++ numL (zigN (((itemsL p.1).length + o : Nat) : Int)) else numL (zigN (p.1.length : Int))) ++ itemsL p.1
def encL (o : Nat) : List (List Int × Bool) → List Int
  | [] => []
  | p :: r => enc1 o p ++ encL o r
theorem encL_app (o : Nat) : ∀ a b, encL o (a ++ b) = encL o a ++ encL o b
  | [], b => rfl
  | x :: r, b => by rw [List.cons_append, encL, encL, encL_app o r b, List.append_assoc]
theorem encL_snoc (o : Nat) (a : List (List Int × Bool)) (p : List Int × Bool) : encL o (a ++ [p]) = encL o a ++ enc1 o p := by
  rw [encL_app]; simp [encL]
def allL : List (List Int × Bool) → List Int
  | [] => []
  | p :: r => p.1 ++ allL r
theorem allL_app : ∀ a b, allL (a ++ b) = allL a ++ allL b
  | [], b => rfl
  | x :: r, b => by rw [List.cons_append, allL, allL, allL_app r b, List.append_assoc]
theorem allL_snoc (a : List (List Int × Bool)) (p : List Int × Bool) : allL (a ++ [p]) = allL a ++ p.1 := by
  rw [allL_app]; simp [allL]
theorem enc1_len {o : Nat} (ho : o ≤ 1) {p : List Int × Bool} (hp : p.1 ≠ []) (hx : ∀ x ∈ p.1, I64 x) (hl : p.1.length ≤ 1000) : (enc1 o p).length ≤ 30 * p.1.length := by
  have h1 := itemsL_len p.1 hx
  have h2 := numL_len10 (zigN (p.1.length : Int)) (zigN_lt ⟨by omega, by omega⟩)
  have h3 := numL_len10 (zigN (-(p.1.length : Int))) (zigN_lt ⟨by omega, by omega⟩)
  have h4 := numL_len10 (zigN (((itemsL p.1).length + o : Nat) : Int)) (zigN_lt ⟨by omega, by omega⟩)
  have h5 : 0 < p.1.length := List.length_pos_iff.2 hp
  unfold enc1
  rw [List.length_append]
  split
  · rw [List.length_append]; omega
  · omega
theorem enc1_byte (o : Nat) (p : List Int × Bool) : ∀ x ∈ enc1 o p, 0 ≤ x ∧ x < 256 := by
  intro x h
  unfold enc1 at h
  rw [List.mem_append] at h
  rcases h with h | h
  · split at h
    · rw [List.mem_append] at h
      rcases h with h | h
      · exact numL_byte _ _ (Nat.le_refl _) x h
      · exact numL_byte _ _ (Nat.le_refl _) x h
    · exact numL_byte _ _ (Nat.le_refl _) x h
  · exact itemsL_byte _ x h
theorem encL_byte (o : Nat) : ∀ bs, ∀ x ∈ encL o bs, 0 ≤ x ∧ x < 256
  | [], x, h => by simp [encL] at h
  | p :: r, x, h => by
    rw [encL, List.mem_append] at h
    rcases h with h | h
    · exact enc1_byte o p x h
    · exact encL_byte o r x h
def GoodB (bs : List (List Int × Bool)) : Prop := ∀ p ∈ bs, p.1 ≠ [] ∧ p.1.length ≤ 1000 ∧ ∀ x ∈ p.1, I64 x
theorem encL_len {o : Nat} (ho : o ≤ 1) : ∀ bs, GoodB bs → (encL o bs).length ≤ 30 * (allL bs).length
  | [], _ => by simp [encL]
  | p :: r, h => by
    have h1 := encL_len ho r (fun q hq => h q (List.mem_cons_of_mem _ hq))
    obtain ⟨h2, h3, h4⟩ := h p (List.mem_cons_self ..)
    have h5 := enc1_len ho h2 h4 h3
    rw [encL, allL, List.length_append, List.length_append]; omega
theorem goodB_len : ∀ bs, GoodB bs → bs.length ≤ (allL bs).length
  | [], _ => by simp
  | p :: r, h => by
    have h1 := goodB_len r (fun q hq => h q (List.mem_cons_of_mem _ hq))
    have h2 : 0 < p.1.length := List.length_pos_iff.2 (h p (List.mem_cons_self ..)).1
    rw [allL, List.length_append, List.length_cons]; omega
theorem encL_lenB (o : Nat) : ∀ bs, bs.length ≤ (encL o bs).length
  | [] => by simp
  | p :: r => by
    have h1 := encL_lenB o r
    have h2 : 0 < (enc1 o p).length := by
      unfold enc1
      have := numL_pos (zigN (p.1.length : Int)); have := numL_pos (zigN (-(p.1.length : Int)))
      rw [List.length_append]
      split
      · rw [List.length_append]; omega
      · omega
    rw [encL, List.length_append, List.length_cons]; omega
theorem long_blocks (d o : Nat) (ho : o ≤ 1) : ∀ (bs : List (List Int × Bool)) (f cnt : Nat) (L : List U), GoodB bs → bs.length < f → cnt + (allL bs).length ≤ 10000 →
    blocksM (stepM (valueM SL (d + 1) 1)) f ⟨encL o bs ++ [0], cnt, L⟩ = if (o == 1 && bs.any (·.2)) = true then .error 4 else .ok ⟨[], cnt + (allL bs).length, L ++ (allL bs).map longU⟩
  | [], f + 1, cnt, L, _, _, _ => by
    have h := head_num (n := 0) (by omega) []
    have e : numL (zigN ((0 : Nat) : Int)) ++ [] = [0] := by rw [show zigN ((0 : Nat) : Int) = 0 by decide, numL_lt 0 (by omega)]; rfl
    rw [e] at h
    rw [blocksM, encL, List.nil_append, h]
    simp only
    rw [if_pos (by rfl), if_neg (by simp)]
    simp [allL]
  | p :: r, f + 1, cnt, L, hg, hf, hc => by
    obtain ⟨hp0, hp1, hp2⟩ := hg p (List.mem_cons_self ..)
    have hp3 : 0 < p.1.length := List.length_pos_iff.2 hp0
    have hil := itemsL_len p.1 hp2
    rw [allL, List.length_append] at hc
    rw [List.length_cons] at hf
    have hgr : GoodB r := fun q hq => hg q (List.mem_cons_of_mem _ hq)
    have hrec := long_blocks d o ho r f (cnt + p.1.length) (L ++ p.1.map longU) hgr (by omega) (by omega)
    have hro := long_rounds d p.1 (encL o r ++ [0]) cnt L hp2 (by omega)
    rw [blocksM, encL, enc1, List.any_cons]
    cases hs : p.2 with
    | false =>
      simp only [Bool.false_eq_true, if_false, Bool.false_or]
      rw [List.append_assoc, List.append_assoc, head_num (by omega)]
      simp only
      rw [if_neg (by omega), Int.toNat_natCast, hro]
      simp only
      rw [if_neg (by omega), hrec, show cnt + p.1.length + (allL r).length = cnt + (p.1.length + (allL r).length) by omega]
      simp [allL]
    | true =>
      simp only [if_true, Bool.true_or, Bool.and_true]
      rw [List.append_assoc, List.append_assoc, List.append_assoc, head_neg (by omega) hp3 (by omega)]
      simp only
      rw [if_neg (by omega), Int.toNat_natCast, hro]
      simp only [List.length_append]
      by_cases h1 : o = 1
      · subst h1
        rw [if_pos (by omega), if_pos (by rfl)]
      · obtain rfl : o = 0 := by omega
        rw [if_neg (by omega), hrec, show cnt + p.1.length + (allL r).length = cnt + (p.1.length + (allL r).length) by omega]
        simp [allL]
/-- What 'Decode' is of an array of longs in blocks. -/
theorem decode_longs (o : Nat) (ho : o ≤ 1) (bs : List (List Int × Bool)) (hg : GoodB bs) (hl : (allL bs).length ≤ 1000) :
    decodeM SL (encL o bs ++ [0]) = if (o == 1 && bs.any (·.2)) = true then .error 4 else .ok (.mk 11 0 [] ((allL bs).map longU) []) := by
  have hv : valueM SL 64 0 (encL o bs ++ [0]) 0 = match blocksM (stepM (valueM SL 63 1)) ((encL o bs ++ [0]).length + 1) ⟨encL o bs ++ [0], 1, []⟩ with
        | .error f => .error f
        | .ok s => .ok (.mk 11 0 [] s.L [], s.xs, s.cnt) := valueM_arr (S := SL) (d := 63) (m := 0) (nd := nd0 11 1) rfl (by omega) rfl
  rw [long_blocks 62 o ho bs _ 1 [] hg (by have := encL_lenB o bs; rw [List.length_append]; omega) (by omega)] at hv
  unfold decodeM
  by_cases h : (o == 1 && bs.any (·.2)) = true
  · rw [if_pos h] at hv
    rw [hv, if_pos h]
  · rw [if_neg h] at hv
    rw [hv, if_neg h]
    simp
end Go.Proofs.YtlkbcdbjmkfkkaaDoor
