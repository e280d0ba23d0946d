/-
  'strconv.ParseUint' at base 16 and four bytes; the parser's 'unit'.
-/
import Derived.Test.YtfboecnhakihnaaGreatDoorJNum
import Derived.Lib.Walk
import Derived.Lib.ConvBytes
import Derived.Lib.SmallJoins
import Derived.Laws.Strings3
import Derived.Laws.Closers25
import Derived.Laws.Closers25b
import Derived.BigCall
import Derived.BigGuard
namespace Go.Proofs.YtfboecnhakihnaaGreatDoor.js
open Go.RowKit

/-- Digits of 16, one behind the other. -/
def hexAll : Nat → Bs → Option Nat
  | acc, [] => some acc
  | acc, c :: r => match hexD c with
    | none => none
    | some d => hexAll (acc * 16 + d) r
theorem hexD_lt {c : UInt8} {d : Nat} (h : hexD c = some d) : d < 16 := by
  unfold hexD at h
  repeat' split at h
  all_goals first | (cases h; omega) | cases h
theorem hexAll_none {c : UInt8} {r : Bs} {acc : Nat} (h : hexD c = none) : hexAll acc (c :: r) = none := by rw [hexAll, h]
theorem hexAll_some {c : UInt8} {r : Bs} {acc d : Nat} (h : hexD c = some d) : hexAll acc (c :: r) = hexAll (acc * 16 + d) r := by rw [hexAll, h]
/-- What 'lower' makes of a byte that is no digit. -/
theorem low_all : (List.range 256).all (fun n => (decide (48 ≤ n ∧ n ≤ 57)) || ((!(decide (97 ≤ n ∧ n ≤ 102)) || decide (n ||| 32 = n)) && (!(decide (65 ≤ n ∧ n ≤ 70)) || decide (n ||| 32 = n + 32)) && (decide (97 ≤ n ∧ n ≤ 102) || decide (65 ≤ n ∧ n ≤ 70) || decide (n ||| 32 < 97 ∨ 102 < n ||| 32)) && decide (n ||| 32 < 256))) = true := by decide +kernel
theorem low_facts (n : Nat) (hn : n < 256) (hd : ¬ (48 ≤ n ∧ n ≤ 57)) : ((97 ≤ n ∧ n ≤ 102) → n ||| 32 = n) ∧ ((65 ≤ n ∧ n ≤ 70) → n ||| 32 = n + 32) ∧ (¬ (97 ≤ n ∧ n ≤ 102) → ¬ (65 ≤ n ∧ n ≤ 70) → n ||| 32 < 97 ∨ 102 < n ||| 32) ∧ n ||| 32 < 256 := by
  have h := List.all_eq_true.1 low_all n (List.mem_range.2 hn)
  rw [decide_eq_false hd, Bool.false_or, Bool.and_eq_true, Bool.and_eq_true, Bool.and_eq_true] at h
  obtain ⟨⟨⟨h1, h2⟩, h3⟩, h4⟩ := h
  refine ⟨fun h => ?_, fun h => ?_, fun ha hb => ?_, of_decide_eq_true h4⟩
  · rw [decide_eq_true h] at h1; exact of_decide_eq_true h1
  · rw [decide_eq_true h] at h2; exact of_decide_eq_true h2
  · rw [decide_eq_false ha, decide_eq_false hb] at h3; exact of_decide_eq_true h3
theorem low_hex {c : UInt8} (hd : ¬ (48 ≤ c.toNat ∧ c.toNat ≤ 57)) : c.toNat ||| 32 < 256 ∧ (∀ d, hexD c = some d → c.toNat ||| 32 = d + 87 ∧ 10 ≤ d ∧ d < 16) ∧ (hexD c = none → c.toNat ||| 32 < 97 ∨ 102 < c.toNat ||| 32) := by
  obtain ⟨h1, h2, h3, h4⟩ := low_facts c.toNat c.toNat_lt hd
  refine ⟨h4, fun d h => ?_, fun h => ?_⟩
  · unfold hexD at h
    rw [if_neg hd] at h
    split at h
    · rename_i hl; cases h; rw [h1 hl]; omega
    · split at h
      · rename_i hl; cases h; rw [h2 hl]; omega
      · cases h
  · unfold hexD at h
    rw [if_neg hd] at h
    split at h
    · cases h
    · split at h
      · cases h
      · rename_i a b; exact h3 a b
theorem lower_any (c : UInt8) (w : World) : Calls Tryz.prog 148 #[.int .u8 c.toNat] w fun e w' => e = .returned (.int .u8 ((c.toNat ||| 32 : Nat) : Int)) ∧ w = w' := by
  refine (Tryz.internal_strconv_lower c.toNat w).mono ?_
  rintro e w' ⟨rfl, rfl⟩
  have := u8_or_nat c.toNat 32 c.toNat_lt (by omega)
  exact ⟨ret_int this, rfl⟩

theorem lower_95 (w : World) : Calls Tryz.prog 148 #[.int .u8 95] w fun e w' => e = .returned (.int .u8 127) ∧ w = w' := lower_any 95 w
def hexTuple : Option Nat → Value
  | none => .tuple #[.int .u64 0, .iface 198 (.int .i64 2)]
  | some n => .tuple #[.int .u64 n, .nilIface]

set_option maxHeartbeats 4000000 in
set_option maxRecDepth 100000 in
theorem puint (t : ByteArray) (w : World) (hs : t.size = 4) :
    Calls Tryz.prog 132 #[.string t, .int .i64 16, .int .i64 16] w fun e w' => e = .returned (hexTuple (hexAll 0 t.data.toList)) ∧ w' = Lib.bytesWorld w 5 t := by
  have hemp : t.toList.isEmpty = false := by
    rw [← decide_eq_emptyBytes]
    exact decide_eq_false (fun h => by rw [h] at hs; cases hs)
  have hcv := Lib.run_convert_string_bytes (P := Tryz.prog) w 9 25 5 t (u := .string) Tryz.underlying9 Tryz.underlying25 Tryz.underlying5
  have hB : ∀ j, j < t.size → (Lib.bytesWorld w 5 t).cell? ⟨w.heap.size, j, none⟩ = some (.int .u8 (t.data.toList.getD j 0).toNat) := fun j hj => Lib.bytesWorld_cell w 5 t j hj
  obtain ⟨W1, hW1⟩ : ∃ W1, W1 = Lib.bytesWorld w 5 t := ⟨_, rfl⟩
  rw [← hW1] at hcv hB ⊢
  clear hW1
  have hLn := size_len t
  generalize t.data.toList = bs at *
  have hmv : IntKind.u64.wrap (IntKind.u64.wrap 65536 - 1) = 65535 := by
    rw [IntKind.wrap_u64, IntKind.wrap_u64]
    decide
  rw [hs] at hB hLn
  have HS := Lib.hid hs
  clear hs
  have hs4 : t.size ≤ 4 := by rw [HS.out]; exact Nat.le_refl _
  have hs5 : 4 ≤ t.size := by rw [HS.out]; exact Nat.le_refl _
  go_enter Tryz.func132, Tryz.ntmps132
  go_wp2
  go_loop [12, 13, 101] (fun vu vn vi => ∃ (k acc : Nat) (a : Int), vu = .bool false ∧ vn = .int .u64 a ∧ vi = .int .i64 k ∧ k ≤ 4 ∧ Hid (a = (acc : Int) ∧ acc < 16 ^ k ∧ hexAll 0 bs = hexAll acc (bs.drop k)))
    (fun _ _ vi => 4 - (intOf vi).toNat)
  case atStart => exact ⟨0, 0, 0, rfl, rfl, rfl, by omega, rfl, by omega, rfl⟩
  case round =>
    obtain ⟨k, acc, a, rfl, rfl, rfl, hk, hh⟩ := hrel
    obtain ⟨ha, hacc, hdec⟩ := hh.out
    clear hh
    by_cases hkn : k < 4
    · have hc := hB k hkn
      have hdrop : bs.drop k = bs[k]'(by omega) :: bs.drop (k + 1) := List.drop_eq_getElem_cons (by omega)
      have hget : bs.getD k 0 = bs[k]'(by omega) := by simp [List.getD, List.getElem?_eq_getElem (show k < bs.length by omega)]
      rw [hdrop] at hdec
      rw [hget] at hc
      generalize bs[k]'(by omega) = c at hc hdec
      have hc256 : c.toNat < 256 := c.toNat_lt
      clear hB hdrop hget
      have hpk : 16 ^ k ≤ 4096 := Nat.le_trans (Nat.pow_le_pow_right (by omega) (show k ≤ 3 by omega)) (by decide)
      have hpk1 : 16 ^ (k + 1) = 16 ^ k * 16 := Nat.pow_succ _ _
      have a0 : 0 ≤ a := by omega
      have a1 : a ≤ 4095 := by omega
      by_cases hdig : 48 ≤ c.toNat ∧ c.toNat ≤ 57
      · obtain ⟨hd0, hd1⟩ := hdig
        have hF := hexAll_some (r := bs.drop (k + 1)) (acc := acc) (show hexD c = some (c.toNat - 48) by unfold hexD; rw [if_pos ⟨hd0, hd1⟩])
        have HN : Hid (a * 16 + ((c.toNat : Int) - 48) = ((acc * 16 + (c.toNat - 48) : Nat) : Int) ∧ acc * 16 + (c.toNat - 48) < 16 ^ (k + 1) ∧ hexAll 0 bs = hexAll (acc * 16 + (c.toNat - 48)) (bs.drop (k + 1))) := Lib.hid ⟨by omega, by omega, hdec.trans hF⟩
        clear hacc hF hdec ha hpk hpk1 hLn
        go_wp2
        refine ⟨⟨k + 1, acc * 16 + (c.toNat - 48), a * 16 + ((c.toNat : Int) - 48), rfl, (by first | rfl | (congr 1; omega)), (by first | rfl | (congr 1; omega)), by omega, HN⟩, by simp [intOf]; omega⟩
      · obtain ⟨hl0, hl1, hl2⟩ := low_hex hdig
        have hlow := lower_any c
        generalize c.toNat ||| 32 = L at *
        cases hx : hexD c with
        | none =>
          have hL := hl2 hx
          rw [hexAll_none hx] at hdec
          clear hl1 hl2 hx hacc ha hpk hpk1 hLn
          have HD := Lib.hid hdec
          have HLw := Lib.hid hlow
          clear hdec hlow
          go_wp2_with (first
            | (go_at_call 148; with_reducible refine (HLw.out _).mono ?_; rintro e w' ⟨rfl, rfl⟩)
            | (go_at_call 148; with_reducible refine (lower_95 _).mono ?_; rintro e w' ⟨rfl, rfl⟩))
          all_goals go_ret2
          all_goals exact ⟨by rw [HD.out]; rfl, rfl⟩
        | some d =>
          obtain ⟨hL, hd0, hd1⟩ := hl1 d hx
          subst hL
          have h95 : ((c.toNat : Int) == 95) = false := by
            simp only [beq_eq_false_iff_ne, ne_eq]
            intro h
            have : c = 95 := UInt8.toNat.inj (by have : c.toNat = 95 := by omega
                                                 exact this)
            subst this
            cases hx
          have hF := hexAll_some (r := bs.drop (k + 1)) (acc := acc) hx
          have HN : Hid (a * 16 + (d : Int) = ((acc * 16 + d : Nat) : Int) ∧ acc * 16 + d < 16 ^ (k + 1) ∧ hexAll 0 bs = hexAll (acc * 16 + d) (bs.drop (k + 1))) := Lib.hid ⟨by omega, by omega, hdec.trans hF⟩
          have HLw := Lib.hid hlow
          clear hl1 hl2 hx hacc ha hpk hpk1 hLn hdec hF hlow
          go_wp2_with (go_at_call 148; with_reducible refine (HLw.out _).mono ?_; rintro e w' ⟨rfl, rfl⟩)
          all_goals refine ⟨⟨k + 1, acc * 16 + d, a * 16 + (d : Int), rfl, (by congr 1; omega), (by first | rfl | (congr 1; omega)), by omega, HN⟩, by simp [intOf]; omega⟩
    · obtain rfl : k = 4 := by omega
      have hF : hexAll acc (bs.drop 4) = some acc := by rw [List.drop_eq_nil_of_le (by omega)]; rfl
      rw [hF] at hdec
      subst ha
      have HD := Lib.hid hdec
      have e4 : t.size = 4 := HS.out
      clear hacc hF hdec hLn hB
      go_wp2
      go_ret2
      exact ⟨by rw [HD.out]; rfl, rfl⟩
theorem hexAll4 (a b c d : UInt8) (r : Bs) : hex4 (a :: b :: c :: d :: r) = (hexAll 0 [a, b, c, d]).map (fun v => (v, r)) := by
  unfold hex4
  cases h1 : hexD a with
  | none => simp [hexAll, h1]
  | some x => cases h2 : hexD b with
    | none => simp [hexAll, h1, h2]
    | some y => cases h3 : hexD c with
      | none => simp [hexAll, h1, h2, h3]
      | some z => cases h4 : hexD d with
        | none => simp [hexAll, h1, h2, h3, h4]
        | some u => simp [hexAll, h1, h2, h3, h4]
theorem hexAll_lt : ∀ (l : Bs) (acc v : Nat), hexAll acc l = some v → v < (acc + 1) * 16 ^ l.length
  | [], acc, v, h => by simp [hexAll] at h; subst h; simp
  | c :: r, acc, v, h => by
    cases hd : hexD c with
    | none => rw [hexAll_none hd] at h; cases h
    | some d =>
      rw [hexAll_some hd] at h
      have h1 := hexAll_lt r _ v h
      have h2 := hexD_lt hd
      rw [List.length_cons, Nat.pow_succ]
      have h3 : (acc * 16 + d + 1) * 16 ^ r.length ≤ ((acc + 1) * 16) * 16 ^ r.length := Nat.mul_le_mul_right _ (by omega)
      have h4 : (acc + 1) * 16 * 16 ^ r.length = (acc + 1) * (16 ^ r.length * 16) := by rw [Nat.mul_assoc, Nat.mul_comm 16]
      omega
theorem hexAll4_lt {a b c d : UInt8} {v : Nat} (h : hexAll 0 [a, b, c, d] = some v) : v < 65536 := by
  have := hexAll_lt _ _ _ h
  simpa using this
end Go.Proofs.YtfboecnhakihnaaGreatDoor.js
