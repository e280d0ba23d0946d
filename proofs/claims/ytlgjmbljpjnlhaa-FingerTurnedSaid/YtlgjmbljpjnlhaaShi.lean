/-
  A number shifted by a byte, bit by bit.
-/
import Derived.Test.YtlgjmbljpjnlhaaCrc
import Derived.Test.YtlgjmbljpjnlhaaOwn
namespace Go.Proofs.Ytlgjmbljpjnlhaa
open Go.RowKit

theorem low_bit {y : Nat} (hy : y < 18446744073709551616) : bits BinOp.and IntKind.u64 (y : Int) 1 = ((y % 2 : Nat) : Int) := by
  have h := u64_and_nat y 1 hy (by omega)
  rw [Nat.and_one_is_mod] at h
  exact h
theorem st_odd {y : Nat} (hy : y < 18446744073709551616) (h : y % 2 = 1) : bits BinOp.xor IntKind.u64 ((y / 2 : Nat) : Int) 13933329357911598997 = ((st y : Nat) : Int) := by
  have := u64_xor_nat (y / 2) 13933329357911598997 (by omega) (by omega)
  unfold st
  rw [if_pos h]
  exact this
theorem st_ev {y : Nat} (h : y % 2 = 0) : y / 2 = st y := by
  unfold st
  rw [if_neg (by omega)]
theorem nat_half (y : Nat) : (y : Int) / 2 = ((y / 2 : Nat) : Int) := by omega
theorem sts_last (x : Nat) {k : Nat} : st (sts k x) = sts (k + 1) x := (sts_succ k x).symm

set_option maxHeartbeats 400000 in
set_option maxRecDepth 100000 in
theorem shifted_any (x : Nat) (hx : x < 18446744073709551616) (w : World) : Calls Try.prog 16 #[.int .u64 x] w fun e w' => e = .returned (.int .u64 (tab x)) ∧ w' = w := by
  have HV := Lib.hid hx; clear hx
  go_enter Try.func16, Try.ntmps16
  go_wp2
  go_loop [0, 4] (fun t i => ∃ (k y : Nat), k ≤ 8 ∧ i = .int .i64 k ∧ t = .int .u64 y ∧ Hid (y = sts k x) ∧ y < 18446744073709551616) (fun _ i => 8 - (intOf i).toNat)
  case atStart => exact ⟨0, x, by omega, rfl, rfl, Lib.hid rfl, HV.out⟩
  case round =>
    obtain ⟨k, y, hk, rfl, rfl, HY, hy⟩ := hrel
    by_cases hlt : k < 8
    · have hl := low_bit hy
      rcases Nat.mod_two_eq_zero_or_one y with h2 | h2
      · have HS := Lib.hid (st_ev h2)
        rw [h2] at hl
        clear h2
        go_wp2
        go_round
        case rel => exact ⟨k + 1, st y, by omega, by go_num, by rw [nat_half, HS.out], Lib.hid (by rw [HY.out, sts_last]), st_lt hy⟩
        case measure => simp [intOf]; omega
      · have HS := Lib.hid (st_odd hy h2)
        rw [h2] at hl
        clear h2
        go_wp2
        go_round
        case rel => exact ⟨k + 1, st y, by omega, by go_num, by rw [nat_half, HS.out], Lib.hid (by rw [HY.out, sts_last]), st_lt hy⟩
        case measure => simp [intOf]; omega
    · obtain rfl : k = 8 := by omega
      go_wp2
      go_ret
      exact ⟨by rw [HY.out]; rfl, rfl⟩

theorem u64_byte {c : Int} (h : 0 ≤ c ∧ c < 256) : IntKind.u64.wrap c = ((c.toNat : Nat) : Int) := by
  simp [IntKind.wrap, IntKind.bits, IntKind.signed]; omega
theorem xor_byte {f : Nat} {c : Int} (hf : f < 18446744073709551616) (h : 0 ≤ c ∧ c < 256) : bits BinOp.xor IntKind.u64 (f : Int) c = ((f ^^^ c.toNat : Nat) : Int) := by
  have h2 := u64_xor_nat f c.toNat hf (by omega)
  rw [show ((c.toNat : Nat) : Int) = c by omega] at h2
  exact h2
set_option maxHeartbeats 400000 in
set_option maxRecDepth 100000 in
theorem ref_any (A : Option Addr) (n c : Nat) (xs : List Int) (w : World) (hr : Rd w w.heap.size A n c xs) (hn : n ≤ 100000) :
    Calls Try.prog 8 #[.slice A n c] w fun e w' => e = .returned (.int .u64 (prn 13933329357911598997 xs)) ∧ w' = w := by
  have HL := Lib.hid hr.len
  go_enter Try.func8, Try.ntmps8
  go_wp2
  go_loop [3, 4] (fun t i => ∃ (k y : Nat), k ≤ n ∧ i = .int .i64 k ∧ t = .int .u64 y ∧ Hid (y = prn 13933329357911598997 (xs.take k)) ∧ y < 18446744073709551616) (fun _ i => n - (intOf i).toNat)
  case atStart => exact ⟨0, 13933329357911598997, by omega, rfl, rfl, Lib.hid rfl, by omega⟩
  case round =>
    obtain ⟨k, y, hk, rfl, rfl, HY, hy⟩ := hrel
    by_cases hlt : k < n
    · obtain ⟨b, off, rfl, _, hc⟩ := hr.at_ hlt
      have hb := hr.byte (xs.getD k 0) (by rw [List.getD_eq_getElem?_getD, List.getElem?_eq_getElem (by have := HL.out; omega)]; exact List.getElem_mem _)
      have HX := Lib.hid (show xs.take (k + 1) = xs.take k ++ [xs.getD k 0] by rw [List.take_succ_eq_append_getElem (by have := HL.out; omega), List.getD_eq_getElem?_getD, List.getElem?_eq_getElem (by have := HL.out; omega)]; rfl)
      generalize xs.getD k 0 = x at hc hb HX
      have hxb := xor_byte hy hb
      have hlx := Nat.xor_lt_two_pow (n := 64) hy (show x.toNat < 2 ^ 64 by omega)
      go_wp2
      go_loop [3, 5] (fun t i => ∃ (m z : Nat), m ≤ 8 ∧ i = .int .i64 m ∧ t = .int .u64 z ∧ Hid (z = sts m (y ^^^ x.toNat)) ∧ z < 18446744073709551616) (fun _ i => 8 - (intOf i).toNat)
      case atStart => exact ⟨0, y ^^^ x.toNat, by omega, rfl, rfl, Lib.hid rfl, hlx⟩
      case round =>
        obtain ⟨m, z, hm, rfl, rfl, HZ, hz⟩ := hrel
        by_cases hlm : m < 8
        · have hl := low_bit hz
          rcases Nat.mod_two_eq_zero_or_one z with h2 | h2
          · have HS := Lib.hid (st_ev h2)
            rw [h2] at hl
            clear h2
            go_wp2
            go_round
            case rel => exact ⟨m + 1, st z, by omega, by go_num, by rw [nat_half, HS.out], Lib.hid (by rw [HZ.out, sts_last]), st_lt hz⟩
            case measure => simp [intOf]; omega
          · have HS := Lib.hid (st_odd hz h2)
            rw [h2] at hl
            clear h2
            go_wp2
            go_round
            case rel => exact ⟨m + 1, st z, by omega, by go_num, by rw [nat_half, HS.out], Lib.hid (by rw [HZ.out, sts_last]), st_lt hz⟩
            case measure => simp [intOf]; omega
        · obtain rfl : m = 8 := by omega
          go_wp2
          go_round
          case rel => exact ⟨k + 1, z, by omega, by go_num, rfl, Lib.hid (by rw [HX.out, prn_snoc, ← HY.out]; exact HZ.out), hz⟩
          case measure => simp [intOf]; omega
    · go_wp2
      go_ret
      exact ⟨by rw [HY.out, List.take_of_length_le (by have := HL.out; omega)]; rfl, rfl⟩
end Go.Proofs.Ytlgjmbljpjnlhaa
