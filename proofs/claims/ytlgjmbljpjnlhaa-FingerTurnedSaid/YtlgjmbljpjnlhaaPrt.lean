/-
  The print of bytes, by the table.
-/
import Derived.Test.YtlgjmbljpjnlhaaTab
namespace Go.Proofs.Ytlgjmbljpjnlhaa
open Go.RowKit

set_option maxRecDepth 100000 in
set_option maxHeartbeats 4000000 in
theorem print_any (T : Nat → Array Value) (HT : Hid (TblLaw T)) (A : Option Addr) (n c : Nat) (xs : List Int) (w : World) (hr : Rd w w.heap.size A n c xs) (hn : n ≤ 100000) :
    Calls Try.prog 7 #[.slice A n c] w fun e w' => e = .returned (.int .u64 (prn 13933329357911598997 xs)) ∧ Below w.heap.size w w' := by
  have HL := Lib.hid hr.len
  go_enter Try.func7, Try.ntmps7
  go_wp2_with fail
  refine (table_any T HT w).mono ?_
  rintro e w1 ⟨rfl, hb1⟩
  have hz := (zero_of_info info27).1
  rw [← HT.out.zero] at hz
  have hsz := HT.out.size 256
  have hsc := run_storeCells_new (P := Try.prog) w1 27 (T 0) (T 256) (by rw [(zero_of_info info27).2, hsz]) (by rw [hsz, HT.out.size]) (HT.out.one 256)
  go_wp2
  clear hz hsc hsz
  have hT := heap_alloc_new w1 (.cells (T 256) 27)
  have hb2 := hb1.alloc hb1.size (.cells (T 256) 27)
  have hr2 := hr.below hb2
  generalize w1.alloc (.cells (T 256) 27) = w2 at *
  have HB := Lib.hid hb2
  have HT1 := Lib.hid hT
  clear hb1 hb2 hT hr
  go_loop [4, 10] (fun t i => ∃ (k y : Nat), k ≤ n ∧ i = .int .i64 k ∧ t = .int .u64 y ∧ Hid (y = prn 13933329357911598997 (xs.take k)) ∧ y < 18446744073709551616) (fun _ i => n - (intOf i).toNat)
  case atStart => exact ⟨0, 13933329357911598997, by omega, rfl, rfl, Lib.hid rfl, by omega⟩
  case round =>
    obtain ⟨k, y, hk, rfl, rfl, HY, hy⟩ := hrel
    by_cases hlt : k < n
    · obtain ⟨b, off, rfl, _, hc⟩ := hr2.at_ hlt
      have hb := hr2.byte (xs.getD k 0) (by rw [List.getD_eq_getElem?_getD, List.getElem?_eq_getElem (by have := HL.out; omega)]; exact List.getElem_mem _)
      have HX := Lib.hid (show xs.take (k + 1) = xs.take k ++ [xs.getD k 0] by rw [List.take_succ_eq_append_getElem (by have := HL.out; omega), List.getD_eq_getElem?_getD, List.getElem?_eq_getElem (by have := HL.out; omega)]; rfl)
      generalize xs.getD k 0 = x at hc hb HX
      have hidx : bits BinOp.xor IntKind.u8 ((y : Int) % 256) x = ((y % 256 ^^^ x.toNat : Nat) : Int) := by
        have h := u8_xor_nat (y % 256) x.toNat (by omega) (by omega)
        rw [show ((x.toNat : Nat) : Int) = x by omega] at h
        exact h
      have hm : y % 256 ^^^ x.toNat < 256 := Nat.xor_lt_two_pow (n := 8) (by omega) (by omega)
      have HS := Lib.hid (tab_step (f := y) (c := x.toNat))
      have hlx := tab_lt (Nat.xor_lt_two_pow (n := 64) hy (show x.toNat < 2 ^ 64 by omega))
      have hq : y / 256 < 18446744073709551616 := by omega
      generalize hmm : y % 256 ^^^ x.toNat = m at hidx hm HS
      clear hmm
      have hcm : w2.cell? ⟨w1.heap.size, m, none⟩ = some (.int .u64 (tab m : Int)) := by rw [cell_of_row _ _ _ _ _ _ HT1.out]; exact HT.out.got 256 m hm hm
      have hxx := u64_xor_nat (y / 256) (tab m) hq (tab_lt (by omega))
      have hm2 : (m : Int) < 256 := by omega
      have HXX := Lib.hid hxx
      clear hxx
      go_wp2
      go_round
      case rel => exact ⟨k + 1, tab (y ^^^ x.toNat), by omega, by go_num, by rw [HS.out, ← HXX.out]; rfl, Lib.hid (by rw [HX.out, prn_snoc, ← HY.out]), hlx⟩
      case measure => simp [intOf]; omega
    · go_wp2
      go_ret
      exact ⟨by rw [HY.out, List.take_of_length_le (by have := HL.out; omega)]; rfl, HB.out⟩

theorem rd_nil (w : World) : Rd w w.heap.size none 0 0 [] := ⟨rfl, Nat.le_refl _, by unfold maxLen; omega, by simp, fun h => absurd h (by omega)⟩
set_option maxRecDepth 100000 in
set_option maxHeartbeats 4000000 in
theorem awake_any (w : World) : Calls Try.prog 5 #[] w fun e w' => e = .returned (.bool true) ∧ Below w.heap.size w w' := by
  go_enter Try.func5, Try.ntmps5
  go_wp2_with fail
  refine (print_any tbl (Lib.hid tbl_law) none 0 0 [] w (rd_nil w) (by omega)).mono ?_
  rintro e w1 ⟨rfl, hb1⟩
  rw [show prn 13933329357911598997 [] = 13933329357911598997 from rfl]
  go_wp2
  go_ret
  exact ⟨rfl, hb1⟩
end Go.Proofs.Ytlgjmbljpjnlhaa
