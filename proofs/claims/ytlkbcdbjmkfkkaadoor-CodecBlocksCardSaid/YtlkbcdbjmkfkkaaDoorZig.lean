/-
  The walks of 'Zig' and 'Text', of the program and of the reference; and of the statements' own 'awake' and 'Bytes'.
-/
import Derived.Test.YtlkbcdbjmkfkkaaDoorNum
import Derived.Test.YtlkbcdbjmkfkkaaDoorRow
import Derived.Lib.SlBytesConst
namespace Go.Proofs.YtlkbcdbjmkfkkaaDoor
open Go.RowKit

/-- The number of which the bytes of a signed one are. -/
def zigN (n : Int) : Nat := if 0 ≤ n then (2 * n).toNat else (-2 * n - 1).toNat
def I64 (n : Int) : Prop := -9223372036854775808 ≤ n ∧ n < 9223372036854775808
theorem zigN_lt {n : Int} (h : I64 n) : zigN n < 18446744073709551616 := by
  unfold zigN; obtain ⟨_, _⟩ := h; split <;> omega
def textL (xs : List Int) : List Int := numL (zigN xs.length) ++ xs
theorem wrap_u64 (n : Int) : IntKind.u64.wrap n = n % 18446744073709551616 := by simp [IntKind.wrap, IntKind.bits, IntKind.signed]
theorem zig_pos {n : Int} (h : I64 n) (h0 : 0 ≤ n) : IntKind.u64.wrap (2 * IntKind.u64.wrap n) = (zigN n : Int) ∧ IntKind.u64.wrap (IntKind.u64.wrap n * 2) = (zigN n : Int) := by
  obtain ⟨_, _⟩ := h
  simp only [wrap_u64, zigN, if_pos h0]
  omega
theorem zig_neg {n : Int} (h : I64 n) (h0 : ¬ 0 ≤ n) : IntKind.u64.wrap (IntKind.u64.wrap (2 * IntKind.u64.wrap (wrap64 (-wrap64 (n + 1)))) + 1) = (zigN n : Int) ∧
    IntKind.u64.wrap (IntKind.u64.wrap (IntKind.u64.wrap (wrap64 (-wrap64 (n + 1))) * 2) + 1) = (zigN n : Int) := by
  obtain ⟨_, _⟩ := h
  simp only [wrap_u64, wrap64, zigN, if_neg h0]
  omega

set_option maxHeartbeats 400000 in
set_option maxRecDepth 100000 in
theorem zig_any (n : Int) (hn : I64 n) (w : World) : Calls Tryd.prog 43 #[.int .i64 n] w (NewRow w (numL (zigN n))) := by
  by_cases h0 : 0 ≤ n
  · go_enter Tryd.func43, Tryd.ntmps43
    go_wp2_with fail
    rw [(zig_pos hn h0).1]
    refine (num_any _ (zigN_lt hn) w).mono ?_
    rintro e w' ⟨A, c, rfl, hown, hb⟩
    go_wp2
    go_ret
    exact ⟨A, c, rfl, hown, hb⟩
  · have h1 : decide (0 ≤ n) = false := by simp; omega
    go_enter Tryd.func43, Tryd.ntmps43
    go_wp2_with fail
    rw [(zig_neg hn (by omega)).1]
    refine (num_any _ (zigN_lt hn) w).mono ?_
    rintro e w' ⟨A, c, rfl, hown, hb⟩
    go_wp2
    go_ret
    exact ⟨A, c, rfl, hown, hb⟩
set_option maxHeartbeats 400000 in
set_option maxRecDepth 100000 in
theorem refZig_any (n : Int) (hn : I64 n) (w : World) : Calls Tryd.prog 7 #[.int .i64 n] w (NewRow w (numL (zigN n))) := by
  by_cases h0 : 0 ≤ n
  · go_enter Tryd.func7, Tryd.ntmps7
    go_wp2_with fail
    rw [(zig_pos hn h0).2]
    refine (refNum_any _ (zigN_lt hn) w).mono ?_
    rintro e w' ⟨A, c, rfl, hown, hb⟩
    go_wp2
    go_ret
    exact ⟨A, c, rfl, hown, hb⟩
  · have h1 : decide (0 ≤ n) = false := by simp; omega
    go_enter Tryd.func7, Tryd.ntmps7
    go_wp2_with fail
    rw [(zig_neg hn (by omega)).2]
    refine (refNum_any _ (zigN_lt hn) w).mono ?_
    rintro e w' ⟨A, c, rfl, hown, hb⟩
    go_wp2
    go_ret
    exact ⟨A, c, rfl, hown, hb⟩

theorem zigLen {n : Nat} (h : n ≤ 100000) : (numL (zigN n)).length ≤ 10 := numL_len10 _ (zigN_lt ⟨by omega, by omega⟩)
theorem i64_nat {n : Nat} (h : n ≤ 100000) : I64 (n : Int) := ⟨by omega, by omega⟩

set_option maxHeartbeats 400000 in
set_option maxRecDepth 100000 in
theorem text_any (B : Nat) (A : Option Addr) (n c : Nat) (xs : List Int) (w : World) (hr : Rd w B A n c xs) (hB : B ≤ w.heap.size) (hn : n ≤ 100000) : Calls Tryd.prog 41 #[.slice A n c] w (NewRow w (textL xs)) := by
  obtain ⟨i0, hi, hz0, hz1, hz2⟩ := info_parts Tryd.info5
  have HL := Lib.hid hr.len
  have hzl := zigLen hn
  go_enter Tryd.func41, Tryd.ntmps41
  go_wp2_with fail
  refine (zig_any _ (i64_nat hn) w).mono ?_
  rintro e w1 ⟨A1, c1, rfl, hown, hb⟩
  have hr1 : Rd w1 B A n c xs := hr.below (hb.mono hB)
  go_wp2_with (at_builtin; refine wpList_append_rd _ rfl _ _ 33 rfl w.heap.size 5 i0 Tryd.underlying33 hi hz0 hz1 hz2 _ _ _ rfl hown B _ _ _ _ rfl hr1 (by omega) hb.size ?_)
  intro v' w2 hown' hg _
  have hb2 : Below w.heap.size w w2 := hb.grown hg hb.size (fun k hk => (hown.lt k hk).1)
  clear hg hown hb hr1
  go_wp2
  go_ret
  refine newRow_of hown' hb2 (rfl : textL xs = textL xs) ?_
  unfold textL
  rw [HL.out]
  simp [cellsB]

set_option maxHeartbeats 400000 in
theorem bytes_same (B : Nat) (A A' : Option Addr) (n n' c c' : Nat) (xs : List Int) (w : World) (hr : Rd w B A n c xs) (hr' : Rd w B A' n' c' xs) :
    Calls Tryd.prog 10 #[.slice A n c, .slice A' n' c'] w fun e w' => e = .returned (.bool true) ∧ w = w' := by
  have k1 := run_string_rd (P := Tryd.prog) w 33 5 9 Tryd.underlying33 Tryd.underlying5 Tryd.underlying9 B A n c xs hr
  have k2 := run_string_rd (P := Tryd.prog) w 33 5 9 Tryd.underlying33 Tryd.underlying5 Tryd.underlying9 B A' n' c' xs hr'
  go_enter Tryd.func10, Tryd.ntmps10
  go_wp2
  go_ret
  exact ⟨rfl, rfl⟩

theorem textL_a : textL [97] = [2, 97] := by
  unfold textL
  have : zigN (([97] : List Int).length : Int) = 2 := by decide
  rw [this, numL_lt 2 (by omega)]; rfl

theorem rd_const (w : World) (xs : List Int) (fr : Nat × Nat) (hx : ∀ x ∈ xs, 0 ≤ x ∧ x < 256) (hl : xs.length ≤ maxLen) :
    Rd (w.alloc (.cells (cellsB xs).toArray 5 fr)) (w.heap.size + 1) (some ⟨w.heap.size, 0, none⟩) xs.length xs.length xs := by
  refine ⟨rfl, Nat.le_refl _, hl, hx, fun _ => ⟨w.heap.size, 0, rfl, by omega, fun j u hu => ?_⟩⟩
  rw [Nat.zero_add, World.cell?_alloc_mark]
  simp [cellsB, hu]

end Go.Proofs.YtlkbcdbjmkfkkaaDoor
