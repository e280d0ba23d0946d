/-
  The table: as the reference's loops make it.
-/
import Derived.Test.YtlgjmbljpjnlhaaShi
import Derived.Deep.WholeRow
import Derived.Deep.LoopGhost
namespace Go.Proofs.Ytlgjmbljpjnlhaa
open Go.RowKit

/-- The table, k of its numbers there. -/
def tbl (k : Nat) : Array Value := Array.ofFn (n := 256) fun i => .int .u64 (if i.val < k then (tab i.val : Int) else 0)
/-- What such a row of tables is known by. -/
structure TblLaw (T : Nat → Array Value) : Prop where
  size : ∀ k, (T k).size = 256
  zero : T 0 = Array.replicate 256 (.int .u64 0)
  set : ∀ k, (T k).setIfInBounds k (.int .u64 (tab k : Int)) = T (k + 1)
  got : ∀ k i, i < 256 → i < k → (T k)[i]? = some (.int .u64 (tab i : Int))
  left : ∀ k i, i < 256 → ¬ i < k → (T k)[i]? = some (.int .u64 0)
  one : ∀ k, (T k).all (·.oneCell') = true
theorem tbl_at (k i : Nat) : (tbl k)[i]? = if i < 256 then some (.int .u64 (if i < k then (tab i : Int) else 0)) else none := by
  unfold tbl
  rw [Array.getElem?_ofFn]
  by_cases h : i < 256
  · rw [dif_pos h, if_pos h]
  · rw [dif_neg h, if_neg h]
theorem tbl_law : TblLaw tbl := by
  have hs : ∀ k, (tbl k).size = 256 := fun k => by unfold tbl; exact Array.size_ofFn
  refine ⟨hs, ?_, fun k => ?_, fun k i hi hk => ?_, fun k i hi hk => ?_, fun k => ?_⟩
  · apply Array.ext_getElem?
    intro i
    rw [tbl_at, Array.getElem?_replicate]
    simp
  · apply Array.ext_getElem?
    intro i
    rw [Array.getElem?_setIfInBounds, tbl_at, tbl_at, hs]
    by_cases h : k = i
    · subst h
      rw [if_pos rfl, if_pos (show k < k + 1 by omega)]
    · rw [if_neg h]
      by_cases h3 : i < k
      · rw [if_pos h3, if_pos (show i < k + 1 by omega)]
      · rw [if_neg h3, if_neg (show ¬ i < k + 1 by omega)]
  · rw [tbl_at, if_pos hi, if_pos hk]
  · rw [tbl_at, if_pos hi, if_neg hk]
  · rw [Array.all_eq_true]
    intro i h
    have h1 := tbl_at k i
    rw [Array.getElem?_eq_getElem h, if_pos (by rw [← hs k]; exact h)] at h1
    rw [Option.some.inj h1]
    rfl
theorem below_row {B g : Nat} {w0 w : World} (hb : Below B w0 w) (hBg : B ≤ g) (cs : Array Value) : Below B w0 (w.setRow g cs) :=
  hb.trans ⟨rfl, rfl, rfl, by simp [World.setRow], fun k hk => setRow_other w g k cs (by omega)⟩
theorem info27 : (Try.prog.info? 27).map (fun i => (i.zero, i.size)) = some (some (.agg (Array.replicate 256 (.int .u64 0))), 256) := by kernel_rfl

set_option maxRecDepth 100000 in
set_option maxHeartbeats 4000000 in
theorem reftab_any (T : Nat → Array Value) (HT : Hid (TblLaw T)) (w : World) : Calls Try.prog 10 #[] w fun e w' => e = .returned (.agg (T 256)) ∧ Below w.heap.size w w' := by
  have hz := (zero_of_info info27).1
  have HI := Lib.hid (zero_of_info info27).2
  rw [← HT.out.zero] at hz
  go_enter Try.func10, Try.ntmps10
  go_wp2
  clear hz
  go_loopg [2] 256 (fun g s2 wx => ∃ i : Nat, i + g = 256 ∧ s2 = .int .i64 i ∧ wx = (w.alloc (.cells (T 0) 27)).alloc (.cells (T i) 27))
  case atStart => exact ⟨0, by omega, rfl, rfl⟩
  case round =>
    obtain ⟨k, hk, rfl, rfl⟩ := hrel
    cases gk with
    | zero =>
      obtain rfl : k = 256 := by omega
      have hld := Lib.hid (heap_alloc2_new w (.cells (T 0) 27) (.cells (T 256) 27))
      have hl0 := Lib.hid (heap_alloc2_old w (.cells (T 0) 27) (.cells (T 256) 27))
      have hsz := HT.out.size 256
      have hsc := run_storeCells_from (P := Try.prog) w.heap.size 27 (T 256).toList 0 (T 0) _ hl0.out (by simp [HT.out.size]) (fun v hv => (Array.all_eq_true_iff_forall_mem.1 (HT.out.one 256)) v (by simpa using hv))
      have HR := Lib.hid (setRow_heap _ w.heap.size (T 0) (T 256) 27 (0, 0) hl0.out)
      have HB := Lib.hid (below_row (((Below.refl w.heap.size w).alloc (Nat.le_refl _) (.cells (T 0) 27)).alloc (by simp) (.cells (T 256) 27)) (Nat.le_refl _) (T 256))
      go_wp2
      refine wp_load_row 27 (Operand.tmp 1) rfl (w.heap.size + 1) rfl 27 (T 256) (0, 0) (.array 256 25) hld.out Try.underlying27 rfl (by rw [HI.out, HT.out.size]) ?_
      go_wp2
      exact bodyPost_ret (v := .agg (T 256)) (results_cell_row rfl _ _ w.heap.size 27 (T 256) (0, 0) _ rfl HR.out Try.underlying27 rfl (by rw [HI.out, HT.out.size])) rfl ⟨rfl, HB.out⟩
    | succ g =>
      have hlt : k < 256 := by omega
      have hcell := HT.out.left k k hlt (by omega)
      go_wp2
      go_loop [3, 4] (fun t i => ∃ (m z : Nat), m ≤ 8 ∧ i = .int .i64 m ∧ t = .int .u64 z ∧ Hid (z = sts m k) ∧ z < 18446744073709551616) (fun _ i => 8 - (intOf i).toNat)
      case atStart => exact ⟨0, k, by omega, rfl, by go_num, Lib.hid rfl, by omega⟩
      case round =>
        obtain ⟨m, z, hm, rfl, rfl, HZ, hz⟩ := hrel
        by_cases hlm : m < 8
        · have hl := low_bit hz
          rcases Nat.mod_two_eq_zero_or_one z with h2 | h2
          · have HS := Lib.hid (st_ev h2)
            rw [h2] at hl
            clear h2
            go_wp2
            go_round
            case rel => exact ⟨m + 1, st z, by omega, by go_num, by rw [nat_half, HS.out], Lib.hid (by rw [HZ.out, sts_last]), st_lt hz⟩
            case measure => simp [intOf]; omega
          · have HS := Lib.hid (st_odd hz h2)
            rw [h2] at hl
            clear h2
            go_wp2
            go_round
            case rel => exact ⟨m + 1, st z, by omega, by go_num, by rw [nat_half, HS.out], Lib.hid (by rw [HZ.out, sts_last]), st_lt hz⟩
            case measure => simp [intOf]; omega
        · obtain rfl : m = 8 := by omega
          have HZ8 : Hid (z = tab k) := HZ
          go_wp2
          go_roundg g
          case measure => omega
          case rel => exact ⟨k + 1, by omega, by go_num, by rw [HZ8.out, HT.out.set]⟩
end Go.Proofs.Ytlgjmbljpjnlhaa
