/-
  The law's own 'zig'.
-/
import Derived.Test.YtlkbcdbjmkfkkaaDoorNulM
namespace Go.Proofs.YtlkbcdbjmkfkkaaDoor
open Go.RowKit

theorem zigN_nat (n : Nat) : zigN (n : Int) = 2 * n := by unfold zigN; rw [if_pos (by omega)]; omega
set_option maxHeartbeats 1000000 in
set_option maxRecDepth 100000 in
theorem lzig_any (n : Nat) (hn : n < 20000) (w : World) : Calls Tryd.prog 12 #[.int .i64 n] w (NewRow w (numL (zigN n))) := by
  rw [zigN_nat]
  obtain ⟨i0, hi, hz0, hz1, hz2⟩ := info_parts Tryd.info5
  have hv : 2 * n < 18446744073709551616 := by omega
  have HV := Lib.hid hv; clear hv
  go_enter Tryd.func12, Tryd.ntmps12
  go_wp2
  go_loopw [3, 4] (fun o t wr => ∃ (m : Nat) (done : List Int), m ≤ 2 * n ∧ t = .int .i64 m ∧ Hid (done ++ numL m = numL (2 * n)) ∧ done.length ≤ 10 ∧ wr.ownsRow w.heap.size 5 1 o done.length (cellsB done) ∧ Below w.heap.size w wr)
    (fun _ t _ => (intOf t).toNat)
  case atStart => exact ⟨2 * n, [], by omega, by push_cast; rfl, Lib.hid rfl, by simp, World.ownsRow_nil _ _ _ _, Below.refl _ _⟩
  case round =>
    obtain ⟨m, done, hm, rfl, HD, hl, hown, hb⟩ := hrel
    by_cases hlt : m < 128
    · have h1 : decide ((128 : Int) ≤ (m : Int)) = false := by simp; omega
      go_wp2_with (at_builtin; refine wpList_append_own _ rfl _ _ 33 rfl w.heap.size 5 i0 (.int .u8 0) 1 1 Tryd.underlying33 hi hz0 hz1 hz2 rfl (by decide) _ _ _ rfl (hown.alloc _) ⟨wr.heap.size, 0, none⟩ 1 1 [_] rfl rfl (cell_one_new _ _ _) ?c2 ?c3 ?c4 ?c5 ?_)
      case c2 => intro u hu; simp at hu; subst hu; rfl
      case c3 => unfold maxLen; omega
      case c4 => omega
      case c5 => have := hb.size; simp; omega
      intro v' w1 hown' hgrow _
      have hb1 := below_append hb hb.size hown hgrow
      clear hgrow hown hb
      go_wp2
      go_ret
      refine newRow_of hown' hb1 HD.out.symm ?_
      rw [numL_lt m hlt]
      simp
    · have h1 : decide ((128 : Int) ≤ (m : Int)) = true := by simp; omega
      go_wp2_with (at_builtin; refine wpList_append_own _ rfl _ _ 33 rfl w.heap.size 5 i0 (.int .u8 0) 1 1 Tryd.underlying33 hi hz0 hz1 hz2 rfl (by decide) _ _ _ rfl (hown.alloc _) ⟨wr.heap.size, 0, none⟩ 1 1 [_] rfl rfl (cell_one_new _ _ _) ?d2 ?d3 ?d4 ?d5 ?_)
      case d2 => intro u hu; simp at hu; subst hu; rfl
      case d3 => unfold maxLen; omega
      case d4 => omega
      case d5 => have := hb.size; simp; omega
      intro v' w1 hown' hgrow _
      have hb1 := below_append hb hb.size hown hgrow
      clear hgrow hown hb
      go_wp2
      go_roundw
      case rel =>
        have hs := num_step HV.out HD.out hlt
        refine ⟨m / 128, done ++ [((m % 128 + 128 : Nat) : Int)], by omega, by go_num, Lib.hid hs.1, hs.2, ?_, hb1⟩
        simpa using hown'
      case measure => simp [intOf]; omega
end Go.Proofs.YtlkbcdbjmkfkkaaDoor
