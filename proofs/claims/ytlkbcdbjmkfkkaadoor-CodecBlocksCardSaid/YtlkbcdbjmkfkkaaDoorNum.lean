/-
  The two walks of 'Num' (the program's, and the reference's): both give a new row that holds 'numL v'.
-/
import Derived.Test.YtlkbcdbjmkfkkaaDoorRows
import Derived.Test.YtlkbcdbjmkfkkaaDoorPln
namespace Go.Proofs.YtlkbcdbjmkfkkaaDoor
open Go.RowKit
theorem Tryd.info5 : (Tryd.prog.info? 5).map (fun i => (i.zero, i.size, i.bytes)) = some (some (.int .u8 0), 1, 1) := by kernel_rfl

set_option maxHeartbeats 400000 in
set_option maxRecDepth 100000 in
theorem num_any (v : Nat) (hv : v < 18446744073709551616) (w : World) : Calls Tryd.prog 55 #[.int .u64 v] w (NewRow w (numL v)) := by
  obtain ⟨i0, hi, hz0, hz1, hz2⟩ := info_parts Tryd.info5
  have HV := Lib.hid hv; clear hv
  go_enter Tryd.func55, Tryd.ntmps55
  go_wp2
  go_loopw [0, 3] (fun t o wr => ∃ (m : Nat) (done : List Int), m ≤ v ∧ t = .int .u64 m ∧ done ++ numL m = numL v ∧ done.length ≤ 10 ∧ wr.ownsRow w.heap.size 5 1 o done.length (cellsB done) ∧ Below w.heap.size w wr)
    (fun t _ _ => (intOf t).toNat)
  case atStart => exact ⟨v, [], by omega, rfl, rfl, by simp, World.ownsRow_nil _ _ _ _, Below.refl _ _⟩
  case round =>
    obtain ⟨m, done, hm, rfl, hd, hl, hown, hb⟩ := hrel
    have HD := Lib.hid hd; clear hd
    by_cases hlt : m < 128
    · have h1 : decide ((127 : Int) < (m : Int)) = false := by simp; omega
      go_wp2_with (at_builtin; refine wpList_append_own _ rfl _ _ 33 rfl w.heap.size 5 i0 (.int .u8 0) 1 1 Tryd.underlying33 hi hz0 hz1 hz2 rfl (by decide) _ _ _ rfl (hown.alloc _) ⟨wr.heap.size, 0, none⟩ 1 1 [_] rfl rfl (cell_one_new _ _ _) ?c2 ?c3 ?c4 ?c5 ?_)
      case c2 => intro u hu; simp at hu; subst hu; rfl
      case c3 => unfold maxLen; omega
      case c4 => omega
      case c5 => have := hb.size; simp; omega
      intro v' w1 hown' hgrow _
      have hb1 := below_append hb hb.size hown hgrow
      clear hgrow hown hb
      go_wp2
      go_ret
      refine newRow_of hown' hb1 HD.out.symm ?_
      rw [numL_lt m hlt]; simp
    · have h1 : decide ((127 : Int) < (m : Int)) = true := by simp; omega
      go_wp2_with (at_builtin; refine wpList_append_own _ rfl _ _ 33 rfl w.heap.size 5 i0 (.int .u8 0) 1 1 Tryd.underlying33 hi hz0 hz1 hz2 rfl (by decide) _ _ _ rfl (hown.alloc _) ⟨wr.heap.size, 0, none⟩ 1 1 [_] rfl rfl (cell_one_new _ _ _) ?d2 ?d3 ?d4 ?d5 ?_)
      case d2 => intro u hu; simp at hu; subst hu; rfl
      case d3 => unfold maxLen; omega
      case d4 => omega
      case d5 => have := hb.size; simp; omega
      intro v' w1 hown' hgrow _
      have hb1 := below_append hb hb.size hown hgrow
      clear hgrow hown hb
      go_wp2
      go_roundw
      case rel =>
        have hs := num_step HV.out HD.out hlt
        refine ⟨m / 128, done ++ [((m % 128 + 128 : Nat) : Int)], by omega, by go_num, hs.1, hs.2, ?_, hb1⟩
        rw [mask7_byte m (Nat.lt_of_le_of_lt hm HV.out)] at hown'
        simpa using hown'
      case measure => simp [intOf]; omega

set_option maxHeartbeats 400000 in
set_option maxRecDepth 100000 in
theorem refNum_any (v : Nat) (hv : v < 18446744073709551616) (w : World) : Calls Tryd.prog 13 #[.int .u64 v] w (NewRow w (numL v)) := by
  obtain ⟨i0, hi, hz0, hz1, hz2⟩ := info_parts Tryd.info5
  have HV := Lib.hid hv; clear hv
  go_enter Tryd.func13, Tryd.ntmps13
  go_wp2
  go_loopw [0, 3] (fun t o wr => ∃ (m : Nat) (done : List Int), m ≤ v ∧ t = .int .u64 m ∧ done ++ numL m = numL v ∧ done.length ≤ 10 ∧ wr.ownsRow w.heap.size 5 1 o done.length (cellsB done) ∧ Below w.heap.size w wr)
    (fun t _ _ => (intOf t).toNat)
  case atStart => exact ⟨v, [], by omega, rfl, rfl, by simp, World.ownsRow_nil _ _ _ _, Below.refl _ _⟩
  case round =>
    obtain ⟨m, done, hm, rfl, hd, hl, hown, hb⟩ := hrel
    have HD := Lib.hid hd; clear hd
    by_cases hlt : m < 128
    · have h1 : decide ((128 : Int) ≤ (m : Int)) = false := by simp; omega
      go_wp2_with (at_builtin; refine wpList_append_own _ rfl _ _ 33 rfl w.heap.size 5 i0 (.int .u8 0) 1 1 Tryd.underlying33 hi hz0 hz1 hz2 rfl (by decide) _ _ _ rfl (hown.alloc _) ⟨wr.heap.size, 0, none⟩ 1 1 [_] rfl rfl (cell_one_new _ _ _) ?c2 ?c3 ?c4 ?c5 ?_)
      case c2 => intro u hu; simp at hu; subst hu; rfl
      case c3 => unfold maxLen; omega
      case c4 => omega
      case c5 => have := hb.size; simp; omega
      intro v' w1 hown' hgrow _
      have hb1 := below_append hb hb.size hown hgrow
      clear hgrow hown hb
      go_wp2
      go_ret
      refine newRow_of hown' hb1 HD.out.symm ?_
      rw [numL_lt m hlt]; simp
    · have h1 : decide ((128 : Int) ≤ (m : Int)) = true := by simp; omega
      go_wp2_with (at_builtin; refine wpList_append_own _ rfl _ _ 33 rfl w.heap.size 5 i0 (.int .u8 0) 1 1 Tryd.underlying33 hi hz0 hz1 hz2 rfl (by decide) _ _ _ rfl (hown.alloc _) ⟨wr.heap.size, 0, none⟩ 1 1 [_] rfl rfl (cell_one_new _ _ _) ?d2 ?d3 ?d4 ?d5 ?_)
      case d2 => intro u hu; simp at hu; subst hu; rfl
      case d3 => unfold maxLen; omega
      case d4 => omega
      case d5 => have := hb.size; simp; omega
      intro v' w1 hown' hgrow _
      have hb1 := below_append hb hb.size hown hgrow
      clear hgrow hown hb
      go_wp2
      have hq := u64_quo HV.out hm
      rw [hq]
      clear hq
      go_roundw
      case rel =>
        have hs := num_step HV.out HD.out hlt
        refine ⟨m / 128, done ++ [((m % 128 + 128 : Nat) : Int)], by omega, by go_num, hs.1, hs.2, ?_, hb1⟩
        simpa using hown'
      case measure => simp [intOf]; omega

end Go.Proofs.YtlkbcdbjmkfkkaaDoor
