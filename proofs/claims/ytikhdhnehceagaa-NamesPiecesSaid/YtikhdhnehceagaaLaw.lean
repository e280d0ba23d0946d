/-
  The statements' own 'awake', and the walks of 'NamesTell', 'NamesMake', 'NamesBack'.
-/
import Derived.Test.YtikhdhnehceagaaRMak
namespace Go.Proofs.Ytikhdhnehceagaa
open Go.RowKit

set_option maxHeartbeats 1000000 in
theorem awake_any (w : World) : Calls Try.prog 7 #[] w fun e w' => e = .returned (.bool true) ∧ Below w.heap.size w w' := by
  have hm := make_l [97] [98, 46, 99] w (by simp) (by simp)
  unfold MakePost at hm
  rw [show makeS [97] [98, 46, 99] = [98, 46, 99, 46, 97] from by decide, show makeB [97] [98, 46, 99] = true from by decide] at hm
  change Calls Try.prog 20 #[.string ⟨#[97]⟩, .string ⟨#[98, 46, 99]⟩] w (fun e w' => e = .returned (.tuple #[.string ⟨#[98, 46, 99, 46, 97]⟩, .bool true]) ∧ Below w.heap.size w w') at hm
  have hs := fun w => simple_l [97, 95, 49] w (by simp)
  rw [show simpL [97, 95, 49] = true from by decide] at hs
  change ∀ w, Calls Try.prog 8 #[.string ⟨#[97, 95, 49]⟩] w _ at hs
  go_enter Try.func7, Try.ntmps7
  go_wp2_with (first | (go_at_call 20; refine hm.mono ?_; rintro e w1 ⟨rfl, hb1⟩) | (go_at_call 8; refine (hs _).mono ?_; rintro e w2 ⟨rfl, rfl⟩))
  go_ret
  exact ⟨rfl, hb1⟩

set_option maxHeartbeats 4000000 in
theorem tell_walk (s : ByteArray) (w : World) : Calls Try.prog 3 #[.string s] w fun e w' => e = .returned (.bool true) ∧ Below w.heap.size w w' := by
  by_cases hl : s.size ≤ 5000
  · rw [str_of s]
    have hll : s.data.toList.length ≤ 5000 := by rw [← size_len]; exact hl
    generalize s.data.toList = l at *
    have hd : decide (5000 < ((str l).size : Int)) = false := by rw [str_size]; simp; omega
    have h8 := fun w => simple_l l w (by omega)
    have h9 := fun w => refSimple_l l w (by omega)
    have h10 := fun w => full_l l w (by omega)
    have h11 := fun w => refFull_l l w (by omega)
    have h12 := fun w => short_l l w (by omega)
    have h13 := fun w => refShort_l l w (by omega)
    have h14 := fun w => space_l l w (by omega)
    have h15 := fun w => refSpace_l l w (by omega)
    have h16 := fun w => prim_l l w
    have h17 := fun w => refPrim_l l w
    have h18 := fun w => write_l l w (by omega)
    have h19 := fun w => refWrite_l l w (by omega)
    generalize simpL l = r1 at *
    generalize fullL l = r2 at *
    generalize str (shortL l) = r3 at *
    generalize str (spaceL l) = r4 at *
    generalize primL l = r5 at *
    generalize str (writeL l) = r6 at *
    go_enter Try.func3, Try.ntmps3
    go_wp2_with (first
      | (go_at_call 7; refine (awake_any _).mono ?_; rintro e w1 ⟨rfl, hb1⟩)
      | (go_at_call 8; refine (h8 _).mono ?_; rintro e w2 ⟨rfl, rfl⟩)
      | (go_at_call 9; refine (h9 _).mono ?_; rintro e w2 ⟨rfl, rfl⟩)
      | (go_at_call 10; refine (h10 _).mono ?_; rintro e w2 ⟨rfl, hb2⟩)
      | (go_at_call 11; refine (h11 _).mono ?_; rintro e w3 ⟨rfl, rfl⟩)
      | (go_at_call 12; refine (h12 _).mono ?_; rintro e w3 ⟨rfl, rfl⟩)
      | (go_at_call 13; refine (h13 _).mono ?_; rintro e w3 ⟨rfl, rfl⟩)
      | (go_at_call 14; refine (h14 _).mono ?_; rintro e w3 ⟨rfl, rfl⟩)
      | (go_at_call 15; refine (h15 _).mono ?_; rintro e w3 ⟨rfl, rfl⟩)
      | (go_at_call 16; refine (h16 _).mono ?_; rintro e w3 ⟨rfl, rfl⟩)
      | (go_at_call 17; refine (h17 _).mono ?_; rintro e w3 ⟨rfl, hb3⟩)
      | (go_at_call 18; refine (h18 _).mono ?_; rintro e w4 ⟨rfl, rfl⟩)
      | (go_at_call 19; refine (h19 _).mono ?_; rintro e w4 ⟨rfl, rfl⟩))
    go_ret
    exact ⟨rfl, hb1.trans ((hb2.mono hb1.size).trans (hb3.mono (Nat.le_trans hb1.size hb2.size)))⟩
  · have hd : decide (5000 < (s.size : Int)) = true := by simp; omega
    go_enter Try.func3, Try.ntmps3
    go_wp2_with (go_at_call 7; refine (awake_any _).mono ?_; rintro e w1 ⟨rfl, hb1⟩)
    go_ret
    exact ⟨rfl, hb1⟩

set_option maxHeartbeats 4000000 in
theorem make_walk (s t : ByteArray) (w : World) : Calls Try.prog 4 #[.string s, .string t] w fun e w' => e = .returned (.bool true) ∧ Below w.heap.size w w' := by
  by_cases hl : s.size ≤ 5000
  · have hd : decide (5000 < (s.size : Int)) = false := by simp; omega
    by_cases hm : t.size ≤ 5000
    · have hd2 : decide (5000 < (t.size : Int)) = false := by simp; omega
      have h20 := fun w => make_l s.data.toList t.data.toList w (by rw [← size_len]; omega) (by rw [← size_len]; omega)
      have h21 := fun w => refMake_l s.data.toList t.data.toList w (by rw [← size_len]; omega) (by rw [← size_len]; omega)
      rw [← str_of s, ← str_of t] at h20 h21
      unfold MakePost at h20 h21
      generalize str (makeS s.data.toList t.data.toList) = r1 at *
      generalize makeB s.data.toList t.data.toList = r2 at *
      go_enter Try.func4, Try.ntmps4
      go_wp2_with (first
        | (go_at_call 20; refine (h20 _).mono ?_; rintro e w1 ⟨rfl, hb1⟩)
        | (go_at_call 21; refine (h21 _).mono ?_; rintro e w2 ⟨rfl, hb2⟩)
        | (go_at_call 7; refine (awake_any _).mono ?_; rintro e w3 ⟨rfl, hb3⟩))
      go_ret
      exact ⟨rfl, hb1.trans ((hb2.mono hb1.size).trans (hb3.mono (Nat.le_trans hb1.size hb2.size)))⟩
    · have hd2 : decide (5000 < (t.size : Int)) = true := by simp; omega
      go_enter Try.func4, Try.ntmps4
      go_wp2_with (go_at_call 7; refine (awake_any _).mono ?_; rintro e w1 ⟨rfl, hb1⟩)
      go_ret
      exact ⟨rfl, hb1⟩
  · have hd : decide (5000 < (s.size : Int)) = true := by simp; omega
    go_enter Try.func4, Try.ntmps4
    go_wp2_with (go_at_call 7; refine (awake_any _).mono ?_; rintro e w1 ⟨rfl, hb1⟩)
    go_ret
    exact ⟨rfl, hb1⟩

theorem make_yes {a b : Bs} (h : makeB a b = true) : makeL a b = some (makeS a b) := by
  unfold makeB at h; unfold makeS
  cases hm : makeL a b with
  | none => rw [hm] at h; cases h
  | some x => rfl
theorem make_no {a b : Bs} (h : makeB a b = false) : makeS a b = [] := by
  unfold makeB at h; unfold makeS
  cases hm : makeL a b with
  | none => rfl
  | some x => rw [hm] at h; cases h
theorem make_is {a b x : Bs} (h : makeL a b = some x) : makeS a b = x ∧ makeB a b = true := by unfold makeS makeB; rw [h]; exact ⟨rfl, rfl⟩
set_option maxHeartbeats 4000000 in
theorem back_in (s t o : Bs) (w : World) (hs : s.length ≤ 5000) (ht : t.length ≤ 5000) (ho : o.length ≤ 5000) : Calls Try.prog 5 #[.string (str s), .string (str t), .string (str o)] w fun e w' => e = .returned (.bool true) ∧ Below w.heap.size w w' := by
  have hd1 : decide (5000 < ((str s).size : Int)) = false := by rw [str_size]; simp; omega
  have hd2 : decide (5000 < ((str t).size : Int)) = false := by rw [str_size]; simp; omega
  have hd3 : decide (5000 < ((str o).size : Int)) = false := by rw [str_size]; simp; omega
  have hm := make_l s t w (by omega) (by omega)
  unfold MakePost at hm
  cases hb : makeB s t with
  | false =>
    rw [hb, make_no hb] at hm
    have he : (str []).toList.isEmpty = true := emp_l []
    clear hb
    go_enter Try.func5, Try.ntmps5
    go_wp2_with fail
    refine hm.mono ?_
    rintro e w1 ⟨rfl, hb1⟩
    go_wp2_with fail
    refine (awake_any _).mono ?_
    rintro e w2 ⟨rfl, hb2⟩
    go_wp2_with fail
    refine (awake_any _).mono ?_
    rintro e w3 ⟨rfl, hb3⟩
    go_wp2_with fail
    go_ret
    exact ⟨rfl, hb1.trans ((hb2.mono hb1.size).trans (hb3.mono (Nat.le_trans hb1.size hb2.size)))⟩
  | true =>
    have hmk := make_yes hb
    rw [hb] at hm
    obtain ⟨hfull, hprim⟩ := make_full hmk
    have hlen := (full_parts hfull).1
    have hbk := make_is (make_back hfull hprim)
    have hwr := make_is (make_write o hfull hprim)
    generalize makeS s t = x at *
    clear hb hmk
    have hf := fun w => full_l x w (by omega)
    rw [hfull] at hf
    have hsl : (shortL x).length ≤ 100 := by rw [(short_drop x).1]; simp; omega
    have hpl : (spaceL x).length ≤ 100 := by rw [(short_drop x).2.2.2.1]; simp; omega
    have hwl : (writeL x).length ≤ 101 := by
      unfold writeL
      split
      · omega
      · simp; omega
    have h12 := fun w => short_l x w (by omega)
    have h14 := fun w => space_l x w (by omega)
    have h18 := fun w => write_l x w (by omega)
    have hm2 := fun w => make_l (shortL x) (spaceL x) w (by omega) (by omega)
    have hm3 := fun w => make_l (writeL x) o w (by omega) (by omega)
    unfold MakePost at hm2 hm3
    rw [hbk.1, hbk.2] at hm2
    rw [hwr.1, hwr.2] at hm3
    clear hfull hprim hlen hbk hwr hsl hpl hwl
    generalize shortL x = x1 at *
    generalize spaceL x = x2 at *
    generalize writeL x = x3 at *
    go_enter Try.func5, Try.ntmps5
    go_wp2_with fail
    refine hm.mono ?_
    rintro e w1 ⟨rfl, hb1⟩
    go_wp2_with (first
      | (go_at_call 7; refine (awake_any _).mono ?_; rintro e w2 ⟨rfl, hb2⟩)
      | (go_at_call 12; refine (h12 _).mono ?_; rintro e w3 ⟨rfl, rfl⟩)
      | (go_at_call 14; refine (h14 _).mono ?_; rintro e w3 ⟨rfl, rfl⟩))
    refine (hm2 _).mono ?_
    rintro e w3 ⟨rfl, hb3⟩
    go_wp2_with (first
      | (go_at_call 18; refine (h18 _).mono ?_; rintro e w4 ⟨rfl, rfl⟩))
    refine (hm3 _).mono ?_
    rintro e w4 ⟨rfl, hb4⟩
    go_wp2_with (first
      | (go_at_call 10; refine (hf _).mono ?_; rintro e w5 ⟨rfl, hb5⟩))
    go_ret
    have c2 := hb1.trans (hb2.mono hb1.size)
    have c3 := c2.trans (hb3.mono c2.size)
    have c4 := c3.trans (hb4.mono c3.size)
    exact ⟨rfl, c4.trans (hb5.mono c4.size)⟩
set_option maxHeartbeats 4000000 in
theorem back_walk (s t o : ByteArray) (w : World) : Calls Try.prog 5 #[.string s, .string t, .string o] w fun e w' => e = .returned (.bool true) ∧ Below w.heap.size w w' := by
  by_cases hl : s.size ≤ 5000
  · have hd : decide (5000 < (s.size : Int)) = false := by simp; omega
    by_cases hm : t.size ≤ 5000
    · have hd2 : decide (5000 < (t.size : Int)) = false := by simp; omega
      by_cases hn : o.size ≤ 5000
      · rw [str_of s, str_of t, str_of o]
        exact back_in _ _ _ w (by rw [← size_len]; exact hl) (by rw [← size_len]; exact hm) (by rw [← size_len]; exact hn)
      · have hd3 : decide (5000 < (o.size : Int)) = true := by simp; omega
        go_enter Try.func5, Try.ntmps5
        go_wp2_with (go_at_call 7; refine (awake_any _).mono ?_; rintro e w1 ⟨rfl, hb1⟩)
        go_ret
        exact ⟨rfl, hb1⟩
    · have hd2 : decide (5000 < (t.size : Int)) = true := by simp; omega
      go_enter Try.func5, Try.ntmps5
      go_wp2_with (go_at_call 7; refine (awake_any _).mono ?_; rintro e w1 ⟨rfl, hb1⟩)
      go_ret
      exact ⟨rfl, hb1⟩
  · have hd : decide (5000 < (s.size : Int)) = true := by simp; omega
    go_enter Try.func5, Try.ntmps5
    go_wp2_with (go_at_call 7; refine (awake_any _).mono ?_; rintro e w1 ⟨rfl, hb1⟩)
    go_ret
    exact ⟨rfl, hb1⟩
end Go.Proofs.Ytikhdhnehceagaa
