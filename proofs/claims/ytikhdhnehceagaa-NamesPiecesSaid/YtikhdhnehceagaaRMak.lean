/-
  'Make' of the reference.
-/
import Derived.Test.YtikhdhnehceagaaMak
namespace Go.Proofs.Ytikhdhnehceagaa
open Go.RowKit

set_option maxHeartbeats 4000000 in
/-- What stands behind the switch: a name without a point that is a primitive's is none. -/
theorem get0 {a : Bs} {c : UInt8} {t : Bs} (h : a = c :: t) : ∃ hh : 0 < (str a).size, (str a)[0] = c := by
  have h2 : At (str a) 0 (c :: t) := ⟨Nat.zero_le _, by rw [str_list, h]; rfl⟩
  exact ⟨h2.lt, h2.get h2.lt⟩
theorem ext1 {a : Bs} : (str a).extract 1 (str a).size = str a.tail := by
  rw [ext_str, str_list, str_size, List.take_of_length_le (Nat.le_refl _), List.drop_one]
theorem head_some {c : UInt8} {t : Bs} (h : ((c.toNat : Int) == 46) = true) : (c :: t).head? = some 46 := by
  have : c = 46 := UInt8.toNat.inj (by simp only [beq_iff_eq] at h; show c.toNat = 46; omega)
  rw [this]; rfl
theorem head_none {c : UInt8} {t : Bs} (h : ((c.toNat : Int) == 46) = false) : (c :: t).head? ≠ some 46 := by
  intro e
  have : c = 46 := by simpa using e
  rw [this] at h; revert h; decide
theorem last_mem {l : Bs} (h : decide (0 ≤ lastP l) = true) : (46 : UInt8) ∈ l := by rw [← mem_last] at h; simpa using h
theorem last_not {l : Bs} (h : decide (0 ≤ lastP l) = false) : (46 : UInt8) ∉ l := by rw [← mem_last] at h; simpa using h
set_option maxHeartbeats 4000000 in
theorem refMake_l (a b : Bs) (w : World) (ha : a.length ≤ 100000) (hb : b.length ≤ 100000) : Calls Try.prog 21 #[.string (str a), .string (str b)] w (MakePost a b w) := by
  have hza : (str a).size ≤ 100000 := by rw [str_size]; exact ha
  have hzb : (str b).size ≤ 100000 := by rw [str_size]; exact hb
  cases ha0 : a with
  | nil =>
    have he : (str []).toList.isEmpty = true := emp_l []
    have HM : Hid (makeS [] b = [] ∧ makeB [] b = false) := make_none (by unfold joinL; rfl)
    clear ha0
    go_enter Try.func21, Try.ntmps21
    go_wp2
    go_ret2
    exact mkPost HM.out (Below.refl _ _)
  | cons c t =>
    rw [← ha0]
    have he : (str a).toList.isEmpty = false := by rw [emp_l, ha0]; rfl
    obtain ⟨hz0, hg0⟩ := get0 ha0
    by_cases h1 : ((c.toNat : Int) == 46) = true
    · have hh : a.head? = some 46 := by rw [ha0]; exact head_some h1
      have htl : a.tail.length ≤ 100000 := by simp; omega
      have hsi := refSimple_l a.tail w (by omega)
      rw [← ext1] at hsi
      have hla := refLast_l a.tail w (by omega)
      rw [← ext1] at hla
      have hpr := refPrim_l a.tail w
      rw [← ext1] at hpr
      have HX : Hid ((str a).extract 1 (str a).size = str a.tail) := ext1
      by_cases h2 : simpL a.tail = true
      · have hj : joinL a b = some a.tail := by unfold joinL; rw [if_pos hh, if_pos h2]
        rw [h2] at hsi
        have hl1 : decide (lastP a.tail < 0) = true := by rw [lastP_none (simp_nopoint h2)]; rfl
        by_cases hp : primL a.tail = 0
        · have HM := Lib.hid (make_some hj hp)
          have hq : ((primL a.tail : Int) == 0) = true := by rw [hp]; rfl
          clear hj hp hh ha0 h2
          generalize primL a.tail = p at *
          generalize lastP a.tail = q at *
          go_enter Try.func21, Try.ntmps21
          go_wp2_with (first | (go_at_call 9; refine hsi.mono ?_; rintro e w1 ⟨rfl, rfl⟩) | (go_at_call 26; refine hla.mono ?_; rintro e w1 ⟨rfl, rfl⟩) | (go_at_call 17; refine hpr.mono ?_; rintro e w2 ⟨rfl, hb2⟩))
          go_ret2
          rw [HX.out]
          exact mkPost HM.out hb2
        · have HM := Lib.hid (make_prim hj hp)
          have hq : ((primL a.tail : Int) == 0) = false := by rw [beq_eq_false_iff_ne]; omega
          clear hj hp hh ha0 h2
          generalize primL a.tail = p at *
          generalize lastP a.tail = q at *
          go_enter Try.func21, Try.ntmps21
          go_wp2_with (first | (go_at_call 9; refine hsi.mono ?_; rintro e w1 ⟨rfl, rfl⟩) | (go_at_call 26; refine hla.mono ?_; rintro e w1 ⟨rfl, rfl⟩) | (go_at_call 17; refine hpr.mono ?_; rintro e w2 ⟨rfl, hb2⟩))
          go_ret2
          exact mkPost HM.out hb2
      · have h2' : simpL a.tail = false := by simpa using h2
        rw [h2'] at hsi
        have HM := Lib.hid (make_none (a := a) (b := b) (by unfold joinL; rw [if_pos hh, if_neg h2]))
        clear hh ha0 h2 h2' hla hpr
        go_enter Try.func21, Try.ntmps21
        go_wp2_with (first | (go_at_call 9; refine hsi.mono ?_; rintro e w1 ⟨rfl, rfl⟩))
        go_ret2
        exact mkPost HM.out (Below.refl _ _)
    · have h1' : ((c.toNat : Int) == 46) = false := by simpa using h1
      have hh : a.head? ≠ some 46 := by rw [ha0]; exact head_none h1'
      have hla := refLast_l a w (by omega)
      clear ha0 h1
      by_cases h2 : (46 : UInt8) ∈ a
      · have hl2 : decide (0 ≤ lastP a) = true := by rw [← mem_last]; simp [h2]
        have hl3 : decide (lastP a < 0) = false := by simp at hl2 ⊢; exact hl2
        have hfu := refFull_l a w (by omega)
        by_cases h3 : fullL a = true
        · rw [h3] at hfu
          have HM := Lib.hid (make_some (a := a) (b := b) (by unfold joinL; rw [if_neg hh, if_pos h2, if_pos h3]) (prim_nopoint h2))
          clear hh h2 h3
          generalize lastP a = q at *
          go_enter Try.func21, Try.ntmps21
          go_wp2_with (first | (go_at_call 26; refine hla.mono ?_; rintro e w1 ⟨rfl, rfl⟩) | (go_at_call 11; refine hfu.mono ?_; rintro e w1 ⟨rfl, rfl⟩))
          go_ret2
          exact mkPost HM.out (Below.refl _ _)
        · have h3' : fullL a = false := by simpa using h3
          rw [h3'] at hfu
          have HM := Lib.hid (make_none (a := a) (b := b) (by unfold joinL; rw [if_neg hh, if_pos h2, if_neg h3]))
          clear hh h2 h3 h3'
          generalize lastP a = q at *
          go_enter Try.func21, Try.ntmps21
          go_wp2_with (first | (go_at_call 26; refine hla.mono ?_; rintro e w1 ⟨rfl, rfl⟩) | (go_at_call 11; refine hfu.mono ?_; rintro e w1 ⟨rfl, rfl⟩))
          go_ret2
          exact mkPost HM.out (Below.refl _ _)
      · have hl2 : decide (0 ≤ lastP a) = false := by rw [← mem_last]; simp [h2]
        have hl3 : decide (lastP a < 0) = true := by simp at hl2 ⊢; exact hl2
        have hsi := refSimple_l a w (by omega)
        by_cases h3 : simpL a = true
        · rw [h3] at hsi
          have hpr := refPrim_l a w
          by_cases h4 : b = []
          · have he2 : (str b).toList.isEmpty = true := by rw [emp_l, h4]; rfl
            have hj : joinL a b = some a := by unfold joinL; rw [if_neg hh, if_neg h2, if_neg (by simp [h3]), if_pos h4]
            by_cases hp : primL a = 0
            · have HM := Lib.hid (make_some hj hp)
              have hq : ((primL a : Int) == 0) = true := by rw [hp]; rfl
              clear hj hp hh h2 h3 h4
              generalize primL a = p at *
              generalize lastP a = q at *
              go_enter Try.func21, Try.ntmps21
              go_wp2_with (first | (go_at_call 26; refine hla.mono ?_; rintro e w1 ⟨rfl, rfl⟩) | (go_at_call 9; refine hsi.mono ?_; rintro e w1 ⟨rfl, rfl⟩) | (go_at_call 17; refine hpr.mono ?_; rintro e w2 ⟨rfl, hb2⟩))
              go_ret2
              exact mkPost HM.out hb2
            · have HM := Lib.hid (make_prim hj hp)
              have hq : ((primL a : Int) == 0) = false := by rw [beq_eq_false_iff_ne]; omega
              clear hj hp hh h2 h3 h4
              generalize primL a = p at *
              generalize lastP a = q at *
              go_enter Try.func21, Try.ntmps21
              go_wp2_with (first | (go_at_call 26; refine hla.mono ?_; rintro e w1 ⟨rfl, rfl⟩) | (go_at_call 9; refine hsi.mono ?_; rintro e w1 ⟨rfl, rfl⟩) | (go_at_call 17; refine hpr.mono ?_; rintro e w2 ⟨rfl, hb2⟩))
              go_ret2
              exact mkPost HM.out hb2
          · have he2 : (str b).toList.isEmpty = false := by rw [emp_l]; simpa using h4
            have hfb := refFull_l b w (by omega)
            have hff := refFull_l (b ++ 46 :: a) w (by simp; omega)
            have hlf := refLast_l (b ++ 46 :: a) w (by simp; omega)
            rw [← cat3] at hff hlf
            have HC := Lib.hid (cat3 a b)
            have hm : (46 : UInt8) ∈ b ++ 46 :: a := by simp
            have hq1 : decide (lastP (b ++ 46 :: a) < 0) = false := by
              have := mem_last (b ++ 46 :: a)
              rw [decide_eq_true hm] at this
              have h := this.symm
              simp at h ⊢; omega
            by_cases h5 : fullL b = true
            · rw [h5] at hfb
              by_cases h6 : fullL (b ++ 46 :: a) = true
              · rw [h6] at hff
                have HM := Lib.hid (make_some (a := a) (b := b) (by unfold joinL; rw [if_neg hh, if_neg h2, if_neg (by simp [h3]), if_neg h4, if_neg (by simp [h5]), if_pos h6]) (prim_nopoint hm))
                clear hh h2 h3 h4 h5 h6 hm
                generalize lastP a = q at *
                generalize lastP (b ++ 46 :: a) = q2 at *
                go_enter Try.func21, Try.ntmps21
                go_wp2_with fail
                refine hla.mono ?_
                rintro e w1 ⟨rfl, rfl⟩
                go_wp2_with (go_at_call 9; refine hsi.mono ?_; rintro e w1 ⟨rfl, rfl⟩)
                refine hfb.mono ?_
                rintro e w1 ⟨rfl, rfl⟩
                go_wp2_with fail
                refine hff.mono ?_
                rintro e w1 ⟨rfl, rfl⟩
                go_wp2_with fail
                refine hlf.mono ?_
                rintro e w1 ⟨rfl, rfl⟩
                go_wp2_with fail
                go_ret2
                rw [HC.out]
                exact mkPost HM.out (Below.refl _ _)
              · have h6' : fullL (b ++ 46 :: a) = false := by simpa using h6
                rw [h6'] at hff
                have HM := Lib.hid (make_none (a := a) (b := b) (by unfold joinL; rw [if_neg hh, if_neg h2, if_neg (by simp [h3]), if_neg h4, if_neg (by simp [h5]), if_neg h6]))
                clear hh h2 h3 h4 h5 h6 hm h6'
                generalize lastP a = q at *
                go_enter Try.func21, Try.ntmps21
                go_wp2_with (first | (go_at_call 26; refine hla.mono ?_; rintro e w1 ⟨rfl, rfl⟩) | (go_at_call 9; refine hsi.mono ?_; rintro e w1 ⟨rfl, rfl⟩))
                refine hfb.mono ?_
                rintro e w1 ⟨rfl, rfl⟩
                go_wp2_with fail
                refine hff.mono ?_
                rintro e w1 ⟨rfl, rfl⟩
                go_wp2_with fail
                go_ret2
                exact mkPost HM.out (Below.refl _ _)
            · have h5' : fullL b = false := by simpa using h5
              rw [h5'] at hfb
              have HM := Lib.hid (make_none (a := a) (b := b) (by unfold joinL; rw [if_neg hh, if_neg h2, if_neg (by simp [h3]), if_neg h4, if_pos h5']))
              clear hh h2 h3 h4 h5 hm h5'
              generalize lastP a = q at *
              go_enter Try.func21, Try.ntmps21
              go_wp2_with (first | (go_at_call 26; refine hla.mono ?_; rintro e w1 ⟨rfl, rfl⟩) | (go_at_call 9; refine hsi.mono ?_; rintro e w1 ⟨rfl, rfl⟩))
              refine hfb.mono ?_
              rintro e w1 ⟨rfl, rfl⟩
              go_wp2_with fail
              go_ret2
              exact mkPost HM.out (Below.refl _ _)
        · have h3' : simpL a = false := by simpa using h3
          rw [h3'] at hsi
          have HM := Lib.hid (make_none (a := a) (b := b) (by unfold joinL; rw [if_neg hh, if_neg h2, if_pos h3']))
          clear hh h2 h3 h3'
          generalize lastP a = q at *
          go_enter Try.func21, Try.ntmps21
          go_wp2_with (first | (go_at_call 26; refine hla.mono ?_; rintro e w1 ⟨rfl, rfl⟩) | (go_at_call 9; refine hsi.mono ?_; rintro e w1 ⟨rfl, rfl⟩))
          go_ret2
          exact mkPost HM.out (Below.refl _ _)
end Go.Proofs.Ytikhdhnehceagaa
