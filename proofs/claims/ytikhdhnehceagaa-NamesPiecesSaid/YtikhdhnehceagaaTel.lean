/-
  'Short', 'Space', 'Primitive', 'Write' of the program and of the reference.
-/
import Derived.Test.YtikhdhnehceagaaFnd
namespace Go.Proofs.Ytikhdhnehceagaa
open Go.RowKit

theorem ext_short (l : Bs) : (str l).extract (lastP l + 1).toNat (str l).size = str (shortL l) := by
  rw [ext_str, str_list, (short_drop l).1, List.take_of_length_le (by rw [str_size]; exact Nat.le_refl _)]
theorem ext_space (l : Bs) : (str l).extract 0 (max (lastP l) 0).toNat = str (spaceL l) := by
  rw [ext_str, str_list, (short_drop l).2.2.2.1, List.drop_zero]
set_option maxHeartbeats 1000000 in
theorem short_l (l : Bs) (w : World) (h : l.length ≤ 1000000) : Calls Try.prog 12 #[.string (str l)] w fun e w' => e = .returned (.string (str (shortL l))) ∧ w = w' := by
  have hc := last_l l w h
  have HS := Lib.hid (ext_short l)
  obtain ⟨_, h1, h2, _, h3⟩ := short_drop l
  have hz := str_size l
  have hs : (str l).size ≤ 1000000 := by omega
  have h2' : lastP l + 1 ≤ ((str l).size : Int) := by omega
  clear hz h2 h3
  generalize lastP l = p at *
  generalize str (shortL l) = R at *
  generalize str l = s at *
  go_enter Try.func12, Try.ntmps12
  go_wp2_with (go_at_call 25; refine hc.mono ?_; rintro e w1 ⟨rfl, rfl⟩)
  go_ret
  exact ⟨by rw [← HS.out]; rfl, rfl⟩
set_option maxHeartbeats 1000000 in
theorem refShort_l (l : Bs) (w : World) (h : l.length ≤ 1000000) : Calls Try.prog 13 #[.string (str l)] w fun e w' => e = .returned (.string (str (shortL l))) ∧ w = w' := by
  have hc := refLast_l l w h
  have HS := Lib.hid (ext_short l)
  obtain ⟨_, h1, h2, _, h3⟩ := short_drop l
  have hz := str_size l
  have hs : (str l).size ≤ 1000000 := by omega
  have h2' : lastP l + 1 ≤ ((str l).size : Int) := by omega
  clear hz h2 h3
  generalize lastP l = p at *
  generalize str (shortL l) = R at *
  generalize str l = s at *
  go_enter Try.func13, Try.ntmps13
  go_wp2_with (go_at_call 26; refine hc.mono ?_; rintro e w1 ⟨rfl, rfl⟩)
  go_ret
  exact ⟨by rw [← HS.out]; rfl, rfl⟩
set_option maxHeartbeats 1000000 in
theorem space_l (l : Bs) (w : World) (h : l.length ≤ 1000000) : Calls Try.prog 14 #[.string (str l)] w fun e w' => e = .returned (.string (str (spaceL l))) ∧ w = w' := by
  have hc := last_l l w h
  have HS := Lib.hid (ext_space l)
  obtain ⟨_, h1, h2, _, h3⟩ := short_drop l
  have hz := str_size l
  have hs : (str l).size ≤ 1000000 := by omega
  have h3' : max (lastP l) 0 ≤ ((str l).size : Int) := by omega
  have h4' : 0 ≤ max (lastP l) 0 := by omega
  clear hz h2 h3
  generalize lastP l = p at *
  generalize str (spaceL l) = R at *
  generalize str l = s at *
  go_enter Try.func14, Try.ntmps14
  go_wp2_with (go_at_call 25; refine hc.mono ?_; rintro e w1 ⟨rfl, rfl⟩)
  go_ret
  exact ⟨by rw [← HS.out]; rfl, rfl⟩
set_option maxHeartbeats 1000000 in
theorem refSpace_l (l : Bs) (w : World) (h : l.length ≤ 1000000) : Calls Try.prog 15 #[.string (str l)] w fun e w' => e = .returned (.string (str (spaceL l))) ∧ w = w' := by
  have hc := refLast_l l w h
  have HS := Lib.hid (ext_space l)
  obtain ⟨_, h1, h2, _, h3⟩ := short_drop l
  have hz := str_size l
  have hs : (str l).size ≤ 1000000 := by omega
  have h3' : max (lastP l) 0 ≤ ((str l).size : Int) := by omega
  have h4' : 0 ≤ max (lastP l) 0 := by omega
  clear hz h2 h3
  generalize lastP l = p at *
  generalize str (spaceL l) = R at *
  generalize str l = s at *
  go_enter Try.func15, Try.ntmps15
  go_wp2_with (go_at_call 26; refine hc.mono ?_; rintro e w1 ⟨rfl, rfl⟩)
  go_ret
  exact ⟨by rw [← HS.out, Int.max_comm p 0]; rfl, rfl⟩

set_option maxHeartbeats 1000000 in
theorem prim_l (l : Bs) (w : World) : Calls Try.prog 16 #[.string (str l)] w fun e w' => e = .returned (.int .i64 (primL l)) ∧ w = w' := by
  have HP : Hid (primL l = primL (str l).toList) := by show _ = _; rw [Lib.toList_data, str_list]
  go_enter Try.func16, Try.ntmps16
  go_wp2
  all_goals (go_ret; refine ⟨?_, rfl⟩; rw [HP.out]; show Ending.returned (.int .i64 _) = _; clear HP; generalize (str l).toList = t at *; unfold primL; simp only [beq_iff_eq, beq_eq_false_iff_ne, ne_eq] at *; simp only [*]; rfl)

def wordsL : List Bs := [[110, 117, 108, 108], [98, 111, 111, 108, 101, 97, 110], [105, 110, 116], [108, 111, 110, 103], [102, 108, 111, 97, 116], [100, 111, 117, 98, 108, 101], [98, 121, 116, 101, 115], [115, 116, 114, 105, 110, 103]]
theorem prim_zero {t : Bs} (h : ∀ j, j < 8 → wordsL[j]? ≠ some t) : primL t = 0 := by
  unfold primL
  rw [if_neg (fun e => h 0 (by omega) (by rw [e]; rfl)), if_neg (fun e => h 1 (by omega) (by rw [e]; rfl)), if_neg (fun e => h 2 (by omega) (by rw [e]; rfl)), if_neg (fun e => h 3 (by omega) (by rw [e]; rfl)),
    if_neg (fun e => h 4 (by omega) (by rw [e]; rfl)), if_neg (fun e => h 5 (by omega) (by rw [e]; rfl)), if_neg (fun e => h 6 (by omega) (by rw [e]; rfl)), if_neg (fun e => h 7 (by omega) (by rw [e]; rfl))]
theorem word_next {t : Bs} {k : Nat} (h : ∀ j, j < k → wordsL[j]? ≠ some t) (hk : wordsL[k]? ≠ some t) : ∀ j, j < k + 1 → wordsL[j]? ≠ some t := by
  intro j hj
  by_cases e : j = k
  · subst e; exact hk
  · exact h j (by omega)

set_option maxHeartbeats 1000000 in
theorem refPrim_l (l : Bs) (w : World) : Calls Try.prog 17 #[.string (str l)] w fun e w' => e = .returned (.int .i64 (primL l)) ∧ Below w.heap.size w w' := by
  have HP : Hid (primL l = primL (str l).toList) := by show _ = _; rw [Lib.toList_data, str_list]
  go_enter Try.func17, Try.ntmps17
  go_wp2
  go_loopg [4] 8 (fun g i wr => ∃ k : Nat, k + g = 8 ∧ i = .int .i64 (k : Int) ∧ Hid (∀ j, j < k → wordsL[j]? ≠ some (str l).toList) ∧ w.alloc (Obj.cells #[.string ⟨#[110, 117, 108, 108]⟩, .string ⟨#[98, 111, 111, 108, 101, 97, 110]⟩, .string ⟨#[105, 110, 116]⟩, .string ⟨#[108, 111, 110, 103]⟩, .string ⟨#[102, 108, 111, 97, 116]⟩, .string ⟨#[100, 111, 117, 98, 108, 101]⟩, .string ⟨#[98, 121, 116, 101, 115]⟩, .string ⟨#[115, 116, 114, 105, 110, 103]⟩] 9) = wr)
  case atStart => exact ⟨0, by omega, rfl, fun j hj => by omega, rfl⟩
  case round =>
    obtain ⟨k, hg, rfl, HN, rfl⟩ := hrel
    have hk : k = 0 ∨ k = 1 ∨ k = 2 ∨ k = 3 ∨ k = 4 ∨ k = 5 ∨ k = 6 ∨ k = 7 ∨ k = 8 := by omega
    have HG := Lib.hid hg
    clear hg
    rcases hk with rfl | rfl | rfl | rfl | rfl | rfl | rfl | rfl | rfl
    · go_wp2
      · rename_i hh
        go_ret
        refine ⟨?_, (Below.refl _ _).alloc (Nat.le_refl _) _⟩
        rw [HP.out, ← eq_of_beq hh]
        rfl
      · rename_i hh
        go_roundg 7
        case measure => have := HG.out; omega
        case rel => exact ⟨1, by omega, rfl, word_next HN.out (fun e => beq_eq_false_iff_ne.1 hh (Option.some.inj e)), rfl⟩
    · go_wp2
      · rename_i hh
        go_ret
        refine ⟨?_, (Below.refl _ _).alloc (Nat.le_refl _) _⟩
        rw [HP.out, ← eq_of_beq hh]
        rfl
      · rename_i hh
        go_roundg 6
        case measure => have := HG.out; omega
        case rel => exact ⟨2, by omega, rfl, word_next HN.out (fun e => beq_eq_false_iff_ne.1 hh (Option.some.inj e)), rfl⟩
    · go_wp2
      · rename_i hh
        go_ret
        refine ⟨?_, (Below.refl _ _).alloc (Nat.le_refl _) _⟩
        rw [HP.out, ← eq_of_beq hh]
        rfl
      · rename_i hh
        go_roundg 5
        case measure => have := HG.out; omega
        case rel => exact ⟨3, by omega, rfl, word_next HN.out (fun e => beq_eq_false_iff_ne.1 hh (Option.some.inj e)), rfl⟩
    · go_wp2
      · rename_i hh
        go_ret
        refine ⟨?_, (Below.refl _ _).alloc (Nat.le_refl _) _⟩
        rw [HP.out, ← eq_of_beq hh]
        rfl
      · rename_i hh
        go_roundg 4
        case measure => have := HG.out; omega
        case rel => exact ⟨4, by omega, rfl, word_next HN.out (fun e => beq_eq_false_iff_ne.1 hh (Option.some.inj e)), rfl⟩
    · go_wp2
      · rename_i hh
        go_ret
        refine ⟨?_, (Below.refl _ _).alloc (Nat.le_refl _) _⟩
        rw [HP.out, ← eq_of_beq hh]
        rfl
      · rename_i hh
        go_roundg 3
        case measure => have := HG.out; omega
        case rel => exact ⟨5, by omega, rfl, word_next HN.out (fun e => beq_eq_false_iff_ne.1 hh (Option.some.inj e)), rfl⟩
    · go_wp2
      · rename_i hh
        go_ret
        refine ⟨?_, (Below.refl _ _).alloc (Nat.le_refl _) _⟩
        rw [HP.out, ← eq_of_beq hh]
        rfl
      · rename_i hh
        go_roundg 2
        case measure => have := HG.out; omega
        case rel => exact ⟨6, by omega, rfl, word_next HN.out (fun e => beq_eq_false_iff_ne.1 hh (Option.some.inj e)), rfl⟩
    · go_wp2
      · rename_i hh
        go_ret
        refine ⟨?_, (Below.refl _ _).alloc (Nat.le_refl _) _⟩
        rw [HP.out, ← eq_of_beq hh]
        rfl
      · rename_i hh
        go_roundg 1
        case measure => have := HG.out; omega
        case rel => exact ⟨7, by omega, rfl, word_next HN.out (fun e => beq_eq_false_iff_ne.1 hh (Option.some.inj e)), rfl⟩
    · go_wp2
      · rename_i hh
        go_ret
        refine ⟨?_, (Below.refl _ _).alloc (Nat.le_refl _) _⟩
        rw [HP.out, ← eq_of_beq hh]
        rfl
      · rename_i hh
        go_roundg 0
        case measure => have := HG.out; omega
        case rel => exact ⟨8, by omega, rfl, word_next HN.out (fun e => beq_eq_false_iff_ne.1 hh (Option.some.inj e)), rfl⟩
    · go_wp2
      go_ret
      refine ⟨?_, (Below.refl _ _).alloc (Nat.le_refl _) _⟩
      rw [HP.out, prim_zero HN.out]
      rfl

theorem write_cat (l : Bs) : (⟨#[46]⟩ : ByteArray) ++ str l = str (46 :: l) := ba_ext (by simp [str])
set_option maxHeartbeats 1000000 in
theorem write_l (l : Bs) (w : World) (h : l.length ≤ 1000000) : Calls Try.prog 18 #[.string (str l)] w fun e w' => e = .returned (.string (str (writeL l))) ∧ w = w' := by
  have hc := contains_l l w
  have hz := str_size l
  have hs : (str l).size ≤ 1000000 := by omega
  by_cases hp : (46 : UInt8) ∈ l
  · rw [decide_eq_true hp] at hc
    have HW : Hid (writeL l = l) := by show _ = _; unfold writeL; rw [if_pos hp]
    clear hp hz
    go_enter Try.func18, Try.ntmps18
    go_wp2_with (go_at_call 27; refine hc.mono ?_; rintro e w1 ⟨rfl, rfl⟩)
    go_ret
    exact ⟨by rw [HW.out]; rfl, rfl⟩
  · rw [decide_eq_false hp] at hc
    have HW : Hid (writeL l = 46 :: l) := by show _ = _; unfold writeL; rw [if_neg hp]
    clear hp hz
    go_enter Try.func18, Try.ntmps18
    go_wp2_with (go_at_call 27; refine hc.mono ?_; rintro e w1 ⟨rfl, rfl⟩)
    go_ret
    refine ⟨?_, rfl⟩
    rw [HW.out, ← write_cat]
    rfl
set_option maxHeartbeats 1000000 in
theorem refWrite_l (l : Bs) (w : World) (h : l.length ≤ 1000000) : Calls Try.prog 19 #[.string (str l)] w fun e w' => e = .returned (.string (str (writeL l))) ∧ w = w' := by
  have hc := refLast_l l w h
  have hm := mem_last l
  have hz := str_size l
  have hs : (str l).size ≤ 1000000 := by omega
  by_cases hp : (46 : UInt8) ∈ l
  · rw [decide_eq_true hp] at hm
    have hm' := hm.symm
    have HW : Hid (writeL l = l) := by show _ = _; unfold writeL; rw [if_pos hp]
    clear hp hz hm
    generalize lastP l = p at *
    go_enter Try.func19, Try.ntmps19
    go_wp2_with (go_at_call 26; refine hc.mono ?_; rintro e w1 ⟨rfl, rfl⟩)
    go_ret
    exact ⟨by rw [HW.out]; rfl, rfl⟩
  · rw [decide_eq_false hp] at hm
    have hm' := hm.symm
    have HW : Hid (writeL l = 46 :: l) := by show _ = _; unfold writeL; rw [if_neg hp]
    clear hp hz hm
    generalize lastP l = p at *
    go_enter Try.func19, Try.ntmps19
    go_wp2_with (go_at_call 26; refine hc.mono ?_; rintro e w1 ⟨rfl, rfl⟩)
    go_ret
    refine ⟨?_, rfl⟩
    rw [HW.out, ← write_cat]
    rfl
end Go.Proofs.Ytikhdhnehceagaa
