/-
  'join' and 'Make' of the program, 'Make' of the reference.
-/
import Derived.Test.YtikhdhnehceagaaFul
import Derived.Test.YtikhdhnehceagaaRFul
namespace Go.Proofs.Ytikhdhnehceagaa
open Go.RowKit

def JoinPost (a b : Bs) (w : World) (e : Ending) (w' : World) : Prop :=
  ∃ x f, e = .returned (.tuple #[.string (str x), .bool f]) ∧ joinL a b = (if f = true then some x else none) ∧ x.length ≤ 300000 ∧ Below w.heap.size w w'
theorem cat3 (a b : Bs) : str b ++ (⟨#[46]⟩ : ByteArray) ++ str a = str (b ++ 46 :: a) := ba_ext (by simp [str])
theorem str_nil : (⟨#[]⟩ : ByteArray) = str [] := rfl
theorem emp_l (l : Bs) : (str l).toList.isEmpty = l.isEmpty := by rw [Lib.toList_data, str_list]
set_option maxHeartbeats 4000000 in
theorem join_l (a b : Bs) (w : World) (ha : a.length ≤ 100000) (hb : b.length ≤ 100000) : Calls Try.prog 28 #[.string (str a), .string (str b)] w (JoinPost a b w) := by
  have hcp := cutPrefix_l a w
  have hct := contains_l a w
  have hza : (str a).size ≤ 100000 := by rw [str_size]; exact ha
  have hzb : (str b).size ≤ 100000 := by rw [str_size]; exact hb
  by_cases h1 : a.head? = some 46
  · rw [if_pos h1, decide_eq_true h1] at hcp
    have hj : Hid (joinL a b = if simpL a.tail then some a.tail else none) := by show _ = _; unfold joinL; rw [if_pos h1]
    have htl : a.tail.length ≤ 100000 := by simp; omega
    have hsi := simple_l a.tail w (by omega)
    clear h1
    generalize simpL a.tail = r at *
    generalize a.tail = t at *
    go_enter Try.func28, Try.ntmps28
    go_wp2_with (first | (go_at_call 34; refine hcp.mono ?_; rintro e w1 ⟨rfl, rfl⟩) | (go_at_call 8; refine hsi.mono ?_; rintro e w1 ⟨rfl, rfl⟩))
    go_ret2
    exact ⟨t, r, rfl, hj.out, by omega, Below.refl _ _⟩
  · rw [if_neg h1, decide_eq_false h1] at hcp
    by_cases h2 : (46 : UInt8) ∈ a
    · rw [decide_eq_true h2] at hct
      have hj : Hid (joinL a b = if fullL a then some a else none) := by show _ = _; unfold joinL; rw [if_neg h1, if_pos h2]
      have hfu := full_l a w (by omega)
      clear h1 h2
      generalize fullL a = r at *
      go_enter Try.func28, Try.ntmps28
      go_wp2_with (first | (go_at_call 34; refine hcp.mono ?_; rintro e w1 ⟨rfl, rfl⟩) | (go_at_call 27; refine hct.mono ?_; rintro e w1 ⟨rfl, rfl⟩) | (go_at_call 10; refine hfu.mono ?_; rintro e w1 ⟨rfl, hb1⟩))
      go_ret2
      exact ⟨a, r, rfl, hj.out, by omega, hb1⟩
    · rw [decide_eq_false h2] at hct
      have hsi := simple_l a w (by omega)
      by_cases h3 : simpL a = true
      · rw [h3] at hsi
        by_cases h4 : b = []
        · subst h4
          have hj : Hid (joinL a [] = some a) := by show _ = _; unfold joinL; rw [if_neg h1, if_neg h2, if_neg (by simp [h3]), if_pos rfl]
          have he : (str []).toList.isEmpty = true := emp_l []
          clear h1 h2 h3
          go_enter Try.func28, Try.ntmps28
          go_wp2_with (first | (go_at_call 34; refine hcp.mono ?_; rintro e w1 ⟨rfl, rfl⟩) | (go_at_call 27; refine hct.mono ?_; rintro e w1 ⟨rfl, rfl⟩) | (go_at_call 8; refine hsi.mono ?_; rintro e w1 ⟨rfl, rfl⟩))
          go_ret2
          exact ⟨a, true, rfl, hj.out, by omega, Below.refl _ _⟩
        · have he : (str b).toList.isEmpty = false := by rw [emp_l]; simpa using h4
          have hfb := full_l b w (by omega)
          by_cases h5 : fullL b = true
          · rw [h5] at hfb
            have hj : Hid (joinL a b = if fullL (b ++ 46 :: a) then some (b ++ 46 :: a) else none) := by show _ = _; unfold joinL; rw [if_neg h1, if_neg h2, if_neg (by simp [h3]), if_neg h4, if_neg (by simp [h5])]
            have hff := fun w => full_l (b ++ 46 :: a) w (by simp; omega)
            rw [← cat3] at hff
            have HL : Hid ((b ++ 46 :: a).length ≤ 300000) := by show _ ≤ _; simp; omega
            have HC := Lib.hid (cat3 a b)
            clear h1 h2 h3 h4 h5
            generalize fullL (b ++ 46 :: a) = r at *
            go_enter Try.func28, Try.ntmps28
            go_wp2_with (first | (go_at_call 34; refine hcp.mono ?_; rintro e w1 ⟨rfl, rfl⟩) | (go_at_call 27; refine hct.mono ?_; rintro e w1 ⟨rfl, rfl⟩) | (go_at_call 8; refine hsi.mono ?_; rintro e w1 ⟨rfl, rfl⟩))
            refine hfb.mono ?_
            rintro e w1 ⟨rfl, hb1⟩
            go_wp2_with fail
            refine (hff _).mono ?_
            rintro e w2 ⟨rfl, hb2⟩
            go_wp2_with fail
            go_ret2
            refine ⟨b ++ 46 :: a, r, (by rw [← HC.out]; rfl), hj.out, HL.out, hb1.trans (hb2.mono hb1.size)⟩
          · have h5' : fullL b = false := by simpa using h5
            rw [h5'] at hfb
            have hj : Hid (joinL a b = none) := by show _ = _; unfold joinL; rw [if_neg h1, if_neg h2, if_neg (by simp [h3]), if_neg h4, if_pos h5']
            clear h1 h2 h3 h4 h5 h5'
            go_enter Try.func28, Try.ntmps28
            go_wp2_with (first | (go_at_call 34; refine hcp.mono ?_; rintro e w1 ⟨rfl, rfl⟩) | (go_at_call 27; refine hct.mono ?_; rintro e w1 ⟨rfl, rfl⟩) | (go_at_call 8; refine hsi.mono ?_; rintro e w1 ⟨rfl, rfl⟩) | (go_at_call 10; refine hfb.mono ?_; rintro e w1 ⟨rfl, hb1⟩))
            go_ret2
            exact ⟨[], false, rfl, hj.out, by simp, hb1⟩
      · have h3' : simpL a = false := by simpa using h3
        rw [h3'] at hsi
        have hj : Hid (joinL a b = none) := by show _ = _; unfold joinL; rw [if_neg h1, if_neg h2, if_pos h3']
        clear h1 h2 h3 h3'
        go_enter Try.func28, Try.ntmps28
        go_wp2_with (first | (go_at_call 34; refine hcp.mono ?_; rintro e w1 ⟨rfl, rfl⟩) | (go_at_call 27; refine hct.mono ?_; rintro e w1 ⟨rfl, rfl⟩) | (go_at_call 8; refine hsi.mono ?_; rintro e w1 ⟨rfl, rfl⟩))
        go_ret2
        exact ⟨[], false, rfl, hj.out, by simp, Below.refl _ _⟩

def makeS (a b : Bs) : Bs := (makeL a b).getD []
def makeB (a b : Bs) : Bool := (makeL a b).isSome
theorem make_none {a b : Bs} (h : joinL a b = none) : makeS a b = [] ∧ makeB a b = false := by unfold makeS makeB makeL; rw [h]; exact ⟨rfl, rfl⟩
theorem make_some {a b x : Bs} (h : joinL a b = some x) (hp : primL x = 0) : makeS a b = x ∧ makeB a b = true := by unfold makeS makeB makeL; rw [h]; simp [hp]
theorem make_prim {a b x : Bs} (h : joinL a b = some x) (hp : primL x ≠ 0) : makeS a b = [] ∧ makeB a b = false := by unfold makeS makeB makeL; rw [h]; simp [hp]
def MakePost (a b : Bs) (w : World) (e : Ending) (w' : World) : Prop :=
  e = .returned (.tuple #[.string (str (makeS a b)), .bool (makeB a b)]) ∧ Below w.heap.size w w'
theorem mkPost {a b x : Bs} {f : Bool} {w w' : World} (h : makeS a b = x ∧ makeB a b = f) (hb : Below w.heap.size w w') : MakePost a b w (.returned (.tuple #[.string (str x), .bool f])) w' := by
  unfold MakePost; rw [h.1, h.2]; exact ⟨rfl, hb⟩
set_option maxHeartbeats 4000000 in
theorem make_l (a b : Bs) (w : World) (ha : a.length ≤ 100000) (hb : b.length ≤ 100000) : Calls Try.prog 20 #[.string (str a), .string (str b)] w (MakePost a b w) := by
  have hj := join_l a b w ha hb
  go_enter Try.func20, Try.ntmps20
  go_wp2_with fail
  refine hj.mono ?_
  rintro e w1 ⟨x, f, rfl, hjj, hxl, hb1⟩
  clear hj
  cases f with
  | false =>
    have HM := Lib.hid (make_none hjj)
    clear hjj
    go_wp2
    go_ret2
    exact mkPost HM.out hb1
  | true =>
    have hpr := prim_l x w1
    by_cases hp : primL x = 0
    · have HM := Lib.hid (make_some hjj hp)
      have hq : ((primL x : Int) == 0) = true := by rw [hp]; rfl
      clear hjj hp
      generalize primL x = p at *
      go_wp2_with (go_at_call 16; refine hpr.mono ?_; rintro e w2 ⟨rfl, rfl⟩)
      go_ret2
      exact mkPost HM.out hb1
    · have HM := Lib.hid (make_prim hjj hp)
      have hq : ((primL x : Int) == 0) = false := by rw [beq_eq_false_iff_ne]; omega
      clear hjj hp
      generalize primL x = p at *
      go_wp2_with (go_at_call 16; refine hpr.mono ?_; rintro e w2 ⟨rfl, rfl⟩)
      go_ret2
      exact mkPost HM.out hb1
end Go.Proofs.Ytikhdhnehceagaa
