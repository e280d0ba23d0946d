/-
  The walks of 'digit', 'letter', 'Simple' of the program and of the reference.
-/
import Derived.Test.YtikhdhnehceagaaProg
import Derived.Test.YtikhdhnehceagaaMdl
import Derived.WalkKit
import Derived.WalkSpells
import Derived.WalkLawsBesides
import Derived.Deep.QuietTactic
import Derived.BigQuiet
import Derived.Lib.Hide
import Derived.Lib.Strings
import Derived.Deep.LoopGhost
namespace Go.Proofs.Ytikhdhnehceagaa
open Go.RowKit

/-- Place k of a text has these bytes before it. -/
structure At (s : ByteArray) (k : Nat) (xs : Bs) : Prop where
  le : k ≤ s.size
  eq : s.data.toList.drop k = xs
section
variable {s : ByteArray} {k : Nat} {c : UInt8} {xs r : Bs}
theorem size_len (s : ByteArray) : s.size = s.data.toList.length := by rw [Array.length_toList]; rfl
theorem At.len (h : At s k xs) : xs.length = s.size - k := by rw [← h.eq, List.length_drop, size_len]
theorem At.nil (h : At s k []) : k = s.size := by have h1 := h.len; have h2 := h.le; simp only [List.length_nil] at h1; omega
theorem At.lt (h : At s k (c :: r)) : k < s.size := by have h1 := h.len; have h2 := h.le; simp only [List.length_cons] at h1; omega
theorem At.get (h : At s k (c :: r)) (hk : k < s.size) : s[k] = c := by
  have h1 : s.data.toList[k]? = some c := by
    have := congrArg (fun l : Bs => l[0]?) h.eq
    simpa [List.getElem?_drop] using this
  have h2 : s.data.toList[k]? = some (s[k]) := by
    rw [List.getElem?_eq_getElem (by rw [← size_len]; exact hk)]
    rfl
  rw [h2] at h1
  exact Option.some.inj h1
theorem At.tail (h : At s k (c :: r)) : At s (k + 1) r := ⟨h.lt, by rw [← List.drop_drop, h.eq]; rfl⟩
theorem At.start (s : ByteArray) : At s 0 s.data.toList := ⟨Nat.zero_le _, rfl⟩
theorem ext_list (s : ByteArray) (i j : Nat) : (s.extract i j).data.toList = (s.data.toList.take j).drop i := by
  rw [ByteArray.data_extract, Array.toList_extract, List.extract_eq_take_drop, List.drop_take]
end

theorem digit_any (c : UInt8) (w : World) : Calls Try.prog 22 #[.int .u8 c.toNat] w fun e w' => e = .returned (.bool (isDig c)) ∧ w = w' := by
  have HD : Hid (isDig c = decide (48 ≤ (c.toNat : Int) ∧ (c.toNat : Int) ≤ 57)) := by show _ = _; unfold isDig; congr 1; simp only [eq_iff_iff]; omega
  generalize isDig c = R at *
  generalize (c.toNat : Int) = x at *
  go_enter Try.func22, Try.ntmps22
  go_wp2 <;> (go_ret; refine ⟨?_, rfl⟩; rw [HD.out]; show Ending.returned (.bool _) = _; congr 2; rw [Bool.eq_iff_iff]; simp; try omega)

theorem letter_any (c : UInt8) (w : World) : Calls Try.prog 23 #[.int .u8 c.toNat] w fun e w' => e = .returned (.bool (isLet c)) ∧ w = w' := by
  have HD : Hid (isLet c = decide ((97 ≤ (c.toNat : Int) ∧ (c.toNat : Int) ≤ 122) ∨ (65 ≤ (c.toNat : Int) ∧ (c.toNat : Int) ≤ 90) ∨ (c.toNat : Int) = 95)) := by show _ = _; unfold isLet; congr 1; simp only [eq_iff_iff]; omega
  generalize isLet c = R at *
  generalize (c.toNat : Int) = x at *
  go_enter Try.func23, Try.ntmps23
  go_wp2 <;> (go_ret; refine ⟨?_, rfl⟩; rw [HD.out]; show Ending.returned (.bool _) = _; congr 2; rw [Bool.eq_iff_iff]; simp; try omega)

theorem emp_nil {s : ByteArray} (h : s.data.toList = []) : s.toList.isEmpty = true := by rw [Lib.toList_data, h]; rfl
theorem emp_cons {s : ByteArray} {c : UInt8} {r : Bs} (h : s.data.toList = c :: r) : s.toList.isEmpty = false := by rw [Lib.toList_data, h]; rfl
/-- How far the reading of a piece has come. -/
theorem all_end {a : Bs} {b : Bool} (h : a.all ok = ([] : Bs).all ok) (e : a.all ok = b) : b = true := by rw [← e, h]; rfl

set_option maxHeartbeats 1000000 in
theorem simple_ba (s : ByteArray) (w : World) (hs : s.size ≤ 1000000) :
    Calls Try.prog 8 #[.string s] w fun e w' => e = .returned (.bool (simpL s.data.toList)) ∧ w = w' := by
  have hat := At.start s
  have hl := size_len s
  have HX := Lib.hid (rfl : s.data.toList = s.data.toList)
  have HA := Lib.hid (simp_all s.data.toList)
  generalize hxs : s.data.toList = xs at *
  cases xs with
  | nil =>
    have he := emp_nil hxs
    clear hxs
    go_enter Try.func8, Try.ntmps8
    go_wp2
    go_ret
    exact ⟨rfl, rfl⟩
  | cons c r =>
    have he := emp_cons hxs
    clear hxs
    have hlt := hat.lt
    have hget := hat.get hlt
    have hl' : s.size = r.length + 1 := by simpa using hl
    clear hl
    by_cases h100 : s.size ≤ 100
    · have h2 : decide ((s.size : Int) > 100) = false := by simp; omega
      have h3 : decide (100 < (s.size : Int)) = false := by simp; omega
      have HL := Lib.hid hl'
      clear hl'
      by_cases hd : isDig c = true
      · have HD := Lib.hid hd
        clear hd
        go_enter Try.func8, Try.ntmps8
        go_wp2_with (go_at_call 22; refine (digit_any c w).mono ?_; rintro e w1 ⟨rfl, rfl⟩; rw [HD.out])
        go_ret
        refine ⟨?_, rfl⟩
        rw [HA.out]; simp [HD.out]
      · have HD := Lib.hid (by simpa using hd : isDig c = false)
        clear hd
        have hR : Hid (simpL (c :: r) = (c :: r).all ok) := by
          show _ = _
          rw [HA.out]
          have := HL.out
          simp [HD.out]; omega
        clear HA
        go_enter Try.func8, Try.ntmps8
        go_wp2_with (go_at_call 22; refine (digit_any c w).mono ?_; rintro e w1 ⟨rfl, rfl⟩; rw [HD.out])
        clear hget hlt
        go_loopg [18] (c :: r).length (fun g i wr => ∃ (k : Nat) (ys : Bs), ys.length = g ∧ i = .int .i64 (k : Int) ∧ At s k ys ∧ Hid ((c :: r).all ok = ys.all ok) ∧ w = wr)
        case atStart => exact ⟨0, c :: r, rfl, rfl, hat, rfl, rfl⟩
        case round =>
          obtain ⟨k, ys, hg, rfl, ha, HW, rfl⟩ := hrel
          have HG := Lib.hid hg
          clear hg hat
          cases ys with
          | nil =>
            have hk : decide (k < s.size) = false := by have := ha.nil; simp; omega
            go_wp2
            go_ret
            exact ⟨by rw [hR.out, HW.out]; rfl, rfl⟩
          | cons d t =>
            have hkl := ha.lt
            have hget := ha.get hkl
            have hk : decide (k < s.size) = true := by simp; omega
            have hat' := ha.tail
            by_cases hq : isLet d = true
            · have HQ := Lib.hid hq
              clear hq
              go_wp2_with (first | (go_at_call 23; refine (letter_any d w).mono ?_; rintro e w1 ⟨rfl, rfl⟩; rw [HQ.out]) | (go_at_call 22; refine (digit_any d w).mono ?_; rintro e w1 ⟨rfl, rfl⟩; rw [HQ2.out]))
              go_roundg t.length
              case measure => have := HG.out; simp at this; omega
              case rel => exact ⟨k + 1, t, rfl, rfl, hat', (by show _ = _; rw [HW.out]; simp [ok, HQ.out]), rfl⟩
            · have HQ := Lib.hid (by simpa using hq : isLet d = false)
              clear hq
              by_cases hq : isDig d = true
              · have HQ2 := Lib.hid hq
                clear hq
                go_wp2_with (first | (go_at_call 23; refine (letter_any d w).mono ?_; rintro e w1 ⟨rfl, rfl⟩; rw [HQ.out]) | (go_at_call 22; refine (digit_any d w).mono ?_; rintro e w1 ⟨rfl, rfl⟩; rw [HQ2.out]))
                go_roundg t.length
                case measure => have := HG.out; simp at this; omega
                case rel => exact ⟨k + 1, t, rfl, rfl, hat', (by show _ = _; rw [HW.out]; simp [ok, HQ2.out]), rfl⟩
              · have HQ2 := Lib.hid (by simpa using hq : isDig d = false)
                clear hq
                go_wp2_with (first | (go_at_call 23; refine (letter_any d w).mono ?_; rintro e w1 ⟨rfl, rfl⟩; rw [HQ.out]) | (go_at_call 22; refine (digit_any d w).mono ?_; rintro e w1 ⟨rfl, rfl⟩; rw [HQ2.out]))
                go_ret
                exact ⟨by rw [hR.out, HW.out]; simp [ok, HQ.out, HQ2.out], rfl⟩
    · have h2 : decide ((s.size : Int) > 100) = true := by simp; omega
      have h3 : decide (100 < (s.size : Int)) = true := by simp; omega
      have HL := Lib.hid hl'
      clear hl'
      go_enter Try.func8, Try.ntmps8
      go_wp2
      go_ret
      refine ⟨?_, rfl⟩
      rw [HA.out]
      have : decide ((c :: r).length ≤ 100) = false := by have := HL.out; simp; omega
      rw [this]; simp

/-- Whether the reference goes on at the byte d at place k. -/
def rok (k : Nat) (d : UInt8) : Bool := isLet d || (decide (0 < k) && isDig d)
/-- What is left to ask at place k, of a text of n bytes. -/
def rest (n k : Nat) (ys : Bs) : Bool := if k = 0 then simpL ys else ys.all ok && decide (n ≤ 100)
theorem rest_yes {n k : Nat} {d : UInt8} {t : Bs} (h : rok k d = true) (hn : k = 0 → n = t.length + 1) : rest n k (d :: t) = rest n (k + 1) t := by
  unfold rest
  by_cases hk : k = 0
  · subst hk
    have hn := hn rfl
    have h1 : isLet d = true := by simpa [rok] using h
    rw [if_pos rfl, if_neg (by omega), simpL, h1, hn]
    have : decide (t.length < 100) = decide (t.length + 1 ≤ 100) := by congr 1
    rw [this]; simp
  · have h1 : ok d = true := by
      unfold rok at h; unfold ok
      have : decide (0 < k) = true := by simp; omega
      simpa [this] using h
    rw [if_neg hk, if_neg (by omega), List.all_cons, h1]; simp
theorem rest_no {n k : Nat} {d : UInt8} {t : Bs} (h : rok k d = false) : rest n k (d :: t) = false := by
  unfold rest
  by_cases hk : k = 0
  · subst hk
    have h1 : isLet d = false := by simpa [rok] using h
    rw [if_pos rfl, simpL, h1]; simp
  · have h1 : ok d = false := by
      unfold rok at h; unfold ok
      have : decide (0 < k) = true := by simp; omega
      simpa [this] using h
    rw [if_neg hk, List.all_cons, h1]; simp
theorem rest_end {n : Nat} : rest n n [] = (decide (1 ≤ (n : Int)) && decide ((n : Int) ≤ 100)) := by
  unfold rest
  by_cases hn : n = 0
  · subst hn; rfl
  · rw [if_neg hn]
    rw [Bool.eq_iff_iff]; simp; omega
theorem rok_iff (k : Nat) (d : UInt8) : rok k d = true ↔ ((97 ≤ (d.toNat : Int) ∧ (d.toNat : Int) ≤ 122) ∨ (65 ≤ (d.toNat : Int) ∧ (d.toNat : Int) ≤ 90) ∨ (d.toNat : Int) = 95 ∨ (0 < k ∧ 48 ≤ (d.toNat : Int) ∧ (d.toNat : Int) ≤ 57)) := by
  simp only [rok, isLet, isDig, Bool.or_eq_true, Bool.and_eq_true, decide_eq_true_eq]; omega

set_option maxHeartbeats 1000000 in
theorem refSimple_ba (s : ByteArray) (w : World) (hs : s.size ≤ 1000000) :
    Calls Try.prog 9 #[.string s] w fun e w' => e = .returned (.bool (simpL s.data.toList)) ∧ w = w' := by
  have hat := At.start s
  have HR : Hid (simpL s.data.toList = rest s.size 0 s.data.toList) := rfl
  generalize s.data.toList = xs at *
  generalize simpL xs = R at *
  go_enter Try.func9, Try.ntmps9
  go_wp2
  go_loopg [3] xs.length (fun g i wr => ∃ (k : Nat) (ys : Bs), ys.length = g ∧ i = .int .i64 (k : Int) ∧ At s k ys ∧ Hid (R = rest s.size k ys) ∧ w = wr)
  case atStart => exact ⟨0, xs, rfl, rfl, hat, HR, rfl⟩
  case round =>
    obtain ⟨k, ys, hg, rfl, ha, HW, rfl⟩ := hrel
    have HG := Lib.hid hg
    clear hg hat HR
    cases ys with
    | nil =>
      obtain rfl := ha.nil
      have hk : decide (s.size < s.size) = false := by simp
      have HE := Lib.hid (rest_end (n := s.size))
      go_wp2 <;> (go_ret; refine ⟨?_, rfl⟩; rw [HW.out, HE.out]; show Ending.returned (.bool _) = _; congr 2; rw [Bool.eq_iff_iff]; simp; try omega)
    | cons d t =>
      have hkl := ha.lt
      have hget := ha.get hkl
      have hk : decide (k < s.size) = true := by simp; omega
      have hat' := ha.tail
      have HY := Lib.hid (fun h => rest_yes (n := s.size) (k := k) (d := d) (t := t) h (by have := ha.len; intro h0; subst h0; simpa using this.symm))
      have HN := Lib.hid (fun h => rest_no (n := s.size) (k := k) (d := d) (t := t) h)
      have HI := Lib.hid (rok_iff k d)
      generalize hx : (d.toNat : Int) = x at *
      have HX := Lib.hid hx
      generalize rok k d = ro at *
      go_wp2
      all_goals first
        | (go_ret
           refine ⟨?_, rfl⟩
           rw [HW.out, HN.out (by rw [← Bool.not_eq_true, HI.out]; clear HI HN HY HX HW; try simp only [Bool.not_eq_true', Bool.not_eq_false', decide_eq_false_iff_not, decide_eq_true_eq, beq_eq_false_iff_ne, beq_iff_eq] at *; omega)]
           rfl)
        | (go_roundg t.length
           case measure => have := HG.out; simp at this; omega
           case rel => exact ⟨k + 1, t, rfl, rfl, hat', (by show _ = _; rw [HW.out, HY.out (by rw [HI.out]; clear HI HN HY HX HW; try simp only [Bool.not_eq_true', Bool.not_eq_false', decide_eq_false_iff_not, decide_eq_true_eq, beq_eq_false_iff_ne, beq_iff_eq] at *; omega)]), rfl⟩)
end Go.Proofs.Ytikhdhnehceagaa
