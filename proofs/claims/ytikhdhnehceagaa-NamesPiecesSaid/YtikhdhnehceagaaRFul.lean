/-
  'Full' of the reference.
-/
import Derived.Test.YtikhdhnehceagaaTel
namespace Go.Proofs.Ytikhdhnehceagaa
open Go.RowKit

/-- What is left to ask: the piece that began at 'from' (a, without points), and all behind it. -/
def fRest (n : Nat) (a ys : Bs) : Bool := decide (n ≤ 100) && (pcs (a ++ ys)).all simpL
theorem fRest_end {n : Nat} {a : Bs} (h : (46 : UInt8) ∉ a) : fRest n a [] = (decide (n ≤ 100) && simpL a) := by
  unfold fRest; rw [List.append_nil, pcs_none a h]; simp
theorem fRest_point {n : Nat} {a t : Bs} (h : (46 : UInt8) ∉ a) : fRest n a (46 :: t) = (simpL a && fRest n [] t) := by
  unfold fRest; rw [pcs_point a t h, List.all_cons, List.nil_append]
  cases decide (n ≤ 100) <;> cases simpL a <;> simp
theorem fRest_next {n : Nat} {a t : Bs} {c : UInt8} : fRest n a (c :: t) = fRest n (a ++ [c]) t := by
  unfold fRest; rw [List.append_assoc]; rfl
structure FAt (s : ByteArray) (f k : Nat) (a ys : Bs) : Prop where
  le : f ≤ k
  at_ : At s k ys
  eq : (s.data.toList.take k).drop f = a
  no : (46 : UInt8) ∉ a
theorem FAt.ext {s : ByteArray} {f k : Nat} {a ys : Bs} (h : FAt s f k a ys) : s.extract f k = str a := by rw [ext_str, h.eq]
theorem FAt.len {s : ByteArray} {f k : Nat} {a ys : Bs} (h : FAt s f k a ys) : a.length ≤ s.size := by
  rw [← h.eq]; simp; have := h.at_.le; omega
theorem take_succ {s : ByteArray} {k : Nat} {c : UInt8} {t : Bs} (h : At s k (c :: t)) : s.data.toList.take (k + 1) = s.data.toList.take k ++ [c] := by
  have hk := h.lt
  have hg := h.get hk
  have h2 := get_list hk
  rw [hg] at h2
  rw [List.take_add_one, h2]; rfl
theorem FAt.next {s : ByteArray} {f k : Nat} {a t : Bs} {c : UInt8} (h : FAt s f k a (c :: t)) (hc : c ≠ 46) : FAt s f (k + 1) (a ++ [c]) t := by
  refine ⟨by have := h.le; omega, h.at_.tail, ?_, ?_⟩
  · rw [take_succ h.at_, List.drop_append_of_le_length (by rw [List.length_take, ← size_len]; have := h.le; have := h.at_.le; omega), h.eq]
  · simp only [List.mem_append, List.mem_singleton, not_or]; exact ⟨h.no, fun e => hc e.symm⟩
theorem FAt.point {s : ByteArray} {f k : Nat} {a t : Bs} {c : UInt8} (h : FAt s f k a (c :: t)) : FAt s (k + 1) (k + 1) [] t := by
  refine ⟨Nat.le_refl _, h.at_.tail, ?_, by simp⟩
  rw [List.drop_eq_nil_iff, List.length_take]; omega

set_option maxHeartbeats 4000000 in
theorem refFull_ba (s : ByteArray) (w : World) (hs : s.size ≤ 1000000) : Calls Try.prog 11 #[.string s] w fun e w' => e = .returned (.bool (fullL s.data.toList)) ∧ w = w' := by
  have hat : FAt s 0 0 [] s.data.toList := ⟨Nat.le_refl _, At.start s, by simp, by simp⟩
  have HR : Hid (fullL s.data.toList = fRest s.size [] s.data.toList) := by show _ = _; unfold fullL fRest; rw [List.nil_append, size_len]
  generalize s.data.toList = xs at *
  generalize fullL xs = R at *
  go_enter Try.func11, Try.ntmps11
  go_wp2
  go_loopg [3, 4] (xs.length + 1) (fun g i j wr => ∃ (f k : Nat) (a ys : Bs), ((ys.length + 1 = g ∧ FAt s f k a ys ∧ Hid (R = fRest s.size a ys)) ∨ (g = 0 ∧ k = s.size + 1 ∧ Hid (R = decide (s.size ≤ 100)))) ∧ i = .int .i64 (f : Int) ∧ j = .int .i64 (k : Int) ∧ w = wr)
  case atStart => exact ⟨0, 0, [], xs, .inl ⟨rfl, hat, HR⟩, rfl, rfl, rfl⟩
  case round =>
    obtain ⟨f, k, a, ys, hcase, rfl, rfl, rfl⟩ := hrel
    clear hat HR
    rcases hcase with ⟨hg, hf, HW⟩ | ⟨hg, hkk, HW⟩
    · have HG := Lib.hid hg
      have HF := Lib.hid hf
      have hle := hf.le
      have hkle := hf.at_.le
      have hext := hf.ext
      have hal := hf.len
      have hcall := refSimple_l a w (by omega)
      rw [← hext] at hcall
      have hk1 : decide ((k : Int) ≤ (s.size : Int)) = true := by simp; omega
      have hk2 : decide (k ≤ s.size) = true := by simp; omega
      have c1 : (f : Int) ≤ (k : Int) := by omega
      have c2 : (k : Int) ≤ (s.size : Int) := by omega
      have HE := Lib.hid hext
      clear hext hg
      cases ys with
      | nil =>
        have hks := hf.at_.nil
        have hb : ((k : Int) == (s.size : Int)) = true := by simp; omega
        have HK := Lib.hid hks
        clear hks hf
        by_cases hsa : simpL a = true
        · rw [hsa] at hcall
          have HS := Lib.hid hsa
          clear hsa
          go_wp2_with (go_at_call 9; refine hcall.mono ?_; rintro e w1 ⟨rfl, rfl⟩)
          go_roundg 0
          case measure => have := HG.out; simp at this; omega
          case rel => exact ⟨k + 1, k + 1, [], [], .inr ⟨rfl, by have := HK.out; omega, (by show _ = _; rw [HW.out, fRest_end HF.out.no, HS.out]; simp)⟩, rfl, rfl, rfl⟩
        · have hsa' : simpL a = false := by simpa using hsa
          rw [hsa'] at hcall
          have HS := Lib.hid hsa'
          clear hsa hsa'
          go_wp2_with (go_at_call 9; refine hcall.mono ?_; rintro e w1 ⟨rfl, rfl⟩)
          go_ret
          refine ⟨?_, rfl⟩
          rw [HW.out, fRest_end HF.out.no, HS.out]; simp
      | cons c t =>
        have hlt := hf.at_.lt
        have hget := hf.at_.get hlt
        have hb : ((k : Int) == (s.size : Int)) = false := by rw [beq_eq_false_iff_ne]; omega
        clear hf
        by_cases h46 : ((c.toNat : Int) == 46) = true
        · have HC : Hid (c = 46) := UInt8.toNat.inj (by simp only [beq_iff_eq] at h46; show c.toNat = 46; omega)
          by_cases hsa : simpL a = true
          · rw [hsa] at hcall
            have HS := Lib.hid hsa
            clear hsa
            go_wp2_with (go_at_call 9; refine hcall.mono ?_; rintro e w1 ⟨rfl, rfl⟩)
            go_roundg (t.length + 1)
            case measure => have := HG.out; simp at this; omega
            case rel => exact ⟨k + 1, k + 1, [], t, .inl ⟨rfl, HF.out.point, (by show _ = _; rw [HW.out, HC.out, fRest_point HF.out.no, HS.out]; simp)⟩, rfl, rfl, rfl⟩
          · have hsa' : simpL a = false := by simpa using hsa
            rw [hsa'] at hcall
            have HS := Lib.hid hsa'
            clear hsa hsa'
            go_wp2_with (go_at_call 9; refine hcall.mono ?_; rintro e w1 ⟨rfl, rfl⟩)
            go_ret
            refine ⟨?_, rfl⟩
            rw [HW.out, HC.out, fRest_point HF.out.no, HS.out]; simp
        · have h47 : ((c.toNat : Int) == 46) = false := by simpa using h46
          have HC : Hid (c ≠ 46) := by show _ ≠ _; rintro rfl; exact h46 rfl
          clear h46
          go_wp2
          go_roundg (t.length + 1)
          case measure => have := HG.out; simp at this; omega
          case rel => exact ⟨f, k + 1, a ++ [c], t, .inl ⟨rfl, HF.out.next HC.out, (by show _ = _; rw [HW.out, fRest_next])⟩, rfl, rfl, rfl⟩
    · have hk1 : decide ((k : Int) ≤ (s.size : Int)) = false := by simp; omega
      have hk2 : decide (k ≤ s.size) = false := by simp; omega
      have HG := Lib.hid hg
      clear hg hkk
      go_wp2
      go_ret
      refine ⟨?_, rfl⟩
      rw [HW.out]
      show Ending.returned (.bool _) = _
      congr 2
      rw [Bool.eq_iff_iff]; simp
      try omega
theorem refFull_l (l : Bs) (w : World) (h : l.length ≤ 1000000) : Calls Try.prog 11 #[.string (str l)] w fun e w' => e = .returned (.bool (fullL l)) ∧ w = w' := by
  have := refFull_ba (str l) w (by rw [str_size]; exact h)
  rwa [str_list] at this
end Go.Proofs.Ytikhdhnehceagaa
