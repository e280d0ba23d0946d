/-
  The reference's reader: 'escaped' behind u, and of what it is not.
-/
import Derived.Test.YtcamaloekanelaaDoorRef3b
namespace Go.Proofs.YtcamaloekanelaaDoor
open Go.RowKit

theorem fail4N {p : Nat} {s : ByteArray} {xs : Bs} (W : World) (h : RRd W p s xs 0) : Calls Tryd.prog 39 #[.pointer (some ⟨p, 0, none⟩), .int .i64 4] W fun e w' => e = .returned (.tuple #[]) ∧ RStep W p s xs 4 w' := fail4 h

set_option maxHeartbeats 1000000 in
theorem escaped_other (p : Nat) (s : ByteArray) (c : UInt8) (r : Bs) (hc : c.toNat ≠ 117) (he : escC c = none) (w : World) (h : RRd w p s (c :: r) 0) : Calls Tryd.prog 81 #[.pointer (some ⟨p, 0, none⟩)] w (EscP w p s none) := by
  obtain ⟨k, c0, c1, c2, f0, f1, f2, hat, hs⟩ := h.parts
  have hlt := hat.lt
  have hget := hat.get hlt
  have hk' : decide (s.size ≤ k) = false := by simp; omega
  have hst := RStep.refl h
  have hst' := hst.set hat.tail
  have hplt := h.lt
  have hne : c.toNat ≠ 34 ∧ c.toNat ≠ 92 ∧ c.toNat ≠ 47 ∧ c.toNat ≠ 98 ∧ c.toNat ≠ 102 ∧ c.toNat ≠ 110 ∧ c.toNat ≠ 114 ∧ c.toNat ≠ 116 := by
    unfold escC at he
    repeat' split at he
    all_goals first | omega | cases he
  have b34 : ((c.toNat : Int) == 34) = false := by simp only [beq_eq_false_iff_ne, ne_eq]; omega
  have b92 : ((c.toNat : Int) == 92) = false := by simp only [beq_eq_false_iff_ne, ne_eq]; omega
  have b47 : ((c.toNat : Int) == 47) = false := by simp only [beq_eq_false_iff_ne, ne_eq]; omega
  have b98 : ((c.toNat : Int) == 98) = false := by simp only [beq_eq_false_iff_ne, ne_eq]; omega
  have b102 : ((c.toNat : Int) == 102) = false := by simp only [beq_eq_false_iff_ne, ne_eq]; omega
  have b110 : ((c.toNat : Int) == 110) = false := by simp only [beq_eq_false_iff_ne, ne_eq]; omega
  have b114 : ((c.toNat : Int) == 114) = false := by simp only [beq_eq_false_iff_ne, ne_eq]; omega
  have b116 : ((c.toNat : Int) == 116) = false := by simp only [beq_eq_false_iff_ne, ne_eq]; omega
  have b117 : ((c.toNat : Int) == 117) = false := by simp only [beq_eq_false_iff_ne, ne_eq]; omega
  clear hat hc he hne
  go_enter Tryd.func81, Tryd.ntmps81
  go_wp2
  go_quiet (fail)
  go_wp2
  go_quiet (fail)
  go_wp2_with fail
  generalize hW : (w.drewN _).setCell _ _ = W1
  have hst2 : RStep w p s r 0 W1 := by rw [← hW]; exact hst'.drewN _
  clear hW
  refine (fail4N _ hst2.1).mono ?_
  rintro e w1 ⟨rfl, hst1⟩
  go_wp2
  go_ret
  exact ⟨rfl, _, hst2.of hst1⟩

section
variable {xs r : Bs} {v : Nat}
theorem rcoded_none (h : hex4 xs = none) : codedM xs = none := by unfold codedM; rw [h]
theorem rcoded_low (h : hex4 xs = some (v, r)) (hv : v < 55296 ∨ 57344 ≤ v) : codedM xs = some ((v : Int), r) := by unfold codedM; rw [h]; simp only [if_pos hv]
theorem rcoded_mid (h : hex4 xs = some (v, r)) (h1 : 56320 ≤ v) (h2 : v < 57344) : codedM xs = none := by unfold codedM; rw [h]; simp only [if_neg (show ¬ (v < 55296 ∨ 57344 ≤ v) by omega), if_pos h1]
theorem rcoded_half (h : hex4 xs = some (v, r)) (h1 : 55296 ≤ v) (h2 : v < 56320) (hp : ([92, 117] : Bs).isPrefixOf r = false) : codedM xs = none := by
  unfold codedM; rw [h]; simp only [if_neg (show ¬ (v < 55296 ∨ 57344 ≤ v) by omega), if_neg (show ¬ 56320 ≤ v by omega)]
  match r, hp with
  | [], _ => rfl
  | [_], _ => rfl
  | a :: b :: t, hp =>
    simp only
    rw [if_neg]
    rintro ⟨ha, hb⟩
    obtain rfl : a = 92 := UInt8.toNat.inj ha
    obtain rfl : b = 117 := UInt8.toNat.inj hb
    simp [List.isPrefixOf] at hp
theorem rcoded_pair (h : hex4 xs = some (v, r)) (h1 : 55296 ≤ v) (h2 : v < 56320) (hp : ([92, 117] : Bs).isPrefixOf r = true) :
    codedM xs = match hex4 (r.drop 2) with
      | none => none
      | some (u, r'') => if 56320 ≤ u ∧ u < 57344 then some (65536 + ((v : Int) - 55296) * 1024 + ((u : Int) - 56320), r'') else none := by
  unfold codedM; rw [h]; simp only [if_neg (show ¬ (v < 55296 ∨ 57344 ≤ v) by omega), if_neg (show ¬ 56320 ≤ v by omega)]
  match r, hp with
  | [], hp => simp [List.isPrefixOf] at hp
  | [_], hp => simp [List.isPrefixOf] at hp
  | a :: b :: t, hp =>
    simp only [List.isPrefixOf, Bool.and_true, Bool.and_eq_true, beq_iff_eq] at hp
    obtain ⟨rfl, rfl⟩ := hp
    simp only [show (92 : UInt8).toNat = 92 by rfl, show (117 : UInt8).toNat = 117 by rfl, and_self, if_true, List.drop]
    rfl
end
def uText : ByteArray := ⟨#[92, 117]⟩
set_option maxHeartbeats 2000000 in
theorem escaped_u (p : Nat) (s : ByteArray) (c : UInt8) (r : Bs) (hc : c.toNat = 117) (w : World) (h : RRd w p s (c :: r) 0) : Calls Tryd.prog 81 #[.pointer (some ⟨p, 0, none⟩)] w (EscP w p s (codedM r)) := by
  obtain ⟨k, c0, c1, c2, f0, f1, f2, hat, hs⟩ := h.parts
  have hlt := hat.lt
  have hget := hat.get hlt
  have hk' : decide (s.size ≤ k) = false := by simp; omega
  have hst := RStep.refl h
  have hst' := hst.set hat.tail
  have hplt := h.lt
  have b34 : ((c.toNat : Int) == 34) = false := by simp only [beq_eq_false_iff_ne, ne_eq]; omega
  have b92 : ((c.toNat : Int) == 92) = false := by simp only [beq_eq_false_iff_ne, ne_eq]; omega
  have b47 : ((c.toNat : Int) == 47) = false := by simp only [beq_eq_false_iff_ne, ne_eq]; omega
  have b98 : ((c.toNat : Int) == 98) = false := by simp only [beq_eq_false_iff_ne, ne_eq]; omega
  have b102 : ((c.toNat : Int) == 102) = false := by simp only [beq_eq_false_iff_ne, ne_eq]; omega
  have b110 : ((c.toNat : Int) == 110) = false := by simp only [beq_eq_false_iff_ne, ne_eq]; omega
  have b114 : ((c.toNat : Int) == 114) = false := by simp only [beq_eq_false_iff_ne, ne_eq]; omega
  have b116 : ((c.toNat : Int) == 116) = false := by simp only [beq_eq_false_iff_ne, ne_eq]; omega
  have b117 : ((c.toNat : Int) == 117) = true := by simp only [beq_iff_eq]; omega
  clear hat hc
  cases h4 : hex4 r with
  | none =>
    have HM := Lib.hid (rcoded_none h4)
    have hf : ∀ W, RRd W p s r 0 → _ := fun W hW => four_none (by have := ref_four p s r 0 W hW; rw [h4] at this; exact this)
    have HF := Lib.hid hf
    clear hf h4
    go_enter Tryd.func81, Tryd.ntmps81
    go_wp2
    go_quiet (fail)
    go_wp2
    go_quiet (fail)
    go_wp2_with fail
    generalize hW : (w.drewN _).setCell _ _ = W1
    have hst2 : RStep w p s r 0 W1 := by rw [← hW]; exact hst'.drewN _
    clear hW
    refine (HF.out _ hst2.1).mono ?_
    rintro e w1 ⟨rfl, ys, hst1⟩
    have hst3 := hst2.of hst1
    go_wp2_with fail
    refine (fail4N _ hst3.1).mono ?_
    rintro e w2 ⟨rfl, hst4⟩
    go_wp2
    go_ret
    rw [HM.out]
    exact ⟨rfl, _, hst3.of hst4⟩
  | some vr =>
    obtain ⟨v, r1⟩ := vr
    have hv16 := hex4_lt h4
    obtain ⟨V, hV⟩ : ∃ V : Int, V = (v : Int) := ⟨_, rfl⟩
    have hf : ∀ W, RRd W p s r 0 → _ := fun W hW => four_some (by have := ref_four p s r 0 W hW; rw [h4] at this; exact this) hV
    have HF := Lib.hid hf
    have HV := Lib.hid hV
    have H4 := Lib.hid h4
    have hV0 : 0 ≤ V := by omega
    have hV1 : V < 65536 := by omega
    clear hf h4 hV hv16
    have hsplit : V < 55296 ∨ 57344 ≤ V ∨ (56320 ≤ V ∧ V < 57344) ∨ (55296 ≤ V ∧ V < 56320) := by omega
    rcases hsplit with hA | hA | ⟨hA, hB⟩ | ⟨hA, hB⟩
    · have HM := Lib.hid (rcoded_low H4.out (by have := HV.out; omega))
      have HE := Lib.hid (enc_eq V hV0 (by omega) (by omega))
      go_enter Tryd.func81, Tryd.ntmps81
      go_wp2
      go_quiet (fail)
      go_wp2
      go_quiet (fail)
      go_wp2_with fail
      generalize hW : (w.drewN _).setCell _ _ = W1
      have hst2 : RStep w p s r 0 W1 := by rw [← hW]; exact hst'.drewN _
      clear hW
      refine (HF.out _ hst2.1).mono ?_
      rintro e w1 ⟨rfl, hst1⟩
      have hst3 := hst2.of hst1
      go_wp2
      go_ret
      rw [HM.out, HE.out, HV.out]
      exact ⟨rfl, hst3⟩
    · have HM := Lib.hid (rcoded_low H4.out (by have := HV.out; omega))
      have HE := Lib.hid (enc_eq V hV0 (by omega) (by omega))
      have hA' : ¬ V < 56320 := by omega
      go_enter Tryd.func81, Tryd.ntmps81
      go_wp2
      go_quiet (fail)
      go_wp2
      go_quiet (fail)
      go_wp2_with fail
      generalize hW : (w.drewN _).setCell _ _ = W1
      have hst2 : RStep w p s r 0 W1 := by rw [← hW]; exact hst'.drewN _
      clear hW
      refine (HF.out _ hst2.1).mono ?_
      rintro e w1 ⟨rfl, hst1⟩
      have hst3 := hst2.of hst1
      go_wp2
      go_ret
      rw [HM.out, HE.out, HV.out]
      exact ⟨rfl, hst3⟩
    · have HM := Lib.hid (rcoded_mid H4.out (by have := HV.out; omega) (by have := HV.out; omega))
      go_enter Tryd.func81, Tryd.ntmps81
      go_wp2
      go_quiet (fail)
      go_wp2
      go_quiet (fail)
      go_wp2_with fail
      generalize hW : (w.drewN _).setCell _ _ = W1
      have hst2 : RStep w p s r 0 W1 := by rw [← hW]; exact hst'.drewN _
      clear hW
      refine (HF.out _ hst2.1).mono ?_
      rintro e w1 ⟨rfl, hst1⟩
      have hst3 := hst2.of hst1
      go_wp2_with fail
      refine (fail4N _ hst3.1).mono ?_
      rintro e w2 ⟨rfl, hst4⟩
      go_wp2
      go_ret
      rw [HM.out]
      exact ⟨rfl, _, hst3.of hst4⟩
    · have his : ∀ W, RRd W p s r1 0 → Calls Tryd.prog 62 #[.pointer (some ⟨p, 0, none⟩), .string ⟨#[92, 117]⟩] W fun e w' => e = .returned (.bool (([92, 117] : Bs).isPrefixOf r1)) ∧ RStep W p s (if ([92, 117] : Bs).isPrefixOf r1 then r1.drop 2 else r1) 0 w' := fun W hW => ref_is p s r1 0 ⟨#[92, 117]⟩ (by decide) W hW
      have hn1 : (55296 : Nat) ≤ v := by have := HV.out; omega
      have hn2 : v < 56320 := by have := HV.out; omega
      cases hp : ([92, 117] : Bs).isPrefixOf r1 with
      | false =>
        have HM := Lib.hid (rcoded_half H4.out hn1 hn2 hp)
        rw [hp] at his
        have HI := Lib.hid his
        clear his hp hn1 hn2
        go_enter Tryd.func81, Tryd.ntmps81
        go_wp2
        go_quiet (fail)
        go_wp2
        go_quiet (fail)
        go_wp2_with fail
        generalize hW : (w.drewN _).setCell _ _ = W1
        have hst2 : RStep w p s r 0 W1 := by rw [← hW]; exact hst'.drewN _
        clear hW
        refine (HF.out _ hst2.1).mono ?_
        rintro e w1 ⟨rfl, hst1⟩
        have hst3 := hst2.of hst1
        go_wp2_with fail
        refine (HI.out _ hst3.1).mono ?_
        rintro e w2 ⟨rfl, hst4⟩
        have hst5 : RStep w p s r1 0 w2 := hst3.of hst4
        go_wp2_with fail
        refine (fail4N _ hst5.1).mono ?_
        rintro e w3 ⟨rfl, hst6⟩
        go_wp2
        go_ret
        rw [HM.out]
        exact ⟨rfl, _, hst5.of hst6⟩
      | true =>
        have HM := Lib.hid (rcoded_pair H4.out hn1 hn2 hp)
        rw [hp] at his
        have HI := Lib.hid his
        clear his hp hn1 hn2
        cases h5 : hex4 (r1.drop 2) with
        | none =>
          have hf : ∀ W, RRd W p s (r1.drop 2) 0 → _ := fun W hW => four_none (by have := ref_four p s (r1.drop 2) 0 W hW; rw [h5] at this; exact this)
          have HF2 := Lib.hid hf
          rw [h5] at HM
          clear hf h5
          go_enter Tryd.func81, Tryd.ntmps81
          go_wp2
          go_quiet (fail)
          go_wp2
          go_quiet (fail)
          go_wp2_with fail
          generalize hW : (w.drewN _).setCell _ _ = W1
          have hst2 : RStep w p s r 0 W1 := by rw [← hW]; exact hst'.drewN _
          clear hW
          refine (HF.out _ hst2.1).mono ?_
          rintro e w1 ⟨rfl, hst1⟩
          have hst3 := hst2.of hst1
          go_wp2_with fail
          refine (HI.out _ hst3.1).mono ?_
          rintro e w2 ⟨rfl, hst4⟩
          have hst5 : RStep w p s (r1.drop 2) 0 w2 := hst3.of hst4
          go_wp2_with fail
          refine (HF2.out _ hst5.1).mono ?_
          rintro e w3 ⟨rfl, ys, hst6⟩
          have hst7 := hst5.of hst6
          go_wp2_with fail
          refine (fail4N _ hst7.1).mono ?_
          rintro e w4 ⟨rfl, hst8⟩
          go_wp2
          go_ret
          rw [HM.out]
          exact ⟨rfl, _, hst7.of hst8⟩
        | some ur =>
          obtain ⟨u, r2⟩ := ur
          have hu16 := hex4_lt h5
          obtain ⟨U, hU⟩ : ∃ U : Int, U = (u : Int) := ⟨_, rfl⟩
          have hf : ∀ W, RRd W p s (r1.drop 2) 0 → _ := fun W hW => four_some (by have := ref_four p s (r1.drop 2) 0 W hW; rw [h5] at this; exact this) hU
          have HF2 := Lib.hid hf
          have HU := Lib.hid hU
          have hU0 : 0 ≤ U := by omega
          have hU1 : U < 65536 := by omega
          rw [h5] at HM
          clear hf h5 hU hu16
          by_cases hu : 56320 ≤ U ∧ U < 57344
          · obtain ⟨hu1, hu2⟩ := hu
            have hm : codedM r = some (65536 + (V - 55296) * 1024 + (U - 56320), r2) := by
              rw [HM.out]; simp only
              rw [if_pos (by have := HU.out; omega), HV.out, HU.out]
            have HN := Lib.hid hm
            have HE := Lib.hid (enc_eq (65536 + (V - 55296) * 1024 + (U - 56320)) (by omega) (by omega) (by omega))
            clear hm HM
            go_enter Tryd.func81, Tryd.ntmps81
            go_wp2
            go_quiet (fail)
            go_wp2
            go_quiet (fail)
            go_wp2_with fail
            generalize hW : (w.drewN _).setCell _ _ = W1
            have hst2 : RStep w p s r 0 W1 := by rw [← hW]; exact hst'.drewN _
            clear hW
            refine (HF.out _ hst2.1).mono ?_
            rintro e w1 ⟨rfl, hst1⟩
            have hst3 := hst2.of hst1
            go_wp2_with fail
            refine (HI.out _ hst3.1).mono ?_
            rintro e w2 ⟨rfl, hst4⟩
            have hst5 : RStep w p s (r1.drop 2) 0 w2 := hst3.of hst4
            go_wp2_with fail
            refine (HF2.out _ hst5.1).mono ?_
            rintro e w3 ⟨rfl, hst6⟩
            have hst7 := hst5.of hst6
            go_wp2
            go_ret
            rw [HN.out]
            refine ⟨?_, hst7⟩
            rw [← HE.out]
            show Ending.returned (.string (Utf8.encode (65536 + (V - 55296) * 1024 + U - 56320))) = _
            rw [show 65536 + (V - 55296) * 1024 + U - 56320 = 65536 + (V - 55296) * 1024 + (U - 56320) by omega]
          · have hm : codedM r = none := by
              rw [HM.out]; simp only
              rw [if_neg (by have := HU.out; omega)]
            have HN := Lib.hid hm
            clear hm HM
            have hu' : U < 56320 ∨ (56320 ≤ U ∧ 57344 ≤ U) := by omega
            clear hu
            rcases hu' with hu1 | ⟨hu1, hu2⟩
            all_goals
              go_enter Tryd.func81, Tryd.ntmps81
              go_wp2
              go_quiet (fail)
              go_wp2
              go_quiet (fail)
              go_wp2_with fail
              generalize hW : (w.drewN _).setCell _ _ = W1
              have hst2 : RStep w p s r 0 W1 := by rw [← hW]; exact hst'.drewN _
              clear hW
              refine (HF.out _ hst2.1).mono ?_
              rintro e w1 ⟨rfl, hst1⟩
              have hst3 := hst2.of hst1
              go_wp2_with fail
              refine (HI.out _ hst3.1).mono ?_
              rintro e w2 ⟨rfl, hst4⟩
              have hst5 : RStep w p s (r1.drop 2) 0 w2 := hst3.of hst4
              go_wp2_with fail
              refine (HF2.out _ hst5.1).mono ?_
              rintro e w3 ⟨rfl, hst6⟩
              have hst7 := hst5.of hst6
              go_wp2_with fail
              refine (fail4N _ hst7.1).mono ?_
              rintro e w4 ⟨rfl, hst8⟩
              go_wp2
              go_ret
              rw [HN.out]
              exact ⟨rfl, _, hst7.of hst8⟩

theorem ref_escaped (p : Nat) (s : ByteArray) (xs : Bs) (w : World) (h : RRd w p s xs 0) : Calls Tryd.prog 81 #[.pointer (some ⟨p, 0, none⟩)] w (EscP w p s (escM xs)) := by
  cases xs with
  | nil => exact escaped_nil p s w h
  | cons c r =>
    by_cases hu : c.toNat = 117
    · rw [escM_u hu]; exact escaped_u p s c r hu w h
    · rw [escM_other hu]
      cases he : escC c with
      | none => exact escaped_other p s c r hu he w h
      | some b =>
        have hb : (c.toNat = 34 ∧ b = 34) ∨ (c.toNat = 92 ∧ b = 92) ∨ (c.toNat = 47 ∧ b = 47) ∨ (c.toNat = 98 ∧ b = 8 ∨ c.toNat = 102 ∧ b = 12 ∨ c.toNat = 110 ∧ b = 10 ∨ c.toNat = 114 ∧ b = 13 ∨ c.toNat = 116 ∧ b = 9) := by
          unfold escC at he
          repeat' split at he
          all_goals first | (cases he; omega) | cases he
        rcases hb with ⟨h1, rfl⟩ | ⟨h1, rfl⟩ | ⟨h1, rfl⟩ | h1
        · have := escaped_one p s c r (.inl h1) w h; rw [h1] at this; exact this
        · have := escaped_one p s c r (.inr (.inl h1)) w h; rw [h1] at this; exact this
        · have := escaped_one p s c r (.inr (.inr h1)) w h; rw [h1] at this; exact this
        · exact escaped_two p s c r b h1 w h
end Go.Proofs.YtcamaloekanelaaDoor
