/-
  The reference's reader: 'number'.
-/
import Derived.Test.YtcamaloekanelaaDoorRef5
namespace Go.Proofs.YtcamaloekanelaaDoor
open Go.RowKit

/-- What 'number' answers. -/
def NumPost (w : World) (p : Nat) (s : ByteArray) (er : Nat) (o : Option (Bs × Bs)) (e : Ending) (w' : World) : Prop :=
  match o with
  | some (t, r) => e = .returned (.string (str t)) ∧ RStep w p s r er w'
  | none => e = .returned (.string ⟨#[]⟩) ∧ ∃ ys, RStep w p s ys (if er = 0 then 4 else er) w'
theorem isRest_minus (xs : Bs) : isRest ⟨#[45]⟩ xs = xs.drop (neg xs) := by
  cases xs with
  | nil => rfl
  | cons c r =>
    by_cases h : c = 45
    · subst h; rfl
    · have h1 : ([45] : Bs).isPrefixOf (c :: r) = false := by simp [List.isPrefixOf, Ne.symm h]
      have h2 : neg (c :: r) = 0 := by simp [neg, h]
      rw [isRest, h2, if_neg (by show ¬ ([45] : Bs).isPrefixOf (c :: r) = true; rw [h1]; simp)]
      rfl
theorem At.uniq {s : ByteArray} {k j : Nat} {xs : Bs} (h : At s k xs) (g : At s j xs) : k = j := by
  have := h.len; have := g.len; have := h.le; have := g.le; omega
def NLRel (w : World) (p : Nat) (s : ByteArray) (er : Nat) (zs : Bs) (g : Nat) (wr : World) : Prop :=
  ∃ (j : Nat), j ≤ zs.length ∧ (zs.drop j).length = g ∧ digs zs = j + digs (zs.drop j) ∧ RStep w p s (zs.drop j) er wr

theorem numM_none {xs : Bs} (h : digs (xs.drop (neg xs)) < 1 ∨ 19 < digs (xs.drop (neg xs)) ∨ (1 < digs (xs.drop (neg xs)) ∧ (xs.drop (neg xs)).head? = some 48)) : numM xs = none := by rw [numM, if_pos h]
theorem numM_some {xs : Bs} (h : ¬ (digs (xs.drop (neg xs)) < 1 ∨ 19 < digs (xs.drop (neg xs)) ∨ (1 < digs (xs.drop (neg xs)) ∧ (xs.drop (neg xs)).head? = some 48))) :
    numM xs = some (numT (xs.take (neg xs + digs (xs.drop (neg xs)))), xs.drop (neg xs + digs (xs.drop (neg xs)))) := by rw [numM, if_neg h]; rfl
theorem digs_drop {zs : Bs} {j : Nat} (hj : j ≤ zs.length) (hd : digs zs = j + digs (zs.drop j)) {c : UInt8} {r : Bs} (h : zs.drop j = c :: r) : zs.drop (j + 1) = r ∧ j + 1 ≤ zs.length := by
  constructor
  · rw [← List.drop_drop, h]; rfl
  · have := congrArg List.length h; rw [List.length_drop] at this; simp only [List.length_cons] at this; omega

set_option maxHeartbeats 2000000 in
set_option maxRecDepth 100000 in
theorem ref_number (p : Nat) (s : ByteArray) (xs : Bs) (er : Nat) (w : World) (h : RRd w p s xs er) :
    Calls Tryd.prog 65 #[.pointer (some ⟨p, 0, none⟩)] w (NumPost w p s er (numM xs)) := by
  obtain ⟨k, c0, c1, c2, f0, f1, f2, ha, hs⟩ := h.parts
  have hplt := h.lt
  have hk := ha.le
  have hlen := ha.len
  have his := ref_is p s xs er ⟨#[45]⟩ (by decide) w h
  rw [isRest_minus] at his
  have hn1 := (neg_le xs).1
  have hn2 := (neg_le xs).2
  have hatd := ha.drop (neg xs) hn2
  have hnone := numM_none (xs := xs)
  have hsome := numM_some (xs := xs)
  have htd : xs.drop (neg xs + digs (xs.drop (neg xs))) = (xs.drop (neg xs)).drop (digs (xs.drop (neg xs))) := by rw [List.drop_drop]
  rw [htd] at hsome
  clear htd
  generalize numM xs = M at *
  generalize neg xs = ng at *
  generalize hzs : xs.drop ng = zs at *
  have HNone := Lib.hid hnone
  have HSome := Lib.hid hsome
  have HZ := Lib.hid hzs
  have HAt := Lib.hid ha
  clear hnone hsome hzs ha
  have hle2 := hatd.le
  have hlen2 := hatd.len
  have HAtd := Lib.hid hatd
  clear hatd hlen hlen2
  go_enter Tryd.func65, Tryd.ntmps65
  go_wp2_with fail
  refine his.mono ?_
  rintro e w1 ⟨rfl, hst1⟩
  clear his
  obtain ⟨kd, c01, c11, c21, f01, f11, f21, ha1, _⟩ := hst1.1.parts
  have HKd := Lib.hid (ha1.uniq HAtd.out)
  clear ha1 c0 c1 c2 f0 f1 f2
  go_wp2
  go_loopg [] zs.length (fun g wr => NLRel w p s er zs g wr)
  case atStart => exact ⟨0, by omega, rfl, by simp, hst1⟩
  case round =>
    obtain ⟨j, hj, hg, hd, hst⟩ := hrel
    clear hst1 c01 c11 c21 f01 f11 f21
    obtain ⟨k1, c01, c11, c21, f01, f11, f21, ha1, _⟩ := hst.1.parts
    have HK := Lib.hid (ha1.uniq (HAtd.out.drop j hj))
    have HG := Lib.hid hg
    have HD := Lib.hid hd
    clear hg hd
    by_cases hdig : ∃ c r, zs.drop j = c :: r ∧ 48 ≤ c.toNat ∧ c.toNat ≤ 57
    · obtain ⟨c, r, hcr, hc1, hc2⟩ := hdig
      obtain ⟨hdr, hj1⟩ := digs_drop hj HD.out hcr
      rw [hcr] at ha1
      have hlt := ha1.lt
      have hget := ha1.get hlt
      have hst' := hst.set ha1.tail
      have hk' : decide (k1 < s.size) = true := by simp; omega
      have hdd : digs zs = (j + 1) + digs (zs.drop (j + 1)) := by rw [HD.out, hcr, hdr, digs_yes (isDig_yes ⟨hc1, hc2⟩)]; omega
      have HDD := Lib.hid hdd
      have HC := Lib.hid hcr
      have HR := Lib.hid hdr
      have hi1 : (48 : Int) ≤ (c.toNat : Int) := by omega
      have hi2 : (c.toNat : Int) ≤ 57 := by omega
      clear hdd hcr hdr ha1 hc1 hc2
      go_wp2
      go_quiet (fail)
      go_wp2
      go_roundg (zs.drop (j + 1)).length
      case measure => have := HG.out; rw [HC.out] at this; rw [HR.out]; simp only [List.length_cons] at this; omega
      case rel => exact ⟨j + 1, hj1, rfl, HDD.out, by rw [HR.out]; exact hst'.drewN _⟩
    · have hdz : digs (zs.drop j) = 0 := by
        cases hz : zs.drop j with
        | nil => rfl
        | cons c r => exact digs_no (isDig_no (fun hh => hdig ⟨c, r, hz, hh⟩))
      have HJ := Lib.hid (show digs zs = j by have := HD.out; omega)
      have hle1 := ha1.le
      have hkk : kd ≤ k1 := by rw [HK.out, HKd.out]; omega
      have hk1e : (k1 : Int) - (kd : Int) = (j : Int) := by rw [HK.out, HKd.out]; omega
      have hkl : k ≤ k1 := by rw [HK.out]; omega
      have hpiece : s.extract k k1 = str (xs.take (ng + j)) := ba_ext (by rw [ext_list, HK.out, Nat.add_assoc, List.drop_take, HAt.out.eq, Nat.add_sub_cancel_left]; rfl)
      have hex : (decide (k1 < s.size) = false) ∨ (∃ c : UInt8, ∃ h : k1 < s.size, decide (k1 < s.size) = true ∧ s[k1] = c ∧ decide ((48 : Int) ≤ (c.toNat : Int)) = false) ∨
          (∃ c : UInt8, ∃ h : k1 < s.size, decide (k1 < s.size) = true ∧ s[k1] = c ∧ decide ((48 : Int) ≤ (c.toNat : Int)) = true ∧ decide ((c.toNat : Int) ≤ 57) = false) := by
        cases hz : zs.drop j with
        | nil => rw [hz] at ha1; left; have := ha1.nil; simp; omega
        | cons c r =>
          rw [hz] at ha1
          have hlt := ha1.lt
          have hget := ha1.get hlt
          have hnd : ¬ (48 ≤ c.toNat ∧ c.toNat ≤ 57) := fun hh => hdig ⟨c, r, hz, hh⟩
          by_cases h48 : c.toNat < 48
          · exact .inr (.inl ⟨c, hlt, by simpa using hlt, hget, by simp; omega⟩)
          · exact .inr (.inr ⟨c, hlt, by simpa using hlt, hget, by simp; omega, by simp; omega⟩)
      have hjs : (decide ((j : Int) < 1) = true ∧ M = none) ∨ (decide ((j : Int) < 1) = false ∧ decide (19 < (j : Int)) = true ∧ M = none) ∨
          (decide ((j : Int) < 1) = false ∧ decide (19 < (j : Int)) = false ∧ decide (1 < (j : Int)) = true ∧ (∃ c : UInt8, ∃ h : kd < s.size, s[kd] = c ∧ ((c.toNat : Int) == 48) = true) ∧ M = none) ∨
          (decide ((j : Int) < 1) = false ∧ decide (19 < (j : Int)) = false ∧ decide (1 < (j : Int)) = true ∧ (∃ c : UInt8, ∃ h : kd < s.size, s[kd] = c ∧ ((c.toNat : Int) == 48) = false) ∧ M = some (numT (xs.take (ng + j)), zs.drop j)) ∨
          (decide ((j : Int) < 1) = false ∧ decide (19 < (j : Int)) = false ∧ decide (1 < (j : Int)) = false ∧ M = some (numT (xs.take (ng + j)), zs.drop j)) := by
        have hN := HNone.out
        have hS := HSome.out
        rw [HJ.out] at hN hS
        by_cases h1 : j < 1
        · exact .inl ⟨by simp; omega, hN (.inl h1)⟩
        · by_cases h19 : 19 < j
          · exact .inr (.inl ⟨by simp; omega, by simp; omega, hN (.inr (.inl h19))⟩)
          · have d1 : decide ((j : Int) < 1) = false := by simp; omega
            have d2 : decide (19 < (j : Int)) = false := by simp; omega
            by_cases hj1 : 1 < j
            · have d3 : decide (1 < (j : Int)) = true := by simp; omega
              have hat := HAtd.out
              cases hz : zs with
              | nil => have := HJ.out; rw [hz, digs_nil] at this; omega
              | cons c r =>
                rw [hz] at hat
                have hlt := hat.lt
                have hget := hat.get hlt
                have hkd := HKd.out
                subst hkd
                rw [hz] at hN hS
                by_cases h48 : c.toNat = 48
                · exact .inr (.inr (.inl ⟨d1, d2, d3, ⟨c, hlt, hget, by simp only [beq_iff_eq]; omega⟩, hN (.inr (.inr ⟨hj1, by simp [of48 h48]⟩))⟩))
                · exact .inr (.inr (.inr (.inl ⟨d1, d2, d3, ⟨c, hlt, hget, by simp only [beq_eq_false_iff_ne, ne_eq]; omega⟩, hS (by
                    rintro (h | h | ⟨_, h⟩)
                    · omega
                    · omega
                    · simp only [List.head?_cons, Option.some.injEq] at h; exact h48 (toNat48 h))⟩)))
            · exact .inr (.inr (.inr (.inr ⟨d1, d2, by simp; omega, hS (by omega)⟩)))
      have HPi := Lib.hid hpiece
      have hfl : ∀ W, RRd W p s (zs.drop j) er → Calls Tryd.prog 39 #[.pointer (some ⟨p, 0, none⟩), .int .i64 4] W fun e w' => e = .returned (.tuple #[]) ∧ RStep W p s (zs.drop j) (if er = 0 then 4 else er) w' := fun W hW => ref_fail p s (zs.drop j) er 4 W hW
      have HFl := Lib.hid hfl
      clear hdig hdz HD HG ha1 hpiece hfl HNone HSome HZ HAt HAtd HK HKd HJ hle2 hn1 hn2
      generalize xs.take (ng + j) = X at *
      rcases hjs with ⟨d1, hM⟩ | ⟨d1, d2, hM⟩ | ⟨d1, d2, d3, ⟨c', hlt', hget', d4⟩, hM⟩ | ⟨d1, d2, d3, ⟨c', hlt', hget', d4⟩, hM⟩ | ⟨d1, d2, d3, hM⟩
      · have HM := Lib.hid hM
        clear hM
        rcases hex with hx | ⟨c, hlt, hx, hget, hc⟩ | ⟨c, hlt, hx, hget, hc, hc'⟩
        all_goals
          go_wp2
          go_quiet (fail)
          go_wp2_with fail
          generalize hW : wr.drewN _ = W1
          have hst2 : RStep w p s (zs.drop j) er W1 := by rw [← hW]; exact hst.drewN _
          clear hW
          refine (HFl.out _ hst2.1).mono ?_
          rintro e w3 ⟨rfl, hst3⟩
          go_wp2
          go_ret
          show NumPost w p s er M _ _
          rw [HM.out]
          exact ⟨rfl, _, hst2.of hst3⟩
      · have HM := Lib.hid hM
        clear hM
        rcases hex with hx | ⟨c, hlt, hx, hget, hc⟩ | ⟨c, hlt, hx, hget, hc, hc'⟩
        all_goals
          go_wp2
          go_quiet (fail)
          go_wp2_with fail
          generalize hW : wr.drewN _ = W1
          have hst2 : RStep w p s (zs.drop j) er W1 := by rw [← hW]; exact hst.drewN _
          clear hW
          refine (HFl.out _ hst2.1).mono ?_
          rintro e w3 ⟨rfl, hst3⟩
          go_wp2
          go_ret
          show NumPost w p s er M _ _
          rw [HM.out]
          exact ⟨rfl, _, hst2.of hst3⟩
      · have HM := Lib.hid hM
        clear hM
        rcases hex with hx | ⟨c, hlt, hx, hget, hc⟩ | ⟨c, hlt, hx, hget, hc, hc'⟩
        all_goals
          go_wp2
          go_quiet (fail)
          go_wp2_with fail
          generalize hW : wr.drewN _ = W1
          have hst2 : RStep w p s (zs.drop j) er W1 := by rw [← hW]; exact hst.drewN _
          clear hW
          refine (HFl.out _ hst2.1).mono ?_
          rintro e w3 ⟨rfl, hst3⟩
          go_wp2
          go_ret
          show NumPost w p s er M _ _
          rw [HM.out]
          exact ⟨rfl, _, hst2.of hst3⟩
      · have HM := Lib.hid hM
        clear hM HFl
        by_cases h0 : X = [45, 48]
        · have hb : ((s.extract k k1).toList == [45, 48]) = true := by rw [HPi.out, Lib.toList_data, h0]; rfl
          have HT := Lib.hid (show numT X = [48] by rw [numT, if_pos h0])
          clear h0
          rcases hex with hx | ⟨c, hlt, hx, hget, hc⟩ | ⟨c, hlt, hx, hget, hc, hc'⟩
          all_goals
            go_wp2
            go_quiet (fail)
            go_wp2
            go_quiet (fail)
            go_wp2
            go_ret
            show NumPost w p s er M _ _
            rw [HM.out, HT.out]
            exact ⟨rfl, (hst.drewN _).drewN _⟩
        · have hb : ((s.extract k k1).toList == [45, 48]) = false := by
            rw [HPi.out, Lib.toList_data, beq_eq_false_iff_ne]
            exact h0
          have HT := Lib.hid (show numT X = X by rw [numT, if_neg h0])
          clear h0
          rcases hex with hx | ⟨c, hlt, hx, hget, hc⟩ | ⟨c, hlt, hx, hget, hc, hc'⟩
          all_goals
            go_wp2
            go_quiet (fail)
            go_wp2
            go_quiet (fail)
            go_wp2
            go_quiet (fail)
            go_wp2
            go_ret
            show NumPost w p s er M _ _
            rw [HM.out, HT.out]
            exact ⟨congrArg (fun x => Ending.returned (.string x)) HPi.out, ((hst.drewN _).drewN _).drewN _⟩
      · have HM := Lib.hid hM
        clear hM HFl
        by_cases h0 : X = [45, 48]
        · have hb : ((s.extract k k1).toList == [45, 48]) = true := by rw [HPi.out, Lib.toList_data, h0]; rfl
          have HT := Lib.hid (show numT X = [48] by rw [numT, if_pos h0])
          clear h0
          rcases hex with hx | ⟨c, hlt, hx, hget, hc⟩ | ⟨c, hlt, hx, hget, hc, hc'⟩
          all_goals
            go_wp2
            go_quiet (fail)
            go_wp2
            go_quiet (fail)
            go_wp2
            go_ret
            show NumPost w p s er M _ _
            rw [HM.out, HT.out]
            exact ⟨rfl, (hst.drewN _).drewN _⟩
        · have hb : ((s.extract k k1).toList == [45, 48]) = false := by
            rw [HPi.out, Lib.toList_data, beq_eq_false_iff_ne]
            exact h0
          have HT := Lib.hid (show numT X = X by rw [numT, if_neg h0])
          clear h0
          rcases hex with hx | ⟨c, hlt, hx, hget, hc⟩ | ⟨c, hlt, hx, hget, hc, hc'⟩
          all_goals
            go_wp2
            go_quiet (fail)
            go_wp2
            go_quiet (fail)
            go_wp2
            go_quiet (fail)
            go_wp2
            go_ret
            show NumPost w p s er M _ _
            rw [HM.out, HT.out]
            exact ⟨congrArg (fun x => Ending.returned (.string x)) HPi.out, ((hst.drewN _).drewN _).drewN _⟩
end Go.Proofs.YtcamaloekanelaaDoor
