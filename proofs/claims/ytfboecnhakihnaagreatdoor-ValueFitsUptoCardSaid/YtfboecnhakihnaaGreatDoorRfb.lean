/-
  The reference's 'Fits' of every value.
-/
import Derived.Test.YtfboecnhakihnaaGreatDoorRff
namespace Go.Proofs.YtfboecnhakihnaaGreatDoor
open Go.RowKit Go.Shelf

theorem fitsU_some {S : List Nd} {a : Int} {nd : Nd} {k n : Int} {b : List Int} {l : List U} {ks : List ByteArray} (ha : ¬ a < 0) (hS : S[a.toNat]? = some nd) (hk : nd.kind = k) :
    fitsU aM1 S a (.mk k n b l ks) = (rbareV (kNum k) (kOct k) (kLst k) (kKey k) n b.length l.length ks.length && boundsV nd n b.length l.length ks.length (vbM b) (ubM ks) && fitsL aM1 S nd n 0 l) := by
  rw [fitsU, if_neg ha, hS]
  simp only [aM1, aloneV, U.kd, U.num, U.b, U.l, U.ks, hk, beq_self_eq_true, Bool.true_and]
  rfl
theorem fitsU_leaf {S : List Nd} {a : Int} {nd : Nd} {k n : Int} {b : List Int} {l : List U} {ks : List ByteArray} (ha : ¬ a < 0) (hS : S[a.toNat]? = some nd) (hk : nd.kind = k) (hl : kLst k = false) :
    fitsU aM1 S a (.mk k n b l ks) = (rbareV (kNum k) (kOct k) false (kKey k) n b.length l.length ks.length && boundsV nd n b.length l.length ks.length (vbM b) (ubM ks)) := by
  rw [fitsU_some ha hS hk, hl]
  cases l with
  | nil => simp [fitsL]
  | cons x r => 
    have : rbareV (kNum k) (kOct k) false (kKey k) n b.length (x :: r).length ks.length = false := by
      unfold rbareV
      have : (((x :: r).length : Int) == 0) = false := by simp; omega
      rw [this]; simp
    rw [this]; simp
theorem fitsL_all {S : List Nd} {nd : Nd} {num : Int} (h9 : nd.kind ≠ 9) (h13 : nd.kind ≠ 13) : ∀ (l : List U) (i : Nat), fitsL aM1 S nd num i l = l.all (fitsU aM1 S nd.items)
  | [], _ => by simp [fitsL]
  | x :: r, i => by
    rw [fitsL, fitsL_all h9 h13 r (i + 1)]
    simp only [innerM, if_neg h9, if_neg h13, List.all_cons]
theorem fitsL9_true {S : List Nd} {nd : Nd} {num : Int} (h9 : nd.kind = 9) : ∀ (l : List U) (i : Nat), (∀ j x, l[j]? = some x → ∃ f, nd.fs[i + j]? = some f ∧ fitsU aM1 S f.ty x = true) → fitsL aM1 S nd num i l = true
  | [], _, _ => by simp [fitsL]
  | x :: r, i, h => by
    obtain ⟨f, hf, hx⟩ := h 0 x rfl
    rw [fitsL, fitsL9_true h9 r (i + 1) (fun j y hy => by
      obtain ⟨f, hf, hx⟩ := h (j + 1) y (by simpa using hy)
      exact ⟨f, by rw [← hf]; congr 1; omega, hx⟩)]
    simp only [innerM, if_pos h9]
    rw [Nat.add_zero] at hf
    rw [hf]
    simp [hx]
theorem fitsL9_false {S : List Nd} {nd : Nd} {num : Int} (h9 : nd.kind = 9) : ∀ (l : List U) (i j : Nat) (x : U) (f : Fd), l[j]? = some x → nd.fs[i + j]? = some f → fitsU aM1 S f.ty x = false → fitsL aM1 S nd num i l = false
  | [], _, j, x, _, h, _, _ => by simp at h
  | y :: r, i, 0, x, f, h, hf, hx => by
    simp only [List.getElem?_cons_zero, Option.some.injEq] at h
    subst h
    rw [fitsL]
    simp only [innerM, if_pos h9]
    rw [Nat.add_zero] at hf
    rw [hf]
    simp [hx]
  | y :: r, i, j + 1, x, f, h, hf, hx => by
    rw [fitsL, fitsL9_false h9 r (i + 1) j x f (by simpa using h) (by rw [← hf]; congr 1; omega) hx, Bool.and_false]
theorem fitsL13_one {S : List Nd} {nd : Nd} {num : Int} (h13 : nd.kind = 13) (h0 : 0 ≤ num) {x : U} {t : Int} (ht : nd.br[num.toNat]? = some t) : fitsL aM1 S nd num 0 [x] = fitsU aM1 S t x := by
  rw [fitsL, fitsL]
  simp only [innerM, if_neg (show ¬ nd.kind = 9 by omega), if_pos h13, if_pos h0, ht, Bool.and_true]
set_option maxRecDepth 100000 in
set_option maxHeartbeats 16000000 in
theorem rfits_step (k n : Int) (b : List Int) (l : List U) (ks : List ByteArray) (hs : ∀ x, x ∈ l → RfC x) : RfC (.mk k n b l ks) := by
  intro S vs a w v0 v1 v2 v3 v4 hN hu hT hc hk
  have hcl : uc (.mk k n b l ks) = 1 + ucL l := uc_l _
  have hkl : uk (.mk k n b l ks) = ks.length + ukL l := uk_l _
  rw [hcl] at hc
  rw [hkl] at hk
  have hll : l.length ≤ 100000 := Nat.le_trans (ucL_len l) (by omega)
  have hkn : ks.length ≤ 1000000 := by omega
  obtain ⟨As, caps, cs, rfl, hScap, _, hS4, hS5⟩ := id hN
  cases hu with
  | mk _ _ _ _ _ B A A' capb cap cap' c h1 h2 h3 h4 hcapb hcap hcap' hB hL hK hE =>
    have HS := Lib.hid hs
    have HN := Lib.hid hN
    have HT := Lib.hid hT
    have HC := Lib.hid hc
    have HKB := Lib.hid hk
    have HS4 := Lib.hid hS4
    have HS5 := Lib.hid hS5
    have HBY := Lib.hid h3
    have HKS := Lib.hid h4
    have HCB := Lib.hid hcapb
    have HB := Lib.hid hB
    have HL := Lib.hid hL
    have HK := Lib.hid hK
    have HE := Lib.hid hE
    obtain ⟨W0, hW0⟩ : ∃ W0, (w.alloc (.cells #[.slice As S.length caps] 24)).alloc (.cells #[.int .i64 k, .int .i64 n, .slice B b.length capb, .slice A l.length cap, .slice A' ks.length cap'] 29) = W0 := ⟨_, rfl⟩
    have hb0 : Below w.heap.size w W0 := by rw [← hW0]; exact ((Below.refl _ w).alloc (Nat.le_refl _) _).alloc (by simp) _
    have a0 : W0.heap[w.heap.size]? = some (.cells #[.slice As S.length caps] 24 (0, 0)) := by rw [← hW0]; exact old_at _ (new_at rfl _)
    have v0 : W0.heap[w.heap.size + 1]? = some (.cells #[.int .i64 k, .int .i64 n, .slice B b.length capb, .slice A l.length cap, .slice A' ks.length cap'] 29 (0, 0)) := by rw [← hW0]; exact new_at (by simp) _
    have hs0 : W0.heap.size = w.heap.size + 2 := by rw [← hW0]; simp
    clear hs hN hT hc hk hS4 hS5 h1 h2 h3 h4 hcapb hB hL hK hE hcl hkl
    have y0p := fun p : Aft W0 => p.fr.cell (cell_of_row W0 w.heap.size 0 _ _ _ a0) trivial
    have x0p := fun p : Aft W0 => p.fr.cell (cell_of_row W0 (w.heap.size + 1) 0 _ _ _ v0) trivial
    have HA0 := Lib.hid a0
    have HV0 := Lib.hid v0
    have HB0 := Lib.hid hb0
    have HS0 := Lib.hid hs0
    have HW0 := Lib.hid hW0
    clear a0 v0 hb0 hs0 hW0
    by_cases hA : a < 0
    · have hAd : decide (a < 0) = true := decide_eq_true hA
      have HF : Hid (fitsU aM1 S a (.mk k n b l ks) = false) := Lib.hid (by rw [fitsU, if_pos hA])
      go_enter Tryz.func11, Tryz.ntmps11
      go_upto_region 1 with fail
      rw [HW0.out]
      refine reg_aft (by kernel_rfl) (by kernel_rfl) ?_
      repeat (go_big_quiet_step (fail))
      refine wpQuiet_nil ?_
      rintro ⟨W5, hf5⟩
      show Exit.then _ _ Exit.normal _ W5
      have hb5 := HB0.out.trans ((fr_belowT hf5).mono HB0.out.size)
      have HB5 := Lib.hid hb5
      clear hb5 hf5 y0p x0p
      go_wp2
      go_ret
      exact ⟨by rw [HF.out]; rfl, HB5.out⟩
    · have hAd : decide (a < 0) = false := decide_eq_false hA
      cases hSn : S[a.toNat]? with
      | none =>
        have hge : S.length ≤ a.toNat := List.getElem?_eq_none_iff.1 hSn
        have hBd : decide ((S.length : Int) ≤ a) = true := decide_eq_true (by omega)
        have HF : Hid (fitsU aM1 S a (.mk k n b l ks) = false) := Lib.hid (by rw [fitsU, if_neg hA, hSn])
        go_enter Tryz.func11, Tryz.ntmps11
        go_upto_region 1 with fail
        rw [HW0.out]
        refine reg_aft (by kernel_rfl) (by kernel_rfl) ?_
        repeat (go_big_quiet_step (fail))
        refine wpQuiet_nil ?_
        rintro ⟨W5, hf5⟩
        show Exit.then _ _ Exit.normal _ W5
        have hb5 := HB0.out.trans ((fr_belowT hf5).mono HB0.out.size)
        have HB5 := Lib.hid hb5
        clear hb5 hf5 y0p x0p
        go_wp2
        go_ret
        exact ⟨by rw [HF.out]; rfl, HB5.out⟩
      | some nd =>
        have hlt : a.toNat < S.length := (List.getElem?_eq_some_iff.1 hSn).1
        obtain ⟨m, hm⟩ : ∃ q : Nat, a = q := ⟨a.toNat, by omega⟩
        subst hm
        simp only [Int.toNat_natCast] at hSn hlt
        have hBd : decide ((S.length : Int) ≤ (m : Int)) = false := decide_eq_false (by omega)
        have hBd2 : decide (S.length ≤ m) = false := decide_eq_false (by omega)
        have hBi : (m : Int) < (S.length : Int) := by omega
        obtain ⟨gS, oS, rfl, _, hcS⟩ := HS4.out (by omega)
        have hnd := HS5.out m nd hSn
        have q0 := hnd.kind
        have zc : ∀ j, j < 10 → w.cell? ⟨gS, oS + m * 10 + j, none⟩ = some (cs m j) := fun j hj => by
          have := hcS m j hlt hj
          rwa [show oS + (10 * m + j) = oS + m * 10 + j by omega] at this
        have z0 := zc 0 (by omega)
        rw [Nat.add_zero, q0] at z0
        have z0p := fun p : Aft W0 => ((below_fr0 HB0.out).trans p.fr).cell z0 trivial
        have HZC := Lib.hid zc
        have HND := Lib.hid hnd
        have HSN := Lib.hid hSn
        obtain ⟨kd, hkd⟩ : ∃ kd, nd.kind = kd := ⟨_, rfl⟩
        rw [hkd] at q0 z0p
        have HKD := Lib.hid hkd
        clear hcS zc z0 hnd hSn hkd
        by_cases hke : kd = k
        · subst hke
          have hkq : (kd != kd) = false := by simp
          have hkq2 : (kd == kd) = true := by simp
          go_enter Tryz.func11, Tryz.ntmps11
          go_upto_region 1 with fail
          rw [HW0.out]
          refine reg_aft (by kernel_rfl) (by kernel_rfl) ?_
          repeat (go_big_quiet_step (fail))
          refine wpQuiet_nil ?_
          rintro ⟨W5, hf5⟩
          show Exit.then _ _ Exit.normal _ W5
          have HF5 := Lib.hid ((below_fr0 HB0.out).trans hf5)
          have hb5 : Below w.heap.size w W5 := HB0.out.trans ((fr_belowT hf5).mono HB0.out.size)
          have hv5 := hf5.at HV0.out trivial
          have ha5 := hf5.at HA0.out trivial
          have x0 : W5.cell? ⟨w.heap.size + 1, 0, none⟩ = some (.int .i64 kd) := cell_of_row _ _ 0 _ _ _ hv5
          have y0 : W5.cell? ⟨w.heap.size, 0, none⟩ = some (.slice (some ⟨gS, oS, none⟩) S.length caps) := cell_of_row _ _ 0 _ _ _ ha5
          obtain ⟨Af, capf, cf, q3, _, _, hfc, hfe⟩ := HND.out.fs
          obtain ⟨Ay, capy, q4, _⟩ := HND.out.sy
          obtain ⟨Ar, capr, q8, _, _, _, hrc⟩ := HND.out.br
          obtain ⟨Al, capl, q2, _⟩ := HND.out.al
          have q1 := HND.out.name
          have q5 := HND.out.has
          have q6 := HND.out.dflt
          have q7 := HND.out.items
          have q9 := HND.out.size
          have z0 : W5.cell? ⟨gS, oS + m * 10, none⟩ = some (.int .i64 kd) := by have := HF5.out.cell (HZC.out 0 (by omega)) trivial; rw [q0, Nat.add_zero] at this; exact this
          have z1 := HF5.out.cell (HZC.out 1 (by omega)) trivial
          have z2 := HF5.out.cell (HZC.out 2 (by omega)) trivial
          have z3 := HF5.out.cell (HZC.out 3 (by omega)) trivial
          have z4 := HF5.out.cell (HZC.out 4 (by omega)) trivial
          have z5 := HF5.out.cell (HZC.out 5 (by omega)) trivial
          have z6 := HF5.out.cell (HZC.out 6 (by omega)) trivial
          have z7 := HF5.out.cell (HZC.out 7 (by omega)) trivial
          have z8 := HF5.out.cell (HZC.out 8 (by omega)) trivial
          have z9 := HF5.out.cell (HZC.out 9 (by omega)) trivial
          rw [q1] at z1
          rw [q2] at z2
          rw [q5] at z5
          rw [q6] at z6
          rw [q3] at z3
          rw [q4] at z4
          rw [q7] at z7
          rw [q8] at z8
          rw [q9] at z9
          have HFC := Lib.hid hfc
          have HFE := Lib.hid hfe
          have HRC := Lib.hid hrc
          have HV5 := Lib.hid hv5
          have HA5 := Lib.hid ha5
          have HB5 := Lib.hid hb5
          clear hf5 hv5 ha5 hb5 y0p x0p z0p hfc hfe hrc q0 q1 q2 q3 q4 q5 q6 q7 q8 q9 HZC HS4 HS5 hkq hkq2
          go_upto_region 4 with fail
          clear z0 z1 z2 z3 z4 z5 z6 z7 z8 z9 x0 y0
          obtain ⟨N, hNN⟩ : ∃ N, W5.heap.size = N := ⟨_, rfl⟩
          rw [hNN]
          obtain ⟨W6, hW6⟩ : ∃ W6, W5.alloc (.cells #[.int .i64 kd, .string nd.name, .slice Al nd.al.length capl, .slice Af nd.fs.length capf, .slice Ay nd.sy.length capy, .bool nd.has, .string nd.dflt, .int .i64 nd.items, .slice Ar nd.br.length capr, .int .i64 nd.size] 61) = W6 := ⟨_, rfl⟩
          rw [hW6]
          have hb6 : Below w.heap.size w W6 := by rw [← hW6]; exact HB5.out.alloc HB5.out.size _
          have hv6 : W6.heap[w.heap.size + 1]? = some (.cells #[.int .i64 kd, .int .i64 n, .slice B b.length capb, .slice A l.length cap, .slice A' ks.length cap'] 29 (0, 0)) := by rw [← hW6]; exact old_at _ HV5.out
          have ha6 : W6.heap[w.heap.size]? = some (.cells #[.slice (some ⟨gS, oS, none⟩) S.length caps] 24 (0, 0)) := by rw [← hW6]; exact old_at _ HA5.out
          have hn6 : W6.heap[N]? = some (.cells #[.int .i64 kd, .string nd.name, .slice Al nd.al.length capl, .slice Af nd.fs.length capf, .slice Ay nd.sy.length capy, .bool nd.has, .string nd.dflt, .int .i64 nd.items, .slice Ar nd.br.length capr, .int .i64 nd.size] 61 (0, 0)) := by rw [← hW6]; exact new_at hNN _
          have HB6 := Lib.hid hb6
          have HV6 := Lib.hid hv6
          have HA6 := Lib.hid ha6
          have HN6 := Lib.hid hn6
          clear hb6 ha6 hn6 hW6 hNN HF5 HV5 HA5 HB5 HS0 HW0 HB0 HV0 HA0
          obtain ⟨p0, p1, p2, p3, p4⟩ := cells_5 hv6
          clear hv6
          by_cases h1 : kd = 1
          · subst h1
            have hFF := fitsU_leaf (S := S) (n := n) (b := b) (l := l) (ks := ks) hA (by rw [Int.toNat_natCast]; exact HSN.out) HKD.out (by rfl)
            have hBV : boundsV nd n b.length l.length ks.length (vbM b) (ubM ks) = (true) := by unfold boundsV; rw [HKD.out]; rfl
            rw [hBV] at hFF
            obtain ⟨bb, hbb⟩ : ∃ bb, rbareV false false false false n b.length l.length ks.length = bb := ⟨_, rfl⟩
            have HFF : Hid (fitsU aM1 S (m : Int) (.mk 1 n b l ks) = (bb && (true))) := Lib.hid (by rw [hFF, ← hbb]; rfl)
            have hbare := rbare_any false false false false 1 n B A A' b.length capb l.length cap ks.length cap' W6
            rw [hbb] at hbare
            clear hFF hBV hbb HKD
            go_wp2_with fail
            refine hbare.mono ?_
            rintro e w1 ⟨rfl, hb1⟩
            have hvw1 := (below_fr0 hb1).at HV6.out trivial
            have hnw1 := (below_fr0 hb1).at HN6.out trivial
            have haw1 := (below_fr0 hb1).at HA6.out trivial
            have hbw : Below w.heap.size w w1 := HB6.out.trans (hb1.mono HB6.out.size)
            have HBW := Lib.hid hbw
            obtain ⟨r0, r1, r2, r3, r4⟩ := cells_5 hvw1
            have s3 : w1.cell? ⟨N, 3, none⟩ = some (.slice Af nd.fs.length capf) := cell_of_row _ _ 3 _ _ _ hnw1
            have s4 : w1.cell? ⟨N, 4, none⟩ = some (.slice Ay nd.sy.length capy) := cell_of_row _ _ 4 _ _ _ hnw1
            have s7 : w1.cell? ⟨N, 7, none⟩ = some (.int .i64 nd.items) := cell_of_row _ _ 7 _ _ _ hnw1
            have s8 : w1.cell? ⟨N, 8, none⟩ = some (.slice Ar nd.br.length capr) := cell_of_row _ _ 8 _ _ _ hnw1
            have s9 : w1.cell? ⟨N, 9, none⟩ = some (.int .i64 nd.size) := cell_of_row _ _ 9 _ _ _ hnw1
            have t0 : w1.cell? ⟨w.heap.size, 0, none⟩ = some (.slice (some ⟨gS, oS, none⟩) S.length caps) := cell_of_row _ _ 0 _ _ _ haw1
            have HB1 := Lib.hid hb1
            clear hbare p0 p1 p2 p3 p4 hbw hvw1 hnw1 haw1 hb1
            cases bb with
            | false =>
              go_wp2
              go_ret
              exact ⟨by rw [HFF.out]; rfl, HBW.out⟩
            | true =>
              go_wp2
              all_goals (go_ret; exact ⟨by rw [HFF.out]; first | rfl | (simp [*]; done) | (simp [*]; omega), HBW.out⟩)
          by_cases h2 : kd = 2
          · subst h2
            have hFF := fitsU_leaf (S := S) (n := n) (b := b) (l := l) (ks := ks) hA (by rw [Int.toNat_natCast]; exact HSN.out) HKD.out (by rfl)
            have hBV : boundsV nd n b.length l.length ks.length (vbM b) (ubM ks) = (n == 0 || n == 1) := by unfold boundsV; rw [HKD.out]; rfl
            rw [hBV] at hFF
            obtain ⟨bb, hbb⟩ : ∃ bb, rbareV true false false false n b.length l.length ks.length = bb := ⟨_, rfl⟩
            have HFF : Hid (fitsU aM1 S (m : Int) (.mk 2 n b l ks) = (bb && (n == 0 || n == 1))) := Lib.hid (by rw [hFF, ← hbb]; rfl)
            have hbare := rbare_any true false false false 2 n B A A' b.length capb l.length cap ks.length cap' W6
            rw [hbb] at hbare
            clear hFF hBV hbb HKD
            go_wp2_with fail
            refine hbare.mono ?_
            rintro e w1 ⟨rfl, hb1⟩
            have hvw1 := (below_fr0 hb1).at HV6.out trivial
            have hnw1 := (below_fr0 hb1).at HN6.out trivial
            have haw1 := (below_fr0 hb1).at HA6.out trivial
            have hbw : Below w.heap.size w w1 := HB6.out.trans (hb1.mono HB6.out.size)
            have HBW := Lib.hid hbw
            obtain ⟨r0, r1, r2, r3, r4⟩ := cells_5 hvw1
            have s3 : w1.cell? ⟨N, 3, none⟩ = some (.slice Af nd.fs.length capf) := cell_of_row _ _ 3 _ _ _ hnw1
            have s4 : w1.cell? ⟨N, 4, none⟩ = some (.slice Ay nd.sy.length capy) := cell_of_row _ _ 4 _ _ _ hnw1
            have s7 : w1.cell? ⟨N, 7, none⟩ = some (.int .i64 nd.items) := cell_of_row _ _ 7 _ _ _ hnw1
            have s8 : w1.cell? ⟨N, 8, none⟩ = some (.slice Ar nd.br.length capr) := cell_of_row _ _ 8 _ _ _ hnw1
            have s9 : w1.cell? ⟨N, 9, none⟩ = some (.int .i64 nd.size) := cell_of_row _ _ 9 _ _ _ hnw1
            have t0 : w1.cell? ⟨w.heap.size, 0, none⟩ = some (.slice (some ⟨gS, oS, none⟩) S.length caps) := cell_of_row _ _ 0 _ _ _ haw1
            have HB1 := Lib.hid hb1
            clear hbare p0 p1 p2 p3 p4 hbw hvw1 hnw1 haw1 hb1
            cases bb with
            | false =>
              go_wp2
              go_ret
              exact ⟨by rw [HFF.out]; rfl, HBW.out⟩
            | true =>
              go_wp2
              all_goals (go_ret; exact ⟨by rw [HFF.out]; first | rfl | (simp [*]; done) | (simp [*]; omega), HBW.out⟩)
          by_cases h3 : kd = 3
          · subst h3
            have hFF := fitsU_leaf (S := S) (n := n) (b := b) (l := l) (ks := ks) hA (by rw [Int.toNat_natCast]; exact HSN.out) HKD.out (by rfl)
            have hBV : boundsV nd n b.length l.length ks.length (vbM b) (ubM ks) = (decide (-2147483648 ≤ n) && decide (n ≤ 2147483647)) := by unfold boundsV; rw [HKD.out]; rfl
            rw [hBV] at hFF
            obtain ⟨bb, hbb⟩ : ∃ bb, rbareV true false false false n b.length l.length ks.length = bb := ⟨_, rfl⟩
            have HFF : Hid (fitsU aM1 S (m : Int) (.mk 3 n b l ks) = (bb && (decide (-2147483648 ≤ n) && decide (n ≤ 2147483647)))) := Lib.hid (by rw [hFF, ← hbb]; rfl)
            have hbare := rbare_any true false false false 3 n B A A' b.length capb l.length cap ks.length cap' W6
            rw [hbb] at hbare
            clear hFF hBV hbb HKD
            go_wp2_with fail
            refine hbare.mono ?_
            rintro e w1 ⟨rfl, hb1⟩
            have hvw1 := (below_fr0 hb1).at HV6.out trivial
            have hnw1 := (below_fr0 hb1).at HN6.out trivial
            have haw1 := (below_fr0 hb1).at HA6.out trivial
            have hbw : Below w.heap.size w w1 := HB6.out.trans (hb1.mono HB6.out.size)
            have HBW := Lib.hid hbw
            obtain ⟨r0, r1, r2, r3, r4⟩ := cells_5 hvw1
            have s3 : w1.cell? ⟨N, 3, none⟩ = some (.slice Af nd.fs.length capf) := cell_of_row _ _ 3 _ _ _ hnw1
            have s4 : w1.cell? ⟨N, 4, none⟩ = some (.slice Ay nd.sy.length capy) := cell_of_row _ _ 4 _ _ _ hnw1
            have s7 : w1.cell? ⟨N, 7, none⟩ = some (.int .i64 nd.items) := cell_of_row _ _ 7 _ _ _ hnw1
            have s8 : w1.cell? ⟨N, 8, none⟩ = some (.slice Ar nd.br.length capr) := cell_of_row _ _ 8 _ _ _ hnw1
            have s9 : w1.cell? ⟨N, 9, none⟩ = some (.int .i64 nd.size) := cell_of_row _ _ 9 _ _ _ hnw1
            have t0 : w1.cell? ⟨w.heap.size, 0, none⟩ = some (.slice (some ⟨gS, oS, none⟩) S.length caps) := cell_of_row _ _ 0 _ _ _ haw1
            have HB1 := Lib.hid hb1
            clear hbare p0 p1 p2 p3 p4 hbw hvw1 hnw1 haw1 hb1
            cases bb with
            | false =>
              go_wp2
              go_ret
              exact ⟨by rw [HFF.out]; rfl, HBW.out⟩
            | true =>
              go_wp2
              all_goals (go_ret; exact ⟨by rw [HFF.out]; first | rfl | (simp [*]; done) | (simp [*]; omega), HBW.out⟩)
          by_cases h4 : kd = 4
          · subst h4
            have hFF := fitsU_leaf (S := S) (n := n) (b := b) (l := l) (ks := ks) hA (by rw [Int.toNat_natCast]; exact HSN.out) HKD.out (by rfl)
            have hBV : boundsV nd n b.length l.length ks.length (vbM b) (ubM ks) = (true) := by unfold boundsV; rw [HKD.out]; rfl
            rw [hBV] at hFF
            obtain ⟨bb, hbb⟩ : ∃ bb, rbareV true false false false n b.length l.length ks.length = bb := ⟨_, rfl⟩
            have HFF : Hid (fitsU aM1 S (m : Int) (.mk 4 n b l ks) = (bb && (true))) := Lib.hid (by rw [hFF, ← hbb]; rfl)
            have hbare := rbare_any true false false false 4 n B A A' b.length capb l.length cap ks.length cap' W6
            rw [hbb] at hbare
            clear hFF hBV hbb HKD
            go_wp2_with fail
            refine hbare.mono ?_
            rintro e w1 ⟨rfl, hb1⟩
            have hvw1 := (below_fr0 hb1).at HV6.out trivial
            have hnw1 := (below_fr0 hb1).at HN6.out trivial
            have haw1 := (below_fr0 hb1).at HA6.out trivial
            have hbw : Below w.heap.size w w1 := HB6.out.trans (hb1.mono HB6.out.size)
            have HBW := Lib.hid hbw
            obtain ⟨r0, r1, r2, r3, r4⟩ := cells_5 hvw1
            have s3 : w1.cell? ⟨N, 3, none⟩ = some (.slice Af nd.fs.length capf) := cell_of_row _ _ 3 _ _ _ hnw1
            have s4 : w1.cell? ⟨N, 4, none⟩ = some (.slice Ay nd.sy.length capy) := cell_of_row _ _ 4 _ _ _ hnw1
            have s7 : w1.cell? ⟨N, 7, none⟩ = some (.int .i64 nd.items) := cell_of_row _ _ 7 _ _ _ hnw1
            have s8 : w1.cell? ⟨N, 8, none⟩ = some (.slice Ar nd.br.length capr) := cell_of_row _ _ 8 _ _ _ hnw1
            have s9 : w1.cell? ⟨N, 9, none⟩ = some (.int .i64 nd.size) := cell_of_row _ _ 9 _ _ _ hnw1
            have t0 : w1.cell? ⟨w.heap.size, 0, none⟩ = some (.slice (some ⟨gS, oS, none⟩) S.length caps) := cell_of_row _ _ 0 _ _ _ haw1
            have HB1 := Lib.hid hb1
            clear hbare p0 p1 p2 p3 p4 hbw hvw1 hnw1 haw1 hb1
            cases bb with
            | false =>
              go_wp2
              go_ret
              exact ⟨by rw [HFF.out]; rfl, HBW.out⟩
            | true =>
              go_wp2
              all_goals (go_ret; exact ⟨by rw [HFF.out]; first | rfl | (simp [*]; done) | (simp [*]; omega), HBW.out⟩)
          by_cases h5 : kd = 5
          · subst h5
            have hFF := fitsU_leaf (S := S) (n := n) (b := b) (l := l) (ks := ks) hA (by rw [Int.toNat_natCast]; exact HSN.out) HKD.out (by rfl)
            have hBV : boundsV nd n b.length l.length ks.length (vbM b) (ubM ks) = ((b.length : Int) == 4) := by unfold boundsV; rw [HKD.out]; rfl
            rw [hBV] at hFF
            obtain ⟨bb, hbb⟩ : ∃ bb, rbareV false true false false n b.length l.length ks.length = bb := ⟨_, rfl⟩
            have HFF : Hid (fitsU aM1 S (m : Int) (.mk 5 n b l ks) = (bb && ((b.length : Int) == 4))) := Lib.hid (by rw [hFF, ← hbb]; rfl)
            have hbare := rbare_any false true false false 5 n B A A' b.length capb l.length cap ks.length cap' W6
            rw [hbb] at hbare
            clear hFF hBV hbb HKD
            go_wp2_with fail
            refine hbare.mono ?_
            rintro e w1 ⟨rfl, hb1⟩
            have hvw1 := (below_fr0 hb1).at HV6.out trivial
            have hnw1 := (below_fr0 hb1).at HN6.out trivial
            have haw1 := (below_fr0 hb1).at HA6.out trivial
            have hbw : Below w.heap.size w w1 := HB6.out.trans (hb1.mono HB6.out.size)
            have HBW := Lib.hid hbw
            obtain ⟨r0, r1, r2, r3, r4⟩ := cells_5 hvw1
            have s3 : w1.cell? ⟨N, 3, none⟩ = some (.slice Af nd.fs.length capf) := cell_of_row _ _ 3 _ _ _ hnw1
            have s4 : w1.cell? ⟨N, 4, none⟩ = some (.slice Ay nd.sy.length capy) := cell_of_row _ _ 4 _ _ _ hnw1
            have s7 : w1.cell? ⟨N, 7, none⟩ = some (.int .i64 nd.items) := cell_of_row _ _ 7 _ _ _ hnw1
            have s8 : w1.cell? ⟨N, 8, none⟩ = some (.slice Ar nd.br.length capr) := cell_of_row _ _ 8 _ _ _ hnw1
            have s9 : w1.cell? ⟨N, 9, none⟩ = some (.int .i64 nd.size) := cell_of_row _ _ 9 _ _ _ hnw1
            have t0 : w1.cell? ⟨w.heap.size, 0, none⟩ = some (.slice (some ⟨gS, oS, none⟩) S.length caps) := cell_of_row _ _ 0 _ _ _ haw1
            have HB1 := Lib.hid hb1
            clear hbare p0 p1 p2 p3 p4 hbw hvw1 hnw1 haw1 hb1
            cases bb with
            | false =>
              go_wp2
              go_ret
              exact ⟨by rw [HFF.out]; rfl, HBW.out⟩
            | true =>
              go_wp2
              all_goals (go_ret; exact ⟨by rw [HFF.out]; first | rfl | (simp [*]; done) | (simp [*]; omega), HBW.out⟩)
          by_cases h6 : kd = 6
          · subst h6
            have hFF := fitsU_leaf (S := S) (n := n) (b := b) (l := l) (ks := ks) hA (by rw [Int.toNat_natCast]; exact HSN.out) HKD.out (by rfl)
            have hBV : boundsV nd n b.length l.length ks.length (vbM b) (ubM ks) = ((b.length : Int) == 8) := by unfold boundsV; rw [HKD.out]; rfl
            rw [hBV] at hFF
            obtain ⟨bb, hbb⟩ : ∃ bb, rbareV false true false false n b.length l.length ks.length = bb := ⟨_, rfl⟩
            have HFF : Hid (fitsU aM1 S (m : Int) (.mk 6 n b l ks) = (bb && ((b.length : Int) == 8))) := Lib.hid (by rw [hFF, ← hbb]; rfl)
            have hbare := rbare_any false true false false 6 n B A A' b.length capb l.length cap ks.length cap' W6
            rw [hbb] at hbare
            clear hFF hBV hbb HKD
            go_wp2_with fail
            refine hbare.mono ?_
            rintro e w1 ⟨rfl, hb1⟩
            have hvw1 := (below_fr0 hb1).at HV6.out trivial
            have hnw1 := (below_fr0 hb1).at HN6.out trivial
            have haw1 := (below_fr0 hb1).at HA6.out trivial
            have hbw : Below w.heap.size w w1 := HB6.out.trans (hb1.mono HB6.out.size)
            have HBW := Lib.hid hbw
            obtain ⟨r0, r1, r2, r3, r4⟩ := cells_5 hvw1
            have s3 : w1.cell? ⟨N, 3, none⟩ = some (.slice Af nd.fs.length capf) := cell_of_row _ _ 3 _ _ _ hnw1
            have s4 : w1.cell? ⟨N, 4, none⟩ = some (.slice Ay nd.sy.length capy) := cell_of_row _ _ 4 _ _ _ hnw1
            have s7 : w1.cell? ⟨N, 7, none⟩ = some (.int .i64 nd.items) := cell_of_row _ _ 7 _ _ _ hnw1
            have s8 : w1.cell? ⟨N, 8, none⟩ = some (.slice Ar nd.br.length capr) := cell_of_row _ _ 8 _ _ _ hnw1
            have s9 : w1.cell? ⟨N, 9, none⟩ = some (.int .i64 nd.size) := cell_of_row _ _ 9 _ _ _ hnw1
            have t0 : w1.cell? ⟨w.heap.size, 0, none⟩ = some (.slice (some ⟨gS, oS, none⟩) S.length caps) := cell_of_row _ _ 0 _ _ _ haw1
            have HB1 := Lib.hid hb1
            clear hbare p0 p1 p2 p3 p4 hbw hvw1 hnw1 haw1 hb1
            cases bb with
            | false =>
              go_wp2
              go_ret
              exact ⟨by rw [HFF.out]; rfl, HBW.out⟩
            | true =>
              go_wp2
              all_goals (go_ret; exact ⟨by rw [HFF.out]; first | rfl | (simp [*]; done) | (simp [*]; omega), HBW.out⟩)
          by_cases h7 : kd = 7
          · subst h7
            have hFF := fitsU_leaf (S := S) (n := n) (b := b) (l := l) (ks := ks) hA (by rw [Int.toNat_natCast]; exact HSN.out) HKD.out (by rfl)
            have hBV : boundsV nd n b.length l.length ks.length (vbM b) (ubM ks) = (true) := by unfold boundsV; rw [HKD.out]; rfl
            rw [hBV] at hFF
            obtain ⟨bb, hbb⟩ : ∃ bb, rbareV false true false false n b.length l.length ks.length = bb := ⟨_, rfl⟩
            have HFF : Hid (fitsU aM1 S (m : Int) (.mk 7 n b l ks) = (bb && (true))) := Lib.hid (by rw [hFF, ← hbb]; rfl)
            have hbare := rbare_any false true false false 7 n B A A' b.length capb l.length cap ks.length cap' W6
            rw [hbb] at hbare
            clear hFF hBV hbb HKD
            go_wp2_with fail
            refine hbare.mono ?_
            rintro e w1 ⟨rfl, hb1⟩
            have hvw1 := (below_fr0 hb1).at HV6.out trivial
            have hnw1 := (below_fr0 hb1).at HN6.out trivial
            have haw1 := (below_fr0 hb1).at HA6.out trivial
            have hbw : Below w.heap.size w w1 := HB6.out.trans (hb1.mono HB6.out.size)
            have HBW := Lib.hid hbw
            obtain ⟨r0, r1, r2, r3, r4⟩ := cells_5 hvw1
            have s3 : w1.cell? ⟨N, 3, none⟩ = some (.slice Af nd.fs.length capf) := cell_of_row _ _ 3 _ _ _ hnw1
            have s4 : w1.cell? ⟨N, 4, none⟩ = some (.slice Ay nd.sy.length capy) := cell_of_row _ _ 4 _ _ _ hnw1
            have s7 : w1.cell? ⟨N, 7, none⟩ = some (.int .i64 nd.items) := cell_of_row _ _ 7 _ _ _ hnw1
            have s8 : w1.cell? ⟨N, 8, none⟩ = some (.slice Ar nd.br.length capr) := cell_of_row _ _ 8 _ _ _ hnw1
            have s9 : w1.cell? ⟨N, 9, none⟩ = some (.int .i64 nd.size) := cell_of_row _ _ 9 _ _ _ hnw1
            have t0 : w1.cell? ⟨w.heap.size, 0, none⟩ = some (.slice (some ⟨gS, oS, none⟩) S.length caps) := cell_of_row _ _ 0 _ _ _ haw1
            have HB1 := Lib.hid hb1
            clear hbare p0 p1 p2 p3 p4 hbw hvw1 hnw1 haw1 hb1
            cases bb with
            | false =>
              go_wp2
              go_ret
              exact ⟨by rw [HFF.out]; rfl, HBW.out⟩
            | true =>
              go_wp2
              all_goals (go_ret; exact ⟨by rw [HFF.out]; first | rfl | (simp [*]; done) | (simp [*]; omega), HBW.out⟩)
          by_cases h8 : kd = 8
          · subst h8
            have hFF := fitsU_leaf (S := S) (n := n) (b := b) (l := l) (ks := ks) hA (by rw [Int.toNat_natCast]; exact HSN.out) HKD.out (by rfl)
            have hBV : boundsV nd n b.length l.length ks.length (vbM b) (ubM ks) = (vbM b) := by unfold boundsV; rw [HKD.out]; rfl
            rw [hBV] at hFF
            obtain ⟨bb, hbb⟩ : ∃ bb, rbareV false true false false n b.length l.length ks.length = bb := ⟨_, rfl⟩
            have HFF : Hid (fitsU aM1 S (m : Int) (.mk 8 n b l ks) = (bb && (vbM b))) := Lib.hid (by rw [hFF, ← hbb]; rfl)
            have hbare := rbare_any false true false false 8 n B A A' b.length capb l.length cap ks.length cap' W6
            rw [hbb] at hbare
            clear hFF hBV hbb HKD
            go_wp2_with fail
            refine hbare.mono ?_
            rintro e w1 ⟨rfl, hb1⟩
            have hvw1 := (below_fr0 hb1).at HV6.out trivial
            have hnw1 := (below_fr0 hb1).at HN6.out trivial
            have haw1 := (below_fr0 hb1).at HA6.out trivial
            have hbw : Below w.heap.size w w1 := HB6.out.trans (hb1.mono HB6.out.size)
            have HBW := Lib.hid hbw
            obtain ⟨r0, r1, r2, r3, r4⟩ := cells_5 hvw1
            have s3 : w1.cell? ⟨N, 3, none⟩ = some (.slice Af nd.fs.length capf) := cell_of_row _ _ 3 _ _ _ hnw1
            have s4 : w1.cell? ⟨N, 4, none⟩ = some (.slice Ay nd.sy.length capy) := cell_of_row _ _ 4 _ _ _ hnw1
            have s7 : w1.cell? ⟨N, 7, none⟩ = some (.int .i64 nd.items) := cell_of_row _ _ 7 _ _ _ hnw1
            have s8 : w1.cell? ⟨N, 8, none⟩ = some (.slice Ar nd.br.length capr) := cell_of_row _ _ 8 _ _ _ hnw1
            have s9 : w1.cell? ⟨N, 9, none⟩ = some (.int .i64 nd.size) := cell_of_row _ _ 9 _ _ _ hnw1
            have t0 : w1.cell? ⟨w.heap.size, 0, none⟩ = some (.slice (some ⟨gS, oS, none⟩) S.length caps) := cell_of_row _ _ 0 _ _ _ haw1
            have HB1 := Lib.hid hb1
            clear hbare p0 p1 p2 p3 p4 hbw hvw1 hnw1 haw1 hb1
            cases bb with
            | false =>
              go_wp2
              go_ret
              exact ⟨by rw [HFF.out]; rfl, HBW.out⟩
            | true =>
              have hval := vb_any b B capb w1 HBY.out HCB.out (fun h0 => by
                obtain ⟨g, off, e, hg, hc⟩ := HB.out h0
                exact ⟨g, off, e, Nat.lt_of_lt_of_le hg HBW.out.size, fun i x hx => (below_fr0 HBW.out).cell (hc i x hx) trivial⟩) (Utf8Tabs_below HT.out HBW.out)
              go_wp2_with fail
              refine hval.mono ?_
              rintro e w2 ⟨rfl, hb2⟩
              have hbw2 := HBW.out.trans (hb2.mono HBW.out.size)
              have HBW2 := Lib.hid hbw2
              clear hval hb2 hbw2
              go_wp2
              go_ret
              exact ⟨by rw [HFF.out]; simp, HBW2.out⟩
          by_cases h14 : kd = 14
          · subst h14
            have hFF := fitsU_leaf (S := S) (n := n) (b := b) (l := l) (ks := ks) hA (by rw [Int.toNat_natCast]; exact HSN.out) HKD.out (by rfl)
            have hBV : boundsV nd n b.length l.length ks.length (vbM b) (ubM ks) = ((b.length : Int) == nd.size) := by unfold boundsV; rw [HKD.out]; rfl
            rw [hBV] at hFF
            obtain ⟨bb, hbb⟩ : ∃ bb, rbareV false true false false n b.length l.length ks.length = bb := ⟨_, rfl⟩
            have HFF : Hid (fitsU aM1 S (m : Int) (.mk 14 n b l ks) = (bb && ((b.length : Int) == nd.size))) := Lib.hid (by rw [hFF, ← hbb]; rfl)
            have hbare := rbare_any false true false false 14 n B A A' b.length capb l.length cap ks.length cap' W6
            rw [hbb] at hbare
            clear hFF hBV hbb HKD
            go_wp2_with fail
            refine hbare.mono ?_
            rintro e w1 ⟨rfl, hb1⟩
            have hvw1 := (below_fr0 hb1).at HV6.out trivial
            have hnw1 := (below_fr0 hb1).at HN6.out trivial
            have haw1 := (below_fr0 hb1).at HA6.out trivial
            have hbw : Below w.heap.size w w1 := HB6.out.trans (hb1.mono HB6.out.size)
            have HBW := Lib.hid hbw
            obtain ⟨r0, r1, r2, r3, r4⟩ := cells_5 hvw1
            have s3 : w1.cell? ⟨N, 3, none⟩ = some (.slice Af nd.fs.length capf) := cell_of_row _ _ 3 _ _ _ hnw1
            have s4 : w1.cell? ⟨N, 4, none⟩ = some (.slice Ay nd.sy.length capy) := cell_of_row _ _ 4 _ _ _ hnw1
            have s7 : w1.cell? ⟨N, 7, none⟩ = some (.int .i64 nd.items) := cell_of_row _ _ 7 _ _ _ hnw1
            have s8 : w1.cell? ⟨N, 8, none⟩ = some (.slice Ar nd.br.length capr) := cell_of_row _ _ 8 _ _ _ hnw1
            have s9 : w1.cell? ⟨N, 9, none⟩ = some (.int .i64 nd.size) := cell_of_row _ _ 9 _ _ _ hnw1
            have t0 : w1.cell? ⟨w.heap.size, 0, none⟩ = some (.slice (some ⟨gS, oS, none⟩) S.length caps) := cell_of_row _ _ 0 _ _ _ haw1
            have HB1 := Lib.hid hb1
            clear hbare p0 p1 p2 p3 p4 hbw hvw1 hnw1 haw1 hb1
            cases bb with
            | false =>
              go_wp2
              go_ret
              exact ⟨by rw [HFF.out]; rfl, HBW.out⟩
            | true =>
              go_wp2
              all_goals (go_ret; exact ⟨by rw [HFF.out]; first | rfl | (simp [*]; done) | (simp [*]; omega), HBW.out⟩)
          by_cases h10 : kd = 10
          · subst h10
            have hFF := fitsU_leaf (S := S) (n := n) (b := b) (l := l) (ks := ks) hA (by rw [Int.toNat_natCast]; exact HSN.out) HKD.out (by rfl)
            have hBV : boundsV nd n b.length l.length ks.length (vbM b) (ubM ks) = (decide (0 ≤ n) && decide (n < (nd.sy.length : Int))) := by unfold boundsV; rw [HKD.out]; rfl
            rw [hBV] at hFF
            obtain ⟨bb, hbb⟩ : ∃ bb, rbareV true false false false n b.length l.length ks.length = bb := ⟨_, rfl⟩
            have HFF : Hid (fitsU aM1 S (m : Int) (.mk 10 n b l ks) = (bb && (decide (0 ≤ n) && decide (n < (nd.sy.length : Int))))) := Lib.hid (by rw [hFF, ← hbb]; rfl)
            have hbare := rbare_any true false false false 10 n B A A' b.length capb l.length cap ks.length cap' W6
            rw [hbb] at hbare
            clear hFF hBV hbb HKD
            go_wp2_with fail
            refine hbare.mono ?_
            rintro e w1 ⟨rfl, hb1⟩
            have hvw1 := (below_fr0 hb1).at HV6.out trivial
            have hnw1 := (below_fr0 hb1).at HN6.out trivial
            have haw1 := (below_fr0 hb1).at HA6.out trivial
            have hbw : Below w.heap.size w w1 := HB6.out.trans (hb1.mono HB6.out.size)
            have HBW := Lib.hid hbw
            obtain ⟨r0, r1, r2, r3, r4⟩ := cells_5 hvw1
            have s3 : w1.cell? ⟨N, 3, none⟩ = some (.slice Af nd.fs.length capf) := cell_of_row _ _ 3 _ _ _ hnw1
            have s4 : w1.cell? ⟨N, 4, none⟩ = some (.slice Ay nd.sy.length capy) := cell_of_row _ _ 4 _ _ _ hnw1
            have s7 : w1.cell? ⟨N, 7, none⟩ = some (.int .i64 nd.items) := cell_of_row _ _ 7 _ _ _ hnw1
            have s8 : w1.cell? ⟨N, 8, none⟩ = some (.slice Ar nd.br.length capr) := cell_of_row _ _ 8 _ _ _ hnw1
            have s9 : w1.cell? ⟨N, 9, none⟩ = some (.int .i64 nd.size) := cell_of_row _ _ 9 _ _ _ hnw1
            have t0 : w1.cell? ⟨w.heap.size, 0, none⟩ = some (.slice (some ⟨gS, oS, none⟩) S.length caps) := cell_of_row _ _ 0 _ _ _ haw1
            have HB1 := Lib.hid hb1
            clear hbare p0 p1 p2 p3 p4 hbw hvw1 hnw1 haw1 hb1
            cases bb with
            | false =>
              go_wp2
              go_ret
              exact ⟨by rw [HFF.out]; rfl, HBW.out⟩
            | true =>
              go_wp2
              all_goals (go_ret; exact ⟨by rw [HFF.out]; first | rfl | (simp [*]; done) | (simp [*]; omega), HBW.out⟩)
          by_cases h11 : kd = 11
          · subst h11
            have hFF := fitsU_some (S := S) (n := n) (b := b) (l := l) (ks := ks) hA (by rw [Int.toNat_natCast]; exact HSN.out) HKD.out
            have hBV : boundsV nd n b.length l.length ks.length (vbM b) (ubM ks) = true := by unfold boundsV; rw [HKD.out]; rfl
            rw [hBV, fitsL_all (by rw [HKD.out]; decide) (by rw [HKD.out]; decide)] at hFF
            obtain ⟨bb, hbb⟩ : ∃ bb, rbareV false false true false n b.length l.length ks.length = bb := ⟨_, rfl⟩
            have HFF : Hid (fitsU aM1 S (m : Int) (.mk 11 n b l ks) = (bb && l.all (fitsU aM1 S nd.items))) := Lib.hid (by rw [hFF, ← hbb, Bool.and_true]; rfl)
            have hbare := rbare_any false false true false 11 n B A A' b.length capb l.length cap ks.length cap' W6
            rw [hbb] at hbare
            clear hFF hBV hbb HKD
            go_wp2_with fail
            refine hbare.mono ?_
            rintro e w1 ⟨rfl, hb1⟩
            have hvw1 := (below_fr0 hb1).at HV6.out trivial
            have hnw1 := (below_fr0 hb1).at HN6.out trivial
            have haw1 := (below_fr0 hb1).at HA6.out trivial
            have hbw : Below w.heap.size w w1 := HB6.out.trans (hb1.mono HB6.out.size)
            have HBW := Lib.hid hbw
            obtain ⟨r0, r1, r2, r3, r4⟩ := cells_5 hvw1
            have s3 : w1.cell? ⟨N, 3, none⟩ = some (.slice Af nd.fs.length capf) := cell_of_row _ _ 3 _ _ _ hnw1
            have s4 : w1.cell? ⟨N, 4, none⟩ = some (.slice Ay nd.sy.length capy) := cell_of_row _ _ 4 _ _ _ hnw1
            have s7 : w1.cell? ⟨N, 7, none⟩ = some (.int .i64 nd.items) := cell_of_row _ _ 7 _ _ _ hnw1
            have s8 : w1.cell? ⟨N, 8, none⟩ = some (.slice Ar nd.br.length capr) := cell_of_row _ _ 8 _ _ _ hnw1
            have s9 : w1.cell? ⟨N, 9, none⟩ = some (.int .i64 nd.size) := cell_of_row _ _ 9 _ _ _ hnw1
            have t0 : w1.cell? ⟨w.heap.size, 0, none⟩ = some (.slice (some ⟨gS, oS, none⟩) S.length caps) := cell_of_row _ _ 0 _ _ _ haw1
            have HB1 := Lib.hid hb1
            clear hbare p0 p1 p2 p3 p4 hbw hvw1 hnw1 haw1 hb1
            cases bb with
            | false =>
              go_wp2
              go_ret
              exact ⟨by rw [HFF.out]; rfl, HBW.out⟩
            | true =>
              have hall := rall_any l HS.out S (.slice (some ⟨gS, oS, none⟩) S.length caps) nd.items A cap c w1 (nds_mono (nds_fr (below_fr0 HBW.out) (fun _ _ => trivial) HN.out) (fun b hb => Nat.lt_of_lt_of_le hb HBW.out.size)) (Utf8Tabs_below HT.out HBW.out) (by have := HC.out; omega) (by have := HKB.out; omega)
                (fun h0 => by obtain ⟨g, off, e, _, hc⟩ := HL.out h0; exact ⟨g, off, e, fun i j hi hj => (below_fr0 HBW.out).cell (hc i j hi hj) trivial⟩)
                (fun i x hx => ((HE.out i x hx).fr (below_fr0 HBW.out) (fun _ _ => trivial)).mono (fun b _ hb => Nat.lt_of_lt_of_le hb HBW.out.size))
              go_wp2_with fail
              refine hall.mono ?_
              rintro e w2 ⟨rfl, hb2⟩
              have hbw2 := HBW.out.trans (hb2.mono HBW.out.size)
              have HBW2 := Lib.hid hbw2
              clear hall hb2 hbw2
              go_wp2
              go_ret
              exact ⟨by rw [HFF.out]; simp, HBW2.out⟩
          by_cases h9 : kd = 9
          · subst h9
            have hFF := fitsU_some (S := S) (n := n) (b := b) (l := l) (ks := ks) hA (by rw [Int.toNat_natCast]; exact HSN.out) HKD.out
            have hBV : boundsV nd n b.length l.length ks.length (vbM b) (ubM ks) = ((l.length : Int) == (nd.fs.length : Int)) := by unfold boundsV; rw [HKD.out]; rfl
            rw [hBV] at hFF
            obtain ⟨bb, hbb⟩ : ∃ bb, rbareV false false true false n b.length l.length ks.length = bb := ⟨_, rfl⟩
            have HFF : Hid (fitsU aM1 S (m : Int) (.mk 9 n b l ks) = (bb && ((l.length : Int) == (nd.fs.length : Int)) && fitsL aM1 S nd n 0 l)) := Lib.hid (by rw [hFF, ← hbb]; rfl)
            have hbare := rbare_any false false true false 9 n B A A' b.length capb l.length cap ks.length cap' W6
            rw [hbb] at hbare
            clear hFF hBV hbb
            go_wp2_with fail
            refine hbare.mono ?_
            rintro e w1 ⟨rfl, hb1⟩
            have hvw1 := (below_fr0 hb1).at HV6.out trivial
            have hnw1 := (below_fr0 hb1).at HN6.out trivial
            have haw1 := (below_fr0 hb1).at HA6.out trivial
            have hbw : Below w.heap.size w w1 := HB6.out.trans (hb1.mono HB6.out.size)
            have HBW := Lib.hid hbw
            obtain ⟨r0, r1, r2, r3, r4⟩ := cells_5 hvw1
            have s3 : w1.cell? ⟨N, 3, none⟩ = some (.slice Af nd.fs.length capf) := cell_of_row _ _ 3 _ _ _ hnw1
            have s4 : w1.cell? ⟨N, 4, none⟩ = some (.slice Ay nd.sy.length capy) := cell_of_row _ _ 4 _ _ _ hnw1
            have s7 : w1.cell? ⟨N, 7, none⟩ = some (.int .i64 nd.items) := cell_of_row _ _ 7 _ _ _ hnw1
            have s8 : w1.cell? ⟨N, 8, none⟩ = some (.slice Ar nd.br.length capr) := cell_of_row _ _ 8 _ _ _ hnw1
            have s9 : w1.cell? ⟨N, 9, none⟩ = some (.int .i64 nd.size) := cell_of_row _ _ 9 _ _ _ hnw1
            have t0 : w1.cell? ⟨w.heap.size, 0, none⟩ = some (.slice (some ⟨gS, oS, none⟩) S.length caps) := cell_of_row _ _ 0 _ _ _ haw1
            have HB1 := Lib.hid hb1
            have HVW := Lib.hid hvw1
            have HNW := Lib.hid hnw1
            have HAW := Lib.hid haw1
            clear hbare p0 p1 p2 p3 p4 hbw hvw1 hnw1 haw1 hb1
            cases bb with
            | false =>
              go_wp2
              go_ret
              exact ⟨by rw [HFF.out]; rfl, HBW.out⟩
            | true =>
              by_cases hlf : l.length = nd.fs.length
              · have hd1 : ((l.length : Int) != (nd.fs.length : Int)) = false := by simp [hlf]
                have hlfi : (l.length : Int) = (nd.fs.length : Int) := by omega
                obtain ⟨M, hM⟩ : ∃ M, l.length = M := ⟨_, rfl⟩
                have HM := Lib.hid hM
                have hfM : nd.fs.length = M := by omega
                have HFM := Lib.hid hfM
                rw [hM] at r3 hd1 hll ⊢
                rw [hfM] at s3 hd1 ⊢
                clear hlfi hM hfM hlf
                rw [HM.out] at HVW
                rw [HFM.out] at HNW
                clear hd1
                have hEQ : ((l.length : Int) == (nd.fs.length : Int)) = true := by have := HM.out; have := HFM.out; simp; omega
                have HEQ := Lib.hid hEQ
                clear hEQ
                go_wp2
                go_loopg [8] M (fun g i wr => ∃ q : Nat, q + g = M ∧ i = .int .i64 q ∧ (∀ j x f, j < q → l[j]? = some x → nd.fs[j]? = some f → fitsU aM1 S f.ty x = true) ∧ Fr w1 wr (fun _ => True))
                case atStart => exact ⟨0, by omega, rfl, fun j x f hj => absurd hj (by omega), Fr.refl _ _⟩
                case round =>
                  obtain ⟨q, hq, rfl, hok, hfr⟩ := hrel
                  have HOK := Lib.hid hok
                  have HFR := Lib.hid hfr
                  have v3 : wr.cell? ⟨w.heap.size + 1, 3, none⟩ = some (.slice A M cap) := cell_of_row _ _ 3 _ _ _ (hfr.at HVW.out trivial)
                  have hbr : Below w.heap.size w wr := HBW.out.trans ((fr_belowT hfr).mono HBW.out.size)
                  have HBR := Lib.hid hbr
                  clear hok hbr r0 r1 r2 r3 r4 s3 s4 s7 s8 s9 t0
                  by_cases hlt : q < M
                  · obtain ⟨x, hx⟩ : ∃ x, l[q]? = some x := ⟨_, List.getElem?_eq_getElem (by have := HM.out; omega)⟩
                    obtain ⟨f, hf⟩ : ∃ f, nd.fs[q]? = some f := ⟨_, List.getElem?_eq_getElem (by have := HFM.out; omega)⟩
                    obtain ⟨g, off, rfl, _, hcc⟩ := HL.out (by have := HM.out; omega)
                    obtain ⟨gf, of, rfl, _, hcf⟩ := HFC.out (by have := HFM.out; omega)
                    have hqi : (q : Int) < (M : Int) := by omega
                    have hty := (HFE.out q f hf).ty
                    have HF := Lib.hid ((below_fr0 HBR.out))
                    have y0p := fun p : Aft wr => p.fr.cell (cell_of_row wr w.heap.size 0 _ _ _ (hfr.at HAW.out trivial)) trivial
                    have n3p := fun p : Aft wr => p.fr.cell (cell_of_row wr N 3 _ _ _ (hfr.at HNW.out trivial)) trivial
                    have v3p := fun p : Aft wr => p.fr.cell v3 trivial
                    have f2p := fun p : Aft wr => p.fr.cell (show wr.cell? ⟨gf, of + q * 5 + 2, none⟩ = some (.int .i64 f.ty) by have := HF.out.cell (hcf q 2 (by have := HFM.out; omega) (by omega)) trivial; rw [hty] at this; rwa [show of + (5 * q + 2) = of + q * 5 + 2 by omega] at this) trivial
                    have x0p := fun p : Aft wr => p.fr.cell (show wr.cell? ⟨g, off + q * 5, none⟩ = some (c q 0) by have := HF.out.cell (hcc q 0 (by have := HM.out; omega) (by omega)) trivial; rwa [show off + (5 * q + 0) = off + q * 5 by omega] at this) trivial
                    have x1p := fun p : Aft wr => p.fr.cell (show wr.cell? ⟨g, off + q * 5 + 1, none⟩ = some (c q 1) by have := HF.out.cell (hcc q 1 (by have := HM.out; omega) (by omega)) trivial; rwa [show off + (5 * q + 1) = off + q * 5 + 1 by omega] at this) trivial
                    have x2p := fun p : Aft wr => p.fr.cell (show wr.cell? ⟨g, off + q * 5 + 2, none⟩ = some (c q 2) by have := HF.out.cell (hcc q 2 (by have := HM.out; omega) (by omega)) trivial; rwa [show off + (5 * q + 2) = off + q * 5 + 2 by omega] at this) trivial
                    have x3p := fun p : Aft wr => p.fr.cell (show wr.cell? ⟨g, off + q * 5 + 3, none⟩ = some (c q 3) by have := HF.out.cell (hcc q 3 (by have := HM.out; omega) (by omega)) trivial; rwa [show off + (5 * q + 3) = off + q * 5 + 3 by omega] at this) trivial
                    have x4p := fun p : Aft wr => p.fr.cell (show wr.cell? ⟨g, off + q * 5 + 4, none⟩ = some (c q 4) by have := HF.out.cell (hcc q 4 (by have := HM.out; omega) (by omega)) trivial; rwa [show off + (5 * q + 4) = off + q * 5 + 4 by omega] at this) trivial
                    have hmem := List.mem_of_getElem? hx
                    have huc : uc x ≤ 100000 := by have h1 := ucL_take l q x hx; have h2 := ucL_tle l (q + 1); have := HC.out; omega
                    have huk : uk x ≤ 1000000 := by have h1 := ukL_memle hmem; have := HKB.out; omega
                    have HCALL := Lib.hid (show ∀ p : Aft wr, Calls Tryz.prog 11 #[.agg #[.slice (some ⟨gS, oS, none⟩) S.length caps], .int .i64 f.ty, .agg #[c q 0, c q 1, c q 2, c q 3, c q 4]] p.w fun e w' => e = .returned (.bool (fitsU aM1 S f.ty x)) ∧ ∃ q : Aft wr, w' = q.w from fun p => by
                      have hf := HF.out.trans p.fr
                      exact aft_call ((HS.out x hmem S _ f.ty p.w _ _ _ _ _ (nds_mono (nds_fr hf (fun _ _ => trivial) HN.out) (fun b hb => Nat.lt_of_lt_of_le hb hf.size)) (((HE.out q x hx).fr hf (fun _ _ => trivial)).mono (fun b _ hb => Nat.lt_of_lt_of_le hb hf.size)) (Utf8Tabs_below HT.out (fr_belowT hf)) huc huk).mono fun _ _ ⟨h1, h2⟩ => ⟨h1, below_fr0 h2⟩))
                    have HX := Lib.hid hx
                    have HFD := Lib.hid hf
                    clear hcc hcf hx hf hmem hfr hty
                    generalize c q 0 = a0 at *
                    generalize c q 1 = a1 at *
                    generalize c q 2 = a2 at *
                    generalize c q 3 = a3 at *
                    generalize c q 4 = a4 at *
                    go_upto_region 31 with fail
                    refine reg_aft (by kernel_rfl) (by kernel_rfl) ?_
                    repeat (go_big_quiet_step ((go_at_call 11; exact HCALL.out _)))
                    refine wpQuiet_nil ?_
                    rintro ⟨W7, hf7⟩
                    show Exit.then _ _ Exit.normal _ W7
                    have hb7 := HBR.out.trans ((fr_belowT hf7).mono HBR.out.size)
                    have HB7 := Lib.hid hb7
                    have HF7 := Lib.hid (HFR.out.trans hf7)
                    clear hb7 hf7 y0p n3p v3p f2p x0p x1p x2p x3p x4p HCALL v3
                    cases hfx : fitsU aM1 S f.ty x with
                    | false =>
                      have HFL : Hid (fitsL aM1 S nd n 0 l = false) := Lib.hid (fitsL9_false HKD.out l 0 q x f HX.out (by rw [Nat.zero_add]; exact HFD.out) hfx)
                      clear hfx
                      go_wp2
                      go_ret
                      exact ⟨by rw [HFF.out, HFL.out, Bool.and_false]; rfl, HB7.out⟩
                    | true =>
                      have HFX := Lib.hid hfx
                      clear hfx
                      go_wp2
                      go_roundg (M - (q + 1))
                      case measure => omega
                      case rel =>
                        refine ⟨q + 1, by omega, by go_num, fun j y f' hj hy hf' => ?_, HF7.out⟩
                        rcases Nat.lt_or_ge j q with h | h
                        · exact HOK.out j y f' h hy hf'
                        · obtain rfl : j = q := by omega
                          rw [HX.out] at hy
                          rw [HFD.out] at hf'
                          cases hy
                          cases hf'
                          exact HFX.out
                  · have HFL : Hid (fitsL aM1 S nd n 0 l = true) := Lib.hid (fitsL9_true HKD.out l 0 (fun j x hx => by
                      have hj : j < l.length := by
                        rcases Nat.lt_or_ge j l.length with h | h
                        · exact h
                        · rw [List.getElem?_eq_none h] at hx; cases hx
                      have hjf : j < nd.fs.length := by have := HM.out; have := HFM.out; omega
                      refine ⟨_, by rw [Nat.zero_add]; exact List.getElem?_eq_getElem hjf, ?_⟩
                      exact HOK.out j x _ (by have := HM.out; omega) hx (List.getElem?_eq_getElem hjf)))
                    have hqM : decide ((q : Int) < (M : Int)) = false := decide_eq_false (by omega)
                    clear hfr
                    go_wp2
                    go_ret
                    exact ⟨by rw [HFF.out, HFL.out, HEQ.out]; rfl, HBR.out⟩
              · have hd1 : ((l.length : Int) != (nd.fs.length : Int)) = true := by simp; omega
                have hd2 : ((l.length : Int) == (nd.fs.length : Int)) = false := by simp; omega
                have hlfi : ¬ (l.length : Int) = (nd.fs.length : Int) := by omega
                go_wp2
                go_ret
                exact ⟨by rw [HFF.out, hd2]; rfl, HBW.out⟩
          by_cases h12 : kd = 12
          · subst h12
            have hFF := fitsU_some (S := S) (n := n) (b := b) (l := l) (ks := ks) hA (by rw [Int.toNat_natCast]; exact HSN.out) HKD.out
            have hBV : boundsV nd n b.length l.length ks.length (vbM b) (ubM ks) = (((ks.length : Int) == (l.length : Int)) && ubM ks) := by unfold boundsV; rw [HKD.out]; rfl
            rw [hBV, fitsL_all (by rw [HKD.out]; decide) (by rw [HKD.out]; decide)] at hFF
            obtain ⟨bb, hbb⟩ : ∃ bb, rbareV false false true true n b.length l.length ks.length = bb := ⟨_, rfl⟩
            have HFF : Hid (fitsU aM1 S (m : Int) (.mk 12 n b l ks) = (bb && (((ks.length : Int) == (l.length : Int)) && ubM ks) && l.all (fitsU aM1 S nd.items))) := Lib.hid (by rw [hFF, ← hbb]; rfl)
            have HBB := Lib.hid hbb
            clear hFF hBV hbb HKD
            obtain ⟨M, hM⟩ : ∃ M, ks.length = M := ⟨_, rfl⟩
            have HM := Lib.hid hM
            have HVM := Lib.hid HV6.out
            rw [hM] at HVM hkn hcap' ⊢
            have p4' := p4
            rw [hM] at p4'
            have hcm : cap' ≤ 9223372036854775807 := Nat.le_trans hcap'.2 (by unfold maxLen; omega)
            clear hM p4
            go_upto_region 37 with fail
            go_wp2
            go_loopg [9] M (fun g i wr => ∃ q : Nat, q + g = M ∧ i = .int .i64 q ∧ (∀ j s, j < q → ks[j]? = some s → Lib.validD (bsL s) = true ∧ ¬ s ∈ ks.take j) ∧ Fr W6 wr (fun _ => True))
            case atStart => exact ⟨0, by omega, rfl, fun j s hj => absurd hj (by omega), Fr.refl _ _⟩
            case round =>
              obtain ⟨q, hq, rfl, hok, hfr⟩ := hrel
              have HOK := Lib.hid hok
              have HFR := Lib.hid hfr
              have v4 : wr.cell? ⟨w.heap.size + 1, 4, none⟩ = some (.slice A' M cap') := cell_of_row _ _ 4 _ _ _ (hfr.at HVM.out trivial)
              have hbr : Below w.heap.size w wr := HB6.out.trans ((fr_belowT hfr).mono HB6.out.size)
              have HBR := Lib.hid hbr
              clear hok hbr p0 p1 p2 p3 p4'
              by_cases hlt : q < M
              · obtain ⟨s, hx⟩ : ∃ s, ks[q]? = some s := ⟨_, List.getElem?_eq_getElem (by have := HM.out; omega)⟩
                obtain ⟨g, off, rfl, _, hcc⟩ := HK.out (by have := HM.out; omega)
                have hqi : (q : Int) < (M : Int) := by omega
                have hqc : (q : Int) ≤ (cap' : Int) := by have := hcap'.1; omega
                have hqc2 : q ≤ cap' := by have := hcap'.1; omega
                have HF := Lib.hid ((below_fr0 HBR.out))
                have v4p := fun p : Aft wr => p.fr.cell v4 trivial
                have k0p := fun p : Aft wr => p.fr.cell (HF.out.cell (hcc q s hx) trivial) trivial
                obtain ⟨vb, hvb⟩ : ∃ vb, Lib.validD s.data.toList = vb := ⟨_, rfl⟩
                obtain ⟨ib, hib⟩ : ∃ ib, inB s (ks.take q) = ib := ⟨_, rfl⟩
                have HV34 := Lib.hid (show ∀ p : Aft wr, Calls Tryz.prog 34 #[.string s] p.w fun e w' => e = .returned (.bool vb) ∧ ∃ q : Aft wr, w' = q.w from fun p => by
                  have := Tryz.utf8_ValidString s p.w (Nat.le_trans (HKS.out s (List.mem_of_getElem? hx)) (by unfold maxLen; omega)) (Utf8Tabs_below (Utf8Tabs_below HT.out HBR.out) (fr_belowT p.fr))
                  rw [hvb] at this
                  exact aft_call (this.mono fun _ _ ⟨h1, h2⟩ => ⟨h1, below_fr0 h2⟩))
                have HV35 := Lib.hid (show ∀ p : Aft wr, Calls Tryz.prog 35 #[.slice (some ⟨g, off, none⟩) q cap', .string s] p.w fun e w' => e = .returned (.bool ib) ∧ ∃ q : Aft wr, w' = q.w from fun p => by
                  have := in_any s ks (some ⟨g, off, none⟩) q cap' p.w (by have := HM.out; omega) (by omega) (fun _ => ⟨g, off, rfl, fun i t ht => (HF.out.trans p.fr).cell (hcc i t ht) trivial⟩)
                  rw [hib] at this
                  exact aft_call (this.mono fun _ w2 ⟨h1, h2⟩ => ⟨h1, by rw [h2]; exact Fr.refl _ _⟩))
                have HVB := Lib.hid hvb
                have HIB := Lib.hid hib
                have HX := Lib.hid hx
                clear hcc hx hfr hvb hib
                go_upto_region 40 with fail
                clear v4
                cases vb with
                | false =>
                  have HU : Hid (ubM ks = false) := Lib.hid (ub_ref_invalid HX.out HVB.out)
                  refine reg_aft (by kernel_rfl) (by kernel_rfl) ?_
                  repeat (go_big_quiet_step ((first | (go_at_call 34; exact HV34.out _) | (go_at_call 35; exact HV35.out _))))
                  refine wpQuiet_nil ?_
                  rintro ⟨W7, hf7⟩
                  show Exit.then _ _ Exit.normal _ W7
                  have hb7 := HBR.out.trans ((fr_belowT hf7).mono HBR.out.size)
                  have HB7 := Lib.hid hb7
                  clear hb7 hf7 v4p k0p HV34 HV35
                  go_wp2
                  go_ret
                  exact ⟨by rw [HFF.out, HU.out]; simp, HB7.out⟩
                | true =>
                  cases ib with
                  | true =>
                    have hmem : s ∈ ks.take q := by
                      rcases Classical.em (s ∈ ks.take q) with h | h
                      · exact h
                      · have := inB_false h; rw [HIB.out] at this; cases this
                    have HU : Hid (ubM ks = false) := Lib.hid (ub_ref_twice HX.out hmem)
                    clear hmem
                    refine reg_aft (by kernel_rfl) (by kernel_rfl) ?_
                    repeat (go_big_quiet_step ((first | (go_at_call 34; exact HV34.out _) | (go_at_call 35; exact HV35.out _))))
                    refine wpQuiet_nil ?_
                    rintro ⟨W7, hf7⟩
                    show Exit.then _ _ Exit.normal _ W7
                    have hb7 := HBR.out.trans ((fr_belowT hf7).mono HBR.out.size)
                    have HB7 := Lib.hid hb7
                    clear hb7 hf7 v4p k0p HV34 HV35
                    go_wp2
                    go_ret
                    exact ⟨by rw [HFF.out, HU.out]; simp, HB7.out⟩
                  | false =>
                    have HNM : Hid (¬ s ∈ ks.take q) := Lib.hid (fun h => by have := inB_true h; rw [HIB.out] at this; cases this)
                    refine reg_aft (by kernel_rfl) (by kernel_rfl) ?_
                    repeat (go_big_quiet_step ((first | (go_at_call 34; exact HV34.out _) | (go_at_call 35; exact HV35.out _))))
                    refine wpQuiet_nil ?_
                    rintro ⟨W7, hf7⟩
                    show Exit.then _ _ Exit.normal _ W7
                    have HF7 := Lib.hid (HFR.out.trans hf7)
                    clear hf7 v4p k0p HV34 HV35
                    go_wp2
                    go_roundg (M - (q + 1))
                    case measure => omega
                    case rel =>
                      refine ⟨q + 1, by omega, by go_num, fun j s' hj hs' => ?_, HF7.out⟩
                      rcases Nat.lt_or_ge j q with h | h
                      · exact HOK.out j s' h hs'
                      · obtain rfl : j = q := by omega
                        rw [HX.out] at hs'
                        cases hs'
                        exact ⟨HVB.out, HNM.out⟩
              · have HU : Hid (ubM ks = true) := Lib.hid (ub_ref_true (fun i s hs => HOK.out i s (by
                  have hi : i < ks.length := by
                    rcases Nat.lt_or_ge i ks.length with h | h
                    · exact h
                    · rw [List.getElem?_eq_none h] at hs; cases hs
                  have := HM.out; omega) hs))
                have hqM : decide ((q : Int) < (M : Int)) = false := decide_eq_false (by omega)
                have hbare := rbare_any false false true true 12 n B A A' b.length capb l.length cap M cap' wr
                rw [← HM.out, HBB.out] at hbare
                obtain ⟨u0, u1, u2, u3, u4⟩ := cells_5 (hfr.at HVM.out trivial)
                rw [HM.out] at hbare
                clear v4 hfr
                go_wp2_with fail
                refine hbare.mono ?_
                rintro e w1 ⟨rfl, hb1⟩
                have hvw1 := (HFR.out.trans (below_fr0 hb1)).at HVM.out trivial
                have hnw1 := (HFR.out.trans (below_fr0 hb1)).at HN6.out trivial
                have haw1 := (HFR.out.trans (below_fr0 hb1)).at HA6.out trivial
                have hbw : Below w.heap.size w w1 := HBR.out.trans (hb1.mono HBR.out.size)
                have HBW := Lib.hid hbw
                obtain ⟨r0, r1, r2, r3, r4⟩ := cells_5 hvw1
                have s7 : w1.cell? ⟨N, 7, none⟩ = some (.int .i64 nd.items) := cell_of_row _ _ 7 _ _ _ hnw1
                have t0 : w1.cell? ⟨w.heap.size, 0, none⟩ = some (.slice (some ⟨gS, oS, none⟩) S.length caps) := cell_of_row _ _ 0 _ _ _ haw1
                clear hbare u0 u1 u2 u3 u4 hbw hvw1 hnw1 haw1 hb1
                cases bb with
                | false =>
                  go_wp2
                  go_ret
                  exact ⟨by rw [HFF.out]; rfl, HBW.out⟩
                | true =>
                  by_cases hlk : M = l.length
                  · have hlki : ((M : Int) == (l.length : Int)) = true := by simp; omega
                    have HLK : Hid (((ks.length : Int) == (l.length : Int)) = true) := Lib.hid (by rw [HM.out]; exact hlki)
                    have hall := rall_any l HS.out S (.slice (some ⟨gS, oS, none⟩) S.length caps) nd.items A cap c w1 (nds_mono (nds_fr (below_fr0 HBW.out) (fun _ _ => trivial) HN.out) (fun b hb => Nat.lt_of_lt_of_le hb HBW.out.size)) (Utf8Tabs_below HT.out HBW.out) (by have := HC.out; omega) (by have := HKB.out; omega)
                      (fun h0 => by obtain ⟨g, off, e, _, hc⟩ := HL.out h0; exact ⟨g, off, e, fun i j hi hj => (below_fr0 HBW.out).cell (hc i j hi hj) trivial⟩)
                      (fun i x hx => ((HE.out i x hx).fr (below_fr0 HBW.out) (fun _ _ => trivial)).mono (fun b _ hb => Nat.lt_of_lt_of_le hb HBW.out.size))
                    clear hlk
                    go_wp2_with fail
                    refine hall.mono ?_
                    rintro e w2 ⟨rfl, hb2⟩
                    have hbw2 := HBW.out.trans (hb2.mono HBW.out.size)
                    have HBW2 := Lib.hid hbw2
                    clear hall hb2 hbw2
                    go_wp2
                    go_ret
                    exact ⟨by rw [HFF.out, HLK.out, HU.out]; simp, HBW2.out⟩
                  · have hlki : ((M : Int) == (l.length : Int)) = false := by simp; omega
                    have HLK : Hid (((ks.length : Int) == (l.length : Int)) = false) := Lib.hid (by rw [HM.out]; exact hlki)
                    go_wp2
                    go_ret
                    exact ⟨by rw [HFF.out, HLK.out]; simp, HBW.out⟩
          by_cases h13 : kd = 13
          · subst h13
            have hFF := fitsU_some (S := S) (n := n) (b := b) (l := l) (ks := ks) hA (by rw [Int.toNat_natCast]; exact HSN.out) HKD.out
            have hBV : boundsV nd n b.length l.length ks.length (vbM b) (ubM ks) = ((decide (0 ≤ n) && decide (n < (nd.br.length : Int))) && ((l.length : Int) == 1)) := by unfold boundsV; rw [HKD.out]; rfl
            rw [hBV] at hFF
            obtain ⟨bb, hbb⟩ : ∃ bb, rbareV true false true false n b.length l.length ks.length = bb := ⟨_, rfl⟩
            have HFF : Hid (fitsU aM1 S (m : Int) (.mk 13 n b l ks) = (bb && ((decide (0 ≤ n) && decide (n < (nd.br.length : Int))) && ((l.length : Int) == 1)) && fitsL aM1 S nd n 0 l)) := Lib.hid (by rw [hFF, ← hbb]; rfl)
            have HBARE := Lib.hid (show ∀ p : Aft W6, Calls Tryz.prog 31 #[.agg #[.int .i64 13, .int .i64 n, .slice B b.length capb, .slice A l.length cap, .slice A' ks.length cap'], .bool true, .bool false, .bool true, .bool false] p.w fun e w' => e = .returned (.bool bb) ∧ ∃ q : Aft W6, w' = q.w from fun p => by
              have := rbare_any true false true false 13 n B A A' b.length capb l.length cap ks.length cap' p.w
              rw [hbb] at this
              exact aft_call (this.mono fun _ _ ⟨h1, h2⟩ => ⟨h1, below_fr0 h2⟩))
            clear hFF hBV hbb
            have v0p := fun p : Aft W6 => p.fr.cell p0 trivial
            have v1p := fun p : Aft W6 => p.fr.cell p1 trivial
            have v2p := fun p : Aft W6 => p.fr.cell p2 trivial
            have v3p := fun p : Aft W6 => p.fr.cell p3 trivial
            have v4p := fun p : Aft W6 => p.fr.cell p4 trivial
            have a0p := fun p : Aft W6 => p.fr.cell (cell_of_row W6 w.heap.size 0 _ _ _ HA6.out) trivial
            have n8p := fun p : Aft W6 => p.fr.cell (cell_of_row W6 N 8 _ _ _ HN6.out) trivial
            go_upto_region 44 with fail
            clear p0 p1 p2 p3 p4
            cases bb with
            | false =>
              refine reg_aft (by kernel_rfl) (by kernel_rfl) ?_
              repeat (go_big_quiet_step ((go_at_call 31; exact HBARE.out _)))
              refine wpQuiet_nil ?_
              rintro ⟨W7, hf7⟩
              show Exit.then _ _ Exit.normal _ W7
              have hb7 := HB6.out.trans ((fr_belowT hf7).mono HB6.out.size)
              have HB7 := Lib.hid hb7
              clear hb7 hf7 v0p v1p v2p v3p v4p a0p n8p HBARE
              go_wp2
              go_ret
              exact ⟨by rw [HFF.out]; rfl, HB7.out⟩
            | true =>
              by_cases hn0 : 0 ≤ n
              · have hd0 : decide (0 ≤ n) = true := decide_eq_true hn0
                by_cases hn1 : n < (nd.br.length : Int)
                · have hd1 : decide (n < (nd.br.length : Int)) = true := decide_eq_true hn1
                  by_cases hl1 : l.length = 1
                  · have hd2 : ((l.length : Int) == 1) = true := by simp [hl1]
                    obtain ⟨x, hlx⟩ := List.length_eq_one_iff.1 hl1
                    have hmem : x ∈ l := by rw [hlx]; simp
                    have hx : l[0]? = some x := by rw [hlx]; rfl
                    obtain ⟨nn, hnn⟩ : ∃ q : Nat, n = q := ⟨n.toNat, by omega⟩
                    subst hnn
                    obtain ⟨t, ht⟩ : ∃ t, nd.br[nn]? = some t := ⟨_, List.getElem?_eq_getElem (by omega)⟩
                    obtain ⟨gr, of, rfl, _, hcr⟩ := HRC.out (by omega)
                    obtain ⟨g, off, rfl, _, hcc⟩ := HL.out (by omega)
                    have HF := Lib.hid (below_fr0 HB6.out)
                    have b0p := fun p : Aft W6 => p.fr.cell (HF.out.cell (hcr nn t ht) trivial) trivial
                    have x0p := fun p : Aft W6 => p.fr.cell (show W6.cell? ⟨g, off, none⟩ = some (c 0 0) by have := HF.out.cell (hcc 0 0 (by omega) (by omega)) trivial; rwa [show off + (5 * 0 + 0) = off by omega] at this) trivial
                    have x1p := fun p : Aft W6 => p.fr.cell (show W6.cell? ⟨g, off + 1, none⟩ = some (c 0 1) by have := HF.out.cell (hcc 0 1 (by omega) (by omega)) trivial; rwa [show off + (5 * 0 + 1) = off + 1 by omega] at this) trivial
                    have x2p := fun p : Aft W6 => p.fr.cell (show W6.cell? ⟨g, off + 2, none⟩ = some (c 0 2) by have := HF.out.cell (hcc 0 2 (by omega) (by omega)) trivial; rwa [show off + (5 * 0 + 2) = off + 2 by omega] at this) trivial
                    have x3p := fun p : Aft W6 => p.fr.cell (show W6.cell? ⟨g, off + 3, none⟩ = some (c 0 3) by have := HF.out.cell (hcc 0 3 (by omega) (by omega)) trivial; rwa [show off + (5 * 0 + 3) = off + 3 by omega] at this) trivial
                    have x4p := fun p : Aft W6 => p.fr.cell (show W6.cell? ⟨g, off + 4, none⟩ = some (c 0 4) by have := HF.out.cell (hcc 0 4 (by omega) (by omega)) trivial; rwa [show off + (5 * 0 + 4) = off + 4 by omega] at this) trivial
                    have huc : uc x ≤ 100000 := by have h1 := ucL_take l 0 x hx; have h2 := ucL_tle l (0 + 1); have := HC.out; omega
                    have huk : uk x ≤ 1000000 := by have h1 := ukL_memle hmem; have := HKB.out; omega
                    have HCALL := Lib.hid (show ∀ p : Aft W6, Calls Tryz.prog 11 #[.agg #[.slice (some ⟨gS, oS, none⟩) S.length caps], .int .i64 t, .agg #[c 0 0, c 0 1, c 0 2, c 0 3, c 0 4]] p.w fun e w' => e = .returned (.bool (fitsU aM1 S t x)) ∧ ∃ q : Aft W6, w' = q.w from fun p => by
                      have hf := HF.out.trans p.fr
                      exact aft_call ((HS.out x hmem S _ t p.w _ _ _ _ _ (nds_mono (nds_fr hf (fun _ _ => trivial) HN.out) (fun b hb => Nat.lt_of_lt_of_le hb hf.size)) (((HE.out 0 x hx).fr hf (fun _ _ => trivial)).mono (fun b _ hb => Nat.lt_of_lt_of_le hb hf.size)) (Utf8Tabs_below HT.out (fr_belowT hf)) huc huk).mono fun _ _ ⟨h1, h2⟩ => ⟨h1, below_fr0 h2⟩))
                    have HFL : Hid (fitsL aM1 S nd (nn : Int) 0 l = fitsU aM1 S t x) := Lib.hid (by rw [hlx]; exact fitsL13_one HKD.out hn0 (by rw [Int.toNat_natCast]; exact ht))
                    have hli : (0 : Int) < (l.length : Int) := by omega
                    clear hcc hcr hx hmem ht hlx HRC hl1
                    generalize c 0 0 = a0 at *
                    generalize c 0 1 = a1 at *
                    generalize c 0 2 = a2 at *
                    generalize c 0 3 = a3 at *
                    generalize c 0 4 = a4 at *
                    refine reg_aft (by kernel_rfl) (by kernel_rfl) ?_
                    repeat (go_big_quiet_step ((first | (go_at_call 31; exact HBARE.out _) | (go_at_call 11; exact HCALL.out _))))
                    refine wpQuiet_nil ?_
                    rintro ⟨W7, hf7⟩
                    show Exit.then _ _ Exit.normal _ W7
                    have hb7 := HB6.out.trans ((fr_belowT hf7).mono HB6.out.size)
                    have HB7 := Lib.hid hb7
                    clear hb7 hf7 v0p v1p v2p v3p v4p a0p n8p HBARE HCALL b0p x0p x1p x2p x3p x4p
                    go_wp2
                    go_ret
                    exact ⟨by rw [HFF.out, HFL.out, hd0, hd1, hd2]; simp, HB7.out⟩
                  · have hd2 : ((l.length : Int) == 1) = false := by simp; omega
                    refine reg_aft (by kernel_rfl) (by kernel_rfl) ?_
                    repeat (go_big_quiet_step ((go_at_call 31; exact HBARE.out _)))
                    refine wpQuiet_nil ?_
                    rintro ⟨W7, hf7⟩
                    show Exit.then _ _ Exit.normal _ W7
                    have hb7 := HB6.out.trans ((fr_belowT hf7).mono HB6.out.size)
                    have HB7 := Lib.hid hb7
                    clear hb7 hf7 v0p v1p v2p v3p v4p a0p n8p HBARE
                    go_wp2
                    go_ret
                    exact ⟨by rw [HFF.out, hd2]; simp, HB7.out⟩
                · have hd1 : decide (n < (nd.br.length : Int)) = false := decide_eq_false hn1
                  refine reg_aft (by kernel_rfl) (by kernel_rfl) ?_
                  repeat (go_big_quiet_step ((go_at_call 31; exact HBARE.out _)))
                  refine wpQuiet_nil ?_
                  rintro ⟨W7, hf7⟩
                  show Exit.then _ _ Exit.normal _ W7
                  have hb7 := HB6.out.trans ((fr_belowT hf7).mono HB6.out.size)
                  have HB7 := Lib.hid hb7
                  clear hb7 hf7 v0p v1p v2p v3p v4p a0p n8p HBARE
                  go_wp2
                  go_ret
                  exact ⟨by rw [HFF.out, hd1]; simp, HB7.out⟩
              · have hd0 : decide (0 ≤ n) = false := decide_eq_false hn0
                refine reg_aft (by kernel_rfl) (by kernel_rfl) ?_
                repeat (go_big_quiet_step ((go_at_call 31; exact HBARE.out _)))
                refine wpQuiet_nil ?_
                rintro ⟨W7, hf7⟩
                show Exit.then _ _ Exit.normal _ W7
                have hb7 := HB6.out.trans ((fr_belowT hf7).mono HB6.out.size)
                have HB7 := Lib.hid hb7
                clear hb7 hf7 v0p v1p v2p v3p v4p a0p n8p HBARE
                go_wp2
                go_ret
                exact ⟨by rw [HFF.out, hd0]; rfl, HB7.out⟩
          have hFF := fitsU_some (S := S) (n := n) (b := b) (l := l) (ks := ks) hA (by rw [Int.toNat_natCast]; exact HSN.out) HKD.out
          have hBV : boundsV nd n b.length l.length ks.length (vbM b) (ubM ks) = false := by unfold boundsV; rw [HKD.out]; simp [h1, h2, h3, h4, h5, h6, h7, h8, h9, h10, h11, h12, h13, h14]
          rw [hBV, Bool.and_false, Bool.false_and] at hFF
          have HFF := Lib.hid hFF
          clear hFF hBV HKD
          go_wp2
          go_ret
          exact ⟨by rw [HFF.out]; rfl, HB6.out⟩
        · have hkq : (kd != k) = true := by simp [hke]
          have hkq2 : (kd == k) = false := by simp [hke]
          have HF : Hid (fitsU aM1 S (m : Int) (.mk k n b l ks) = false) := Lib.hid (by
            rw [fitsU, if_neg hA, Int.toNat_natCast, HSN.out]
            simp only [aM1, aloneV, U.kd, HKD.out, hkq2, Bool.false_and])
          go_enter Tryz.func11, Tryz.ntmps11
          go_upto_region 1 with fail
          rw [HW0.out]
          refine reg_aft (by kernel_rfl) (by kernel_rfl) ?_
          repeat (go_big_quiet_step (fail))
          refine wpQuiet_nil ?_
          rintro ⟨W5, hf5⟩
          show Exit.then _ _ Exit.normal _ W5
          have hb5 := HB0.out.trans ((fr_belowT hf5).mono HB0.out.size)
          have HB5 := Lib.hid hb5
          clear hb5 hf5 y0p x0p z0p
          go_wp2
          go_ret
          exact ⟨by rw [HF.out]; rfl, HB5.out⟩
theorem rfits_all : ∀ (n : Nat) (z : U), SizeOf.sizeOf z < n → RfC z
  | 0, _, h => by omega
  | n + 1, .mk k nn b l ks, h => rfits_step k nn b l ks (fun x hx => rfits_all n x (by
      have := List.sizeOf_lt_of_mem hx
      simp only [U.mk.sizeOf_spec] at h
      omega))
theorem rfits_any (z : U) : RfC z := rfits_all (SizeOf.sizeOf z + 1) z (by omega)
end Go.Proofs.YtfboecnhakihnaaGreatDoor
