/-
  The walk of 'MatchFirst'.
-/
import Derived.Test.YtjfmoookjgbfoaaLaw
namespace Go.Proofs.Ytjfmoookjgbfoaa
open Go.RowKit

set_option maxRecDepth 100000 in
set_option maxHeartbeats 4000000 in
theorem first_walk (ns rs : List Nd) (vs us : Value) (i k : Int) (w : World) (ok ok' : Nat → Prop) (hn : NdsAt w ok ns vs) (hr : NdsAt w ok' rs us) :
    Calls Try.prog 4 #[.agg #[vs], .agg #[us], .int .i64 i, .int .i64 k] w fun e w' => e = .returned (.bool true) ∧ Below w.heap.size w w' := by
  have hb0 : Below w.heap.size w (twoS w vs us) := ((Below.refl _ w).alloc (Nat.le_refl _) _).alloc (by simp) _
  have h1 : (twoS w vs us).heap[w.heap.size]? = some (.cells #[vs] 35 (0, 0)) := old_at _ (new_at rfl _)
  have h2 : (twoS w vs us).heap[w.heap.size + 1]? = some (.cells #[us] 35 (0, 0)) := new_at (by simp) _
  have HN := Lib.hid hn
  have HR := Lib.hid hr
  have HB0 := Lib.hid hb0
  obtain ⟨A2, cap2, c2, rfl, hl2, hm2, hcc, hone⟩ := hr
  unfold maxLen at hm2
  have HC := Lib.hid hcc
  have HO := Lib.hid hone
  clear hcc hone hn hb0
  go_enter Try.func4, Try.ntmps4
  go_upto_region 1 with fail
  change Code.wp _ _ _ _ (twoS w _ _)
  generalize twoS w vs (.slice A2 rs.length cap2) = W0 at *
  have p0 := cell_of_row _ _ 0 _ _ _ h1
  have q0 := cell_of_row _ _ 0 _ _ _ h2
  go_wp2_with fail
  refine (few_any ns vs W0 ok (nds_fr (below_fr0 HB0.out) (fun _ _ => trivial) HN.out)).mono ?_
  rintro e w1 ⟨b1, rfl, hb1⟩
  have hB1 := HB0.out.trans (hb1.mono HB0.out.size)
  have HB1 := Lib.hid hB1
  have p1 := (below_fr0 hb1).cell p0 trivial
  have q1 := (below_fr0 hb1).cell q0 trivial
  clear hb1 hB1 p0 q0 h1 h2
  cases b1 with
  | false =>
    clear p1 q1
    go_wp2_with fail
    refine (awake_any w1).mono ?_
    rintro e w2 ⟨rfl, hb2⟩
    have HB2 := Lib.hid (HB1.out.trans (hb2.mono HB1.out.size))
    clear hb2
    go_wp2
    go_ret
    exact ⟨rfl, HB2.out⟩
  | true =>
    go_wp2_with fail
    refine (few_any rs _ w1 ok' (nds_fr (below_fr0 HB1.out) (fun _ _ => trivial) HR.out)).mono ?_
    rintro e w2 ⟨b2, rfl, hb2⟩
    have hB2 := HB1.out.trans (hb2.mono HB1.out.size)
    have HB2 := Lib.hid hB2
    have p2 := (below_fr0 hb2).cell p1 trivial
    have q2 := (below_fr0 hb2).cell q1 trivial
    clear hb2 hB2 p1 q1
    cases b2 with
    | false =>
      clear p2 q2
      go_wp2_with fail
      refine (awake_any w2).mono ?_
      rintro e w3 ⟨rfl, hb3⟩
      have HB3 := Lib.hid (HB2.out.trans (hb3.mono HB2.out.size))
      clear hb3
      go_wp2
      go_ret
      exact ⟨rfl, HB3.out⟩
    | true =>
      by_cases hlo : 0 ≤ k
      · by_cases hhi : k < (rs.length : Int)
        · obtain ⟨q, rfl⟩ : ∃ q : Nat, k = (q : Int) := ⟨k.toNat, by omega⟩
          have hq : q < rs.length := by omega
          obtain ⟨M, hM⟩ : ∃ M, rs[q]? = some M := ⟨_, List.getElem?_eq_getElem hq⟩
          have hi := HO.out q M hM
          have HBR : Hid (branchM ns rs i (q : Int) = if (M.kind == 13) = true then firstI (matchT ns rs i) M.br 0 else -1) := Lib.hid (by
            have ht : thereB rs (q : Int) = true := by unfold thereB; simp; omega
            rw [branchM, ndAt, if_pos ht, Int.toNat_natCast, hM, ht]; rfl)
          obtain ⟨A8, cap8, e8, hl8, hm8, hw8, hc8⟩ := hi.br
          unfold maxLen at hm8
          obtain ⟨g, off, rfl, _, hcell⟩ := HC.out (by omega)
          have z0 := fun (W : World) (h : Fr w2 W (fun _ => True)) => h.cell ((below_fr0 HB2.out).cell (hcell q 0 hq (by omega)) trivial) trivial
          have z8 := fun (W : World) (h : Fr w2 W (fun _ => True)) => h.cell ((below_fr0 HB2.out).cell (hcell q 8 hq (by omega)) trivial) trivial
          rw [hi.kind, show off + (10 * q + 0) = off + q * 10 by omega] at z0
          rw [e8, show off + (10 * q + 8) = off + q * 10 + 8 by omega] at z8
          have Z0 := Lib.hid z0
          have Z8 := Lib.hid z8
          have HC8 : Hid (0 < M.br.length → ∃ g off, A8 = some ⟨g, off, none⟩ ∧ ∀ (W : World), Fr w2 W (fun _ => True) → ∀ i x, M.br[i]? = some x → W.cell? ⟨g, off + i, none⟩ = some (.int .i64 x)) := Lib.hid fun hp => by
            obtain ⟨g, off, e, _, hc⟩ := hc8 hp
            exact ⟨g, off, e, fun W h i x hx => h.cell ((below_fr0 HB2.out).cell (hc i x hx) trivial) trivial⟩
          have HW8 := Lib.hid hw8
          clear hcell hM hi z0 z8 hc8 hw8 e8
          go_wp2_with fail
          refine (branch_any ns rs vs _ i q w2 ok ok' (nds_fr (below_fr0 HB2.out) (fun _ _ => trivial) HN.out) (nds_fr (below_fr0 HB2.out) (fun _ _ => trivial) HR.out)).mono ?_
          rintro e w3 ⟨rfl, hb3⟩
          have hf3 := below_fr0 hb3
          have q3 := hf3.cell q2 trivial
          have p3 := hf3.cell p2 trivial
          have z3 := Z8.out w3 hf3
          have HF3 := Lib.hid hf3
          have HB3 := Lib.hid (HB2.out.trans (hb3.mono HB2.out.size))
          clear hb3 hf3 p2 q2
          obtain ⟨R, hR⟩ : ∃ R, branchM ns rs i (q : Int) = R := ⟨_, rfl⟩
          rw [hR] at HBR
          rw [hR]
          clear hR
          go_wp2_with fail
          refine (awake_any w3).mono ?_
          rintro e w4 ⟨rfl, hb4⟩
          have hf4 := below_fr0 hb4
          have hf24 := HF3.out.trans hf4
          have q4 := hf4.cell q3 trivial
          have p4 := hf4.cell p3 trivial
          have z4 := Z0.out w4 hf24
          have HF4 := Lib.hid hf24
          have HB4 := Lib.hid (HB3.out.trans (hb4.mono HB3.out.size))
          clear hb4 hf4 hf24 p3 q3 z3
          cases hk : (M.kind == 13) with
          | false =>
            have hk' : (M.kind != 13) = true := by unfold bne; rw [hk]; rfl
            have HR1 : Hid (R = -1) := Lib.hid (by rw [HBR.out, hk]; rfl)
            have hR1 : (R == -1) = true := by rw [HR1.out]; rfl
            clear HR1 HBR hk
            go_wp2_with fail
            refine (awake_any w4).mono ?_
            rintro e w5 ⟨rfl, hb5⟩
            have HB5 := Lib.hid (HB4.out.trans (hb5.mono HB4.out.size))
            clear hb5 p4 q4 z4
            go_wp2
            go_ret
            exact ⟨rfl, HB5.out⟩
          | true =>
            have hk' : (M.kind != 13) = false := by unfold bne; rw [hk]; rfl
            have HR1 : Hid (R = firstI (matchT ns rs i) M.br 0) := Lib.hid (by rw [HBR.out, hk]; rfl)
            have h4 := (below_fr0 HB4.out)
            have HTY : Hid (∀ (W : World), Fr w4 W (fun _ => True) → ∀ (x : Int), x ∈ M.br → Calls Try.prog 13 #[.agg #[vs], .int .i64 i, .agg #[.slice (some ⟨g, off, none⟩) rs.length cap2], .int .i64 x] W fun e w' => e = .returned (.bool (matchT ns rs i x)) ∧ Fr W w' (fun _ => True)) := Lib.hid fun W hW x hx =>
              ((types_any ns rs vs _ i x W ok ok' (HW8.out x hx) (nds_fr (h4.trans hW) (fun _ _ => trivial) HN.out) (nds_fr (h4.trans hW) (fun _ _ => trivial) HR.out)).mono fun _ _ ⟨h1, h2⟩ => ⟨h1, below_fr0 h2⟩)
            clear HBR hk h4
            rcases firstI_spec (matchT ns rs i) M.br 0 with ⟨e1, hall⟩ | ⟨p, a, ha, e1, hpa, hbef⟩
            · have hRe : R = -1 := by rw [HR1.out, e1]
              subst hRe
              clear HR1 e1
              have P4 := Lib.hid p4
              have Q4 := Lib.hid q4
              have HRB : Hid (∀ x, x ∈ M.br → matchT ns rs i x = false) := Lib.hid hall
              go_wp2
              go_loopg [11] M.br.length (fun g bv wr => ∃ b : Nat, b + g = M.br.length ∧ bv = .int .i64 (b : Int) ∧ Fr w4 wr (fun _ => True))
              case atStart => exact ⟨0, by omega, rfl, Fr.refl _ _⟩
              case round =>
                obtain ⟨b, hg, rfl, hfr⟩ := hrel
                have HG := Lib.hid hg
                have HFR := Lib.hid hfr
                by_cases hlt : b < M.br.length
                · obtain ⟨x, hx⟩ : ∃ x, M.br[b]? = some x := ⟨_, List.getElem?_eq_getElem (by omega)⟩
                  obtain ⟨g8, o8, rfl, hc⟩ := HC8.out (by omega)
                  obtain ⟨T, hT⟩ : ∃ T, matchT ns rs i x = T := ⟨_, rfl⟩
                  have hbm : ((b : Int) == -1) = false := by rw [beq_eq_false_iff_ne]; omega
                  obtain rfl : T = false := by rw [← hT, HRB.out x (List.mem_of_getElem? hx)]
                  have hbi : (b : Int) < (M.br.length : Int) := by omega
                  have H13 := Lib.hid (show ∀ p : Aft wr, Calls Try.prog 13 #[.agg #[vs], .int .i64 i, .agg #[.slice (some ⟨g, off, none⟩) rs.length cap2], .int .i64 x] p.w fun e w' => e = .returned (.bool false) ∧ ∃ q : Aft wr, w' = q.w from fun p => by
                    have h := HTY.out p.w (hfr.trans p.fr) x (List.mem_of_getElem? hx)
                    rw [hT] at h
                    exact aft_call h)
                  have a4 := fun p : Aft wr => p.fr.cell (hfr.cell P4.out trivial) trivial
                  have b4 := fun p : Aft wr => p.fr.cell (hfr.cell Q4.out trivial) trivial
                  have x4 := fun p : Aft wr => p.fr.cell (hc wr (HF4.out.trans hfr) b x hx) trivial
                  clear hT hx hc hfr hg
                  go_upto_region 12 with fail
                  refine reg_aft (by kernel_rfl) (by kernel_rfl) ?_
                  repeat (go_big_quiet_step ((go_at_call 13; exact H13.out _)))
                  refine wpQuiet_nil ?_
                  rintro ⟨W5, hf5⟩
                  show Exit.then _ _ Exit.normal _ W5
                  have HF5 := Lib.hid (HFR.out.trans hf5)
                  clear a4 b4 x4 H13 hf5
                  go_wp2
                  go_roundg (M.br.length - (b + 1))
                  case measure => have := HG.out; omega
                  case rel => exact ⟨b + 1, by omega, by go_num, HF5.out⟩
                · have hk9 := HG.out
                  have hFB := HB4.out.trans ((fr_below HFR.out).mono HB4.out.size)
                  have HFB := Lib.hid hFB
                  clear hFB hfr hg
                  go_wp2
                  go_ret
                  exact ⟨rfl, HFB.out⟩
            · have hRe : R = (p : Int) := by rw [HR1.out, e1]; omega
              subst hRe
              have hpl : p < M.br.length := (List.getElem?_eq_some_iff.1 ha).1
              have d60 : decide ((p : Int) < -1) = false := decide_eq_false (by omega)
              have d65 : decide (M.br.length ≤ p) = false := decide_eq_false (by omega)
              have d66 : decide ((M.br.length : Int) ≤ (p : Int)) = false := decide_eq_false (by omega)
              clear HR1 e1
              have P4 := Lib.hid p4
              have Q4 := Lib.hid q4
              have HRB : Hid (∀ j x, j ≤ p → M.br[j]? = some x → matchT ns rs i x = ((j : Int) == (p : Int))) := Lib.hid (fun j x hj hx => by
                rcases Nat.lt_or_ge j p with h | h
                · rw [hbef j x h hx]; symm; rw [beq_eq_false_iff_ne]; omega
                · obtain rfl : j = p := by omega
                  rw [ha] at hx; cases hx; rw [hpa]; simp)
              go_wp2
              go_loopg [11] (p + 1) (fun g bv wr => ∃ b : Nat, b + g = p + 1 ∧ bv = .int .i64 (b : Int) ∧ Fr w4 wr (fun _ => True))
              case atStart => exact ⟨0, by omega, rfl, Fr.refl _ _⟩
              case round =>
                obtain ⟨b, hg, rfl, hfr⟩ := hrel
                have HG := Lib.hid hg
                have HFR := Lib.hid hfr
                by_cases hlt : b < p + 1
                · obtain ⟨x, hx⟩ : ∃ x, M.br[b]? = some x := ⟨_, List.getElem?_eq_getElem (by omega)⟩
                  obtain ⟨g8, o8, rfl, hc⟩ := HC8.out (by omega)
                  obtain ⟨T, hT⟩ : ∃ T, matchT ns rs i x = T := ⟨_, rfl⟩
                  have hTb : T = ((b : Int) == (p : Int)) := by rw [← hT, HRB.out b x (by omega) hx]
                  have hbi : (b : Int) < (M.br.length : Int) := by omega
                  have hbp : decide ((b : Int) ≤ (p : Int)) = true := by simp; omega
                  have hbp2 : decide (b ≤ p) = true := by simp; omega
                  have H13 := Lib.hid (show ∀ p : Aft wr, Calls Try.prog 13 #[.agg #[vs], .int .i64 i, .agg #[.slice (some ⟨g, off, none⟩) rs.length cap2], .int .i64 x] p.w fun e w' => e = .returned (.bool T) ∧ ∃ q : Aft wr, w' = q.w from fun p => by
                    have h := HTY.out p.w (hfr.trans p.fr) x (List.mem_of_getElem? hx)
                    rw [hT] at h
                    exact aft_call h)
                  have a4 := fun p : Aft wr => p.fr.cell (hfr.cell P4.out trivial) trivial
                  have b4 := fun p : Aft wr => p.fr.cell (hfr.cell Q4.out trivial) trivial
                  have x4 := fun p : Aft wr => p.fr.cell (hc wr (HF4.out.trans hfr) b x hx) trivial
                  clear hT hx hc hfr hg
                  cases hbp3 : ((b : Int) == (p : Int)) with
                  | true =>
                    obtain rfl : T = true := by rw [hTb, hbp3]
                    clear hTb
                    go_upto_region 12 with fail
                    refine reg_aft (by kernel_rfl) (by kernel_rfl) ?_
                    repeat (go_big_quiet_step ((go_at_call 13; exact H13.out _)))
                    refine wpQuiet_nil ?_
                    rintro ⟨W5, hf5⟩
                    show Exit.then _ _ Exit.normal _ W5
                    have HF5 := Lib.hid (HFR.out.trans hf5)
                    clear a4 b4 x4 H13 hf5
                    go_wp2
                    go_roundg (p + 1 - (b + 1))
                    case measure => have := HG.out; omega
                    case rel => exact ⟨b + 1, by omega, by go_num, HF5.out⟩
                  | false =>
                    obtain rfl : T = false := by rw [hTb, hbp3]
                    clear hTb
                    go_upto_region 12 with fail
                    refine reg_aft (by kernel_rfl) (by kernel_rfl) ?_
                    repeat (go_big_quiet_step ((go_at_call 13; exact H13.out _)))
                    refine wpQuiet_nil ?_
                    rintro ⟨W5, hf5⟩
                    show Exit.then _ _ Exit.normal _ W5
                    have HF5 := Lib.hid (HFR.out.trans hf5)
                    clear a4 b4 x4 H13 hf5
                    go_wp2
                    go_roundg (p + 1 - (b + 1))
                    case measure => have := HG.out; omega
                    case rel => exact ⟨b + 1, by omega, by go_num, HF5.out⟩
                · have hk9 := HG.out
                  obtain rfl : b = p + 1 := by omega
                  have hFB := HB4.out.trans ((fr_below HFR.out).mono HB4.out.size)
                  have HFB := Lib.hid hFB
                  clear hFB hfr hg
                  by_cases hl2 : p + 1 < M.br.length
                  · have d1 : decide (((p + 1 : Nat) : Int) < (M.br.length : Int)) = true := by simp; omega
                    have d2 : decide (((p + 1 : Nat) : Int) ≤ (p : Int)) = false := by simp; omega
                    go_wp2
                    go_ret
                    exact ⟨rfl, HFB.out⟩
                  · go_wp2
                    go_ret
                    exact ⟨rfl, HFB.out⟩
        · have hd : decide ((rs.length : Int) ≤ k) = true := by simp; omega
          go_wp2_with fail
          refine (awake_any w2).mono ?_
          rintro e w3 ⟨rfl, hb3⟩
          have HB3 := Lib.hid (HB2.out.trans (hb3.mono HB2.out.size))
          clear hb3 p2 q2
          go_wp2
          go_ret
          exact ⟨rfl, HB3.out⟩
      · have hd : decide (k < 0) = true := by simp; omega
        go_wp2_with fail
        refine (awake_any w2).mono ?_
        rintro e w3 ⟨rfl, hb3⟩
        have HB3 := Lib.hid (HB2.out.trans (hb3.mono HB2.out.size))
        clear hb3 p2 q2
        go_wp2
        go_ret
        exact ⟨rfl, HB3.out⟩
end Go.Proofs.Ytjfmoookjgbfoaa
