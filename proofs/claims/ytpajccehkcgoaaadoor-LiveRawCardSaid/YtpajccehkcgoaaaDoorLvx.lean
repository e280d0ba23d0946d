/-
  The walk of LiveRaw.
-/
import Derived.Test.YtpajccehkcgoaaaDoorLvh
namespace Go.Proofs.YtpajccehkcgoaaaDoor
open Go.RowKit Go.Shelf Lv

theorem lens_of {ns : List Nd} (h : ∀ d, d ∈ ns → d.br.length ≤ 20 ∧ d.fs.length ≤ 20) : ∀ i, (nsF ns i).br.length ≤ 20 ∧ (nsF ns i).ft.length ≤ 20 := fun i => by
  unfold nsF toN
  rw [List.getD_eq_getElem?_getD]
  cases hi : ns[i]? with
  | none => exact ⟨by decide, by decide⟩
  | some d =>
    have := h d (List.mem_of_getElem? hi)
    simp only [Option.getD_some, List.length_map]
    exact this
set_option maxRecDepth 100000 in
set_option maxHeartbeats 8000000 in
theorem raw_walk (ns : List Nd) (nsv : Value) (W : World) (hns : NdsAt W (fun b => b < W.heap.size) ns nsv) :
    Calls Tryd.prog 3 #[.agg #[nsv]] W fun e w' => e = .returned (.bool true) ∧ Below W.heap.size W w' := by
  obtain ⟨A, cap, cc, rfl, hc1, hc2, hc3, hc4⟩ := id hns
  unfold maxLen at hc2
  have hf0 : Fr W (W.alloc (.cells #[.slice A ns.length cap] 24)) (fun _ => True) := fr_allocX (Fr.refl _ _)
  have hb : (W.alloc (.cells #[.slice A ns.length cap] 24)).heap[W.heap.size]? = some (.cells #[.slice A ns.length cap] 24 (0, 0)) := new_at rfl _
  have HAW := Lib.hid (show ∀ W', Fr W W' (fun _ => True) → Calls Tryd.prog 5 #[] W' fun e w' => e = .returned (.bool true) ∧ Fr W' w' (fun _ => True) from fun W' _ => awake11 W')
  have HNS := Lib.hid hns
  have HC3 := Lib.hid hc3
  have HC4 := Lib.hid hc4
  obtain ⟨n, hnn⟩ : ∃ n, ns.length = n := ⟨_, rfl⟩
  rw [hnn] at hf0 hb hc1 HC3 HNS ⊢
  have HNL := Lib.hid hnn
  clear hns hc3 hc4 hnn
  go_enter Tryd.func3, Tryd.ntmps3
  go_upto_region 1 with fail
  generalize W.alloc (.cells #[.slice A n cap] 24) = W0 at *
  have HF0 := Lib.hid hf0
  have HB := Lib.hid hb
  have b0 := cell_of_row _ _ 0 _ _ _ hb
  clear hf0 hb
  by_cases hbig : 40 < n
  · have hcall := HAW.out W0 HF0.out
    go_wp2_with fail
    refine hcall.mono ?_
    rintro e w1 ⟨rfl, hf1⟩
    have HF1 := Lib.hid (HF0.out.trans hf1)
    clear hcall hf1
    go_wp2
    go_ret
    exact ⟨rfl, fr_below HF1.out⟩
  · go_wp2
    go_loopg [3] n (fun gh c wr => ∃ k : Nat, k + gh = n ∧ c = .int .i64 (k : Int) ∧ Hid (∀ i d, i < k → ns[i]? = some d → d.br.length ≤ 20 ∧ d.fs.length ≤ 20) ∧ W0 = wr)
    case atStart => exact ⟨0, by omega, rfl, Lib.hid (fun i d h => by omega), rfl⟩
    case round =>
      obtain ⟨k, hg, rfl, HL, rfl⟩ := hrel
      have HG := Lib.hid hg
      clear hg
      by_cases hlt : k < n
      · obtain ⟨nd, hnd⟩ : ∃ nd, ns[k]? = some nd := ⟨_, List.getElem?_eq_getElem (by rw [HNL.out]; exact hlt)⟩
        have HN := HC4.out k nd hnd
        obtain ⟨gn, off, rfl, hgn, hcz⟩ := HC3.out (by omega)
        have z3 := HF0.out.cell (hcz k 3 hlt (by omega)) trivial
        have z8 := HF0.out.cell (hcz k 8 hlt (by omega)) trivial
        rw [show off + (10 * k + 3) = off + k * 10 + 3 by omega] at z3
        rw [show off + (10 * k + 8) = off + k * 10 + 8 by omega] at z8
        obtain ⟨Afs, cfs, ccf, hfe, _⟩ := HN.fs
        obtain ⟨Abr, cbr, hbe, _⟩ := HN.br
        rw [hfe] at z3
        rw [hbe] at z8
        have HND := Lib.hid hnd
        clear hcz hfe hbe HN hnd
        by_cases h1 : 20 < nd.fs.length
        · have h1i : (20 : Int) < (nd.fs.length : Int) := by omega
          have hcall := HAW.out W0 HF0.out
          go_wp2_with fail
          refine hcall.mono ?_
          rintro e w1 ⟨rfl, hf1⟩
          have HF1 := Lib.hid (HF0.out.trans hf1)
          clear hcall hf1
          go_wp2
          go_ret
          exact ⟨rfl, fr_below HF1.out⟩
        · have h1i : ¬ (20 : Int) < (nd.fs.length : Int) := by omega
          by_cases h2 : 20 < nd.br.length
          · have h2i : (20 : Int) < (nd.br.length : Int) := by omega
            have hcall := HAW.out W0 HF0.out
            go_wp2_with fail
            refine hcall.mono ?_
            rintro e w1 ⟨rfl, hf1⟩
            have HF1 := Lib.hid (HF0.out.trans hf1)
            clear hcall hf1
            go_wp2
            go_ret
            exact ⟨rfl, fr_below HF1.out⟩
          · have h2i : ¬ (20 : Int) < (nd.br.length : Int) := by omega
            go_wp2
            go_roundg (n - (k + 1))
            case measure => have := HG.out; omega
            case rel => exact ⟨k + 1, by omega, by go_num, Lib.hid (fun i d hi hd => by
              by_cases e : i = k
              · subst e
                rw [HND.out] at hd
                cases hd
                exact ⟨by omega, by omega⟩
              · exact HL.out i d (by omega) hd), rfl⟩
      · have hk : n = k := by have := HG.out; omega
        subst hk
        have hlens : ∀ d, d ∈ ns → d.br.length ≤ 20 ∧ d.fs.length ≤ 20 := fun d hd => by
          obtain ⟨i, hi⟩ := List.mem_iff_getElem?.1 hd
          exact HL.out i d (by have := (List.getElem?_eq_some_iff.1 hi).1; rw [HNL.out] at this; exact this) hi
        obtain ⟨L, hL⟩ : ∃ L, rgB n (fun i => decide (0 ≤ refM n (nsF ns) (n + 1) i)) = L := ⟨_, rfl⟩
        have HLL := Lib.hid (show L.length ≤ 1000000 by rw [← hL, rgB_len]; omega)
        have HLN := Lib.hid (show ∀ W', Fr W0 W' (fun _ => True) → Calls Tryd.prog 7 #[.agg #[.slice A n cap]] W' fun e w' => ∃ v, e = .returned v ∧ BoolsAt w' (fun _ => True) L v ∧ Fr W' w' (fun _ => True) from fun W' hf => by
          have h := livenodes_any W' ns (.slice A n cap) (nds_monoL (nds_fr (HF0.out.trans hf) (fun _ _ => trivial) HNS.out) (fun b hb => Nat.lt_of_lt_of_le hb (HF0.out.trans hf).size)) (by rw [HNL.out]; omega) (lens_of hlens)
          refine h.mono fun e w' ⟨f, hlv, v, he, hbv, hfw⟩ => ⟨v, he, ?_, hfw⟩
          rw [HNL.out] at hlv hbv
          have e : rgB n f = L := by
            rw [← hL]
            apply List.map_congr_left
            intro i hi
            have hi := List.mem_range.1 hi
            rw [Bool.eq_iff_iff, decide_eq_true_eq, hlv i hi]
            exact (ref_live i hi).symm
          rwa [e] at hbv)
        have HRN := Lib.hid (show ∀ W', Fr W0 W' (fun _ => True) → Calls Tryd.prog 8 #[.agg #[.slice A n cap]] W' fun e w' => ∃ v, e = .returned v ∧ BoolsAt w' (fun _ => True) L v ∧ Fr W' w' (fun _ => True) from fun W' hf => by
          have h := refnodes_any W' ns (.slice A n cap) (nds_monoL (nds_fr (HF0.out.trans hf) (fun _ _ => trivial) HNS.out) (fun b hb => Nat.lt_of_lt_of_le hb (HF0.out.trans hf).size)) (by rw [HNL.out]; omega) hlens
          refine h.mono fun e w' ⟨v, he, hbv, hfw⟩ => ⟨v, he, ?_, hfw⟩
          rw [HNL.out, hL] at hbv
          exact hbv)
        have HB0 := Lib.hid b0
        clear hlens hL
        go_upto_region 8 with fail
        go_cut [2] (fun r wx => r = .bool true ∧ Hid (Fr W wx (fun _ => True)))
        case first =>
          go_region_law ((first
            | (go_simp
               refine (HAW.out _ (HF0.out.trans (by first | exact Fr.refl _ _ | exact fr_drewX (Fr.refl _ _)))).mono ?_
               rintro e wa ⟨rfl, hfa⟩
               have hfa0 : Fr W0 wa (fun _ => True) := (Fr.trans (by first | exact Fr.refl _ _ | exact fr_drewX (Fr.refl _ _)) hfa)
               have b0a := hfa0.cell HB0.out trivial)
            | (go_simp
               refine (HLN.out _ (by first | exact hfr0 | exact hfa0)).mono ?_
               rintro e wl ⟨vl, rfl, hbl, hfl⟩
               have hfl0 : Fr W0 wl (fun _ => True) := (Fr.trans (by first | exact hfr0 | exact hfa0) hfl)
               have b0l := hfl0.cell HB0.out trivial)
            | (go_simp
               refine (HRN.out _ (by first | exact hfl0 | exact hfa0)).mono ?_
               rintro e wr ⟨vr, rfl, hbr, hfr⟩
               have hfr0 : Fr W0 wr (fun _ => True) := (Fr.trans (by first | exact hfl0 | exact hfa0) hfr)
               have b0r := hfr0.cell HB0.out trivial)
            | (go_simp
               refine (plain_bools L vl vr _ (fun _ => True) (fun _ => True) HLL.out (by first | exact hbl | exact hbl.fr hfr (fun _ h => h)) (by first | exact hbr | exact hbr.fr hfl (fun _ h => h))).mono ?_
               rintro e wp ⟨rfl, hfp⟩
               have hfp0 : Fr W0 wp (fun _ => True) := (Fr.trans (by first | exact hfr0 | exact hfl0) hfp))
            | fail))
          all_goals
            go_wp2_with fail
            go_meet
            exact ⟨rfl, Lib.hid (HF0.out.trans hfp0)⟩
        case rest =>
          obtain ⟨rfl, HFX⟩ := hcut
          go_wp2
          go_ret
          exact ⟨rfl, fr_below HFX.out⟩
end Go.Proofs.YtpajccehkcgoaaaDoor
