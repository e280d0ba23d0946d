/-
  ValueFits holds (in its second form): for every schema, node and value (whose readings hold at most 1048576 values and letters), the program's Fits, Count and Depth are the reference's. No other condition but what the card itself ties.
-/
import Derived.Test.YtfboecnhakihnaaGreatDoorFiF
import Derived.Test.YtfboecnhakihnaaGreatDoorRfb
import Derived.Test.YtfboecnhakihnaaGreatDoorUsm
import Derived.Test.YtfboecnhakihnaaGreatDoorUaw
namespace Go.Proofs.YtfboecnhakihnaaGreatDoor
open Go.RowKit Go.Shelf

theorem wsum_len {α : Type} (wt : α → Nat) (h : ∀ a, 1 ≤ wt a) : ∀ (l : List α), l.length ≤ wsum wt l
  | [] => Nat.le_refl _
  | a :: r => by have := wsum_len wt h r; have := h a; rw [wsum, List.length_cons]; omega
set_option maxRecDepth 100000 in
set_option maxHeartbeats 8000000 in
theorem fits_walk (S : List Nd) (vs : Value) (m : Int) (z : U) (v0 v1 v2 v3 v4 : Value) (w : World) (hN : NdsAt w (fun b => b < w.heap.size) S vs) (hSw : wsum ndw S ≤ 1048576) (hz : UIn w (fun b => b < w.heap.size) z v0 v1 v2 v3 v4) (hzw : uw z ≤ 1048576) (hG : js.Gl w) :
    Calls Tryz.prog 3 #[.agg #[vs], .int .i64 m, .agg #[v0, v1, v2, v3, v4]] w fun e w' => e = .returned (.bool true) ∧ Below w.heap.size w w' := by
  have hSl : S.length ≤ 1048576 := Nat.le_trans (wsum_len ndw (fun a => by unfold ndw; omega) S) hSw
  obtain ⟨As, caps, cs, rfl, _⟩ := id hN
  have hz' := hz
  obtain ⟨k, n, B, n0, c0, A, n1, c1, A', n2, c2, rfl, rfl, rfl, rfl, rfl⟩ := uin_agg hz
  obtain ⟨W0, hW0⟩ : ∃ W0, (w.alloc (.cells #[.slice As S.length caps] 24)).alloc (.cells #[.int .i64 k, .int .i64 n, .slice B n0 c0, .slice A n1 c1, .slice A' n2 c2] 29) = W0 := ⟨_, rfl⟩
  have hb0 : Below w.heap.size w W0 := by rw [← hW0]; exact ((Below.refl _ w).alloc (Nat.le_refl _) _).alloc (by simp) _
  have a0 : W0.heap[w.heap.size]? = some (.cells #[.slice As S.length caps] 24 (0, 0)) := by rw [← hW0]; exact old_at _ (new_at rfl _)
  have z0 : W0.heap[w.heap.size + 1]? = some (.cells #[.int .i64 k, .int .i64 n, .slice B n0 c0, .slice A n1 c1, .slice A' n2 c2] 29 (0, 0)) := by rw [← hW0]; exact new_at (by simp) _
  have HNN := Lib.hid (show ∀ W, Below w.heap.size w W → NdsAt W (fun b => b < W.heap.size) S (.slice As S.length caps) from fun W h => nds_mono (nds_fr (below_fr0 h) (fun _ _ => trivial) hN) (fun b hb => Nat.lt_of_lt_of_le hb h.size))
  have HZZ := Lib.hid (show ∀ W, Below w.heap.size w W → UIn W (fun b => b < W.heap.size) z (.int .i64 k) (.int .i64 n) (.slice B n0 c0) (.slice A n1 c1) (.slice A' n2 c2) from fun W h => (hz.fr (below_fr0 h) (fun _ _ => trivial)).mono (fun b _ hb => Nat.lt_of_lt_of_le hb h.size))
  have HGG := Lib.hid (show ∀ W, Below w.heap.size w W → js.Gl W from fun W h => hG.below h)
  have s0 : W0.cell? ⟨w.heap.size, 0, none⟩ = some (.slice As S.length caps) := cell_of_row _ _ 0 _ _ _ a0
  have hfew := few_any S _ W0 (HNN.out W0 hb0)
  have HB0 := Lib.hid hb0
  have HA0 := Lib.hid a0
  have HZ0 := Lib.hid z0
  clear hN hz hz' hG hb0 a0 z0
  go_enter Tryz.func3, Tryz.ntmps3
  go_wp2_with fail
  refine hfew.mono ?_
  rintro e w1 ⟨⟨fb, rfl⟩, hb1⟩
  have hbw1 := HB0.out.trans (hb1.mono HB0.out.size)
  have HB1 := Lib.hid hbw1
  have hz1 := (below_fr0 hb1).at HZ0.out trivial
  have ha1 := (below_fr0 hb1).at HA0.out trivial
  obtain ⟨p0, p1, p2, p3, p4⟩ := cells_5 hz1
  have HZ1 := Lib.hid hz1
  have HA1 := Lib.hid ha1
  clear hfew hb1 hbw1 hz1 ha1 hW0 s0
  cases fb with
  | false =>
    go_wp2_with fail
    refine (vawake w1 (HGG.out w1 HB1.out)).mono ?_
    rintro e w2 ⟨rfl, hb2⟩
    have hbw2 := HB1.out.trans (hb2.mono HB1.out.size)
    have HB2 := Lib.hid hbw2
    clear hb2 hbw2
    go_wp2
    go_ret
    exact ⟨rfl, HB2.out⟩
  | true =>
    have hsm := small_any z hzw 3000 (by omega) w1 _ _ _ _ _ (HZZ.out w1 HB1.out)
    obtain ⟨sb, hsb⟩ : ∃ sb, decide (un z ≤ 3000) = sb := ⟨_, rfl⟩
    rw [hsb] at hsm
    have HSB := Lib.hid hsb
    clear hsb
    go_wp2_with fail
    refine hsm.mono ?_
    rintro e w2 ⟨rfl, hb2⟩
    have hbw2 := HB1.out.trans (hb2.mono HB1.out.size)
    have HB2 := Lib.hid hbw2
    have hz2 := (below_fr0 hb2).at HZ1.out trivial
    have ha2 := (below_fr0 hb2).at HA1.out trivial
    have HZ2 := Lib.hid hz2
    have HA2 := Lib.hid ha2
    clear hsm hb2 hbw2 hz2 ha2 p0 p1 p2 p3 p4
    cases sb with
    | false =>
      go_wp2_with fail
      refine (vawake w2 (HGG.out w2 HB2.out)).mono ?_
      rintro e w3 ⟨rfl, hb3⟩
      have hbw3 := HB2.out.trans (hb3.mono HB2.out.size)
      have HB3 := Lib.hid hbw3
      clear hb3 hbw3
      go_wp2
      go_ret
      exact ⟨rfl, HB3.out⟩
    | true =>
      have hun : un z ≤ 3000 := of_decide_eq_true HSB.out
      have huck := uck_un z
      have huc : uc z ≤ 100000 := by omega
      have huk : uk z ≤ 1000000 := by omega
      have hBp : ∀ p : Aft w2, Below w.heap.size w p.w := fun p => HB2.out.trans ((fr_belowT p.fr).mono HB2.out.size)
      have H9 := Lib.hid (show ∀ p : Aft w2, Calls Tryz.prog 9 #[] p.w fun e w' => e = .returned (.bool true) ∧ ∃ q : Aft w2, w' = q.w from fun p => aft_call ((vawake p.w (HGG.out p.w (hBp p))).mono fun _ _ ⟨h1, h2⟩ => ⟨h1, below_fr0 h2⟩))
      obtain ⟨F, hF⟩ : ∃ F, fitsU aM1 S m z = F := ⟨_, rfl⟩
      have H10 := Lib.hid (show ∀ p : Aft w2, Calls Tryz.prog 10 #[.agg #[.slice As S.length caps], .int .i64 m, .agg #[.int .i64 k, .int .i64 n, .slice B n0 c0, .slice A n1 c1, .slice A' n2 c2]] p.w fun e w' => e = .returned (.bool F) ∧ ∃ q : Aft w2, w' = q.w from fun p => by
        have := fits_any aM1 S (leaves1 S) hSl m z huc huk p.w _ _ _ _ _ _ (HZZ.out p.w (hBp p)) (HNN.out p.w (hBp p)) (alone_c1 S p.w (HGG.out p.w (hBp p)).u8)
        rw [hF] at this
        exact aft_call (this.mono fun _ _ ⟨h1, h2⟩ => ⟨h1, below_fr0 h2⟩))
      have H11 := Lib.hid (show ∀ p : Aft w2, Calls Tryz.prog 11 #[.agg #[.slice As S.length caps], .int .i64 m, .agg #[.int .i64 k, .int .i64 n, .slice B n0 c0, .slice A n1 c1, .slice A' n2 c2]] p.w fun e w' => e = .returned (.bool F) ∧ ∃ q : Aft w2, w' = q.w from fun p => by
        have := rfits_any z S _ m p.w _ _ _ _ _ (HNN.out p.w (hBp p)) (HZZ.out p.w (hBp p)) (HGG.out p.w (hBp p)).u8 huc huk
        rw [hF] at this
        exact aft_call (this.mono fun _ _ ⟨h1, h2⟩ => ⟨h1, below_fr0 h2⟩))
      obtain ⟨C, hC⟩ : ∃ C, uc z = C := ⟨_, rfl⟩
      obtain ⟨D, hD⟩ : ∃ D, maxD (pu 1 z) = D := ⟨_, rfl⟩
      have H12 := Lib.hid (show ∀ p : Aft w2, Calls Tryz.prog 12 #[.agg #[.int .i64 k, .int .i64 n, .slice B n0 c0, .slice A n1 c1, .slice A' n2 c2]] p.w fun e w' => e = .returned (.int .i64 C) ∧ ∃ q : Aft w2, w' = q.w from fun p => by
        have := count_any z p.w _ _ _ _ _ (HZZ.out p.w (hBp p)) huc
        rw [hC] at this
        exact aft_call (this.mono fun _ _ ⟨h1, h2⟩ => ⟨h1, below_fr0 h2⟩))
      have H13 := Lib.hid (show ∀ p : Aft w2, Calls Tryz.prog 13 #[.agg #[.int .i64 k, .int .i64 n, .slice B n0 c0, .slice A n1 c1, .slice A' n2 c2]] p.w fun e w' => e = .returned (.int .i64 C) ∧ ∃ q : Aft w2, w' = q.w from fun p => by
        have := rcount_all (SizeOf.sizeOf z + 1) z (by omega) p.w _ _ _ _ _ (HZZ.out p.w (hBp p)) huc
        rw [hC] at this
        exact aft_call (this.mono fun _ _ ⟨h1, h2⟩ => ⟨h1, below_fr0 h2⟩))
      have H14 := Lib.hid (show ∀ p : Aft w2, Calls Tryz.prog 14 #[.agg #[.int .i64 k, .int .i64 n, .slice B n0 c0, .slice A n1 c1, .slice A' n2 c2]] p.w fun e w' => e = .returned (.int .i64 D) ∧ ∃ q : Aft w2, w' = q.w from fun p => by
        have := depth_any z p.w _ _ _ _ _ (HZZ.out p.w (hBp p)) huc
        rw [hD] at this
        exact aft_call (this.mono fun _ _ ⟨h1, h2⟩ => ⟨h1, below_fr0 h2⟩))
      have H15 := Lib.hid (show ∀ p : Aft w2, Calls Tryz.prog 15 #[.agg #[.int .i64 k, .int .i64 n, .slice B n0 c0, .slice A n1 c1, .slice A' n2 c2]] p.w fun e w' => e = .returned (.int .i64 D) ∧ ∃ q : Aft w2, w' = q.w from fun p => by
        have := rdepth_all (SizeOf.sizeOf z + 1) z (by omega) p.w _ _ _ _ _ (HZZ.out p.w (hBp p)) huc
        rw [show hgt z = D from hD] at this
        exact aft_call (this.mono fun _ _ ⟨h1, h2⟩ => ⟨h1, below_fr0 h2⟩))
      have a0p := fun p : Aft w2 => p.fr.cell (cell_of_row w2 w.heap.size 0 _ _ _ HA2.out) trivial
      have z0p := fun p : Aft w2 => p.fr.cell (cell_of_row w2 (w.heap.size + 1) 0 _ _ _ HZ2.out) trivial
      have z1p := fun p : Aft w2 => p.fr.cell (cell_of_row w2 (w.heap.size + 1) 1 _ _ _ HZ2.out) trivial
      have z2p := fun p : Aft w2 => p.fr.cell (cell_of_row w2 (w.heap.size + 1) 2 _ _ _ HZ2.out) trivial
      have z3p := fun p : Aft w2 => p.fr.cell (cell_of_row w2 (w.heap.size + 1) 3 _ _ _ HZ2.out) trivial
      have z4p := fun p : Aft w2 => p.fr.cell (cell_of_row w2 (w.heap.size + 1) 4 _ _ _ HZ2.out) trivial
      have hFe : (F == F) = true := by simp
      have hCe : ((C : Int) == (C : Int)) = true := by simp
      have hDe : ((D : Int) == (D : Int)) = true := by simp
      clear hun huck huc huk hBp hF hC hD
      go_upto_region 3 with fail
      refine reg_aft (by kernel_rfl) (by kernel_rfl) ?_
      repeat (go_big_quiet_step ((first | (go_at_call 9; exact H9.out _) | (go_at_call 10; exact H10.out _) | (go_at_call 11; exact H11.out _) | (go_at_call 12; exact H12.out _) | (go_at_call 13; exact H13.out _) | (go_at_call 14; exact H14.out _) | (go_at_call 15; exact H15.out _))))
      refine wpQuiet_nil ?_
      rintro ⟨W7, hf7⟩
      show Exit.then _ _ Exit.normal _ W7
      have hb7 := HB2.out.trans ((fr_belowT hf7).mono HB2.out.size)
      have HB7 := Lib.hid hb7
      clear hb7 hf7 a0p z0p z1p z2p z3p z4p H9 H10 H11 H12 H13 H14 H15
      go_wp2
      go_ret
      exact ⟨by first | rfl | simp [*], HB7.out⟩
/-- ValueFits holds, whatever the schema, the node and the value are. -/
theorem valueFits_holds : Rows.ValueFitsUptoCardSaid := valueFits.card fun ns vs m z v0 v1 v2 v3 v4 w hn hnw _ hz hzw hG => fits_walk ns vs m z v0 v1 v2 v3 v4 w hn hnw hz hzw hG
end Go.Proofs.YtfboecnhakihnaaGreatDoor
