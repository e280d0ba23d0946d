/-
  'Field' of the program and of the reference.
-/
import Derived.Test.YtcmillbjpplfjaaGreatDoorCat
namespace Go.Proofs.YtcmillbjpplfjaaGreatDoor
open Go.RowKit

theorem fieldL_yes {fs : List Fd} {ns : List ByteArray} {k : Nat} {n : ByteArray} (h : ns[k]? = some n) (hp : 0 ≤ fdI fs n) : fieldL fs (ns.drop k) = fdI fs n := by
  have hk := (List.getElem?_eq_some_iff.1 h).1
  have he := (List.getElem?_eq_some_iff.1 h).2
  rw [List.drop_eq_getElem_cons hk, he, fieldL, if_pos hp]
theorem fieldL_no {fs : List Fd} {ns : List ByteArray} {k : Nat} {n : ByteArray} (h : ns[k]? = some n) (hp : ¬ 0 ≤ fdI fs n) : fieldL fs (ns.drop k) = fieldL fs (ns.drop (k + 1)) := by
  have hk := (List.getElem?_eq_some_iff.1 h).1
  have he := (List.getElem?_eq_some_iff.1 h).2
  rw [List.drop_eq_getElem_cons hk, he, fieldL, if_neg hp]
theorem fdI_lo (fs : List Fd) (s : ByteArray) : -1 ≤ fdI fs s := by
  unfold fdI
  rcases firstI_spec (fdP s) fs 0 with ⟨h, _⟩ | ⟨i, a, _, h, _⟩ <;> rw [h] <;> omega
/-- A node and a field, each in a block of its own. -/
abbrev twoF (w : World) (c d : Nat → Value) : World := (w.alloc (.cells #[c 0, c 1, c 2, c 3, c 4, c 5, c 6, c 7, c 8, c 9] 50)).alloc (.cells #[d 0, d 1, d 2, d 3, d 4] 57)
set_option maxRecDepth 100000 in
set_option maxHeartbeats 2000000 in
theorem field_any (n : Nd) (f : Fd) (c d : Nat → Value) (w : World) (ok ok' : Nat → Prop) (hn : NdIn w ok n c) (hf : FdIn w ok' f d) (hl : f.al.length ≤ 100) :
    Calls Tryz.prog 124 #[ndv c, fdv d] w fun e w' => e = .returned (.int .i64 (fieldL n.fs (f.name :: f.al))) ∧ Below w.heap.size w w' := by
  have hb0 : Below w.heap.size w (twoF w c d) := ((Below.refl _ w).alloc (Nat.le_refl _) _).alloc (by simp) _
  have h1 : (twoF w c d).heap[w.heap.size]? = some (.cells #[c 0, c 1, c 2, c 3, c 4, c 5, c 6, c 7, c 8, c 9] 50 (0, 0)) := old_at _ (new_at rfl _)
  have h2 : (twoF w c d).heap[w.heap.size + 1]? = some (.cells #[d 0, d 1, d 2, d 3, d 4] 57 (0, 0)) := new_at (by simp) _
  have p3 := (cells_10 h1).2.2.2.1
  have q0 : (twoF w c d).cell? ⟨w.heap.size + 1, 0, none⟩ = some (.string f.name) := by rw [← hf.name]; exact cell_of_row _ _ 0 _ _ _ h2
  have q1 := cell_of_row _ _ 1 _ _ _ h2
  have hfr := below_fr0 hb0
  have hfs := hn.fs
  have hal := hf.al
  have hnl := hf.namel
  rw [show #[d 0, d 1, d 2, d 3, d 4][1]? = some (d 1) from rfl] at q1
  generalize c 3 = c3 at *
  generalize hW0 : twoF w c d = W0 at *
  generalize d 1 = d1 at *
  obtain ⟨A1, cap1, rfl, _⟩ := id hal
  obtain ⟨ns, hns⟩ : ∃ ns, f.name :: f.al = ns := ⟨_, rfl⟩
  have HFS := Lib.hid hfs
  have HAL := Lib.hid hal
  have HB0 := Lib.hid hb0
  have HL := Lib.hid hl
  have HNL := Lib.hid hnl
  have HNS := Lib.hid hns
  rw [hns]
  clear hfs hal hb0 hn hf hfr hl hnl hns h1 h2
  go_enter Tryz.func124, Tryz.ntmps124
  go_upto_region 1 with fail
  have q1a : ∀ o, (W0.alloc o).cell? ⟨w.heap.size + 1, 1, none⟩ = some (.slice A1 f.al.length cap1) := fun o => (fr_all W0 o).cell q1 trivial
  go_wp2_with fail
  have hA1 : ((W0.alloc (.cells #[.string f.name] 9)).alloc (.cells #[.slice (some ⟨W0.heap.size, 0, none⟩) 1 1, (.slice A1 f.al.length cap1)] 24)).cell? ⟨W0.heap.size, 0, none⟩ = some (.string f.name) := cell_of_row _ _ 0 _ _ _ (old_at _ (new_at rfl _))
  have hA2 : ((W0.alloc (.cells #[.string f.name] 9)).alloc (.cells #[.slice (some ⟨W0.heap.size, 0, none⟩) 1 1, (.slice A1 f.al.length cap1)] 24)).heap[W0.heap.size + 1]? = some (.cells #[.slice (some ⟨W0.heap.size, 0, none⟩) 1 1, (.slice A1 f.al.length cap1)] 24 (0, 0)) := new_at (by simp) _
  have hA0 : Below W0.heap.size W0 ((W0.alloc (.cells #[.string f.name] 9)).alloc (.cells #[.slice (some ⟨W0.heap.size, 0, none⟩) 1 1, (.slice A1 f.al.length cap1)] 24)) := ((Below.refl _ W0).alloc (Nat.le_refl _) _).alloc (by simp) _
  have hfA := (below_fr0 HB0.out).trans (below_fr0 hA0)
  refine (concat_any f.name f.al W0.heap.size (W0.heap.size + 1) (.slice A1 f.al.length cap1) _ ok' HL.out HNL.out hA1 (HAL.out.fr hfA (fun _ _ => trivial)) hA2).mono ?_
  rintro e w1 ⟨v, rfl, hst, hb1⟩
  have hf1 := (below_fr0 hA0).trans (below_fr0 hb1)
  have HF1 := Lib.hid hf1
  have p3 := hf1.cell p3 trivial
  rw [HNS.out] at hst
  obtain ⟨A, cap, rfl, hlc, hcm, hsz, hcc⟩ := hst
  unfold maxLen at hcm
  have HCC := Lib.hid hcc
  have P3 := Lib.hid p3
  clear hA1 hA2 hA0 hfA hb1 hf1 hsz hcc q0 q1 q1a p3
  go_wp2
  go_loopg [16] ns.length (fun g i wr => ∃ k : Nat, k + g = ns.length ∧ i = .int .i64 (k : Int) ∧ Hid (fieldL n.fs ns = fieldL n.fs (ns.drop k)) ∧ Fr w1 wr (fun _ => True))
  case atStart => exact ⟨0, by omega, rfl, Lib.hid rfl, Fr.refl _ _⟩
  case round =>
    obtain ⟨k, hg, rfl, HN, hfr⟩ := hrel
    have HG := Lib.hid hg
    have hB : Below w.heap.size w wr := HB0.out.trans ((fr_below (HF1.out.trans hfr)).mono HB0.out.size)
    have HB := Lib.hid hB
    have HFR := Lib.hid hfr
    clear hg hB
    by_cases hlt : k < ns.length
    · obtain ⟨x, hx⟩ : ∃ x, ns[k]? = some x := ⟨_, List.getElem?_eq_getElem hlt⟩
      obtain ⟨g, off, rfl, _, hcell⟩ := HCC.out (by omega)
      have hxc := hfr.cell (hcell k x hx) trivial
      have p3a : ∀ o, (wr.alloc o).cell? ⟨w.heap.size, 3, none⟩ = some c3 := fun o => (fr_all wr o).cell (hfr.cell P3.out trivial) trivial
      have hI : Calls Tryz.prog 151 #[c3, .func (.func 152) #[] #[.pointer (some ⟨wr.heap.size, 0, none⟩)]] (wr.alloc (.cells #[.string x] 9)) fun e w' => e = .returned (.int .i64 (fdI n.fs x)) ∧ Below (wr.alloc (.cells #[.string x] 9)).heap.size (wr.alloc (.cells #[.string x] 9)) w' :=
        indexF_any n.fs x wr.heap.size c3 _ ok (RowsAt.fr ((below_fr0 HB.out).trans (fr_all wr _)) (fun _ _ => trivial) (fun _ _ hx => hx.fr ((below_fr0 HB.out).trans (fr_all wr _)) (fun _ _ => trivial)) HFS.out) (cell_of_row _ _ 0 _ _ _ (new_at rfl _))
      have HX := Lib.hid hx
      have hlo := fdI_lo n.fs x
      clear hcell hx hfr
      obtain ⟨R, hR⟩ : ∃ R, fdI n.fs x = R := ⟨_, rfl⟩
      rw [hR] at hI hlo
      have HRR := Lib.hid hR
      clear hR
      go_wp2_with fail
      refine hI.mono ?_
      rintro e w2 ⟨rfl, hb2⟩
      have HF2 := Lib.hid (HFR.out.trans ((fr_all wr _).trans (below_fr0 hb2)))
      have HB2 : Hid (Below w.heap.size w w2) := Lib.hid (HB0.out.trans ((fr_below (HF1.out.trans HF2.out)).mono HB0.out.size))
      clear hI hb2 hxc p3a
      by_cases hp : 0 ≤ R
      · have HP := Lib.hid hp
        go_wp2
        go_ret
        exact ⟨by rw [HN.out, fieldL_yes HX.out (by rw [HRR.out]; exact HP.out), HRR.out]; rfl, HB2.out⟩
      · have HP := Lib.hid hp
        go_wp2
        go_roundg (ns.length - (k + 1))
        case measure => have := HG.out; omega
        case rel => exact ⟨k + 1, by omega, by go_num, Lib.hid (by rw [HN.out, fieldL_no HX.out (by have := HP.out; rw [HRR.out]; omega)]), HF2.out⟩
    · have hk := HG.out
      clear hfr
      go_wp2
      go_ret
      exact ⟨by rw [HN.out, List.drop_of_length_le (by omega)]; rfl, HB.out⟩
/-- What the reference's loop over the other names comes to. -/
theorem fieldL_ref (fs : List Fd) (n : ByteArray) (l : List ByteArray) : fieldL fs (n :: l) = if 0 ≤ fdI fs n then fdI fs n else fieldL fs l := rfl
set_option maxRecDepth 100000 in
set_option maxHeartbeats 2000000 in
theorem field_ref (n : Nd) (f : Fd) (c d : Nat → Value) (w : World) (ok ok' : Nat → Prop) (hn : NdIn w ok n c) (hf : FdIn w ok' f d) (hl : f.al.length ≤ 100) :
    Calls Tryz.prog 95 #[ndv c, fdv d] w fun e w' => e = .returned (.int .i64 (fieldL n.fs (f.name :: f.al))) ∧ Below w.heap.size w w' := by
  have hb0 : Below w.heap.size w (twoF w c d) := ((Below.refl _ w).alloc (Nat.le_refl _) _).alloc (by simp) _
  have h1 : (twoF w c d).heap[w.heap.size]? = some (.cells #[c 0, c 1, c 2, c 3, c 4, c 5, c 6, c 7, c 8, c 9] 50 (0, 0)) := old_at _ (new_at rfl _)
  have h2 : (twoF w c d).heap[w.heap.size + 1]? = some (.cells #[d 0, d 1, d 2, d 3, d 4] 57 (0, 0)) := new_at (by simp) _
  have q0 : (twoF w c d).cell? ⟨w.heap.size + 1, 0, none⟩ = some (.string f.name) := by rw [← hf.name]; exact cell_of_row _ _ 0 _ _ _ h2
  obtain ⟨A, cap, e1, hlc, hcm, _, hcc⟩ := hf.al
  have q1 : (twoF w c d).cell? ⟨w.heap.size + 1, 1, none⟩ = some (.slice A f.al.length cap) := by rw [← e1]; exact cell_of_row _ _ 1 _ _ _ h2
  unfold maxLen at hcm
  have hN : ∀ (W : World) (s : ByteArray), Fr (twoF w c d) W (fun _ => True) → Calls Tryz.prog 128 #[ndv c, .string s] W fun e w' => e = .returned (.int .i64 (fdI n.fs s)) ∧ Below W.heap.size W w' := fun W s hW => named_ref n c s W ok (hn.fr ((below_fr0 hb0).trans hW) (fun _ _ => trivial))
  have HN := Lib.hid hN
  have HB0 := Lib.hid hb0
  have HCC := Lib.hid hcc
  clear hn hf hb0 hcc hN e1 h2
  rw [ndv] at HN
  go_enter Tryz.func95, Tryz.ntmps95
  go_upto_region 1 with fail
  change Code.wp _ _ _ _ (twoF w _ _)
  generalize twoF w c d = W0 at *
  obtain ⟨p0, p1, p2, p3, p4, p5, p6, p7, p8, p9⟩ := cells_10 h1
  have hcall := HN.out W0 f.name (Fr.refl _ _)
  generalize c 0 = c0 at *
  generalize c 1 = c1 at *
  generalize c 2 = c2 at *
  generalize c 3 = c3 at *
  generalize c 4 = c4 at *
  generalize c 5 = c5 at *
  generalize c 6 = c6 at *
  generalize c 7 = c7 at *
  generalize c 8 = c8 at *
  generalize c 9 = c9 at *
  go_wp2_with fail
  refine hcall.mono ?_
  rintro e w1 ⟨rfl, hb1⟩
  have hf1 := below_fr0 hb1
  have hN1 := hf1.at h1 trivial
  have q1 := hf1.cell q1 trivial
  have HF1 := Lib.hid hf1
  clear hcall hb1 hf1 p0 p1 p2 p3 p4 p5 p6 p7 p8 p9 h1 q0
  obtain ⟨R0, hR0⟩ : ∃ R0, fdI n.fs f.name = R0 := ⟨_, rfl⟩
  rw [hR0]
  have HR0 : Hid (fieldL n.fs (f.name :: f.al) = if 0 ≤ R0 then R0 else fieldL n.fs f.al) := Lib.hid (by rw [fieldL_ref, hR0])
  have hlo := fdI_lo n.fs f.name
  rw [hR0] at hlo
  have HN1 := Lib.hid hN1
  have Q1 := Lib.hid q1
  clear hR0 hN1 q1
  go_wp2
  go_loopg [5, 6] f.al.length (fun g kv i wr => ∃ (R : Int) (k : Nat), kv = .int .i64 R ∧ -1 ≤ R ∧ i = .int .i64 (k : Int) ∧ k + g = f.al.length ∧ Hid (fieldL n.fs (f.name :: f.al) = if 0 ≤ R then R else fieldL n.fs (f.al.drop k)) ∧ Fr w1 wr (fun _ => True))
  case atStart => exact ⟨R0, 0, rfl, hlo, rfl, by omega, HR0, Fr.refl _ _⟩
  case round =>
    obtain ⟨R, k, rfl, hRlo, rfl, hg, HX, hfr⟩ := hrel
    have HG := Lib.hid hg
    have hB : Below w.heap.size w wr := HB0.out.trans ((fr_below (HF1.out.trans hfr)).mono HB0.out.size)
    have HB := Lib.hid hB
    have HFR := Lib.hid hfr
    have q1 := hfr.cell Q1.out trivial
    clear hg hB
    by_cases hp : 0 ≤ R
    · have hd : decide (R < 0) = false := decide_eq_false (by omega)
      have HP := Lib.hid hp
      clear hfr
      by_cases hlt : k < f.al.length
      · go_wp2
        go_ret
        exact ⟨by rw [HX.out, if_pos HP.out]; rfl, HB.out⟩
      · go_wp2
        go_ret
        exact ⟨by rw [HX.out, if_pos HP.out]; rfl, HB.out⟩
    · have hd : decide (R < 0) = true := decide_eq_true (by omega)
      have HP := Lib.hid hp
      by_cases hlt : k < f.al.length
      · obtain ⟨x, hx⟩ : ∃ x, f.al[k]? = some x := ⟨_, List.getElem?_eq_getElem hlt⟩
        obtain ⟨g, off, rfl, _, hcell⟩ := HCC.out (by omega)
        have hki : (k : Int) < (f.al.length : Int) := by omega
        have hfw := (HF1.out.trans hfr)
        have hxp := fun p : Aft wr => p.fr.cell ((below_fr0 HB.out).cell (hcell k x hx) trivial) trivial
        have hblk := hfr.at HN1.out trivial
        have r0 := fun p : Aft wr => p.fr.cell (cell_of_row wr w.heap.size 0 _ _ _ hblk) trivial
        have r1 := fun p : Aft wr => p.fr.cell (cell_of_row wr w.heap.size 1 _ _ _ hblk) trivial
        have r2 := fun p : Aft wr => p.fr.cell (cell_of_row wr w.heap.size 2 _ _ _ hblk) trivial
        have r3 := fun p : Aft wr => p.fr.cell (cell_of_row wr w.heap.size 3 _ _ _ hblk) trivial
        have r4 := fun p : Aft wr => p.fr.cell (cell_of_row wr w.heap.size 4 _ _ _ hblk) trivial
        have r5 := fun p : Aft wr => p.fr.cell (cell_of_row wr w.heap.size 5 _ _ _ hblk) trivial
        have r6 := fun p : Aft wr => p.fr.cell (cell_of_row wr w.heap.size 6 _ _ _ hblk) trivial
        have r7 := fun p : Aft wr => p.fr.cell (cell_of_row wr w.heap.size 7 _ _ _ hblk) trivial
        have r8 := fun p : Aft wr => p.fr.cell (cell_of_row wr w.heap.size 8 _ _ _ hblk) trivial
        have r9 := fun p : Aft wr => p.fr.cell (cell_of_row wr w.heap.size 9 _ _ _ hblk) trivial
        have q1p := fun p : Aft wr => p.fr.cell q1 trivial
        have HCL := Lib.hid (show ∀ p : Aft wr, Calls Tryz.prog 128 #[.agg #[c0, c1, c2, c3, c4, c5, c6, c7, c8, c9], .string x] p.w fun e w' => e = .returned (.int .i64 (fdI n.fs x)) ∧ ∃ q : Aft wr, w' = q.w from fun p =>
          aft_call ((HN.out p.w x (hfw.trans p.fr)).mono fun _ _ ⟨h1, h2⟩ => ⟨h1, below_fr0 h2⟩))
        have HX1 := Lib.hid hx
        have hlo2 := fdI_lo n.fs x
        obtain ⟨R2, hR2⟩ : ∃ R2, fdI n.fs x = R2 := ⟨_, rfl⟩
        rw [hR2] at HCL hlo2
        have HR2 := Lib.hid hR2
        clear hcell hx hfw hblk hfr hR2
        go_upto_region 5 with fail
        clear q1
        refine reg_aft (by kernel_rfl) (by kernel_rfl) ?_
        repeat (go_big_quiet_step ((go_at_call 128; exact HCL.out _)))
        refine wpQuiet_nil ?_
        rintro ⟨W5, hf5⟩
        show Exit.inBlock _ _ Exit.normal _ W5
        have HF5 := Lib.hid (HFR.out.trans hf5)
        clear hf5 HCL q1p hxp r0 r1 r2 r3 r4 r5 r6 r7 r8 r9
        go_wp2
        go_roundg (f.al.length - (k + 1))
        case measure => have := HG.out; omega
        case rel =>
          refine ⟨R2, k + 1, rfl, hlo2, by go_num, by omega, Lib.hid ?_, HF5.out⟩
          have hnp : ¬ 0 ≤ R := by have := HP.out; omega
          rw [HX.out, if_neg hnp]
          have hk := (List.getElem?_eq_some_iff.1 HX1.out).1
          have he := (List.getElem?_eq_some_iff.1 HX1.out).2
          rw [List.drop_eq_getElem_cons hk, he, fieldL, HR2.out]
      · have hk := HG.out
        clear hfr
        go_wp2
        go_ret
        have hnp : ¬ 0 ≤ R := by have := HP.out; omega
        have hR1 : R = -1 := by omega
        exact ⟨by rw [HX.out, if_neg hnp, List.drop_of_length_le (by omega), hR1]; rfl, HB.out⟩
end Go.Proofs.YtcmillbjpplfjaaGreatDoor
