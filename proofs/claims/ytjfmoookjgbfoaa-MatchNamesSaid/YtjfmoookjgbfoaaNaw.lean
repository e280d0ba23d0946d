/-
  The walk of 'MatchNames'.
-/
import Derived.Test.YtjfmoookjgbfoaaFie
namespace Go.Proofs.Ytjfmoookjgbfoaa
open Go.RowKit

set_option maxRecDepth 100000 in
set_option maxHeartbeats 2000000 in
theorem rnamed_any (n m : Nd) (c d : Nat → Value) (w : World) (ok ok' : Nat → Prop) (hn : NdIn w ok n c) (hm : NdIn w ok' m d) :
    Calls Try.prog 8 #[ndv c, ndv d] w fun e w' => e = .returned (.bool (namedB n m)) ∧ Below w.heap.size w w' := by
  have hb0 := two_below w c d
  have p1 : (two w c d).cell? ⟨w.heap.size, 1, none⟩ = some (.string n.name) := by rw [← hn.name]; exact (cells_10 (two_fst w c d)).2.1
  have q1 : (two w c d).cell? ⟨w.heap.size + 1, 1, none⟩ = some (.string m.name) := by rw [← hm.name]; exact (cells_10 (two_snd w c d)).2.1
  have q2 : (two w c d).cell? ⟨w.heap.size + 1, 2, none⟩ = some (d 2) := (cells_10 (two_snd w c d)).2.2.1
  have ha : StrsAt (two w c d) ok' m.al (d 2) := hm.al.fr (below_fr0 hb0) (fun _ _ => trivial)
  have HM : Hid (namedB n m = (eqS (shortS n.name) (shortS m.name) || inS m.al n.name)) := rfl
  have hnl := hn.namel
  have hml := hm.namel
  generalize namedB n m = N at *
  go_enter Try.func8, Try.ntmps8
  go_upto_region 1 with fail
  change Code.wp _ _ _ _ (two w c d)
  generalize two w c d = W0 at *
  have H1 := Lib.hid (show ∀ p : Aft W0, Calls Try.prog 17 #[.string n.name] p.w fun e w' => e = .returned (.string (shortS n.name)) ∧ ∃ q : Aft W0, w' = q.w from fun p => aft_same (rshort_any n.name p.w hnl))
  have H2 := Lib.hid (show ∀ p : Aft W0, Calls Try.prog 17 #[.string m.name] p.w fun e w' => e = .returned (.string (shortS m.name)) ∧ ∃ q : Aft W0, w' = q.w from fun p => aft_same (rshort_any m.name p.w hml))
  have H3 := Lib.hid (show ∀ p : Aft W0, Calls Try.prog 18 #[d 2, .string n.name] p.w fun e w' => e = .returned (.bool (inS m.al n.name)) ∧ ∃ q : Aft W0, w' = q.w from fun p => aft_same (in_any m.al n.name _ p.w _ (ha.fr p.fr (fun _ _ => trivial))))
  have p1p := fun p : Aft W0 => p.fr.cell p1 trivial
  have q1p := fun p : Aft W0 => p.fr.cell q1 trivial
  have q2p := fun p : Aft W0 => p.fr.cell q2 trivial
  have HB0 := Lib.hid hb0
  clear hb0 p1 q1 q2 ha hnl hml hn hm
  generalize shortS n.name = s1 at *
  generalize shortS m.name = s2 at *
  generalize inS m.al n.name = b2 at *
  generalize n.name = nn at *
  generalize m.name = mn at *
  generalize d 2 = d2 at *
  unfold eqS at HM
  cases he : (s1.toList == s2.toList) with
  | true =>
    have HE := Lib.hid he
    refine reg_aft (by kernel_rfl) (by kernel_rfl) ?_
    repeat (go_big_quiet_step ((first | (go_at_call 17; first | exact H1.out _ | exact H2.out _) | (go_at_call 18; exact H3.out _))))
    refine wpQuiet_nil ?_
    rintro ⟨W5, hf5⟩
    show Exit.then _ _ Exit.normal _ W5
    have hb5 := HB0.out.trans ((fr_belowT hf5).mono HB0.out.size)
    have HB5 := Lib.hid hb5
    clear p1p q1p q2p hb5 hf5 H1 H2 H3 he
    go_wp2
    go_ret
    exact ⟨by rw [HM.out, HE.out]; rfl, HB5.out⟩
  | false =>
    have HE := Lib.hid he
    refine reg_aft (by kernel_rfl) (by kernel_rfl) ?_
    repeat (go_big_quiet_step ((first | (go_at_call 17; first | exact H1.out _ | exact H2.out _) | (go_at_call 18; exact H3.out _))))
    refine wpQuiet_nil ?_
    rintro ⟨W5, hf5⟩
    show Exit.then _ _ Exit.normal _ W5
    have hb5 := HB0.out.trans ((fr_belowT hf5).mono HB0.out.size)
    have HB5 := Lib.hid hb5
    clear p1p q1p q2p hb5 hf5 H1 H2 H3 he
    go_wp2
    go_ret
    exact ⟨by rw [HM.out, HE.out]; rfl, HB5.out⟩

/-- Two nodes and a field, each in a block of its own. -/
abbrev three (w : World) (c d g : Nat → Value) : World := (two w c d).alloc (.cells #[g 0, g 1, g 2, g 3, g 4] 28)
set_option maxRecDepth 100000 in
set_option maxHeartbeats 4000000 in
theorem names_walk (n m : Nd) (f : Fd) (c d g : Nat → Value) (w : World) (ok ok' ok'' : Nat → Prop) (hn : NdIn w ok n c) (hm : NdIn w ok' m d) (hf : FdIn w ok'' f g) :
    Calls Try.prog 3 #[ndv c, ndv d, fdv g] w fun e w' => e = .returned (.bool true) ∧ Below w.heap.size w w' := by
  have hb0 : Below w.heap.size w (three w c d g) := (two_below w c d).alloc (two_below w c d).size _
  have h1 : (three w c d g).heap[w.heap.size]? = some (.cells #[c 0, c 1, c 2, c 3, c 4, c 5, c 6, c 7, c 8, c 9] 26 (0, 0)) := old_at _ (two_fst w c d)
  have h2 : (three w c d g).heap[w.heap.size + 1]? = some (.cells #[d 0, d 1, d 2, d 3, d 4, d 5, d 6, d 7, d 8, d 9] 26 (0, 0)) := old_at _ (two_snd w c d)
  have h3 : (three w c d g).heap[w.heap.size + 1 + 1]? = some (.cells #[g 0, g 1, g 2, g 3, g 4] 28 (0, 0)) := new_at (by simp) _
  have hN : ∀ p : Aft (three w c d g), Fr w p.w (fun _ => True) := fun p => (below_fr0 hb0).trans p.fr
  have H6 := Lib.hid (show ∀ p : Aft (three w c d g), Calls Try.prog 6 #[] p.w fun e w' => e = .returned (.bool true) ∧ ∃ q : Aft (three w c d g), w' = q.w from fun p => aft_call ((awake_any p.w).mono fun _ _ ⟨h1, h2⟩ => ⟨h1, below_fr0 h2⟩))
  have H7 := Lib.hid (show ∀ p : Aft (three w c d g), Calls Try.prog 7 #[ndv c, ndv d] p.w fun e w' => e = .returned (.bool (namedB n m)) ∧ ∃ q : Aft (three w c d g), w' = q.w from fun p => aft_call ((named_any n m c d p.w ok ok' (hn.fr (hN p) (fun _ _ => trivial)) (hm.fr (hN p) (fun _ _ => trivial))).mono fun _ _ ⟨h1, h2⟩ => ⟨h1, below_fr0 h2⟩))
  have H8 := Lib.hid (show ∀ p : Aft (three w c d g), Calls Try.prog 8 #[ndv c, ndv d] p.w fun e w' => e = .returned (.bool (namedB n m)) ∧ ∃ q : Aft (three w c d g), w' = q.w from fun p => aft_call ((rnamed_any n m c d p.w ok ok' (hn.fr (hN p) (fun _ _ => trivial)) (hm.fr (hN p) (fun _ _ => trivial))).mono fun _ _ ⟨h1, h2⟩ => ⟨h1, below_fr0 h2⟩))
  have H9 := Lib.hid (show f.al.length ≤ 100 → ∀ p : Aft (three w c d g), Calls Try.prog 9 #[ndv c, fdv g] p.w fun e w' => e = .returned (.int .i64 (fieldL n.fs (f.name :: f.al))) ∧ ∃ q : Aft (three w c d g), w' = q.w from fun hl p => aft_call ((field_any n f c g p.w ok ok'' (hn.fr (hN p) (fun _ _ => trivial)) (hf.fr (hN p) (fun _ _ => trivial)) hl).mono fun _ _ ⟨h1, h2⟩ => ⟨h1, below_fr0 h2⟩))
  have H10 := Lib.hid (show f.al.length ≤ 100 → ∀ p : Aft (three w c d g), Calls Try.prog 10 #[ndv c, fdv g] p.w fun e w' => e = .returned (.int .i64 (fieldL n.fs (f.name :: f.al))) ∧ ∃ q : Aft (three w c d g), w' = q.w from fun hl p => aft_call ((field_ref n f c g p.w ok ok'' (hn.fr (hN p) (fun _ _ => trivial)) (hf.fr (hN p) (fun _ _ => trivial)) hl).mono fun _ _ ⟨h1, h2⟩ => ⟨h1, below_fr0 h2⟩))
  obtain ⟨A3, cap3, _, e3, _⟩ := hn.fs
  obtain ⟨A2, cap2, e2, _⟩ := hm.al
  obtain ⟨A1, cap1, e1, _⟩ := hf.al
  have p3 : (three w c d g).cell? ⟨w.heap.size, 3, none⟩ = some (.slice A3 n.fs.length cap3) := by rw [← e3]; exact cell_of_row _ _ 3 _ _ _ h1
  have q2 : (three w c d g).cell? ⟨w.heap.size + 1, 2, none⟩ = some (.slice A2 m.al.length cap2) := by rw [← e2]; exact cell_of_row _ _ 2 _ _ _ h2
  have r1 : (three w c d g).cell? ⟨w.heap.size + 1 + 1, 1, none⟩ = some (.slice A1 f.al.length cap1) := by rw [← e1]; exact cell_of_row _ _ 1 _ _ _ h3
  have HB0 := Lib.hid hb0
  clear hn hm hf hN hb0 e1 e2 e3
  rw [ndv, ndv] at H7 H8
  rw [ndv, fdv] at H9 H10
  go_enter Try.func3, Try.ntmps3
  go_upto_region 1 with fail
  change Code.wp _ _ _ _ (three w c d g)
  generalize three w c d g = W0 at *
  generalize fieldL n.fs (f.name :: f.al) = R at *
  generalize namedB n m = N at *
  generalize n.fs.length = l1 at *
  generalize m.al.length = l2 at *
  generalize hl3 : f.al.length = l3 at *
  clear hl3
  have HAW : Hid (∀ W, Below W0.heap.size W0 W → Below w.heap.size w W) := Lib.hid fun W h => HB0.out.trans (h.mono HB0.out.size)
  by_cases g1 : 100 < l1
  · have d1 : decide (100 < l1) = true := decide_eq_true g1
    have d1' : decide (100 < (l1 : Int)) = true := decide_eq_true (by omega)
    go_wp2_with fail
    refine (awake_any W0).mono ?_
    rintro e w1 ⟨rfl, hb1⟩
    have HB1 := Lib.hid (HAW.out w1 hb1)
    clear hb1 p3 q2 r1
    go_wp2
    go_ret
    exact ⟨rfl, HB1.out⟩
  · have d1 : decide (100 < l1) = false := decide_eq_false g1
    have d1' : decide (100 < (l1 : Int)) = false := decide_eq_false (by omega)
    by_cases g3 : 100 < l3
    · have d3 : decide (100 < l3) = true := decide_eq_true g3
      have d3' : decide (100 < (l3 : Int)) = true := decide_eq_true (by omega)
      go_wp2_with fail
      refine (awake_any W0).mono ?_
      rintro e w1 ⟨rfl, hb1⟩
      have HB1 := Lib.hid (HAW.out w1 hb1)
      clear hb1 p3 q2 r1
      go_wp2
      go_ret
      exact ⟨rfl, HB1.out⟩
    · have d3 : decide (100 < l3) = false := decide_eq_false g3
      have d3' : decide (100 < (l3 : Int)) = false := decide_eq_false (by omega)
      by_cases g2 : 100 < l2
      · have d2 : decide (100 < l2) = true := decide_eq_true g2
        have d2' : decide (100 < (l2 : Int)) = true := decide_eq_true (by omega)
        go_wp2_with fail
        refine (awake_any W0).mono ?_
        rintro e w1 ⟨rfl, hb1⟩
        have HB1 := Lib.hid (HAW.out w1 hb1)
        clear hb1 p3 q2 r1
        go_wp2
        go_ret
        exact ⟨rfl, HB1.out⟩
      · have d2 : decide (100 < l2) = false := decide_eq_false g2
        have d2' : decide (100 < (l2 : Int)) = false := decide_eq_false (by omega)
        have H9' := Lib.hid (H9.out (by omega))
        have H10' := Lib.hid (H10.out (by omega))
        go_upto_region 3 with fail
        clear p3 q2 r1 d1 d1' d2 d2' d3 d3' g1 g2 g3 H9 H10
        have a0p := fun p : Aft W0 => p.fr.cell (cell_of_row _ _ 0 _ _ _ h1) trivial
        have a1p := fun p : Aft W0 => p.fr.cell (cell_of_row _ _ 1 _ _ _ h1) trivial
        have a2p := fun p : Aft W0 => p.fr.cell (cell_of_row _ _ 2 _ _ _ h1) trivial
        have a3p := fun p : Aft W0 => p.fr.cell (cell_of_row _ _ 3 _ _ _ h1) trivial
        have a4p := fun p : Aft W0 => p.fr.cell (cell_of_row _ _ 4 _ _ _ h1) trivial
        have a5p := fun p : Aft W0 => p.fr.cell (cell_of_row _ _ 5 _ _ _ h1) trivial
        have a6p := fun p : Aft W0 => p.fr.cell (cell_of_row _ _ 6 _ _ _ h1) trivial
        have a7p := fun p : Aft W0 => p.fr.cell (cell_of_row _ _ 7 _ _ _ h1) trivial
        have a8p := fun p : Aft W0 => p.fr.cell (cell_of_row _ _ 8 _ _ _ h1) trivial
        have a9p := fun p : Aft W0 => p.fr.cell (cell_of_row _ _ 9 _ _ _ h1) trivial
        have b0p := fun p : Aft W0 => p.fr.cell (cell_of_row _ _ 0 _ _ _ h2) trivial
        have b1p := fun p : Aft W0 => p.fr.cell (cell_of_row _ _ 1 _ _ _ h2) trivial
        have b2p := fun p : Aft W0 => p.fr.cell (cell_of_row _ _ 2 _ _ _ h2) trivial
        have b3p := fun p : Aft W0 => p.fr.cell (cell_of_row _ _ 3 _ _ _ h2) trivial
        have b4p := fun p : Aft W0 => p.fr.cell (cell_of_row _ _ 4 _ _ _ h2) trivial
        have b5p := fun p : Aft W0 => p.fr.cell (cell_of_row _ _ 5 _ _ _ h2) trivial
        have b6p := fun p : Aft W0 => p.fr.cell (cell_of_row _ _ 6 _ _ _ h2) trivial
        have b7p := fun p : Aft W0 => p.fr.cell (cell_of_row _ _ 7 _ _ _ h2) trivial
        have b8p := fun p : Aft W0 => p.fr.cell (cell_of_row _ _ 8 _ _ _ h2) trivial
        have b9p := fun p : Aft W0 => p.fr.cell (cell_of_row _ _ 9 _ _ _ h2) trivial
        have e0p := fun p : Aft W0 => p.fr.cell (cell_of_row _ _ 0 _ _ _ h3) trivial
        have e1p := fun p : Aft W0 => p.fr.cell (cell_of_row _ _ 1 _ _ _ h3) trivial
        have e2p := fun p : Aft W0 => p.fr.cell (cell_of_row _ _ 2 _ _ _ h3) trivial
        have e3p := fun p : Aft W0 => p.fr.cell (cell_of_row _ _ 3 _ _ _ h3) trivial
        have e4p := fun p : Aft W0 => p.fr.cell (cell_of_row _ _ 4 _ _ _ h3) trivial
        clear h1 h2 h3
        have eN : (N == N) = true := by simp
        have eR : (R == R) = true := by simp
        refine reg_aft (by kernel_rfl) (by kernel_rfl) ?_
        repeat (go_big_quiet_step ((first | (go_at_call 6; exact H6.out _) | (go_at_call 7; exact H7.out _) | (go_at_call 8; exact H8.out _) | (go_at_call 9; exact H9'.out _) | (go_at_call 10; exact H10'.out _))))
        refine wpQuiet_nil ?_
        rintro ⟨W5, hf5⟩
        show Exit.then _ _ Exit.normal _ W5
        have HB5 := Lib.hid (HAW.out W5 (fr_belowT hf5))
        clear hf5 H6 H7 H8 H9' H10' a0p a1p a2p a3p a4p a5p a6p a7p a8p a9p b0p b1p b2p b3p b4p b5p b6p b7p b8p b9p e0p e1p e2p e3p e4p
        go_wp2
        go_ret
        exact ⟨by first | rfl | simp [*], HB5.out⟩
end Go.Proofs.Ytjfmoookjgbfoaa
