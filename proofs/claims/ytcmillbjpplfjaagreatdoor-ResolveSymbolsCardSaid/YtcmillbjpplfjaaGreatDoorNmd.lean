/-
  'Named' of the program and of the reference.
-/
import Derived.Test.YtcmillbjpplfjaaGreatDoorNam
namespace Go.Proofs.YtcmillbjpplfjaaGreatDoor
open Go.RowKit

theorem aft_same {P : Program} {W : World} {f : FuncId} {args : Array Value} {p : Aft W} {v : Value} (h : Calls P f args p.w fun e w' => e = .returned v ∧ p.w = w') : Calls P f args p.w fun e w'' => e = .returned v ∧ ∃ q : Aft W, w'' = q.w :=
  h.mono fun _ w'' ⟨he, hf⟩ => ⟨he, ⟨p, hf.symm⟩⟩
theorem fr_belowT {w w' : World} (h : Fr w w' (fun _ => True)) : Below w.heap.size w w' := fr_below h
/-- Two nodes, each in a block of its own. -/
abbrev two (w : World) (c d : Nat → Value) : World := (w.alloc (.cells #[c 0, c 1, c 2, c 3, c 4, c 5, c 6, c 7, c 8, c 9] 50)).alloc (.cells #[d 0, d 1, d 2, d 3, d 4, d 5, d 6, d 7, d 8, d 9] 50)
theorem two_below (w : World) (c d : Nat → Value) : Below w.heap.size w (two w c d) := ((Below.refl _ w).alloc (Nat.le_refl _) _).alloc (by simp) _
theorem two_fst (w : World) (c d : Nat → Value) : (two w c d).heap[w.heap.size]? = some (.cells #[c 0, c 1, c 2, c 3, c 4, c 5, c 6, c 7, c 8, c 9] 50 (0, 0)) := old_at _ (new_at rfl _)
theorem two_snd (w : World) (c d : Nat → Value) : (two w c d).heap[w.heap.size + 1]? = some (.cells #[d 0, d 1, d 2, d 3, d 4, d 5, d 6, d 7, d 8, d 9] 50 (0, 0)) := new_at (by simp) _
set_option maxRecDepth 100000 in
set_option maxHeartbeats 2000000 in
theorem named_any (n m : Nd) (c d : Nat → Value) (w : World) (ok ok' : Nat → Prop) (hn : NdIn w ok n c) (hm : NdIn w ok' m d) :
    Calls Tryz.prog 172 #[ndv c, ndv d] w fun e w' => e = .returned (.bool (namedB n m)) ∧ Below w.heap.size w w' := by
  have hb0 := two_below w c d
  have p1 : (two w c d).cell? ⟨w.heap.size, 1, none⟩ = some (.string n.name) := by rw [← hn.name]; exact (cells_10 (two_fst w c d)).2.1
  have q1 : (two w c d).cell? ⟨w.heap.size + 1, 1, none⟩ = some (.string m.name) := by rw [← hm.name]; exact (cells_10 (two_snd w c d)).2.1
  have q2 : (two w c d).cell? ⟨w.heap.size + 1, 2, none⟩ = some (d 2) := (cells_10 (two_snd w c d)).2.2.1
  have ha : StrsAt (two w c d) ok' m.al (d 2) := hm.al.fr (below_fr0 hb0) (fun _ _ => trivial)
  have HM : Hid (namedB n m = (eqS (shortS n.name) (shortS m.name) || inS m.al n.name)) := rfl
  have hnl := hn.namel
  have hml := hm.namel
  generalize namedB n m = N at *
  go_enter Tryz.func172, Tryz.ntmps172
  go_upto_region 1 with fail
  change Code.wp _ _ _ _ (two w c d)
  generalize two w c d = W0 at *
  have H1 := Lib.hid (show ∀ p : Aft W0, Calls Tryz.prog 196 #[.string n.name] p.w fun e w' => e = .returned (.string (shortS n.name)) ∧ ∃ q : Aft W0, w' = q.w from fun p => aft_same (short_any n.name p.w hnl))
  have H2 := Lib.hid (show ∀ p : Aft W0, Calls Tryz.prog 196 #[.string m.name] p.w fun e w' => e = .returned (.string (shortS m.name)) ∧ ∃ q : Aft W0, w' = q.w from fun p => aft_same (short_any m.name p.w hml))
  have H3 := Lib.hid (show ∀ p : Aft W0, Calls Tryz.prog 197 #[d 2, .string n.name] p.w fun e w' => e = .returned (.bool (inS m.al n.name)) ∧ ∃ q : Aft W0, w' = q.w from fun p => aft_same (contains_any m.al n.name _ p.w _ (ha.fr p.fr (fun _ _ => trivial))))
  have p1p := fun p : Aft W0 => p.fr.cell p1 trivial
  have q1p := fun p : Aft W0 => p.fr.cell q1 trivial
  have q2p := fun p : Aft W0 => p.fr.cell q2 trivial
  have HB0 := Lib.hid hb0
  clear hb0 p1 q1 q2 ha hnl hml hn hm
  generalize shortS n.name = s1 at *
  generalize shortS m.name = s2 at *
  generalize inS m.al n.name = b2 at *
  generalize n.name = nn at *
  generalize m.name = mn at *
  generalize d 2 = d2 at *
  unfold eqS at HM
  cases he : (s1.toList == s2.toList) with
  | true =>
    have HE := Lib.hid he
    refine reg_aft (by kernel_rfl) (by kernel_rfl) ?_
    repeat (go_big_quiet_step ((first | (go_at_call 196; first | exact H1.out _ | exact H2.out _) | (go_at_call 197; exact H3.out _))))
    refine wpQuiet_nil ?_
    rintro ⟨W5, hf5⟩
    show Exit.then _ _ Exit.normal _ W5
    have hb5 := HB0.out.trans ((fr_belowT hf5).mono HB0.out.size)
    have HB5 := Lib.hid hb5
    clear p1p q1p q2p hb5 hf5 H1 H2 H3 he
    go_wp2
    go_ret
    exact ⟨by rw [HM.out, HE.out]; rfl, HB5.out⟩
  | false =>
    have HE := Lib.hid he
    refine reg_aft (by kernel_rfl) (by kernel_rfl) ?_
    repeat (go_big_quiet_step ((first | (go_at_call 196; first | exact H1.out _ | exact H2.out _) | (go_at_call 197; exact H3.out _))))
    refine wpQuiet_nil ?_
    rintro ⟨W5, hf5⟩
    show Exit.then _ _ Exit.normal _ W5
    have hb5 := HB0.out.trans ((fr_belowT hf5).mono HB0.out.size)
    have HB5 := Lib.hid hb5
    clear p1p q1p q2p hb5 hf5 H1 H2 H3 he
    go_wp2
    go_ret
    exact ⟨by rw [HM.out, HE.out]; rfl, HB5.out⟩
end Go.Proofs.YtcmillbjpplfjaaGreatDoor
