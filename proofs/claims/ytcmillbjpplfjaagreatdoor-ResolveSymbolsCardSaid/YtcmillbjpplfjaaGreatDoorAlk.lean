/-
  'alike': whether two nodes match by what they themselves say.
-/
import Derived.Test.YtcmillbjpplfjaaGreatDoorNod
namespace Go.Proofs.YtcmillbjpplfjaaGreatDoor
open Go.RowKit

def alikeB (n m : Nd) : Bool :=
  if n.kind = 13 ∨ m.kind = 13 then true
  else if n.kind ≠ m.kind then (n.kind == 3 && m.kind == 4) || (n.kind == 8 && m.kind == 7)
  else if n.kind = 9 ∨ n.kind = 10 then namedB n m
  else if n.kind = 14 then namedB n m && n.size == m.size
  else true
/-- The same, by what is asked of it. -/
def alikeQ (nk mk ns ms : Int) (N : Bool) : Bool :=
  if (nk == 13 || mk == 13) = true then true
  else if (nk == mk) = false then (nk == 3 && mk == 4) || (nk == 8 && mk == 7)
  else if (nk == 9 || nk == 10) = true then N
  else if (nk == 14) = true then N && ns == ms
  else true
theorem alike_q (n m : Nd) : alikeB n m = alikeQ n.kind m.kind n.size m.size (namedB n m) := by
  unfold alikeB alikeQ
  simp only [Bool.or_eq_true, beq_iff_eq, beq_eq_false_iff_ne, ne_eq]
set_option maxRecDepth 100000 in
set_option maxHeartbeats 4000000 in
theorem alike_any (n m : Nd) (c d : Nat → Value) (w : World) (ok ok' : Nat → Prop) (hn : NdIn w ok n c) (hm : NdIn w ok' m d) :
    Calls Tryz.prog 149 #[ndv c, ndv d] w fun e w' => e = .returned (.bool (alikeB n m)) ∧ Below w.heap.size w w' := by
  have hb0 := two_below w c d
  have h1 := two_fst w c d
  have h2 := two_snd w c d
  have HM := Lib.hid (alike_q n m)
  have hcall : ∀ p : Aft (two w c d), Calls Tryz.prog 172 #[ndv c, ndv d] p.w fun e w' => e = .returned (.bool (namedB n m)) ∧ Below p.w.heap.size p.w w' := fun p =>
    named_any n m c d p.w ok ok' (hn.fr ((below_fr0 hb0).trans p.fr) (fun _ _ => trivial)) (hm.fr ((below_fr0 hb0).trans p.fr) (fun _ _ => trivial))
  rw [ndv, ndv] at hcall
  rw [ndv, ndv]
  rw [hn.kind, hn.size] at h1 hcall
  rw [hm.kind, hm.size] at h2 hcall
  have HK : Hid (c 0 = .int .i64 n.kind ∧ c 9 = .int .i64 n.size ∧ d 0 = .int .i64 m.kind ∧ d 9 = .int .i64 m.size) := ⟨hn.kind, hn.size, hm.kind, hm.size⟩
  generalize namedB n m = N at *
  generalize n.kind = nk at *
  generalize m.kind = mk at *
  generalize n.size = ns at *
  generalize m.size = ms at *
  generalize alikeB n m = R at *
  have HC := Lib.hid hcall
  have HB0 := Lib.hid hb0
  clear hn hm hb0 hcall
  go_enter Tryz.func149, Tryz.ntmps149
  go_upto_region 1 with fail
  change Code.wp _ _ _ _ (two w c d)
  generalize two w c d = W0 at *
  have p0 := cell_of_row _ _ 0 _ _ _ h1
  have p1 := cell_of_row _ _ 1 _ _ _ h1
  have p2 := cell_of_row _ _ 2 _ _ _ h1
  have p3 := cell_of_row _ _ 3 _ _ _ h1
  have p4 := cell_of_row _ _ 4 _ _ _ h1
  have p5 := cell_of_row _ _ 5 _ _ _ h1
  have p6 := cell_of_row _ _ 6 _ _ _ h1
  have p7 := cell_of_row _ _ 7 _ _ _ h1
  have p8 := cell_of_row _ _ 8 _ _ _ h1
  have p9 := cell_of_row _ _ 9 _ _ _ h1
  have q0 := cell_of_row _ _ 0 _ _ _ h2
  have q1 := cell_of_row _ _ 1 _ _ _ h2
  have q2 := cell_of_row _ _ 2 _ _ _ h2
  have q3 := cell_of_row _ _ 3 _ _ _ h2
  have q4 := cell_of_row _ _ 4 _ _ _ h2
  have q5 := cell_of_row _ _ 5 _ _ _ h2
  have q6 := cell_of_row _ _ 6 _ _ _ h2
  have q7 := cell_of_row _ _ 7 _ _ _ h2
  have q8 := cell_of_row _ _ 8 _ _ _ h2
  have q9 := cell_of_row _ _ 9 _ _ _ h2
  clear h1 h2
  generalize c 1 = c1 at *
  generalize c 2 = c2 at *
  generalize c 3 = c3 at *
  generalize c 4 = c4 at *
  generalize c 5 = c5 at *
  generalize c 6 = c6 at *
  generalize c 7 = c7 at *
  generalize c 8 = c8 at *
  generalize d 1 = d1 at *
  generalize d 2 = d2 at *
  generalize d 3 = d3 at *
  generalize d 4 = d4 at *
  generalize d 5 = d5 at *
  generalize d 6 = d6 at *
  generalize d 7 = d7 at *
  generalize d 8 = d8 at *
  clear HK
  have HQ : Hid (∀ b, R = b → Ending.returned (.bool b) = .returned (.bool R)) := fun b h => by rw [h]
  cases a1 : (nk == 13) with
  | true =>
    go_wp2
    go_ret
    exact ⟨by rw [HM.out]; unfold alikeQ; rw [a1]; rfl, HB0.out⟩
  | false =>
    cases a2 : (mk == 13) with
    | true =>
      go_wp2
      go_ret
      exact ⟨by rw [HM.out]; unfold alikeQ; rw [a1, a2]; rfl, HB0.out⟩
    | false =>
      cases a3 : (nk == mk) with
      | false =>
        have a3' : (nk != mk) = true := by unfold bne; rw [a3]; rfl
        cases a4 : (nk == 3) <;> cases a5 : (mk == 4) <;> cases a6 : (nk == 8) <;> cases a7 : (mk == 7)
        all_goals
          go_wp2
          go_ret
          exact ⟨by rw [HM.out]; unfold alikeQ; rw [a1, a2, a3, a4, a5, a6, a7]; rfl, HB0.out⟩
      | true =>
        have a3' : (nk != mk) = false := by unfold bne; rw [a3]; rfl
        have hcall := HC.out ⟨W0, Fr.refl _ _⟩
        cases a8 : (nk == 9) with
        | true =>
          go_wp2_with fail
          refine hcall.mono ?_
          rintro e w1 ⟨rfl, hb1⟩
          have HB1 := Lib.hid (HB0.out.trans (hb1.mono HB0.out.size))
          clear hb1 hcall
          go_wp2
          go_ret
          exact ⟨by rw [HM.out]; unfold alikeQ; rw [a1, a2, a3, a8]; rfl, HB1.out⟩
        | false =>
          cases a9 : (nk == 10) with
          | true =>
            go_wp2_with fail
            refine hcall.mono ?_
            rintro e w1 ⟨rfl, hb1⟩
            have HB1 := Lib.hid (HB0.out.trans (hb1.mono HB0.out.size))
            clear hb1 hcall
            go_wp2
            go_ret
            exact ⟨by rw [HM.out]; unfold alikeQ; rw [a1, a2, a3, a8, a9]; rfl, HB1.out⟩
          | false =>
            cases a10 : (nk == 14) with
            | true =>
              go_wp2_with fail
              refine hcall.mono ?_
              rintro e w1 ⟨rfl, hb1⟩
              have r9 := (below_fr0 hb1).cell p9 trivial
              have s9 := (below_fr0 hb1).cell q9 trivial
              have HB1 := Lib.hid (HB0.out.trans (hb1.mono HB0.out.size))
              clear hb1 hcall p0 p1 p2 p3 p4 p5 p6 p7 p8 p9 q0 q1 q2 q3 q4 q5 q6 q7 q8 q9
              cases N with
              | true =>
                go_wp2
                go_ret
                exact ⟨by rw [HM.out]; unfold alikeQ; rw [a1, a2, a3, a8, a9, a10]; rfl, HB1.out⟩
              | false =>
                go_wp2
                go_ret
                exact ⟨by rw [HM.out]; unfold alikeQ; rw [a1, a2, a3, a8, a9, a10]; rfl, HB1.out⟩
            | false =>
              clear hcall
              go_wp2
              go_ret
              exact ⟨by rw [HM.out]; unfold alikeQ; rw [a1, a2, a3, a8, a9, a10]; rfl, HB0.out⟩
end Go.Proofs.YtcmillbjpplfjaaGreatDoor
