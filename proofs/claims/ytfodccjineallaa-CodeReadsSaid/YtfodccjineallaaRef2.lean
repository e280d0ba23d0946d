/-
  The reference's reader: raw bytes, texts, and a new one.
-/
import Derived.Test.YtfodccjineallaaRef
import Derived.StillTailTactics
namespace Go.Proofs.Ytfodccjineallaa
open Go.RowKit

def RefBytesPost (w : World) (q : Nat) (r : List Int × List Int × Nat) (e : Ending) (w' : World) : Prop :=
  ∃ A c, e = .returned (.slice A r.1.length c) ∧ w'.ownsRow w.heap.size 5 1 (.slice A r.1.length c) r.1.length (cellsB r.1) ∧ Ref w' q r.2.1 r.2.2 ∧ w.grownBy w' (some q)
theorem refBytes_none {w w' : World} {q : Nat} {r : List Int × List Int × Nat} {xs : List Int} {f : Nat} (hr : r = ([], xs, f)) (h : Ref w' q xs f) (hg : w.grownBy w' (some q)) : RefBytesPost w q r (.returned (.slice none 0 0)) w' := by
  subst hr
  exact ⟨none, 0, rfl, World.ownsRow_nil _ _ _ _, h, hg⟩

set_option maxHeartbeats 400000 in
theorem refRaw_fault (q : Nat) (n : Int) (xs : List Int) (f : Nat) (w : World) (hQ : Ref w q xs f) (hf : f ≠ 0) : Calls Try.prog 28 #[.pointer (some ⟨q, 0, none⟩), .int .i64 n] w (RefBytesPost w q (rRaw n xs f)) := by
  have HR : Hid (rRaw n xs f = ([], xs, f)) := Lib.hid (by unfold rRaw; rw [if_pos hf])
  obtain ⟨A, c, a, all, c0, c1, c2, f1, f2, hr, hl, ha, HD, hxl, HH⟩ := hQ.parts
  clear hxl
  have hf'' : ((f : Int) != 0) = true := by simp; omega
  go_enter Try.func28, Try.ntmps28
  go_wp2
  all_goals
    go_ret
    exact refBytes_none HR.out hQ (World.grownBy.refl _ _)

set_option maxHeartbeats 400000 in
theorem refRaw_short (q : Nat) (n : Int) (xs : List Int) (w : World) (h : Ref w q xs 0) (hn : xs.length < n.toNat) : Calls Try.prog 28 #[.pointer (some ⟨q, 0, none⟩), .int .i64 n] w (RefBytesPost w q (rRaw n xs 0)) := by
  have HR : Hid (rRaw n xs 0 = ([], xs, 3)) := Lib.hid (by unfold rRaw; rw [if_neg (by omega), if_pos hn])
  obtain ⟨A, c, a, all, c0, c1, c2, f1, f2, hr, hl, ha, HD, hxl, HH⟩ := h.parts
  have hn0 : ¬ n < 0 := by omega
  have e1 : IntKind.i64.wrap ((all.length : Int) - (a : Int)) = (all.length : Int) - (a : Int) := IntWalk.i64_in _ (by omega)
  have hd : decide ((all.length : Int) - (a : Int) < n) = true := by simp; omega
  clear hxl
  go_enter Try.func28, Try.ntmps28
  go_wp2_with fail
  go_quiet (fail)
  have h3 := Ref.putF (w := w.drewN nq) (f2 := 3) (show Ref (w.drewN nq) q xs 0 from h)
  have H3 := Lib.hid h3
  clear h3 e1
  go_wp2
  go_ret
  exact refBytes_none HR.out H3.out.1 (grown_undrew H3.out.2)

theorem refBytes_of {w w3 : World} {q k a n : Nat} {v : Value} {vs : List Value} {all xs : List Int} (hown : w3.ownsRow w.heap.size 5 1 v n vs) (hR : Ref w3 q (all.drop (a + k)) 0) (hg : w.grownBy w3 (some q)) (hd : all.drop a = xs) (hk : a + k ≤ all.length) (hv : vs = cellsB (xs.take k)) :
    RefBytesPost w q (xs.take k, xs.drop k, 0) (.returned v) w3 := by
  subst hv
  have hn : (xs.take k).length = n := by simpa using hown.1
  subst hn
  obtain ⟨A, c, rfl⟩ := own_form hown
  refine ⟨A, c, rfl, hown, ?_, hg⟩
  rw [← hd, List.drop_drop]
  exact hR

set_option maxHeartbeats 400000 in
theorem refRaw_some (q k : Nat) (n : Int) (xs : List Int) (w : World) (h : Ref w q xs 0) (hk : k ≤ xs.length) (hn : (n ≤ 0 ∧ k = 0) ∨ (n = k ∧ 0 < k)) : Calls Try.prog 28 #[.pointer (some ⟨q, 0, none⟩), .int .i64 n] w (RefBytesPost w q (xs.take k, xs.drop k, 0)) := by
  obtain ⟨i0, hi, hz0, hz1, hz2⟩ := info_parts Try.info5
  obtain ⟨A, c, a, all, c0, c1, c2, f1, f2, hr, hl, ha, HD, hxl, HH⟩ := h.parts
  have e1 : IntKind.i64.wrap ((all.length : Int) - (a : Int)) = (all.length : Int) - (a : Int) := IntWalk.i64_in _ (by omega)
  rcases hn with ⟨hn, rfl⟩ | ⟨rfl, hpos⟩
  · have hn' : n < 0 ∨ n = 0 := by omega
    clear hn
    rcases hn' with hn | rfl
    all_goals
      have hd : decide ((all.length : Int) - (a : Int) < 0) = false := by simp; omega
      have hak : a + 0 ≤ all.length := by omega
      clear hxl
      go_enter Try.func28, Try.ntmps28
      go_wp2_with fail
      go_quiet (fail)
      clear e1
      go_wp2
      have hA := Ref.putA (w := w.drewN nq) (f := 0) (a := a) (n2 := a + 0) HH.out (show Rd (w.drewN nq) q A all.length c all from hr) hl hak (x := (a : Int)) (by omega)
      have d0 : ((w.drewN nq).setCell ⟨q, 1, none⟩ (.int .i64 (a : Int))).cell? ⟨q, 0, none⟩ = some (.slice A all.length c) := by
        rw [World.cell?_setCell_other]
        · exact c0
        · intro e; injection e with _ e; cases e
      have d1 : ((w.drewN nq).setCell ⟨q, 1, none⟩ (.int .i64 (a : Int))).cell? ⟨q, 1, none⟩ = some (.int .i64 (a : Int)) := by
        rw [cell_of_row _ q 1 _ 47 (0, 0) (heap_setCell_same (w.drewN nq) q 1 _ 47 _ HH.out)]; rfl
      have hr2 : Rd ((w.drewN nq).setCell ⟨q, 1, none⟩ (.int .i64 (a : Int))) q A all.length c all :=
        (rd_far3 (show Rd (w.drewN nq) q A all.length c all from hr) HH.out fun p hp hne => World.cell?_of_block (hA.2.block _ (Nat.lt_trans hp (blk_lt HH.out)) (fun e => hne (by injection e))))
      clear c0 c1 c2 f1 f2 HH hr hd
      have hg := grown_undrew hA.2
      have hR2 := hA.1
      clear hA
      generalize (w.drewN nq).setCell ⟨q, 1, none⟩ (.int .i64 (a : Int)) = w2 at *
      have e2 : IntKind.i64.wrap (a : Int) = (a : Int) := IntWalk.i64_in _ (by omega)
      have e3 : IntKind.i64.wrap ((a : Int) - 0) = (a : Int) := by rw [Int.sub_zero]; exact e2
      have b1 : (0 : Int) ≤ (a : Int) := by omega
      have b3 : (a : Int) ≤ (c : Int) := by have := hr2.2.1; omega
      have b4 : (a : Int).toNat = a := by omega
      have hsz := hg.size
      by_cases hca : c = a
      · have hr3 : Rd w2.drew q A 0 0 ((all.drop a).take 0) := by
          have := (hr2.cut ha).take (k := 0) (by omega)
          rwa [if_pos hca, hca, Nat.sub_self] at this
        have HR3 := Lib.hid hr3
        have HA := Lib.hid hca
        clear hr3 hr2
        go_still_tail 15, (by kernel_rfl)
        clear e2 e3 b4
        refine wpList_append_rd _ rfl _ _ 23 rfl w.heap.size 5 i0 Try.underlying23 hi hz0 hz1 hz2 (.slice none 0 0) 0 [] rfl (World.ownsRow_nil _ _ _ _) q A 0 0 ((all.drop a).take 0) ?_ HR3.out (by omega) (by exact hsz) ?_
        · first | rfl | (show Value.slice _ (a + 0 - a) _ = _; rw [Nat.add_sub_cancel_left])
        · intro v3 w3 hown3 hg3 _
          have hb3 : Below w2.heap.size w2.drew w3 := (Below.refl _ _).grown hg3 (Nat.le_refl _) (fun k hk => by cases hk)
          have hR3 : Ref w3 q (all.drop (a + 0)) 0 := Ref.below (w := w2.drew) hR2 hb3 (Nat.le_refl _)
          have hg4 : w.grownBy w3 (some q) := hg.trans (⟨hb3.os, hb3.tape, hb3.output, hb3.size, fun i hi _ => hb3.block i hi⟩)
          clear hg3 hb3 hR2 hca
          go_wp2
          go_ret
          exact refBytes_of hown3 hR3 hg4 HD.out hak (by rw [← HD.out]; simp)
      · have hr3 : Rd w2.drew q (A.map (·.add a)) 0 (c - a) ((all.drop a).take 0) := by
          have := (hr2.cut ha).take (k := 0) (by omega)
          rwa [if_neg hca] at this
        have HR3 := Lib.hid hr3
        clear hr3 hr2
        go_still_tail 15, (by kernel_rfl)
        clear e2 e3 b4
        refine wpList_append_rd _ rfl _ _ 23 rfl w.heap.size 5 i0 Try.underlying23 hi hz0 hz1 hz2 (.slice none 0 0) 0 [] rfl (World.ownsRow_nil _ _ _ _) q (A.map (·.add a)) 0 (c - a) ((all.drop a).take 0) ?_ HR3.out (by omega) (by exact hsz) ?_
        · first | rfl | (show Value.slice _ (a + 0 - a) _ = _; rw [Nat.add_sub_cancel_left])
        · intro v3 w3 hown3 hg3 _
          have hb3 : Below w2.heap.size w2.drew w3 := (Below.refl _ _).grown hg3 (Nat.le_refl _) (fun k hk => by cases hk)
          have hR3 : Ref w3 q (all.drop (a + 0)) 0 := Ref.below (w := w2.drew) hR2 hb3 (Nat.le_refl _)
          have hg4 : w.grownBy w3 (some q) := hg.trans (⟨hb3.os, hb3.tape, hb3.output, hb3.size, fun i hi _ => hb3.block i hi⟩)
          clear hg3 hb3 hR2
          go_wp2
          go_ret
          exact refBytes_of hown3 hR3 hg4 HD.out hak (by rw [← HD.out]; simp)
  · have hd : decide ((all.length : Int) - (a : Int) < (k : Int)) = false := by simp; omega
    have hak : a + k ≤ all.length := by omega
    clear hxl
    go_enter Try.func28, Try.ntmps28
    go_wp2_with fail
    go_quiet (fail)
    clear e1
    go_wp2
    have hA := Ref.putA (w := w.drewN nq) (f := 0) (a := a) (n2 := a + k) HH.out (show Rd (w.drewN nq) q A all.length c all from hr) hl hak (x := (a : Int) + (k : Int)) (by omega)
    have d0 : ((w.drewN nq).setCell ⟨q, 1, none⟩ (.int .i64 ((a : Int) + (k : Int)))).cell? ⟨q, 0, none⟩ = some (.slice A all.length c) := by
      rw [World.cell?_setCell_other]
      · exact c0
      · intro e; injection e with _ e; cases e
    have d1 : ((w.drewN nq).setCell ⟨q, 1, none⟩ (.int .i64 ((a : Int) + (k : Int)))).cell? ⟨q, 1, none⟩ = some (.int .i64 ((a : Int) + (k : Int))) := by
      rw [cell_of_row _ q 1 _ 47 (0, 0) (heap_setCell_same (w.drewN nq) q 1 _ 47 _ HH.out)]; rfl
    have hr2 : Rd ((w.drewN nq).setCell ⟨q, 1, none⟩ (.int .i64 ((a : Int) + (k : Int)))) q A all.length c all :=
      (rd_far3 (show Rd (w.drewN nq) q A all.length c all from hr) HH.out fun p hp hne => World.cell?_of_block (hA.2.block _ (Nat.lt_trans hp (blk_lt HH.out)) (fun e => hne (by injection e))))
    clear c0 c1 c2 f1 f2 HH hr hd
    have hg := grown_undrew hA.2
    have hR2 := hA.1
    clear hA
    generalize (w.drewN nq).setCell ⟨q, 1, none⟩ (.int .i64 ((a : Int) + (k : Int))) = w2 at *
    have e2 : IntKind.i64.wrap (a : Int) = (a : Int) := IntWalk.i64_in _ (by omega)
    have e3 : IntKind.i64.wrap ((a : Int) + (k : Int) - (k : Int)) = (a : Int) := by rw [Int.add_sub_cancel]; exact e2
    have b1 : (0 : Int) ≤ (a : Int) := by omega
    have b2 : (a : Int) ≤ (a : Int) + (k : Int) := by omega
    have b3 : (a : Int) + (k : Int) ≤ (c : Int) := by have := hr2.2.1; omega
    have b4 : ((a : Int) + (k : Int)).toNat = a + k := by omega
    have hsz := hg.size
    have hca : ¬ c = a := by have := hr2.2.1; omega
    have hr3 : Rd w2.drew q (A.map (·.add a)) k (c - a) ((all.drop a).take k) := by
      have := (hr2.cut ha).take (k := k) (by omega)
      rwa [if_neg hca] at this
    have HR3 := Lib.hid hr3
    clear hr3 hr2
    go_still_tail 15, (by kernel_rfl)
    clear e2 e3 b4
    refine wpList_append_rd _ rfl _ _ 23 rfl w.heap.size 5 i0 Try.underlying23 hi hz0 hz1 hz2 (.slice none 0 0) 0 [] rfl (World.ownsRow_nil _ _ _ _) q (A.map (·.add a)) k (c - a) ((all.drop a).take k) ?_ HR3.out (by omega) (by exact hsz) ?_
    · first | rfl | (show Value.slice _ (a + k - a) _ = _; rw [Nat.add_sub_cancel_left])
    · intro v3 w3 hown3 hg3 _
      have hb3 : Below w2.heap.size w2.drew w3 := (Below.refl _ _).grown hg3 (Nat.le_refl _) (fun k hk => by cases hk)
      have hR3 : Ref w3 q (all.drop (a + k)) 0 := Ref.below (w := w2.drew) hR2 hb3 (Nat.le_refl _)
      have hg4 : w.grownBy w3 (some q) := hg.trans (⟨hb3.os, hb3.tape, hb3.output, hb3.size, fun i hi _ => hb3.block i hi⟩)
      clear hg3 hb3 hR2
      go_wp2
      go_ret
      exact refBytes_of hown3 hR3 hg4 HD.out hak (by rw [← HD.out]; simp)
end Go.Proofs.Ytfodccjineallaa
