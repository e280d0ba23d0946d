/-
  The reference's reader: texts, and a new one.
-/
import Derived.Test.YtfodccjineallaaRef2
namespace Go.Proofs.Ytfodccjineallaa
open Go.RowKit

theorem refRaw_rd (q : Nat) (n : Int) (xs : List Int) (f : Nat) (w : World) (h : Ref w q xs f) : Calls Try.prog 28 #[.pointer (some ⟨q, 0, none⟩), .int .i64 n] w (RefBytesPost w q (rRaw n xs f)) := by
  by_cases hf : f = 0
  · subst hf
    by_cases hn : xs.length < n.toNat
    · exact refRaw_short q n xs w h hn
    · have hr : rRaw n xs 0 = (xs.take n.toNat, xs.drop n.toNat, 0) := by unfold rRaw; rw [if_neg (by omega), if_neg hn]
      rw [hr]
      exact refRaw_some q n.toNat n xs w h (by omega) (by omega)
  · exact refRaw_fault q n xs f w h hf

set_option maxHeartbeats 400000 in
theorem refText_fault (q : Nat) (most : Int) (xs : List Int) (f : Nat) (w : World) (hQ : Ref w q xs f) (hf : f ≠ 0) : Calls Try.prog 26 #[.pointer (some ⟨q, 0, none⟩), .int .i64 most] w (RefBytesPost w q (rText most xs f)) := by
  have HR : Hid (rText most xs f = ([], xs, f)) := Lib.hid (by unfold rText; rw [if_pos hf])
  obtain ⟨A, c, a, all, c0, c1, c2, f1, f2, hr, hl, ha, HD, hxl, HH⟩ := hQ.parts
  clear hxl
  have hf'' : ((f : Int) != 0) = true := by simp; omega
  go_enter Try.func26, Try.ntmps26
  go_wp2
  go_ret
  exact refBytes_none HR.out hQ (World.grownBy.refl _ _)

/-- The text's fault, by the order of the tests. -/
theorem tFault_cases (len most : Int) (ys : List Int) (f : Nat) : (f ≠ 0 ∧ tFault len most ys f = f) ∨ (f = 0 ∧ len < 0 ∧ tFault len most ys f = 4) ∨ (f = 0 ∧ 0 ≤ len ∧ (if most < 0 then 0 else most) < len ∧ tFault len most ys f = 5) ∨
    (f = 0 ∧ 0 ≤ len ∧ len ≤ (if most < 0 then 0 else most) ∧ (ys.length : Int) < len ∧ tFault len most ys f = 3) ∨ (f = 0 ∧ 0 ≤ len ∧ len ≤ (if most < 0 then 0 else most) ∧ len ≤ (ys.length : Int) ∧ tFault len most ys f = 0) := by
  unfold tFault
  by_cases h0 : f = 0
  · subst h0
    rw [if_neg (by omega)]
    generalize (if most < 0 then 0 else most) = m
    by_cases h1 : len < 0
    · simp [h1]
    · rw [if_neg h1]
      by_cases h2 : m < len
      · simp [h2]; omega
      · rw [if_neg h2]
        by_cases h3 : (ys.length : Int) < len
        · simp [h3]; omega
        · simp [h3]; omega
  · simp [h0]

set_option maxHeartbeats 1000000 in
set_option maxRecDepth 100000 in
theorem refText_bad (q : Nat) (most : Int) (xs : List Int) (w : World) (hQ : Ref w q xs 0) (u s f2 t : Nat) (hs : scan 0 0 xs = (u, s, f2)) (ht : tFault (signedN u) most (xs.drop s) f2 = t) (ht0 : t ≠ 0) :
    Calls Try.prog 26 #[.pointer (some ⟨q, 0, none⟩), .int .i64 most] w (RefBytesPost w q ([], xs, t)) := by
  obtain ⟨A, c, a, all, c0, c1, c2, f1, f2', hr, hl, ha, HD, hxl, HH⟩ := hQ.parts
  have hu := scan_lt xs 0 0 (by omega) (by decide) hQ.byte
  have hsz := scan_size xs 0 0
  have hcs := tFault_cases (signedN u) most (xs.drop s) f2
  rw [ht] at hcs
  rw [hs] at hu hsz
  simp only at hu hsz
  have HU := Lib.hid hu
  have hnum := refNumber_any q xs 0 w hQ
  rw [hs] at hnum
  have HN := Lib.hid hnum
  have hdl : ((xs.drop s).length : Int) = (all.length : Int) - (a : Int) - (s : Int) := by simp; omega
  rw [hdl] at hcs
  have hsl : s ≤ all.length - a := by omega
  have hi64 := signed_i64 HU.out
  have HI := Lib.hid hi64
  clear hu hnum hs ht hxl hdl hsz hi64
  generalize hv : signedN u = v at *
  have HV := Lib.hid hv
  clear hv
  have hend : ∀ (m : Nat) (r : Nat), r = t → RefBytesPost w q ([], xs, t) (.returned (.slice none 0 0)) ((w.drewN m).setCell ⟨q, 2, none⟩ (.int .i64 r)) := by
    rintro m r rfl
    have h3 := Ref.putF (w := w.drewN m) (f2 := r) (show Ref (w.drewN m) q xs 0 from hQ)
    exact refBytes_none rfl h3.1 (grown_undrew h3.2)
  have HE := Lib.hid hend
  clear hend
  by_cases hm : most < 0
  all_goals
    simp only [hm, if_true, if_false] at hcs
    rcases hcs with ⟨h1, rfl⟩ | ⟨rfl, h1, rfl⟩ | ⟨rfl, h0, h1, rfl⟩ | ⟨rfl, h0, h1, h2, rfl⟩ | ⟨_, _, _, _, h⟩
    · go_enter Try.func26, Try.ntmps26
      go_wp2_with fail
      refine (HN.out).mono ?_
      rintro e w1 ⟨rfl, m, rfl⟩
      have hz : ((t : Int) != 0) = true := by simp; omega
      go_wp2_with fail
      refine (signed_any u HU.out _).mono ?_
      rintro e w2 ⟨rfl, rfl⟩
      rw [HV.out]
      go_wp2
      go_ret
      exact HE.out m _ rfl
    · go_enter Try.func26, Try.ntmps26
      go_wp2_with fail
      refine (HN.out).mono ?_
      rintro e w1 ⟨rfl, m, rfl⟩
      go_wp2_with fail
      refine (signed_any u HU.out _).mono ?_
      rintro e w2 ⟨rfl, rfl⟩
      rw [HV.out]
      go_wp2
      go_ret
      exact HE.out m _ rfl
    · go_enter Try.func26, Try.ntmps26
      go_wp2_with fail
      refine (HN.out).mono ?_
      rintro e w1 ⟨rfl, m, rfl⟩
      go_wp2_with fail
      refine (signed_any u HU.out _).mono ?_
      rintro e w2 ⟨rfl, rfl⟩
      rw [HV.out]
      go_wp2
      go_ret
      exact HE.out m _ rfl
    · have e1 : IntKind.i64.wrap ((all.length : Int) - (a : Int)) = (all.length : Int) - (a : Int) := IntWalk.i64_in _ (by omega)
      have e2 : IntKind.i64.wrap ((all.length : Int) - (a : Int) - (s : Int)) = (all.length : Int) - (a : Int) - (s : Int) := IntWalk.i64_in _ (by omega)
      have hd : decide ((all.length : Int) - (a : Int) - (s : Int) < v) = true := by simpa using h2
      have E1 := Lib.hid e1
      have E2 := Lib.hid e2
      have D := Lib.hid hd
      clear e1 e2 hd h2
      go_enter Try.func26, Try.ntmps26
      go_wp2_with fail
      refine (HN.out).mono ?_
      rintro e w1 ⟨rfl, m, rfl⟩
      go_wp2_with fail
      refine (signed_any u HU.out _).mono ?_
      rintro e w2 ⟨rfl, rfl⟩
      rw [HV.out]
      go_wp2_with fail
      have e1 := E1.out
      have e2 := E2.out
      have hd := D.out
      go_quiet (fail)
      clear e1 e2
      go_wp2
      go_ret
      exact HE.out _ _ rfl
    · exact absurd h ht0

theorem refBytes_zero {w w3 : World} {q a n : Nat} {v : Value} {vs : List Value} {all xs : List Int} (hown : w3.ownsRow w.heap.size 5 1 v n vs) (hR : Ref w3 q (all.drop (a + 0)) 0) (hg : w.grownBy w3 (some q)) (hd : all.drop a = xs) (hv : vs = []) :
    RefBytesPost w q ([], xs, 0) (.returned v) w3 := by
  subst hv
  have hn : 0 = n := by simpa using hown.1
  subst hn
  obtain ⟨A, c, rfl⟩ := own_form hown
  exact ⟨A, c, rfl, hown, by rw [← hd]; exact hR, hg⟩

set_option maxHeartbeats 1000000 in
set_option maxRecDepth 100000 in
theorem refText_good (q : Nat) (most : Int) (xs : List Int) (w : World) (hQ : Ref w q xs 0) (u s k : Nat) (ys : List Int) (hs : scan 0 0 xs = (u, s, 0)) (hy : xs.drop s = ys) (hk : signedN u = k) (hkl : k ≤ ys.length) (hk0 : 0 < k) (hm : (k : Int) ≤ (if most < 0 then 0 else most)) :
    Calls Try.prog 26 #[.pointer (some ⟨q, 0, none⟩), .int .i64 most] w (RefBytesPost w q (ys.take k, ys.drop k, 0)) := by
  obtain ⟨i0, hi, hz0, hz1, hz2⟩ := info_parts Try.info5
  obtain ⟨A, c, a, all, c0, c1, c2, f1, f2', hr, hl, ha, HD, hxl, HH⟩ := hQ.parts
  have hu := scan_lt xs 0 0 (by omega) (by decide) hQ.byte
  have hsz := scan_size xs 0 0
  rw [hs] at hu hsz
  simp only at hu hsz
  have HU := Lib.hid hu
  have hnum := refNumber_any q xs 0 w hQ
  rw [hs] at hnum
  have HN := Lib.hid hnum
  have hdl : ys.length = xs.length - s := by rw [← hy]; simp
  have HY := Lib.hid hy
  have hak : a + s + k ≤ all.length := by omega
  have HV := Lib.hid hk
  clear hu hnum hs hdl hxl hsz hkl hk hy
  have e1 : IntKind.i64.wrap ((all.length : Int) - (a : Int)) = (all.length : Int) - (a : Int) := IntWalk.i64_in _ (by omega)
  have e2 : IntKind.i64.wrap ((all.length : Int) - (a : Int) - (s : Int)) = (all.length : Int) - (a : Int) - (s : Int) := IntWalk.i64_in _ (by omega)
  have hd : decide ((all.length : Int) - (a : Int) - (s : Int) < (k : Int)) = false := by simp; omega
  have E1 := Lib.hid e1
  have E2 := Lib.hid e2
  have D := Lib.hid hd
  clear e1 e2 hd
  have hm0 : ¬ most < 0 := by intro h; rw [if_pos h] at hm; omega
  · rw [if_neg hm0] at hm
    go_enter Try.func26, Try.ntmps26
    go_wp2_with fail
    refine (HN.out).mono ?_
    rintro e w1 ⟨rfl, m, rfl⟩
    go_wp2_with fail
    refine (signed_any u HU.out _).mono ?_
    rintro e w2 ⟨rfl, rfl⟩
    rw [HV.out]
    go_wp2_with fail
    have e1 := E1.out
    have e2 := E2.out
    have hd := D.out
    go_quiet (fail)
    clear e1 e2 hd
    go_wp2
    have hA := Ref.putA (w := w.drewN (m + nq)) (f := 0) (a := a) (n2 := a + s + k) HH.out (show Rd (w.drewN (m + nq)) q A all.length c all from hr) hl hak (x := (a : Int) + (s : Int) + (k : Int)) (by omega)
    have d0 : ((w.drewN (m + nq)).setCell ⟨q, 1, none⟩ (.int .i64 ((a : Int) + (s : Int) + (k : Int)))).cell? ⟨q, 0, none⟩ = some (.slice A all.length c) := by
      rw [World.cell?_setCell_other]
      · exact c0
      · intro e; injection e with _ e; cases e
    have d1 : ((w.drewN (m + nq)).setCell ⟨q, 1, none⟩ (.int .i64 ((a : Int) + (s : Int) + (k : Int)))).cell? ⟨q, 1, none⟩ = some (.int .i64 ((a : Int) + (s : Int) + (k : Int))) := by
      rw [cell_of_row _ q 1 _ 47 (0, 0) (heap_setCell_same (w.drewN (m + nq)) q 1 _ 47 _ HH.out)]; rfl
    have hr2 : Rd ((w.drewN (m + nq)).setCell ⟨q, 1, none⟩ (.int .i64 ((a : Int) + (s : Int) + (k : Int)))) q A all.length c all :=
      (rd_far3 (show Rd (w.drewN (m + nq)) q A all.length c all from hr) HH.out fun p hp hne => World.cell?_of_block (hA.2.block _ (Nat.lt_trans hp (blk_lt HH.out)) (fun e => hne (by injection e))))
    have HD2 : Hid (all.drop (a + s) = ys) := Lib.hid (by rw [← HY.out, ← HD.out, List.drop_drop])
    clear c0 c1 c2 f1 f2' HH hr E1 E2 D HN HD
    have hg := grown_undrew hA.2
    have hR2 := hA.1
    clear hA
    generalize (w.drewN (m + nq)).setCell ⟨q, 1, none⟩ (.int .i64 ((a : Int) + (s : Int) + (k : Int))) = w2 at *
    have ec : (a : Int) + (s : Int) = ((a + s : Nat) : Int) := by omega
    rw [ec] at d1 ⊢
    clear ec
    generalize a + s = a2 at *
    have b1 : (0 : Int) ≤ (a2 : Int) := by omega
    have b2 : (a2 : Int) ≤ (a2 : Int) + (k : Int) := by omega
    have b3 : (a2 : Int) + (k : Int) ≤ (c : Int) := by have := hr2.2.1; omega
    have b4 : ((a2 : Int) + (k : Int)).toNat = a2 + k := by omega
    have hsz := hg.size
    have ha2 : a2 ≤ all.length := by omega
    have hca : ¬ c = a2 := by have := hr2.2.1; omega
    have hr3 : Rd w2.drew q (A.map (·.add a2)) k (c - a2) ((all.drop a2).take k) := by
      have := (hr2.cut ha2).take (k := k) (by omega)
      rwa [if_neg hca] at this
    have HR3 := Lib.hid hr3
    clear hr3 hr2
    go_still_tail 10, (by kernel_rfl)
    clear b4
    refine wpList_append_rd _ rfl _ _ 23 rfl w.heap.size 5 i0 Try.underlying23 hi hz0 hz1 hz2 (.slice none 0 0) 0 [] rfl (World.ownsRow_nil _ _ _ _) q (A.map (·.add a2)) k (c - a2) ((all.drop a2).take k) ?_ HR3.out (by omega) (by exact hsz) ?_
    · first | rfl | (show Value.slice _ (a2 + k - a2) _ = _; rw [Nat.add_sub_cancel_left])
    · intro v3 w3 hown3 hg3 _
      have hb3 : Below w2.heap.size w2.drew w3 := (Below.refl _ _).grown hg3 (Nat.le_refl _) (fun k hk => by cases hk)
      have hR3 : Ref w3 q (all.drop (a2 + k)) 0 := Ref.below (w := w2.drew) hR2 hb3 (Nat.le_refl _)
      have hg4 : w.grownBy w3 (some q) := hg.trans (⟨hb3.os, hb3.tape, hb3.output, hb3.size, fun i hi _ => hb3.block i hi⟩)
      clear hg3 hb3 hR2
      go_wp2
      go_ret
      exact refBytes_of hown3 hR3 hg4 HD2.out hak (by rw [← HD2.out]; simp)

set_option maxHeartbeats 1000000 in
set_option maxRecDepth 100000 in
theorem refText_zero (q : Nat) (most : Int) (xs : List Int) (w : World) (hQ : Ref w q xs 0) (u s : Nat) (ys : List Int) (hs : scan 0 0 xs = (u, s, 0)) (hy : xs.drop s = ys) (hk : signedN u = 0)  (hm : 0 ≤ (if most < 0 then 0 else most)) :
    Calls Try.prog 26 #[.pointer (some ⟨q, 0, none⟩), .int .i64 most] w (RefBytesPost w q ([], ys, 0)) := by
  obtain ⟨i0, hi, hz0, hz1, hz2⟩ := info_parts Try.info5
  obtain ⟨A, c, a, all, c0, c1, c2, f1, f2', hr, hl, ha, HD, hxl, HH⟩ := hQ.parts
  have hu := scan_lt xs 0 0 (by omega) (by decide) hQ.byte
  have hsz := scan_size xs 0 0
  rw [hs] at hu hsz
  simp only at hu hsz
  have HU := Lib.hid hu
  have hnum := refNumber_any q xs 0 w hQ
  rw [hs] at hnum
  have HN := Lib.hid hnum
  have hdl : ys.length = xs.length - s := by rw [← hy]; simp
  have HY := Lib.hid hy
  have hak : a + s ≤ all.length := by omega
  have HV := Lib.hid hk
  clear hu hnum hs hdl hxl hsz hk hy
  have e1 : IntKind.i64.wrap ((all.length : Int) - (a : Int)) = (all.length : Int) - (a : Int) := IntWalk.i64_in _ (by omega)
  have e2 : IntKind.i64.wrap ((all.length : Int) - (a : Int) - (s : Int)) = (all.length : Int) - (a : Int) - (s : Int) := IntWalk.i64_in _ (by omega)
  have hd : decide ((all.length : Int) - (a : Int) - (s : Int) < 0) = false := by simp; omega
  have E1 := Lib.hid e1
  have E2 := Lib.hid e2
  have D := Lib.hid hd
  clear e1 e2 hd
  by_cases hm0 : most < 0
  all_goals
    simp only [hm0, if_true, if_false] at hm
    go_enter Try.func26, Try.ntmps26
    go_wp2_with fail
    refine (HN.out).mono ?_
    rintro e w1 ⟨rfl, m, rfl⟩
    go_wp2_with fail
    refine (signed_any u HU.out _).mono ?_
    rintro e w2 ⟨rfl, rfl⟩
    rw [HV.out]
    go_wp2_with fail
    have e1 := E1.out
    have e2 := E2.out
    have hd := D.out
    go_quiet (fail)
    clear e1 e2 hd
    go_wp2
    have hA := Ref.putA (w := w.drewN (m + nq)) (f := 0) (a := a) (n2 := a + s) HH.out (show Rd (w.drewN (m + nq)) q A all.length c all from hr) hl hak (x := (a : Int) + (s : Int)) (by omega)
    have d0 : ((w.drewN (m + nq)).setCell ⟨q, 1, none⟩ (.int .i64 ((a : Int) + (s : Int)))).cell? ⟨q, 0, none⟩ = some (.slice A all.length c) := by
      rw [World.cell?_setCell_other]
      · exact c0
      · intro e; injection e with _ e; cases e
    have d1 : ((w.drewN (m + nq)).setCell ⟨q, 1, none⟩ (.int .i64 ((a : Int) + (s : Int)))).cell? ⟨q, 1, none⟩ = some (.int .i64 ((a : Int) + (s : Int))) := by
      rw [cell_of_row _ q 1 _ 47 (0, 0) (heap_setCell_same (w.drewN (m + nq)) q 1 _ 47 _ HH.out)]; rfl
    have hr2 : Rd ((w.drewN (m + nq)).setCell ⟨q, 1, none⟩ (.int .i64 ((a : Int) + (s : Int)))) q A all.length c all :=
      (rd_far3 (show Rd (w.drewN (m + nq)) q A all.length c all from hr) HH.out fun p hp hne => World.cell?_of_block (hA.2.block _ (Nat.lt_trans hp (blk_lt HH.out)) (fun e => hne (by injection e))))
    have HD2 : Hid (all.drop (a + s) = ys) := Lib.hid (by rw [← HY.out, ← HD.out, List.drop_drop])
    clear c0 c1 c2 f1 f2' HH hr E1 E2 D HN HD
    have hg := grown_undrew hA.2
    have hR2 := hA.1
    clear hA
    generalize (w.drewN (m + nq)).setCell ⟨q, 1, none⟩ (.int .i64 ((a : Int) + (s : Int))) = w2 at *
    have ec : (a : Int) + (s : Int) = ((a + s : Nat) : Int) := by omega
    rw [ec] at d1 ⊢
    clear ec
    generalize a + s = a2 at *
    have b1 : (0 : Int) ≤ (a2 : Int) := by omega
    have b3 : (a2 : Int) ≤ (c : Int) := by have := hr2.2.1; omega
    have b4 : (a2 : Int).toNat = a2 := by omega
    have hsz := hg.size
    have ha2 : a2 ≤ all.length := by omega
    by_cases hca : c = a2
    · have hr3 : Rd w2.drew q A 0 0 ((all.drop a2).take 0) := by
        have := (hr2.cut ha2).take (k := 0) (by omega)
        rwa [if_pos hca, hca, Nat.sub_self] at this
      have HR3 := Lib.hid hr3
      clear hr3 hr2
      go_still_tail 10, (by kernel_rfl)
      clear b4
      refine wpList_append_rd _ rfl _ _ 23 rfl w.heap.size 5 i0 Try.underlying23 hi hz0 hz1 hz2 (.slice none 0 0) 0 [] rfl (World.ownsRow_nil _ _ _ _) q A 0 0 ((all.drop a2).take 0) ?_ HR3.out (by omega) (by exact hsz) ?_
      · first | rfl | (show Value.slice _ (a2 + 0 - a2) _ = _; rw [Nat.add_sub_cancel_left])
      · intro v3 w3 hown3 hg3 _
        have hb3 : Below w2.heap.size w2.drew w3 := (Below.refl _ _).grown hg3 (Nat.le_refl _) (fun k hk => by cases hk)
        have hR3 : Ref w3 q (all.drop (a2 + 0)) 0 := Ref.below (w := w2.drew) hR2 hb3 (Nat.le_refl _)
        have hg4 : w.grownBy w3 (some q) := hg.trans (⟨hb3.os, hb3.tape, hb3.output, hb3.size, fun i hi _ => hb3.block i hi⟩)
        clear hg3 hb3 hR2 hca
        go_wp2
        go_ret
        exact refBytes_zero hown3 hR3 hg4 HD2.out (by simp)
    · have hr3 : Rd w2.drew q (A.map (·.add a2)) 0 (c - a2) ((all.drop a2).take 0) := by
        have := (hr2.cut ha2).take (k := 0) (by omega)
        rwa [if_neg hca] at this
      have HR3 := Lib.hid hr3
      clear hr3 hr2
      go_still_tail 10, (by kernel_rfl)
      clear b4
      refine wpList_append_rd _ rfl _ _ 23 rfl w.heap.size 5 i0 Try.underlying23 hi hz0 hz1 hz2 (.slice none 0 0) 0 [] rfl (World.ownsRow_nil _ _ _ _) q (A.map (·.add a2)) 0 (c - a2) ((all.drop a2).take 0) ?_ HR3.out (by omega) (by exact hsz) ?_
      · first | rfl | (show Value.slice _ (a2 + 0 - a2) _ = _; rw [Nat.add_sub_cancel_left])
      · intro v3 w3 hown3 hg3 _
        have hb3 : Below w2.heap.size w2.drew w3 := (Below.refl _ _).grown hg3 (Nat.le_refl _) (fun k hk => by cases hk)
        have hR3 : Ref w3 q (all.drop (a2 + 0)) 0 := Ref.below (w := w2.drew) hR2 hb3 (Nat.le_refl _)
        have hg4 : w.grownBy w3 (some q) := hg.trans (⟨hb3.os, hb3.tape, hb3.output, hb3.size, fun i hi _ => hb3.block i hi⟩)
        clear hg3 hb3 hR2
        go_wp2
        go_ret
        exact refBytes_zero hown3 hR3 hg4 HD2.out (by simp)


theorem refText_rd (q : Nat) (most : Int) (xs : List Int) (f : Nat) (w : World) (h : Ref w q xs f) : Calls Try.prog 26 #[.pointer (some ⟨q, 0, none⟩), .int .i64 most] w (RefBytesPost w q (rText most xs f)) := by
  by_cases hf : f = 0
  · subst hf
    have hrn : rNum xs 0 = ((scan 0 0 xs).1, xs.drop (scan 0 0 xs).2.1, (scan 0 0 xs).2.2) := by unfold rNum; rw [if_neg (by omega)]
    obtain ⟨u, s, f2, hsc⟩ : ∃ u s f2, scan 0 0 xs = (u, s, f2) := ⟨_, _, _, rfl⟩
    rw [hsc] at hrn
    simp only at hrn
    have hrt : rText most xs 0 = if tFault (signedN u) most (xs.drop s) f2 ≠ 0 then ([], xs, tFault (signedN u) most (xs.drop s) f2) else rRaw (signedN u) (xs.drop s) f2 := by
      unfold rText; rw [if_neg (by omega), hrn]
    rw [hrt]
    by_cases ht : tFault (signedN u) most (xs.drop s) f2 = 0
    · rw [if_neg (by omega)]
      rcases tFault_cases (signedN u) most (xs.drop s) f2 with ⟨h1, h2⟩ | ⟨_, _, h2⟩ | ⟨_, _, _, h2⟩ | ⟨_, _, _, _, h2⟩ | ⟨rfl, h0, hm, hl, _⟩
      · omega
      · omega
      · omega
      · omega
      · obtain ⟨k, hk⟩ := Int.eq_ofNat_of_zero_le h0
        have hraw : rRaw (signedN u) (xs.drop s) 0 = ((xs.drop s).take k, (xs.drop s).drop k, 0) := by
          unfold rRaw; rw [if_neg (by omega), if_neg (by omega), hk]; rfl
        rw [hraw]
        rcases Nat.eq_zero_or_pos k with hk0 | hk0
        · subst hk0
          simpa using refText_zero q most xs w h u s (xs.drop s) hsc rfl hk (by omega)
        · exact refText_good q most xs w h u s k (xs.drop s) hsc rfl hk (by omega) hk0 (by omega)
    · rw [if_pos ht]
      exact refText_bad q most xs w h u s f2 _ hsc rfl ht
  · exact refText_fault q most xs f w h hf

set_option maxHeartbeats 400000 in
theorem refNew_any (A : Option Addr) (n c : Nat) (xs : List Int) (w : World) (hr : Rd w w.heap.size A n c xs) (hn : n ≤ 100000) :
    Calls Try.prog 19 #[.slice A n c] w fun e w' => ∃ q, e = .returned (.pointer (some ⟨q, 0, none⟩)) ∧ w.heap.size ≤ q ∧ Ref w' q xs 0 ∧ Below w.heap.size w w' := by
  obtain ⟨i0, hi, hz0, hz1, hz2⟩ := info_parts Try.info5
  have HL := Lib.hid hr.len
  have HX := Lib.hid hr.byte
  go_enter Try.func19, Try.ntmps19
  go_wp2_with (at_builtin; refine wpList_append_rd _ rfl _ _ 23 rfl w.heap.size 5 i0 Try.underlying23 hi hz0 hz1 hz2 _ _ _ rfl (World.ownsRow_nil _ _ _ _) w.heap.size _ _ _ _ rfl hr (by omega) (Nat.le_refl _) ?_)
  intro v' w2 hown' hg _
  have hb2 : Below w.heap.size w w2 := (Below.refl _ _).grown hg (Nat.le_refl _) (fun k hk => by cases hk)
  have hown : w2.ownsRow w.heap.size 5 1 v' xs.length (cellsB xs) := by rw [HL.out]; simpa using hown'
  obtain ⟨A2, c2, rfl⟩ := own_form hown
  clear hg hr hown'
  go_wp2
  go_ret
  refine ⟨w2.heap.size, rfl, hb2.size, ⟨A2, c2, 0, xs, ?_, ?_, by have := HL.out; omega, by omega, by simp⟩, hb2.alloc hb2.size _⟩
  · exact heap_alloc_new w2 _
  · exact (Rd.of_own hown HX.out).alloc (Nat.le_refl _) (.cells #[.slice A2 xs.length c2, .int .i64 0, .int .i64 0] 47)
end Go.Proofs.Ytfodccjineallaa
