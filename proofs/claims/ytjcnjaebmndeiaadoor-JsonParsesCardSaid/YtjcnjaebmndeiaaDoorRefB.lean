/-
  The reference's reader: 'value' of every text, and 'Parse'.
-/
import Derived.Test.YtjcnjaebmndeiaaDoorRefA
import Derived.Test.YtjcnjaebmndeiaaDoorParse
namespace Go.Proofs.YtjcnjaebmndeiaaDoor
open Go.RowKit

theorem orE_err (er e : Nat) : orE er (.error e) = .error (orF er e) := by unfold orE orF; split <;> rfl
theorem wrap_str (er : Nat) (r : Bs) : wrapM 5 (txtM er r) = orE er (match qstr r with | none => .error 4 | some (t, r') => .ok (.mk 5 (str t) [] [], r')) := by
  unfold wrapM txtM orE
  by_cases h : er = 0
  · rw [if_pos h, if_pos h]
    cases qstr r with
    | none => rfl
    | some tr => obtain ⟨t, r'⟩ := tr; rfl
  · rw [if_neg h, if_neg h]
theorem wrap_num (er : Nat) (xs : Bs) : wrapM 4 (numE er xs) = orE er (match numM xs with | none => .error 4 | some (t, r) => .ok (.mk 4 (str t) [] [], r)) := by
  unfold wrapM numE orE
  cases numM xs with
  | none => simp only; split <;> rfl
  | some tr =>
    obtain ⟨t, r⟩ := tr
    by_cases h : er = 0
    · simp only [if_pos h]
    · simp only [if_neg h]
section
variable {c : UInt8} {r : Bs}
theorem no_null (h : c.toNat ≠ 110) : wordNull.isPrefixOf (c :: r) = false := by
  rw [wordNull, List.isPrefixOf]
  have : ((110 : UInt8) == c) = false := by rw [beq_eq_false_iff_ne]; intro e; exact h (by rw [← e]; rfl)
  rw [this]; rfl
theorem no_false (h : c.toNat ≠ 102) : wordFalse.isPrefixOf (c :: r) = false := by
  rw [wordFalse, List.isPrefixOf]
  have : ((102 : UInt8) == c) = false := by rw [beq_eq_false_iff_ne]; intro e; exact h (by rw [← e]; rfl)
  rw [this]; rfl
theorem no_true (h : c.toNat ≠ 116) : wordTrue.isPrefixOf (c :: r) = false := by
  rw [wordTrue, List.isPrefixOf]
  have : ((116 : UInt8) == c) = false := by rw [beq_eq_false_iff_ne]; intro e; exact h (by rw [← e]; rfl)
  rw [this]; rfl
theorem no_quo (h : c.toNat ≠ 34) : ([34] : Bs).isPrefixOf (c :: r) = false := pre_not (a := 34) (by decide) (fun ⟨_, _, e, hc⟩ => by cases e; exact h hc)
end
theorem bq {c : UInt8} {n : Nat} (h : c.toNat ≠ n) : ((c.toNat : Int) == (n : Int)) = false := by simp only [beq_eq_false_iff_ne, ne_eq]; omega
theorem bt {c : UInt8} {n : Nat} (h : c.toNat = n) : ((c.toNat : Int) == (n : Int)) = true := by simp only [beq_iff_eq]; omega
/-- What is neither a string nor nested. -/
theorem rvalue_plain (p : Nat) (s : ByteArray) (xs : Bs) (er : Nat) (d : Int) (c : UInt8) (r : Bs) (hw : white xs = c :: r) (h91 : c.toNat ≠ 91) (h123 : c.toNat ≠ 123) (h34 : c.toNat ≠ 34) (w : World) (h : RRd w p s xs er) :
    Calls Tryd.prog 37 #[.pointer (some ⟨p, 0, none⟩), .int .i64 d] w (RVal w p s (orE er (plainM (c :: r)))) := by
  unfold plainM
  cases h1 : wordNull.isPrefixOf (c :: r) with
  | true => rw [if_pos rfl]; exact rvalue_null p s xs er d c r hw h1 w h
  | false =>
    rw [if_neg (by simp)]
    cases h2 : wordFalse.isPrefixOf (c :: r) with
    | true => rw [if_pos rfl]; exact rvalue_false p s xs er d c r hw h1 h2 w h
    | false =>
      rw [if_neg (by simp)]
      cases h3 : wordTrue.isPrefixOf (c :: r) with
      | true => rw [if_pos rfl]; exact rvalue_true p s xs er d c r hw h1 h2 h3 w h
      | false =>
        rw [if_neg (by simp)]
        have := rvalue_num p s xs er d c r hw h1 h2 h3 (no_quo h34) (bq h91) (bq h123) w h
        rw [wrap_num] at this
        exact this
theorem rvalue_any (p : Nat) (s : ByteArray) (hp4 : 4 ≤ p) : ∀ (n d : Nat), d + n = 64 → ∀ (xs : Bs) (er : Nat) (w : World), RRd w p s xs er → Gl w → Calls Tryd.prog 37 #[.pointer (some ⟨p, 0, none⟩), .int .i64 d] w (RVal w p s (orE er (lev n xs))) := by
  intro n
  induction n with
  | zero =>
    intro d hd xs er w h hG
    show Calls _ _ _ _ (RVal w p s (orE er (valM none xs)))
    unfold valM
    cases hw : white xs with
    | nil => simp only; rw [orE_err]; exact rvalue_nil p s xs er d hw w h
    | cons c r =>
      simp only
      by_cases h1 : c.toNat = 91
      · simp only [if_pos h1]; rw [orE_err]
        exact rvalue_lim_arr p s xs er d c r hw (no_null (by omega)) (no_false (by omega)) (no_true (by omega)) (no_quo (by omega)) (bt h1) (by omega) w h
      · simp only [if_neg h1]
        by_cases h2 : c.toNat = 123
        · simp only [if_pos h2]; rw [orE_err]
          exact rvalue_lim_obj p s xs er d c r hw (no_null (by omega)) (no_false (by omega)) (no_true (by omega)) (no_quo (by omega)) (bq h1) (bt h2) (by omega) w h
        · simp only [if_neg h2]
          by_cases h3 : c.toNat = 34
          · simp only [if_pos h3]
            have := rvalue_str p s xs er d c r hw (no_null (by omega)) (no_false (by omega)) (no_true (by omega)) (pre_one (a := 34) h3) w h hG hp4
            rw [wrap_str] at this
            exact this
          · simp only [if_neg h3]
            exact rvalue_plain p s xs er d c r hw h1 h2 h3 w h
  | succ n ih =>
    intro d hd xs er w h hG
    show Calls _ _ _ _ (RVal w p s (orE er (valM (some (lev n)) xs)))
    have hsub : ∀ w1 ys e1, RRd w1 p s ys e1 → Gl w1 → Calls Tryd.prog 37 #[.pointer (some ⟨p, 0, none⟩), .int .i64 ((d : Int) + 1)] w1 (RVal w1 p s (orE e1 (lev n ys))) := fun w1 ys e1 a b => by
      have := ih (d + 1) (by omega) ys e1 w1 a b
      simpa using this
    unfold valM
    cases hw : white xs with
    | nil => simp only; rw [orE_err]; exact rvalue_nil p s xs er d hw w h
    | cons c r =>
      simp only
      by_cases h1 : c.toNat = 91
      · simp only [if_pos h1]
        exact rvalue_arr p s xs er d c r hw (no_null (by omega)) (no_false (by omega)) (no_true (by omega)) (no_quo (by omega)) (bt h1) (by omega) _ w h
          (fun W hW => rmany_arr p s c r h1 er d (by omega) (lev n) W hW.1 (hG.rstep hp4 hW) hp4 hsub (lev_len n))
      · simp only [if_neg h1]
        by_cases h2 : c.toNat = 123
        · simp only [if_pos h2]
          exact rvalue_obj p s xs er d c r hw (no_null (by omega)) (no_false (by omega)) (no_true (by omega)) (no_quo (by omega)) (bq h1) (bt h2) (by omega) _ w h
            (fun W hW => rmany_obj p s c r h2 er d (by omega) (lev n) W hW.1 (hG.rstep hp4 hW) hp4 hsub (lev_len n))
        · simp only [if_neg h2]
          by_cases h3 : c.toNat = 34
          · simp only [if_pos h3]
            have := rvalue_str p s xs er d c r hw (no_null (by omega)) (no_false (by omega)) (no_true (by omega)) (pre_one (a := 34) h3) w h hG hp4
            rw [wrap_str] at this
            exact this
          · simp only [if_neg h3]
            exact rvalue_plain p s xs er d c r hw h1 h2 h3 w h

set_option maxHeartbeats 400000 in
theorem rparse_long (t : ByteArray) (w : World) (ht : 20000 < t.size) : Calls Tryd.prog 13 #[.string t] w (ParsePost w (.error 5)) := by
  go_enter Tryd.func13, Tryd.ntmps13
  go_wp2
  refine bodyPost_ret (v := .tuple #[zero26, .int .i64 5]) (by simp [results, Tryd.results13, go_sem]) rfl ?_
  exact ⟨(Below.refl _ _).alloc (Nat.le_refl _) _, rfl⟩

set_option maxHeartbeats 1000000 in
set_option maxRecDepth 100000 in
theorem rparse_short (t : ByteArray) (w : World) (hG : Gl w) (ht : t.size ≤ 20000) : Calls Tryd.prog 13 #[.string t] w (ParsePost w (parseM t.data.toList)) := by
  have hw3 := hG.size
  have hl : t.data.toList.length ≤ 20000 := by rw [← size_len]; exact ht
  have hpm : parseM t.data.toList = topM (lev 64 t.data.toList) := by
    unfold parseM topM; rw [if_neg (by omega)]; rfl
  have hb2 : Below w.heap.size w ((w.alloc (.cells zcells 26)).alloc (.cells #[.string t, .int .i64 0, .int .i64 0] 68)) := ((Below.refl _ _).alloc (Nat.le_refl _) _).alloc (by simp) _
  have hG2 := hG.below hb2
  have hres2 : ((w.alloc (.cells zcells 26)).alloc (.cells #[.string t, .int .i64 0, .int .i64 0] 68)).heap[w.heap.size]? = some (.cells zcells 26 (0, 0)) := (Below.heap_alloc _ _ _ (by simp)).trans (heap_alloc_new w _)
  have hpar2 : RRd ((w.alloc (.cells zcells 26)).alloc (.cells #[.string t, .int .i64 0, .int .i64 0] 68)) (w.heap.size + 1) t t.data.toList 0 := by
    have := heap_alloc_new (w.alloc (.cells zcells 26)) (.cells #[.string t, .int .i64 0, .int .i64 0] 68 (0, 0))
    exact ⟨0, by simpa using this, At.start t, by omega⟩
  have hval := rvalue_any (w.heap.size + 1) t (by omega) 64 0 rfl t.data.toList 0 _ hpar2 hG2
  have hsz2 : ((w.alloc (.cells zcells 26)).alloc (.cells #[.string t, .int .i64 0, .int .i64 0] 68)).heap.size = w.heap.size + 2 := by simp
  rw [hpm]
  clear hpm hl
  generalize lev 64 t.data.toList = m at *
  generalize hMM : topM m = M
  have HM := Lib.hid hMM
  clear hMM
  go_enter Tryd.func13, Tryd.ntmps13
  go_wp2_with fail
  generalize (w.alloc (.cells zcells 26)).alloc (.cells #[.string t, .int .i64 0, .int .i64 0] 68) = W2 at *
  refine hval.mono ?_
  rintro e w3 ⟨v, z, er, v0, v1, v2, v3, rfl, hj, hst, hgot⟩
  have hres3 := hst.fr.at hres2 (show w.heap.size ≠ w.heap.size + 1 by omega)
  obtain ⟨kk, tt, A, A', n1, cap1, n2, cap2, rfl, rfl, rfl, rfl⟩ := hj.forms
  have hb3 := below_of hb2 hst.2 (by omega)
  have hsz3 := hst.2.size
  have hst' := (RStep.refl hst.1).alloc (.cells #[.int .i64 kk, .string tt, .slice A n1 cap1, .slice A' n2 cap2] 26)
  have hwh := ref_white (w.heap.size + 1) t z er (w3.alloc (.cells #[.int .i64 kk, .string tt, .slice A n1 cap1, .slice A' n2 cap2] 26)) hst'.1
  have hv3 : (w3.alloc (.cells #[.int .i64 kk, .string tt, .slice A n1 cap1, .slice A' n2 cap2] 26)).heap[w3.heap.size]? = some (.cells #[.int .i64 kk, .string tt, .slice A n1 cap1, .slice A' n2 cap2] 26 (0, 0)) := heap_alloc_new w3 _
  clear hval hres2 hpar2 hG2 hb2
  go_wp2_with fail
  refine hwh.mono ?_
  rintro e w4 ⟨rfl, hst4⟩
  have hf4 : Fr w3 w4 (fun g => g ≠ w.heap.size + 1) := (Fr.refl w3 _).alloc _ |>.trans hst4.fr
  have hres4 := hf4.at hres3 (show w.heap.size ≠ w.heap.size + 1 by omega)
  have hv4 := hst4.fr.at hv3 (show w3.heap.size ≠ w.heap.size + 1 by omega)
  have hj4 := hj.fr (ok' := fun g => g ≠ w.heap.size + 1) hf4 (fun g hg => by omega)
  have hb4 : Below w.heap.size w w4 := below_of (hb3.alloc hb3.size _) hst4.2 (by omega)
  have HGot := Lib.hid hgot
  clear hgot hwh hst hst' hj hv3 hf4 hres3 hb3
  obtain ⟨k, c0, c1, c2, f0, f1, f2, ha, hs⟩ := hst4.1.parts
  have hrd4 := hst4.1
  generalize hz : white z = wz at *
  have HZ := Lib.hid hz
  clear hz hst4
  cases wz with
  | nil =>
    have hk : decide (k < t.size) = false := by have := ha.nil; simp; omega
    clear ha
    obtain ⟨q0, q1, q2, q3, y0, y1, y2, y3⟩ := res_cells hres4
    have r0 : w4.cell? ⟨w3.heap.size, 0, none⟩ = some (.int .i64 kk) := by rw [cell_of_row _ _ _ _ _ _ hv4]; rfl
    have r1 : w4.cell? ⟨w3.heap.size, 1, none⟩ = some (.string tt) := by rw [cell_of_row _ _ _ _ _ _ hv4]; rfl
    have r2 : w4.cell? ⟨w3.heap.size, 2, none⟩ = some (.slice A n1 cap1) := by rw [cell_of_row _ _ _ _ _ _ hv4]; rfl
    have r3 : w4.cell? ⟨w3.heap.size, 3, none⟩ = some (.slice A' n2 cap2) := by rw [cell_of_row _ _ _ _ _ _ hv4]; rfl
    by_cases he : er = 0
    · subst he
      have hM : M = .ok v := by
        rw [← HM.out]
        rcases HGot.out with ⟨e, _⟩ | ⟨_, e⟩
        · rw [show m = .ok (v, z) from e, topM, if_pos HZ.out]
        · exact absurd rfl e
      have HN := Lib.hid hM
      clear hM HM HGot HZ
      go_wp2
      go_quiet (fail)
      go_wp2
      refine bodyPost_ret (v := .tuple #[.agg #[.int .i64 kk, .string tt, .slice A n1 cap1, .slice A' n2 cap2], .int .i64 0]) (by simp [results, Tryd.results13, go_sem, q0, q1, q2, q3]) rfl ?_
      rw [HN.out]
      refine ⟨?_, _, _, _, _, rfl, (JIn.set4 (hj4.fr ((Fr.refl w4 (fun _ => True)).drewN _) (fun _ _ => trivial)) (fun g hg => by omega)).mono (fun g _ hg => by omega)⟩
      exact (((((below_drewN hb4 _)).setCell (Nat.le_refl _) _).setCell (Nat.le_refl _) _).setCell (Nat.le_refl _) _).setCell (Nat.le_refl _) _
    · have hM : M = .error er := by
        rw [← HM.out]
        rcases HGot.out with ⟨_, e⟩ | ⟨e, _⟩
        · exact absurd e he
        · rw [show m = .error er from e]; rfl
      have HN := Lib.hid hM
      have he0 : ((er : Int) == 0) = false := by simp; omega
      have he1 : ((er : Int) != 0) = true := by simp only [bne, he0]; rfl
      clear hM HM HGot HZ he
      go_wp2
      go_quiet (fail)
      go_wp2
      generalize hW : w4.drewN _ = w5
      have hb5 : Below w.heap.size w w5 := by rw [← hW]; exact below_drewN hb4 _
      replace hres4 : w5.heap[w.heap.size]? = some (.cells zcells 26 (0, 0)) := by rw [← hW]; exact hres4
      replace hrd4 : RRd w5 (w.heap.size + 1) t [] er := by rw [← hW]; exact hrd4.drewN _
      clear hW c0 c1 c2 f0 f1 f2 q0 q1 q2 q3 y0 y1 y2 y3 r0 r1 r2 r3
      obtain ⟨k5, c0, c1, c2, f0, f1, f2, ha, _⟩ := hrd4.parts
      obtain ⟨q0, q1, q2, q3, y0, y1, y2, y3⟩ := res_cells hres4
      clear ha
      go_region_law ((fail))
      all_goals go_wp2
      all_goals
        refine bodyPost_ret (v := .tuple #[zero26, .int .i64 er]) (by simp [results, Tryd.results13, go_sem, q0, q1, q2, q3]) rfl ?_
        rw [HN.out]
        refine ⟨?_, rfl⟩
        exact below_drewN ((((hb5.setCell (Nat.le_refl _) _).setCell (Nat.le_refl _) _).setCell (Nat.le_refl _) _).setCell (Nat.le_refl _) _) 1
  | cons c r =>
    have hk : decide (k < t.size) = true := by have := ha.lt; simp; omega
    clear ha
    have hM : M = .error (orF er 4) := by
      rw [← HM.out]
      rcases HGot.out with ⟨e, he⟩ | ⟨e, he⟩
      · subst he; rw [show m = .ok (v, z) from e, topM, if_neg (by rw [HZ.out]; simp)]; rfl
      · rw [show m = .error er from e, topM, orF, if_neg he]
    have HN := Lib.hid hM
    have hfl : ∀ n : Nat, Calls Tryd.prog 39 #[.pointer (some ⟨w.heap.size + 1, 0, none⟩), .int .i64 4] (w4.drewN n) fun e w' => e = .returned (.tuple #[]) ∧ RStep (w4.drewN n) (w.heap.size + 1) t (c :: r) (orF er 4) w' := fun n => ref_fail (w.heap.size + 1) t (c :: r) er 4 (w4.drewN n) (hrd4.drewN n)
    have HFl := Lib.hid hfl
    have hor : orF er 4 ≠ 0 := orF_ne (by omega)
    generalize orF er 4 = E at *
    have he0 : ((E : Int) == 0) = false := by simp; omega
    have he1 : ((E : Int) != 0) = true := by simp only [bne, he0]; rfl
    clear hM HM HGot HZ hfl hor hj4 hv4
    go_wp2
    go_quiet (fail)
    go_wp2_with fail
    refine (HFl.out _).mono ?_
    rintro e w5 ⟨rfl, hst5⟩
    have hb5 : Below w.heap.size w w5 := below_of (below_drewN hb4 _) hst5.2 (by omega)
    have hres5 := hst5.fr.at hres4 (show w.heap.size ≠ w.heap.size + 1 by omega)
    clear c0 c1 c2 f0 f1 f2 hres4
    obtain ⟨k5, c0, c1, c2, f0, f1, f2, ha, _⟩ := hst5.1.parts
    obtain ⟨q0, q1, q2, q3, y0, y1, y2, y3⟩ := res_cells hres5
    clear ha hst5 hb4 HFl hrd4
    go_wp2
    go_region_law ((fail))
    all_goals go_wp2
    all_goals
      refine bodyPost_ret (v := .tuple #[zero26, .int .i64 E]) (by simp [results, Tryd.results13, go_sem, q0, q1, q2, q3]) rfl ?_
      rw [HN.out]
      refine ⟨?_, rfl⟩
      exact below_drewN ((((hb5.setCell (Nat.le_refl _) _).setCell (Nat.le_refl _) _).setCell (Nat.le_refl _) _).setCell (Nat.le_refl _) _) 1
theorem rparse_any (t : ByteArray) (w : World) (hG : Gl w) : Calls Tryd.prog 13 #[.string t] w (ParsePost w (parseM t.data.toList)) := by
  by_cases ht : t.size ≤ 20000
  · exact rparse_short t w hG ht
  · have : parseM t.data.toList = .error 5 := by unfold parseM; rw [if_pos (by rw [← size_len]; omega)]
    rw [this]
    exact rparse_long t w (by omega)
end Go.Proofs.YtjcnjaebmndeiaaDoor
