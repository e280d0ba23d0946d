/-
  'json.Parse', walked.
-/
import Derived.Test.YtfboecnhakihnaaGreatDoorJNsv
namespace Go.Proofs.YtfboecnhakihnaaGreatDoor.js
open Go.RowKit

/-- What 'Parse' answers. -/
def ParsePost (w : World) (M : Except Nat J) (e : Ending) (w' : World) : Prop :=
  Below w.heap.size w w' ∧
  match M with
  | .ok v => ∃ v0 v1 v2 v3, e = .returned (.tuple #[.agg #[v0, v1, v2, v3], .int .i64 0]) ∧ JIn w' (fun b => w.heap.size ≤ b) v v0 v1 v2 v3
  | .error er => e = .returned (.tuple #[zero26, .int .i64 er])
/-- What is left of a value behind it. -/
def topM : Res → Except Nat J
  | .error e => .error e
  | .ok (v, r) => if white r = [] then .ok v else .error 4
theorem Gl.size {w : World} (h : Gl w) : 3 < w.heap.size := by obtain ⟨ev, he, _⟩ := h.err; exact World.block_lt_of_cell? w ⟨3, 0, none⟩ he
theorem below_of {w a w' : World} {p : Nat} (h : Below w.heap.size w a) (hg : a.grownBy w' (some p)) (hp : w.heap.size ≤ p) : Below w.heap.size w w' := h.grown hg h.size (fun k e => by cases e; exact hp)

set_option maxHeartbeats 400000 in
theorem parse_long (t : ByteArray) (w : World) (ht : 20000 < t.size) : Calls Tryz.prog 102 #[.string t] w (ParsePost w (.error 5)) := by
  go_enter Tryz.func102, Tryz.ntmps102
  go_wp2
  refine bodyPost_ret (v := .tuple #[zero26, .int .i64 5]) (by simp [results, Tryz.results102, go_sem]) rfl ?_
  exact ⟨(Below.refl _ _).alloc (Nat.le_refl _) _, rfl⟩

set_option maxHeartbeats 1000000 in
set_option maxRecDepth 100000 in
theorem parse_short (t : ByteArray) (w : World) (hG : Gl w) (ht : t.size ≤ 20000) : Calls Tryz.prog 102 #[.string t] w (ParsePost w (parseM t.data.toList)) := by
  have hw3 := hG.size
  have hl : t.data.toList.length ≤ 20000 := by rw [← size_len]; exact ht
  have hpm : parseM t.data.toList = topM (lev 64 t.data.toList) := by
    unfold parseM topM; rw [if_neg (by omega)]; rfl
  have hb2 : Below w.heap.size w ((w.alloc (.cells zcells 37)).alloc (.cells #[.string t, .int .i64 0] 178)) := ((Below.refl _ _).alloc (Nat.le_refl _) _).alloc (by simp) _
  have hG2 := hG.below hb2
  have hres2 : ((w.alloc (.cells zcells 37)).alloc (.cells #[.string t, .int .i64 0] 178)).heap[w.heap.size]? = some (.cells zcells 37 (0, 0)) := (Below.heap_alloc _ _ _ (by simp)).trans (heap_alloc_new w _)
  have hpar2 : Par ((w.alloc (.cells zcells 37)).alloc (.cells #[.string t, .int .i64 0] 178)) (w.heap.size + 1) t t.data.toList := by
    have := heap_alloc_new (w.alloc (.cells zcells 37)) (.cells #[.string t, .int .i64 0] 178 (0, 0))
    exact ⟨0, by simpa using this, At.start t, by omega⟩
  have hval := (value_any (w.heap.size + 1) t (by omega) 64 0 rfl t.data.toList _ hpar2 hG2).mono fun e w' hv => hv.split
  have hsz2 : ((w.alloc (.cells zcells 37)).alloc (.cells #[.string t, .int .i64 0] 178)).heap.size = w.heap.size + 2 := by simp
  rw [hpm]
  clear hpm hl
  generalize lev 64 t.data.toList = m at *
  generalize hMM : topM m = M
  have HM := Lib.hid hMM
  clear hMM
  go_enter Tryz.func102, Tryz.ntmps102
  go_wp2_with fail
  generalize (w.alloc (.cells zcells 37)).alloc (.cells #[.string t, .int .i64 0] 178) = W2 at *
  refine hval.mono ?_
  rintro e w3 (⟨v, z, v0, v1, v2, v3, rfl, hgot, hj, hst⟩ | ⟨er, zs', rfl, hsv, her, hst⟩)
  · have hres3 := hst.fr.at hres2 (show w.heap.size ≠ w.heap.size + 1 by omega)
    obtain ⟨kk, tt, A, A', n1, cap1, n2, cap2, rfl, rfl, rfl, rfl⟩ := hj.forms
    have hb3 := below_of hb2 hst.2 (by omega)
    have hsz3 := hst.2.size
    have hst' := (Step.refl hst.1).alloc (.cells #[.int .i64 kk, .string tt, .slice A n1 cap1, .slice A' n2 cap2] 37)
    have hwh := white_any (w.heap.size + 1) t z (w3.alloc (.cells #[.int .i64 kk, .string tt, .slice A n1 cap1, .slice A' n2 cap2] 37)) hst'.1
    have hv3 : (w3.alloc (.cells #[.int .i64 kk, .string tt, .slice A n1 cap1, .slice A' n2 cap2] 37)).heap[w3.heap.size]? = some (.cells #[.int .i64 kk, .string tt, .slice A n1 cap1, .slice A' n2 cap2] 37 (0, 0)) := heap_alloc_new w3 _
    clear hval hres2 hpar2 hG2 hb2
    go_wp2_with fail
    refine hwh.mono ?_
    rintro e w4 ⟨rfl, hst4⟩
    have hf4 : Fr w3 w4 (fun g => g ≠ w.heap.size + 1) := (Fr.refl w3 _).alloc _ |>.trans hst4.fr
    have hres4 := hf4.at hres3 (show w.heap.size ≠ w.heap.size + 1 by omega)
    have hv4 := hst4.fr.at hv3 (show w3.heap.size ≠ w.heap.size + 1 by omega)
    have hj4 := hj.fr (ok' := fun g => g ≠ w.heap.size + 1) hf4 (fun g hg => by omega)
    have hb4 : Below w.heap.size w w4 := below_of (hb3.alloc hb3.size _) hst4.2 (by omega)
    obtain ⟨q0, q1, q2, q3, y0, y1, y2, y3⟩ := res_cells hres4
    have r0 : w4.cell? ⟨w3.heap.size, 0, none⟩ = some (.int .i64 kk) := by rw [cell_of_row _ _ _ _ _ _ hv4]; rfl
    have r1 : w4.cell? ⟨w3.heap.size, 1, none⟩ = some (.string tt) := by rw [cell_of_row _ _ _ _ _ _ hv4]; rfl
    have r2 : w4.cell? ⟨w3.heap.size, 2, none⟩ = some (.slice A n1 cap1) := by rw [cell_of_row _ _ _ _ _ _ hv4]; rfl
    have r3 : w4.cell? ⟨w3.heap.size, 3, none⟩ = some (.slice A' n2 cap2) := by rw [cell_of_row _ _ _ _ _ _ hv4]; rfl
    obtain ⟨k, c0, c1, f0, f1, ha, hs, _⟩ := hst4.1.parts
    have hgot' := hgot
    have HGot := Lib.hid hgot
    clear hgot hgot' hwh hst hst' hj hv3 hv4 hf4 hres3 hb3
    cases hz : white z with
    | nil =>
      rw [hz] at ha
      have hk : decide (k < t.size) = false := by have := ha.nil; simp; omega
      have hM : M = .ok v := by
        rw [← HM.out]
        rcases HGot.out with e | ⟨_, d, r, rfl, hd⟩
        · rw [e, topM, if_pos hz]
        · rw [white_cons_no (dig_white hd).1] at hz; cases hz
      have HN := Lib.hid hM
      clear hM HM HGot hz ha
      go_wp2
      go_quiet (fail)
      go_wp2
      refine bodyPost_ret (v := .tuple #[.agg #[.int .i64 kk, .string tt, .slice A n1 cap1, .slice A' n2 cap2], .int .i64 0]) (by simp [results, Tryz.results102, go_sem, q0, q1, q2, q3]) rfl ?_
      rw [HN.out]
      refine ⟨?_, _, _, _, _, rfl, (JIn.set4 (hj4.fr ((Fr.refl w4 (fun _ => True)).drewN _) (fun _ _ => trivial)) (fun g hg => by omega)).mono (fun g _ hg => by omega)⟩
      exact (((((below_drewN hb4 _)).setCell (Nat.le_refl _) _).setCell (Nat.le_refl _) _).setCell (Nat.le_refl _) _).setCell (Nat.le_refl _) _
    | cons c r =>
      rw [hz] at ha
      have hk : decide (k < t.size) = true := by have := ha.lt; simp; omega
      have hM : M = .error 4 := by
        rw [← HM.out]
        rcases HGot.out with e | ⟨e, _⟩
        · rw [e, topM, if_neg (by rw [hz]; simp)]
        · rw [e]; rfl
      have HN := Lib.hid hM
      clear hM HM HGot hz ha
      go_wp2
      go_quiet (fail)
      go_wp2
      refine bodyPost_ret (v := .tuple #[zero26, .int .i64 4]) (by simp [results, Tryz.results102, go_sem, q0, q1, q2, q3]) rfl ?_
      rw [HN.out]
      refine ⟨?_, rfl⟩
      exact (((((below_drewN hb4 _)).setCell (Nat.le_refl _) _).setCell (Nat.le_refl _) _).setCell (Nat.le_refl _) _).setCell (Nat.le_refl _) _
  · have hres3 := hst.fr.at hres2 (show w.heap.size ≠ w.heap.size + 1 by omega)
    have hb3 := below_of hb2 hst.2 (by omega)
    obtain ⟨q0, q1, q2, q3, y0, y1, y2, y3⟩ := res_cells hres3
    have hrlt := blk_lt hres3
    have her' : ((er : Int) == 0) = false := by simp only [beq_eq_false_iff_ne, ne_eq]; omega
    have her2 : ((er : Int) != 0) = true := by simp only [bne, her']; rfl
    have hM : M = .error er := by rw [← HM.out, hsv]; rfl
    have HN := Lib.hid hM
    clear hM HM hsv her hval hst
    go_wp2
    refine bodyPost_ret (v := .tuple #[zero26, .int .i64 er]) (by simp [results, Tryz.results102, go_sem, q0, q1, q2, q3, hrlt]) rfl ?_
    rw [HN.out]
    refine ⟨?_, rfl⟩
    have hb5 := (((hb3.setCell (p := ⟨w.heap.size, 0, none⟩) (Nat.le_refl _) (.int .i64 0)).setCell (p := ⟨w.heap.size, 1, none⟩) (Nat.le_refl _) (.string ⟨#[]⟩)).setCell (p := ⟨w.heap.size, 2, none⟩) (Nat.le_refl _) (.slice none 0 0)).setCell (p := ⟨w.heap.size, 3, none⟩) (Nat.le_refl _) (.slice none 0 0)
    exact hb5.alloc hb5.size _
theorem parse_any (t : ByteArray) (w : World) (hG : Gl w) : Calls Tryz.prog 102 #[.string t] w (ParsePost w (parseM t.data.toList)) := by
  by_cases ht : t.size ≤ 20000
  · exact parse_short t w hG ht
  · have : parseM t.data.toList = .error 5 := by unfold parseM; rw [if_pos (by rw [← size_len]; omega)]
    rw [this]
    exact parse_long t w (by omega)
end Go.Proofs.YtfboecnhakihnaaGreatDoor.js
