/-
  The parser's 'nest', of an object.
-/
import Derived.Test.YtcamaloekanelaaDoorNest
namespace Go.Proofs.YtcamaloekanelaaDoor
open Go.RowKit

theorem keyM_err {ks : List ByteArray} {xs : Bs} {er : Nat} (h : keyM ks xs = .error er) : er = 4 ∨ er = 7 := by
  unfold keyM at h
  repeat' split at h
  all_goals first | (cases h; omega) | cases h
theorem keyM_len {ks : List ByteArray} {xs r : Bs} {k : ByteArray} (h : keyM ks xs = .ok (k, r)) : r.length < xs.length := by
  unfold keyM at h
  have h1 := white_le xs
  cases hx : white xs with
  | nil => rw [hx] at h; cases h
  | cons c t =>
    rw [hx] at h h1
    simp only [List.length_cons] at h1
    simp only at h
    split at h
    · cases hq : qstr t with
      | none => rw [hq] at h; cases h
      | some tr =>
        obtain ⟨t', r'⟩ := tr
        have h2 := qstr_len hq
        have h3 := white_le r'
        rw [hq] at h
        simp only at h
        split at h
        · cases h
        · cases hw : white r' with
          | nil => rw [hw] at h; cases h
          | cons c' r'' =>
            rw [hw] at h h3
            simp only [List.length_cons] at h3
            simp only at h
            split at h
            · cases h; omega
            · cases h
    · cases h
theorem headM_err {ks : List ByteArray} {xs : Bs} {er : Nat} (h : keyM ks xs = .error er) : headM true ks xs = .error er := by simp [headM, h]
theorem headM_ok {ks : List ByteArray} {xs r : Bs} {k : ByteArray} (h : keyM ks xs = .ok (k, r)) : headM true ks xs = .ok (ks ++ [k], r) := by simp [headM, h]
set_option maxHeartbeats 2000000 in
set_option maxRecDepth 100000 in
theorem nest_obj (p : Nat) (s : ByteArray) (x : UInt8) (r : Bs) (d : Nat) (hd : d < 64) (sub : Bs → Res) (w : World) (h : Par w p s (x :: r)) (hG : Gl w) (hp4 : 4 ≤ p)
    (hsub : ∀ w1 ys, Par w1 p s ys → Gl w1 → Calls Tryd.prog 35 #[.pointer (some ⟨p, 0, none⟩), .int .i64 ((d : Int) + 1)] w1 (ValPost w1 p s (sub ys)))
    (hlen : ∀ ys v zs, sub ys = .ok (v, zs) → zs.length ≤ ys.length) :
    Calls Tryd.prog 57 #[.pointer (some ⟨p, 0, none⟩), .int .i64 7, .int .u8 125, .int .i64 d] w (NestPost w p s (manyM sub true r)) := by
  obtain ⟨k, c0, c1, f0, f1, ha, hs, _⟩ := h.parts
  have hplt := h.lt
  have hk := ha.lt
  have hrl : r.length ≤ 30000 := by have := ha.len; simp at this; omega
  have hst1 : Step w p s r (((w.setCell ⟨p, 1, none⟩ (.int .i64 ((k : Int) + 1))).alloc (.cells zcells 26)).alloc (.cells #[.int .i64 7, .string ⟨#[]⟩, .slice none 0 0, .slice none 0 0] 26)) := (((Step.refl h).set ha.tail).alloc _).alloc _
  have hres1 : (((w.setCell ⟨p, 1, none⟩ (.int .i64 ((k : Int) + 1))).alloc (.cells zcells 26)).alloc (.cells #[.int .i64 7, .string ⟨#[]⟩, .slice none 0 0, .slice none 0 0] 26)).heap[w.heap.size]? = some (.cells zcells 26 (0, 0)) := by
    rw [Below.heap_alloc _ _ _ (by simp)]
    have := heap_alloc_new (w.setCell ⟨p, 1, none⟩ (.int .i64 ((k : Int) + 1))) (.cells zcells 26 (0, 0))
    simpa using this
  have hout1 : (((w.setCell ⟨p, 1, none⟩ (.int .i64 ((k : Int) + 1))).alloc (.cells zcells 26)).alloc (.cells #[.int .i64 7, .string ⟨#[]⟩, .slice none 0 0, .slice none 0 0] 26)).heap[w.heap.size + 1]? = some (.cells #[.int .i64 7, .string ⟨#[]⟩, .slice none 0 0, .slice none 0 0] 26 (0, 0)) := by
    have := heap_alloc_new ((w.setCell ⟨p, 1, none⟩ (.int .i64 ((k : Int) + 1))).alloc (.cells zcells 26)) (.cells #[.int .i64 7, .string ⟨#[]⟩, .slice none 0 0, .slice none 0 0] 26 (0, 0))
    simpa using this
  have hsg : ∀ w1, Par w1 p s r → _ := fun w1 hp => sign_any p s r w1 hp
  have HS := Lib.hid hsg
  have HSub := Lib.hid hsub
  have HLen := Lib.hid hlen
  have hmm := @run_makeMap Tryd.prog
  clear hsg hsub hlen ha
  have hd64 : (d : Int) < 64 := by omega
  have hwl := white_le r
  have hfin : ∀ c t, white r = c :: t → c.toNat = 125 → manyM sub true r = .ok (.mk 7 ByteArray.empty [] [], t) := fun c t a b => manyM_fin (obj := true) a b
  have hloop : (∀ c t, white r = c :: t → c.toNat ≠ 125) → manyM sub true r = loopM sub true ((white r).length + 1) [] [] (white r) := fun a => manyM_loop (obj := true) a
  generalize white r = ys at *
  generalize manyM sub true r = M at *
  have HFin := Lib.hid hfin
  have HLoop := Lib.hid hloop
  clear hfin hloop
  go_enter Tryd.func57, Tryd.ntmps57
  go_wp2
  go_step3
  go_wp2_with fail
  generalize ((w.setCell ⟨p, 1, none⟩ (.int .i64 ((k : Int) + 1))).alloc (.cells zcells 26)).alloc (.cells #[.int .i64 7, .string ⟨#[]⟩, .slice none 0 0, .slice none 0 0] 26) = W1 at *
  refine (HS.out W1 hst1.1).mono ?_
  rintro e w1 ⟨rfl, hst2⟩
  have hres2 := hst2.fr.at hres1 (show w.heap.size ≠ p by omega)
  have hout2 := hst2.fr.at hout1 (show w.heap.size + 1 ≠ p by omega)
  have hst3 := hst1.of hst2
  clear hres1 hout1 hst1 hst2 HS
  obtain ⟨k2, c02, c12, f02, f12, ha2, _, _⟩ := hst3.1.parts
  have q0 : w1.cell? ⟨w.heap.size, 0, none⟩ = some (.int .i64 0) := by rw [cell_of_row _ _ _ _ _ _ hres2]; rfl
  have q1 : w1.cell? ⟨w.heap.size, 1, none⟩ = some (.string ⟨#[]⟩) := by rw [cell_of_row _ _ _ _ _ _ hres2]; rfl
  have q2 : w1.cell? ⟨w.heap.size, 2, none⟩ = some (.slice none 0 0) := by rw [cell_of_row _ _ _ _ _ _ hres2]; rfl
  have q3 : w1.cell? ⟨w.heap.size, 3, none⟩ = some (.slice none 0 0) := by rw [cell_of_row _ _ _ _ _ _ hres2]; rfl
  have y0 := frozen_of_row w1 w.heap.size 0 _ 26 hres2
  have y1 := frozen_of_row w1 w.heap.size 1 _ 26 hres2
  have y2 := frozen_of_row w1 w.heap.size 2 _ 26 hres2
  have y3 := frozen_of_row w1 w.heap.size 3 _ 26 hres2
  have u0 : w1.cell? ⟨w.heap.size + 1, 0, none⟩ = some (.int .i64 7) := by rw [cell_of_row _ _ _ _ _ _ hout2]; rfl
  have u1 : w1.cell? ⟨w.heap.size + 1, 1, none⟩ = some (.string ⟨#[]⟩) := by rw [cell_of_row _ _ _ _ _ _ hout2]; rfl
  have u2 : w1.cell? ⟨w.heap.size + 1, 2, none⟩ = some (.slice none 0 0) := by rw [cell_of_row _ _ _ _ _ _ hout2]; rfl
  have u3 : w1.cell? ⟨w.heap.size + 1, 3, none⟩ = some (.slice none 0 0) := by rw [cell_of_row _ _ _ _ _ _ hout2]; rfl
  by_cases hend : ∃ c t, ys = c :: t ∧ c.toNat = 125
  · obtain ⟨c, t, rfl, hc⟩ := hend
    have hM := HFin.out c t rfl hc
    have HM := Lib.hid hM
    have hc1 : ((c.toNat : Int) == 125) = true := by simp only [beq_iff_eq]; omega
    have hst4 := hst3.set ha2.tail
    have hlt2 := ha2.lt
    clear hM HFin HLoop HSub HLen hc
    go_wp2
    refine bodyPost_ret (v := .tuple #[leaf 7 ⟨#[]⟩, .int .i64 0]) (by simp [results, Tryd.results57, go_sem, q0, q1, q2, q3]) rfl ?_
    rw [HM.out]
    exact ⟨_, _, _, _, rfl, JIn.leaf _ _ 7 _, (((hst4.setNew (Nat.le_refl _) hplt).setNew (Nat.le_refl _) hplt).setNew (Nat.le_refl _) hplt).setNew (Nat.le_refl _) hplt⟩
  · have hne : ∀ c t, ys = c :: t → c.toNat ≠ 125 := fun c t e hc => hend ⟨c, t, e, hc⟩
    have hM := HLoop.out hne
    have hc1 : ((((List.head? ys).getD 0).toNat : Int) == 125) = false := by
      simp only [beq_eq_false_iff_ne, ne_eq]
      cases ys with
      | nil => decide
      | cons c t => have := hne c t rfl; simp; omega
    have HM := Lib.hid hM
    clear hM HFin HLoop hne hend
    have hsz1 : w.heap.size + 1 < w1.heap.size := blk_lt hout2
    have hns : NSt w (w1.alloc (.map #[] 0)) p (w.heap.size + 1) (w1.heap.size + 1) 7 [] [] (.slice none 0 0) (.slice none 0 0) (fun _ _ => undef) := by
      have := NSt.start (hst3.alloc (.map #[] 0)).2 ((Below.heap_alloc w1 _ _ (blk_lt hres2)).trans hres2) ((Below.heap_alloc w1 _ _ (blk_lt hout2)).trans hout2)
      simpa using this
    have hrel0 : NRel sub true M w p s (w.heap.size + 1) w1.heap.size (w1.heap.size + 1) 7 ys.length (w1.alloc (.map #[] 0)) :=
      ⟨ys.length + 1, [], [], ys, _, _, _, rfl, by omega, HM.out.symm, (hst3.alloc _).1, Seen.made w1, by simp; omega, by simp; omega, hns⟩
    clear q0 q1 q2 q3 y0 y1 y2 y3 u0 u1 u2 u3 c02 c12 f02 f12 ha2 c0 c1 f0 f1 hns HM hst3 hres2 hout2
    go_wp2
    go_step3
    go_wp2
    go_loopg [] ys.length (fun g wr => NRel sub true M w p s (w.heap.size + 1) w1.heap.size (w1.heap.size + 1) 7 g wr)
    case atStart => exact hrel0
    case round =>
      obtain ⟨f, ks, l, zs, vL, vK, c, hg, hf, hR, hpar, hseen, hb1, hb2, hn⟩ := hrel
      obtain ⟨f, rfl⟩ : ∃ f', f = f' + 1 := ⟨f - 1, by omega⟩
      clear hrel0
      have HG := Lib.hid hg
      have hGl := hG.kept hn.frame (fun k e => by cases e; exact hp4)
      have hkc := key_any p s zs w1.heap.size ks.length ks wr hpar hGl hp4 hseen (by omega) (by omega)
      have hke := fun er => keyM_err (ks := ks) (xs := zs) (er := er)
      have hkl := fun k r => keyM_len (ks := ks) (xs := zs) (k := k) (r := r)
      have hhe := fun er => headM_err (ks := ks) (xs := zs) (er := er)
      have hho := fun k r => headM_ok (ks := ks) (xs := zs) (k := k) (r := r)
      have HR := Lib.hid hR
      clear hg hR hseen
      generalize keyM ks zs = mk at *
      cases mk with
      | error er =>
        have her := hke er rfl
        have HM := Lib.hid (HR.out.symm.trans (loopM_head (sub := sub) (f := f) (l := l) (hhe er rfl)))
        clear hke hkl hhe hho HR
        go_wp2_with fail
        refine hkc.mono ?_
        rintro e w2 ⟨hfr, zs', rfl, hpar2⟩
        have hn2 := hn.fr hfr hplt (by omega) (by omega) (by omega)
        have hstep2 : Step w p s zs' w2 := ⟨hpar2, hn2.frame⟩
        obtain ⟨⟨q0, q1, q2, q3⟩, ⟨y0, y1, y2, y3⟩, _⟩ := hn2.cells
        have her' : ((er : Int) == 0) = false := by simp only [beq_eq_false_iff_ne, ne_eq]; omega
        have her2 : ((er : Int) != 0) = true := by simp only [bne, her']; rfl
        have hrlt := blk_lt hn2.res
        clear her hkc hn hpar
        go_wp2
        rw [Exit.noGoto_ret]
        refine bodyPost_ret (v := .tuple #[zero26, .int .i64 er]) (by simp [results, Tryd.results57, go_sem, q0, q1, q2, q3, hrlt]) rfl ?_
        rw [HM.out]
        exact ⟨rfl, _, hstep2.set4 (Nat.le_refl _) hplt⟩
      | ok kr =>
      obtain ⟨kk0, ys1⟩ := kr
      have hyl := hkl kk0 ys1 rfl
      have HH := Lib.hid (hho kk0 ys1 rfl)
      clear hke hkl hhe hho
      go_wp2_with fail
      refine hkc.mono ?_
      rintro e wk ⟨hfrk, rfl, hpark, hseenk, hksz⟩
      have hnk := hn.fr hfrk hplt (by omega) (by omega) (by omega)
      have uk : wk.cell? ⟨w.heap.size + 1, 3, none⟩ = some vK := by rw [cell_of_row _ _ _ _ _ _ hnk.out]; rfl
      have yk := frozen_of_row wk (w.heap.size + 1) 3 _ 26 hnk.out
      have holtk := hnk.olt
      obtain ⟨AK0, capK0, rfl, _, _, _⟩ := own_open hnk.rowK (by omega)
      have hnsk := hnk.alloc (.cells #[.string kk0] 9) hplt (by omega) (by omega)
      obtain ⟨i9, hi9, hz90, hz91, hz92⟩ := info_parts Tryd.info9
      clear hkc hn hpar hfrk
      go_wp2_with (at_builtin; refine wpList_append_own_at _ rfl _ _ 24 rfl (w1.heap.size + 1) 9 i9 _ 1 16 Tryd.underlying24 hi9 hz90 hz91 hz92 rfl (by decide) _ ks.length (ks.map Value.string) rfl hnsk.rowK ⟨wk.heap.size, 0, none⟩ 1 1 [.string kk0] rfl rfl (cell_one_new _ _ _) (by simp [Value.oneCell']) (by unfold maxLen; omega) (by omega) hnsk.size ?_; intro vk' wk5 hownk hgrowk _ hblkk; obtain ⟨gk', capk', rfl⟩ := ownsRow_succ hownk; have hnsk6 := hnsk.key (by omega) (by omega) hownk hgrowk hblkk; have houtk5 := hnsk.out6 hgrowk (by omega); have uk5 : wk5.cell? ⟨w.heap.size + 1, 3, none⟩ = some (.slice AK0 ks.length capK0) := (by rw [cell_of_row _ _ _ _ _ _ houtk5]; rfl); have yk5 := frozen_of_row wk5 (w.heap.size + 1) 3 _ 26 houtk5)
      have hfk6 : Fr wk (wk5.setCell ⟨w.heap.size + 1, 3, none⟩ (.slice (some ⟨gk', 0, none⟩) (ks.length + 1) capk')) (fun g => g < w1.heap.size + 1 ∧ g ≠ w.heap.size + 1) :=
        (((Fr.refl wk _).alloc _).trans (Fr.of hgrowk (fun b _ hb e => by have := (hnsk.rowK.lt b e.symm).1; omega))).trans (Fr.of (gset wk5 (w.heap.size + 1) 3 _) (fun b _ hb e => hb.2 (by cases e; rfl)))
      have hpark6 : Par (wk5.setCell ⟨w.heap.size + 1, 3, none⟩ (.slice (some ⟨gk', 0, none⟩) (ks.length + 1) capk')) p s ys1 := by
        obtain ⟨k6, hh6, hr6⟩ := hpark
        exact ⟨k6, hfk6.at hh6 ⟨by omega, by omega⟩, hr6⟩
      have hseenk6 := hseenk.fr hfk6 ⟨by omega, by omega⟩
      have hksl : (ks ++ [kk0]).length = ks.length + 1 := by simp
      clear hownk hgrowk hblkk houtk5 uk5 yk5 hnsk uk yk hnk hfk6 holtk hpark hseenk
      generalize wk5.setCell ⟨w.heap.size + 1, 3, none⟩ (.slice (some ⟨gk', 0, none⟩) (ks.length + 1) capk') = WK at *
      have hGl2 := hG.kept hnsk6.frame (fun k e => by cases e; exact hp4)
      have hcall := (HSub.out WK ys1 hpark6 hGl2).mono fun e w' hv => hv.split
      rw [← hksl] at hseenk6
      have HSe := Lib.hid hseenk6
      have hb2' : (ks ++ [kk0]).length + ys1.length ≤ 30000 + 1 := by rw [hksl]; omega
      have hn := hnsk6
      clear hnsk6
      clear hseenk6
      refine hcall.mono ?_
      rintro e w2 (⟨v, z, v0, v1, v2, v3, rfl, hgot, hj, hst⟩ | ⟨er, zs', rfl, hsv, her, hst⟩)
      · have HV := Lib.hid hgot
        clear hgot hcall
        have hj2 := hj.fresh hn
        obtain ⟨kk, tt, A, A', n1, cap1, n2, cap2, rfl, rfl, rfl, rfl⟩ := hj.forms
        have hn2 := hn.fr (b := w1.heap.size) (hst.fr.mono (fun _ _ h => h.1)) hplt (by omega) (by omega) (by omega)
        have u2 : w2.cell? ⟨w.heap.size + 1, 2, none⟩ = some vL := by rw [cell_of_row _ _ _ _ _ _ hn2.out]; rfl
        have y2 := frozen_of_row w2 (w.heap.size + 1) 2 _ 26 hn2.out
        have holt := hn2.olt
        obtain ⟨A3, cap3, rfl, _, _, _⟩ := own_open hn2.rowL (by omega)
        have hns := ((hn2.alloc (.cells #[.int .i64 kk, .string tt, .slice A n1 cap1, .slice A' n2 cap2] 26) hplt (by omega) (by omega)).alloc (.cells #[.int .i64 kk, .string tt, .slice A n1 cap1, .slice A' n2 cap2] 26) hplt (by omega) (by omega))
        obtain ⟨i0, hi, hz0, hz1, hz2⟩ := info_parts Tryd.info26
        go_wp2_with (at_builtin; refine wpList_append_own_at _ rfl _ _ 23 rfl (w1.heap.size + 1) 26 i0 _ 4 72 Tryd.underlying23 hi hz0 hz1 hz2 rfl (by decide) _ l.length (cellsJ c l.length) rfl hns.rowL ⟨w2.heap.size + 1, 0, none⟩ 1 1 [.int .i64 kk, .string tt, .slice A n1 cap1, .slice A' n2 cap2] rfl rfl (by have := cells4_new (w2.alloc (.cells #[.int .i64 kk, .string tt, .slice A n1 cap1, .slice A' n2 cap2] 26)) (.int .i64 kk) (.string tt) (.slice A n1 cap1) (.slice A' n2 cap2); simpa using this) (by simp [Value.oneCell']) (by unfold maxLen; omega) (by omega) hns.size ?_; intro v' w5 hown' hgrow _ hblk; obtain ⟨g', cap', rfl⟩ := ownsRow_succ hown'; obtain ⟨c', hns6⟩ := hns.elem (by omega) (by omega) hown' hgrow hblk ((hj2.fr ((Fr.refl w2 (fun _ => True)).alloc _) (fun _ _ => trivial)).fr ((Fr.refl _ (fun _ => True)).alloc _) (fun _ _ => trivial)); have hout5 := hns.out5 hgrow (by omega); have u5 : w5.cell? ⟨w.heap.size + 1, 2, none⟩ = some (.slice A3 l.length cap3) := (by rw [cell_of_row _ _ _ _ _ _ hout5]; rfl); have y5 := frozen_of_row w5 (w.heap.size + 1) 2 _ 26 hout5)
        have hf6 : Fr w2 (w5.setCell ⟨w.heap.size + 1, 2, none⟩ (.slice (some ⟨g', 0, none⟩) (l.length + 1) cap')) (fun g => g < w1.heap.size + 1 ∧ g ≠ w.heap.size + 1) :=
          ((((Fr.refl w2 _).alloc _).alloc _).trans (Fr.of hgrow (fun b _ hb e => by have := (hns.rowL.lt b e.symm).1; omega))).trans (Fr.of (gset w5 (w.heap.size + 1) 2 _) (fun b _ hb e => hb.2 (by cases e; rfl)))
        have hpar6 : Par (w5.setCell ⟨w.heap.size + 1, 2, none⟩ (.slice (some ⟨g', 0, none⟩) (l.length + 1) cap')) p s z := by
          obtain ⟨k6, hh6, hr6⟩ := hst.1
          exact ⟨k6, hf6.at hh6 ⟨by omega, by omega⟩, hr6⟩
        have hseen6 := (HSe.out.fr hst.fr (by omega)).fr hf6 ⟨by omega, by omega⟩
        clear hown' hgrow hblk hout5 u5 y5 hns u2 y2 hn2 hj hj2 hst hf6 hn holt hpark6
        generalize w5.setCell ⟨w.heap.size + 1, 2, none⟩ (.slice (some ⟨g', 0, none⟩) (l.length + 1) cap') = W6 at *
        have htk := take_any p s z W6 hpar6
        obtain ⟨hnil, hc44, hcfin, hcels⟩ := got_facts (ws := white z) HR.out HH.out HLen.out HV.out rfl
        have hfacts := Lib.hid (And.intro hnil (And.intro hc44 (And.intro hcfin hcels)))
        clear hnil hc44 hcfin hcels HR
        generalize white z = ws at *
        refine htk.mono ?_
        rintro e w7 ⟨rfl, hst7⟩
        have hns7 := hns6.fr (b := w1.heap.size) (hst7.fr.mono (fun _ _ h => h.1)) hplt (by omega) (by omega) (by omega)
        have hseen7 := hseen6.fr hst7.fr (show w1.heap.size ≠ p by omega)
        have hstep7 : Step w p s ws.tail w7 := ⟨hst7.1, hns7.frame⟩
        obtain ⟨⟨q0, q1, q2, q3⟩, ⟨y0, y1, y2, y3⟩, ⟨u0, u1, u2, u3⟩⟩ := hns7.cells
        clear hns6 hseen6 hpar6 htk HSe
        obtain ⟨hnil, hc44, hcfin, hcels⟩ := hfacts.out
        clear hfacts
        cases ws with
        | nil =>
          have HM := Lib.hid (hnil rfl)
          clear hnil hc44 hcfin hcels
          go_wp2
          refine bodyPost_ret (v := .tuple #[zero26, .int .i64 4]) (by simp [results, Tryd.results57, go_sem, q0, q1, q2, q3]) rfl ?_
          rw [HM.out]
          exact ⟨rfl, _, hstep7.set4 (Nat.le_refl _) hplt⟩
        | cons c q =>
          by_cases h44 : c.toNat = 44
          · have b44 : ((c.toNat : Int) == 44) = true := by simp only [beq_iff_eq]; omega
            obtain ⟨hM, hql⟩ := hc44 c q rfl h44
            have HM := Lib.hid hM
            clear hM hnil hc44 hcfin hcels h44
            go_wp2
            go_roundg q.length
            case measure => have := HG.out; omega
            case rel => exact ⟨f, ks ++ [kk0], l ++ [v], q, _, _, c', rfl, by omega, HM.out.symm, hst7.1, hseen7, by simp; omega, by rw [hksl]; omega, hns7⟩
          · have b44 : ((c.toNat : Int) == 44) = false := by simp only [beq_eq_false_iff_ne, ne_eq]; omega
            by_cases h125 : c.toNat = 125
            · have b125 : ((c.toNat : Int) == 125) = true := by simp only [beq_iff_eq]; omega
              have HM := Lib.hid (hcfin c q rfl h125)
              clear hnil hc44 hcfin hcels h44 h125
              have hjv := hns7.value (k := 7) rfl
              go_wp2
              rw [Exit.noGoto_ret]
              refine bodyPost_ret (v := .tuple #[.agg #[.int .i64 7, .string ⟨#[]⟩, .slice (some ⟨g', 0, none⟩) (l.length + 1) cap', .slice (some ⟨gk', 0, none⟩) (ks.length + 1) capk'], .int .i64 0]) (by simp [results, Tryd.results57, go_sem, q0, q1, q2, q3]) rfl ?_
              rw [HM.out]
              exact ⟨_, _, _, _, rfl, (hjv.set4 (fun g hg => by omega)).mono (fun g _ hg => by omega), hstep7.set4 (Nat.le_refl _) hplt⟩
            · have b125 : ((c.toNat : Int) == 125) = false := by simp only [beq_eq_false_iff_ne, ne_eq]; omega
              have HM := Lib.hid (hcels c q rfl h44 h125)
              clear hnil hc44 hcfin hcels h44 h125
              go_wp2
              refine bodyPost_ret (v := .tuple #[zero26, .int .i64 4]) (by simp [results, Tryd.results57, go_sem, q0, q1, q2, q3]) rfl ?_
              rw [HM.out]
              exact ⟨rfl, _, hstep7.set4 (Nat.le_refl _) hplt⟩
      · have HM := Lib.hid (HR.out.symm.trans (loopM_err (sub := sub) (f := f) (l := l) HH.out hsv))
        have hn2 := hn.fr (b := w1.heap.size) (hst.fr.mono (fun _ _ h => h.1)) hplt (by omega) (by omega) (by omega)
        have hstep2 : Step w p s zs' w2 := ⟨hst.1, hn2.frame⟩
        obtain ⟨⟨q0, q1, q2, q3⟩, ⟨y0, y1, y2, y3⟩, _⟩ := hn2.cells
        have her' : ((er : Int) == 0) = false := by simp only [beq_eq_false_iff_ne, ne_eq]; omega
        have her2 : ((er : Int) != 0) = true := by simp only [bne, her']; rfl
        have hrlt := blk_lt hn2.res
        clear her hcall hn HR hsv
        go_wp2
        rw [Exit.noGoto_ret]
        refine bodyPost_ret (v := .tuple #[zero26, .int .i64 er]) (by simp [results, Tryd.results57, go_sem, q0, q1, q2, q3, hrlt]) rfl ?_
        rw [HM.out]
        exact ⟨rfl, _, (hstep2.set4 (Nat.le_refl _) hplt).alloc _⟩
end Go.Proofs.YtcamaloekanelaaDoor
