/-
  The reference's reader: 'many', of an object.
-/
import Derived.Test.YtjcnjaebmndeiaaDoorRef9
namespace Go.Proofs.YtjcnjaebmndeiaaDoor
open Go.RowKit

theorem fail7 {p : Nat} {s : ByteArray} {xs : Bs} (W : World) (h : RRd W p s xs 0) : Calls Tryd.prog 39 #[.pointer (some ⟨p, 0, none⟩), .int .i64 7] W fun e w' => e = .returned (.tuple #[]) ∧ RStep W p s xs 7 w' := ref_fail p s xs 0 7 W h
theorem JIn.keys {w : World} {ok : Nat → Prop} {k : Nat} {t : ByteArray} {l : List J} {ks : List ByteArray} {v0 v1 v2 : Value} {A : Option Addr} {n cap : Nat} (h : JIn w ok (.mk k t l ks) v0 v1 v2 (.slice A n cap)) : SlS w A ks := by
  cases h with
  | mk _ _ _ _ _ _ _ _ _ _ _ _ hK _ =>
    intro hp
    obtain ⟨g, off, e, _, hc⟩ := hK hp
    exact ⟨g, off, e, hc⟩
section
variable {sub : Bs → Res} {f : Nat} {ks : List ByteArray} {l : List J} {zs r0 : Bs} {c1 : UInt8} {R : Res}
theorem key_none (hR : loopM sub true (f + 1) ks l zs = R) (h : ∀ c q, white zs = c :: q → c.toNat ≠ 34) : R = .error 4 := by
  rw [← hR]
  refine loopM_head (headM_err ?_)
  unfold keyM
  cases hw : white zs with
  | nil => rfl
  | cons c q => simp only [if_neg (h c q hw)]
theorem key_facts (hR : loopM sub true (f + 1) ks l zs = R) (hw : white zs = c1 :: r0) (hc : c1.toNat = 34) :
    (∀ e, txtM 0 r0 = .error e → e = 4 ∧ R = .error 4) ∧
    (∀ t' yk, txtM 0 r0 = .ok (t', yk) → (inB ks (str t') = true → R = .error 7) ∧ (inB ks (str t') = false →
      (∀ c2 q, white yk = c2 :: q → c2.toNat = 58 → headM true ks zs = .ok (ks ++ [str t'], q) ∧ q.length < zs.length) ∧ ((¬ ∃ c2 q, white yk = c2 :: q ∧ c2.toNat = 58) → R = .error 4))) := by
  have hk : keyM ks zs = match qstr r0 with
      | none => .error 4
      | some (t, r') => if ks.any (fun k => decide (k = str t)) then .error 7 else
        match white r' with
        | [] => .error 4
        | c' :: r'' => if c'.toNat = 58 then .ok (str t, r'') else .error 4 := by
    unfold keyM; rw [hw]; simp only [if_pos hc]; rfl
  unfold txtM
  rw [if_pos rfl]
  cases hq : qstr r0 with
  | none =>
    rw [hq] at hk
    refine ⟨fun e he => ?_, fun t' yk h => by cases h⟩
    cases he
    exact ⟨rfl, by rw [← hR]; exact loopM_head (headM_err hk)⟩
  | some tr =>
    obtain ⟨t, r'⟩ := tr
    rw [hq] at hk
    simp only at hk
    refine ⟨fun e he => (by cases he), fun t' yk h => ?_⟩
    cases h
    constructor
    · intro hi
      rw [if_pos (show (ks.any fun k => decide (k = str t)) = true from hi)] at hk
      rw [← hR]; exact loopM_head (headM_err hk)
    · intro hi
      have hi' : ¬ (ks.any (fun k => decide (k = str t)) = true) := by
        show ¬ (inB ks (str t) = true); rw [hi]; simp
      rw [if_neg hi'] at hk
      constructor
      · intro c2 q hw2 hc2
        rw [hw2] at hk
        simp only [if_pos hc2] at hk
        exact ⟨headM_ok hk, keyM_len hk⟩
      · intro hx
        rw [← hR]
        refine loopM_head (headM_err ?_)
        cases hw2 : white r' with
        | nil => rw [hw2] at hk; exact hk
        | cons c2 q =>
          rw [hw2] at hk
          simp only [if_neg (show ¬ c2.toNat = 58 from fun e => hx ⟨c2, q, hw2, e⟩)] at hk
          exact hk
end
theorem in_same {A : Option Addr} {ks : List ByteArray} {n cap : Nat} {x : ByteArray} {w : World} (h : Calls Tryd.prog 32 #[.slice A n cap, .string x] w fun e w' => e = .returned (.bool (inB ks x)) ∧ w' = w) :
    Calls Tryd.prog 32 #[.slice A n cap, .string x] w fun e w' => e = .returned (.bool (inB ks x)) ∧ w = w' := h.mono fun _ _ ⟨a, b⟩ => ⟨a, b.symm⟩
abbrev tCol : ByteArray := ⟨#[58]⟩

set_option maxHeartbeats 2000000 in
set_option maxRecDepth 100000 in
theorem rmany_obj (p : Nat) (s : ByteArray) (x : UInt8) (r : Bs) (hx : x.toNat = 123) (er : Nat) (d : Nat) (hd : d < 64) (sub : Bs → Res) (w : World) (h : RRd w p s (x :: r) er) (hG : Gl w) (hp4 : 4 ≤ p)
    (hsub : ∀ w1 ys e1, RRd w1 p s ys e1 → Gl w1 → Calls Tryd.prog 37 #[.pointer (some ⟨p, 0, none⟩), .int .i64 ((d : Int) + 1)] w1 (RVal w1 p s (orE e1 (sub ys))))
    (hlen : ∀ ys v zs, sub ys = .ok (v, zs) → zs.length ≤ ys.length) :
    Calls Tryd.prog 64 #[.pointer (some ⟨p, 0, none⟩), .int .i64 d] w (RVal w p s (orE er (manyM sub true r))) := by
  obtain ⟨k, c0, c1, c2, f0, f1, f2, ha, hs⟩ := h.parts
  have hplt := h.lt
  have hlt := ha.lt
  have hget := ha.get hlt
  have b123 : ((x.toNat : Int) == 123) = true := by simp only [beq_iff_eq]; omega
  have hrl : r.length ≤ 30000 := by have := ha.len; simp at this; omega
  have hst0 : RStep w p s (x :: r) er ((w.alloc (.cells zcells 26)).alloc (.cells #[.int .i64 6, .string ⟨#[]⟩, .slice none 0 0, .slice none 0 0] 26)) := ((RStep.refl h).alloc _).alloc _
  have hres0 : ((w.alloc (.cells zcells 26)).alloc (.cells #[.int .i64 6, .string ⟨#[]⟩, .slice none 0 0, .slice none 0 0] 26)).heap[w.heap.size]? = some (.cells zcells 26 (0, 0)) := by
    rw [Below.heap_alloc _ _ _ (by simp)]
    exact heap_alloc_new w _
  have hout0 : ((w.alloc (.cells zcells 26)).alloc (.cells #[.int .i64 6, .string ⟨#[]⟩, .slice none 0 0, .slice none 0 0] 26)).heap[w.heap.size + 1]? = some (.cells #[.int .i64 6, .string ⟨#[]⟩, .slice none 0 0, .slice none 0 0] 26 (0, 0)) := by
    have := heap_alloc_new (w.alloc (.cells zcells 26)) (.cells #[.int .i64 6, .string ⟨#[]⟩, .slice none 0 0, .slice none 0 0] 26 (0, 0))
    simpa using this
  have HWh : Hid (∀ W, RRd W p s r er → Calls Tryd.prog 38 #[.pointer (some ⟨p, 0, none⟩)] W fun e w' => e = .returned (.tuple #[]) ∧ RStep W p s (white r) er w') := fun W hW => ref_white p s r er W hW
  have hwl := white_le r
  have hfin : ∀ c t, white r = c :: t → c.toNat = 125 → manyM sub true r = .ok (.mk 7 ByteArray.empty [] [], t) := fun c t a b => manyM_fin (obj := true) a b
  have hloop : (∀ c t, white r = c :: t → c.toNat ≠ 125) → manyM sub true r = loopM sub true ((white r).length + 1) [] [] (white r) := fun a => manyM_loop (obj := true) a
  generalize white r = ys at *
  generalize manyM sub true r = M at *
  have HFin := Lib.hid hfin
  have HLoop := Lib.hid hloop
  have HSub := Lib.hid hsub
  have HLen := Lib.hid hlen
  clear hfin hloop hsub hlen ha hx
  go_enter Tryd.func64, Tryd.ntmps64
  go_wp2
  generalize (w.alloc (.cells zcells 26)).alloc (.cells #[.int .i64 6, .string ⟨#[]⟩, .slice none 0 0, .slice none 0 0] 26) = W0 at *
  clear c0 c1 c2 f0 f1 f2 hget hlt
  obtain ⟨k, c0, c1, c2, f0, f1, f2, ha, hs⟩ := hst0.1.parts
  have hlt := ha.lt
  have hget := ha.get hlt
  have HTl := Lib.hid ha.tail
  have o0 : W0.cell? ⟨w.heap.size + 1, 0, none⟩ = some (.int .i64 6) := by rw [cell_of_row _ _ _ _ _ _ hout0]; rfl
  have g0 := frozen_of_row W0 (w.heap.size + 1) 0 _ 26 hout0
  have hlo := blk_lt hout0
  clear ha
  go_quiet (fail)
  go_wp2_with fail
  generalize hW : ((W0.drewN _).setCell ⟨w.heap.size + 1, 0, none⟩ (.int .i64 7)).setCell ⟨p, 1, none⟩ _ = W1
  have hsta : ∀ n, RStep w p s (x :: r) er ((W0.drewN n).setCell ⟨w.heap.size + 1, 0, none⟩ (.int .i64 7)) := fun n => (hst0.drewN n).setNew (by omega) hplt
  have hoa : ∀ n, ((W0.drewN n).setCell ⟨w.heap.size + 1, 0, none⟩ (.int .i64 7)).heap[w.heap.size + 1]? = some (.cells #[.int .i64 7, .string ⟨#[]⟩, .slice none 0 0, .slice none 0 0] 26 (0, 0)) := fun n => by
    rw [heap_setCell_same (W0.drewN n) (w.heap.size + 1) 0 _ 26 _ hout0]; rfl
  have hra : ∀ n, ((W0.drewN n).setCell ⟨w.heap.size + 1, 0, none⟩ (.int .i64 7)).heap[w.heap.size]? = some (.cells zcells 26 (0, 0)) := fun n =>
    (Fr.of (ok := fun b => b ≠ w.heap.size + 1) (gset (W0.drewN n) (w.heap.size + 1) 0 _) (fun b _ hb e => hb (by cases e; rfl))).at hres0 (by omega)
  have hfb : ∀ (W : World) v, Fr W (W.setCell ⟨p, 1, none⟩ v) (fun b => b ≠ p) := fun W v => Fr.of (gset W p 1 _) (fun b _ hb e => hb (by cases e; rfl))
  have hst2 : RStep w p s r er W1 := by rw [← hW]; exact (hsta _).set HTl.out
  have hres1 : W1.heap[w.heap.size]? = some (.cells zcells 26 (0, 0)) := by rw [← hW]; exact (hfb _ _).at (hra _) (show w.heap.size ≠ p by omega)
  have hout1 : W1.heap[w.heap.size + 1]? = some (.cells #[.int .i64 7, .string ⟨#[]⟩, .slice none 0 0, .slice none 0 0] 26 (0, 0)) := by rw [← hW]; exact (hfb _ _).at (hoa _) (show w.heap.size + 1 ≠ p by omega)
  clear hW hst0 hsta hoa hra hfb HTl o0 g0 hlo hres0 hout0 c0 c1 c2 f0 f1 f2 hget hlt
  refine (HWh.out _ hst2.1).mono ?_
  rintro e w1 ⟨rfl, hst3⟩
  have hres := hst3.fr.at hres1 (show w.heap.size ≠ p by omega)
  have hout := hst3.fr.at hout1 (show w.heap.size + 1 ≠ p by omega)
  have hst := hst2.of hst3
  clear hres1 hout1 hst2 hst3 HWh
  by_cases hend : ∃ c t, ys = c :: t ∧ c.toNat = 125
  · obtain ⟨c, t, rfl, hc⟩ := hend
    have HM := Lib.hid (HFin.out c t rfl hc)
    have his := is_yes (t := tBra) (by decide) (show ([125] : Bs).isPrefixOf (c :: t) = true by rw [one_pre]; simp [UInt8.toNat.inj (show (125 : UInt8).toNat = c.toNat by rw [hc]; rfl)]) w1 hst.1
    clear HFin HLoop HSub HLen hc
    go_wp2_with fail
    refine his.mono ?_
    rintro e w2 ⟨rfl, hst4⟩
    have hres2 := hst4.fr.at hres (show w.heap.size ≠ p by omega)
    have hout2 := hst4.fr.at hout (show w.heap.size + 1 ≠ p by omega)
    have hst5 := hst.of hst4
    obtain ⟨q0, q1, q2, q3, y0, y1, y2, y3⟩ := res_cells hres2
    have u0 : w2.cell? ⟨w.heap.size + 1, 0, none⟩ = some (.int .i64 7) := by rw [cell_of_row _ _ _ _ _ _ hout2]; rfl
    have u1 : w2.cell? ⟨w.heap.size + 1, 1, none⟩ = some (.string ⟨#[]⟩) := by rw [cell_of_row _ _ _ _ _ _ hout2]; rfl
    have u2 : w2.cell? ⟨w.heap.size + 1, 2, none⟩ = some (.slice none 0 0) := by rw [cell_of_row _ _ _ _ _ _ hout2]; rfl
    have u3 : w2.cell? ⟨w.heap.size + 1, 3, none⟩ = some (.slice none 0 0) := by rw [cell_of_row _ _ _ _ _ _ hout2]; rfl
    clear his hst4
    go_wp2
    refine bodyPost_ret (v := leaf 7 ⟨#[]⟩) (by simp [results, Tryd.results64, go_sem, q0, q1, q2, q3]) rfl ?_
    rw [HM.out]
    exact ⟨_, _, _, _, _, _, _, rfl, JIn.leaf _ _ 7 _, hst5.set4 (Nat.le_refl _) hplt, orE_ok _ _ _⟩
  · have hne : ∀ c t, ys = c :: t → c.toNat ≠ 125 := fun c t e hc => hend ⟨c, t, e, hc⟩
    have HM := Lib.hid (HLoop.out hne)
    have hpn : ([125] : Bs).isPrefixOf ys = false := by
      rw [one_pre]
      cases ys with
      | nil => rfl
      | cons c t =>
        simp only [beq_eq_false_iff_ne, ne_eq]
        intro e
        exact hne c t rfl (by rw [← e]; rfl)
    have his := is_no (t := tBra) (by decide) hpn w1 hst.1
    clear HFin HLoop hne hend hpn
    go_wp2_with fail
    refine his.mono ?_
    rintro e w2 ⟨rfl, hst4⟩
    have hres2 := hst4.fr.at hres (show w.heap.size ≠ p by omega)
    have hout2 := hst4.fr.at hout (show w.heap.size + 1 ≠ p by omega)
    have hst5 := hst.of hst4
    have hsz2 : w.heap.size + 1 < w2.heap.size := blk_lt hout2
    have hns : NSt w w2 p (w.heap.size + 1) w2.heap.size 7 [] [] (.slice none 0 0) (.slice none 0 0) (fun _ _ => undef) := NSt.start hst5.2 hres2 hout2
    have hrel0 : RNRel sub true (orE er M) w p s (w.heap.size + 1) w2.heap.size 7 (ys.length + 1) w2 := by
      by_cases he : er = 0
      · subst he
        exact .inl ⟨ys.length + 1, [], [], ys, _, _, _, rfl, by omega, HM.out.symm, hst5.1, by simp; omega, by simp; omega, hns⟩
      · exact .inr ⟨er, ys, _, _, _, _, _, he, by rw [orE, if_neg he], hst5.1, hns⟩
    clear his hst4 hst5 hres2 hout2 hst hres hout hns HM
    generalize orE er M = R at *
    go_wp2
    go_loopg [] (ys.length + 1) (fun g wr => RNRel sub true R w p s (w.heap.size + 1) w2.heap.size 7 g wr)
    case atStart => exact hrel0
    case round =>
      clear hrel0
      rcases hrel with ⟨f, ks, l, zs, vL, vK, c, hg, hf, hR, hrd, hb1, hb2, hn⟩ | ⟨er', zs, ks, l, vL, vK, c, he, hR, hrd, hn⟩
      · obtain ⟨f, rfl⟩ : ∃ f', f = f' + 1 := ⟨f - 1, by omega⟩
        obtain ⟨k, c0, c1, c2, f0, f1, f2, ha, hs⟩ := hrd.parts
        obtain ⟨⟨q0, q1, q2, q3⟩, ⟨y0, y1, y2, y3⟩, ⟨u0, u1, u2, u3⟩⟩ := hn.cells
        have hwz := ref_white p s zs 0 wr hrd
        have HKF := Lib.hid (fun c1 r0 (hw : white zs = c1 :: r0) (hc : c1.toNat = 34) => key_facts (f := f) (l := l) hR hw hc)
        have HKN := Lib.hid (key_none (f := f) (l := l) hR)
        have HG := Lib.hid hg
        have HR := Lib.hid hR
        clear hg hR ha
        generalize white zs = wz at *
        go_wp2_with fail
        refine hwz.mono ?_
        rintro e wa ⟨rfl, hsa⟩
        have hna := hn.fr0 hsa.fr hplt (by omega) (by omega)
        clear hwz q0 q1 q2 q3 y0 y1 y2 y3 u0 u1 u2 u3 c0 c1 c2 f0 f1 f2 hn hrd
        by_cases h34 : ∃ c1 q, wz = c1 :: q ∧ c1.toNat = 34
        · obtain ⟨c1, r0, rfl, hc1⟩ := h34
          have hkf := HKF.out c1 r0 rfl hc1
          have his := is_yes (t := tQuo) (er := 0) (by decide) (pre_one (a := 34) hc1) wa hsa.1
          clear HKF HKN hc1
          have HK := Lib.hid hkf
          clear hkf
          go_wp2_with fail
          refine his.mono ?_
          rintro e wb ⟨rfl, hsb⟩
          have hnb := hna.fr0 hsb.fr hplt (by omega) (by omega)
          have htx := ref_txt p s r0 0 wb hsb.1 (hG.rkept hp4 hnb) hp4
          clear his hsa hna
          go_wp2_with fail
          refine htx.mono ?_
          rintro e wc ⟨tt, yk, ek, rfl, hsc, hMk⟩
          have hnc := hnb.fr0 hsc.fr hplt (by omega) (by omega)
          obtain ⟨AK, capK, rfl, _, _, _⟩ := own_open hnc.rowK (by omega)
          have hin := in_same (in_any AK ks capK tt wc (by omega) (JIn.keys (hnc.value (k := 7) rfl)))
          clear htx hsb hnb
          by_cases hdup : ek = 0 ∧ inB ks tt = true
          · obtain ⟨rfl, hd1⟩ := hdup
            have hR7 : R = .error 7 := by
              rcases hMk with ⟨t', hm, rfl, _⟩ | ⟨_, h0⟩
              · exact (HK.out.2 t' yk hm).1 hd1
              · exact absurd rfl h0
            have HM := Lib.hid hR7
            rw [hd1] at hin
            have HI := Lib.hid hin
            obtain ⟨k, c0, c1, c2, f0, f1, f2, ha, hs⟩ := hsc.1.parts
            obtain ⟨⟨q0, q1, q2, q3⟩, ⟨y0, y1, y2, y3⟩, ⟨u0, u1, u2, u3⟩⟩ := hnc.cells
            have hrc := hsc.1
            clear hR7 hin hd1 HK hMk ha hsc
            go_wp2_with fail
            refine HI.out.mono ?_
            rintro e wd ⟨rfl, rfl⟩
            go_wp2_with fail
            clear q0 q1 q2 q3 y0 y1 y2 y3 u0 u1 u2 u3 c0 c1 c2 f0 f1 f2 HI
            refine (fail7 wc hrc).mono ?_
            rintro e we ⟨rfl, hse⟩
            have hne := hnc.fr0 hse.fr hplt (by omega) (by omega)
            obtain ⟨⟨q0, q1, q2, q3⟩, ⟨y0, y1, y2, y3⟩, _⟩ := hne.cells
            have hrdE := hse.1
            clear hse hnc hrc
            go_wp2
            refine bodyPost_ret (v := zero26) (by simp [results, Tryd.results64, go_sem, q0, q1, q2, q3]) rfl ?_
            rw [HM.out]
            exact ⟨_, _, _, _, _, _, _, rfl, JIn.leaf _ _ 0 _, RStep.set4 ⟨hrdE, hne.frame⟩ (Nat.le_refl _) hplt, .inr ⟨rfl, by omega⟩⟩
          · -- the key is taken
            have hcol : (∀ c2 q, white yk = c2 :: q → c2.toNat = 58 → (ek = 0 ∧ headM true ks zs = .ok (ks ++ [tt], q) ∧ q.length < zs.length) ∨ (ek ≠ 0 ∧ R = .error ek)) ∧ ((¬ ∃ c2 q, white yk = c2 :: q ∧ c2.toNat = 58) → R = .error (orF ek 4)) := by
              rcases hMk with ⟨t', hm, rfl, rfl⟩ | ⟨hm, h0⟩
              · obtain ⟨_, h2⟩ := HK.out.2 t' yk hm
                have hni : inB ks (str t') = false := by
                  cases hb : inB ks (str t') with
                  | false => rfl
                  | true => exact absurd ⟨rfl, hb⟩ hdup
                exact ⟨fun c2 q a b => .inl ⟨rfl, ((h2 hni).1 c2 q a b).1, ((h2 hni).1 c2 q a b).2⟩, fun hx => (h2 hni).2 hx⟩
              · obtain ⟨e4, hR4⟩ := HK.out.1 ek hm
                subst e4
                exact ⟨fun _ _ _ _ => .inr ⟨by omega, hR4⟩, fun _ => hR4⟩
            have hgd : (ek = 0 ∧ inB ks tt = false) ∨ ek ≠ 0 := by
              by_cases h0 : ek = 0
              · refine .inl ⟨h0, ?_⟩
                cases hb : inB ks tt with
                | false => rfl
                | true => exact absurd ⟨h0, hb⟩ hdup
              · exact .inr h0
            have HCol := Lib.hid hcol
            obtain ⟨k, c0, c1, c2, f0, f1, f2, ha, hs⟩ := hsc.1.parts
            obtain ⟨⟨q0, q1, q2, q3⟩, ⟨y0, y1, y2, y3⟩, ⟨u0, u1, u2, u3⟩⟩ := hnc.cells
            have hrc := hsc.1
            clear hcol hdup HK hMk ha hsc
            rcases hgd with ⟨h0, hni⟩ | h0
            · subst h0
              rw [hni] at hin
              have HI := Lib.hid hin
              clear hin hni
              go_wp2_with fail
              refine HI.out.mono ?_
              rintro e wd ⟨rfl, rfl⟩
              clear HI
              have hnde := hnc.alloc0 (.cells #[.string tt] 9) hplt (by omega) (by omega)
              have ud3 : wc.cell? ⟨w.heap.size + 1, 3, none⟩ = some (.slice AK ks.length capK) := hnc.cells.2.2.2.2.2
              have hld := blk_lt hnc.out
              obtain ⟨i9, hi9, hz90, hz91, hz92⟩ := info_parts Tryd.info9
              go_wp2_with (at_builtin; refine wpList_append_own_at _ rfl _ _ 24 rfl w2.heap.size 9 i9 _ 1 16 Tryd.underlying24 hi9 hz90 hz91 hz92 rfl (by decide) _ ks.length (ks.map Value.string) rfl hnde.rowK ⟨wc.heap.size, 0, none⟩ 1 1 [.string tt] rfl rfl (cell_one_new _ _ _) (by simp [Value.oneCell']) (by unfold maxLen; omega) (by omega) hnde.size ?_; intro vk' wk5 hownk hgrowk _ hblkk; obtain ⟨gk', capk', rfl⟩ := ownsRow_succ hownk; have hnsk6 := hnde.key (by omega) (by omega) hownk hgrowk hblkk; have houtk5 := hnde.out6 hgrowk (by omega); have uk5 : wk5.cell? ⟨w.heap.size + 1, 3, none⟩ = some (.slice AK ks.length capK) := (by rw [cell_of_row _ _ _ _ _ _ houtk5]; rfl); have yk5 := frozen_of_row wk5 (w.heap.size + 1) 3 _ 26 houtk5; have hrk6 := (hrc.kept (World.grownBy_alloc wc (.cells #[.string tt] 9) none) (by simp)).kept hgrowk (fun e => by have := (hnde.rowK.lt p e.symm).1; omega) |>.kept (gset wk5 (w.heap.size + 1) 3 (.slice (some ⟨gk', 0, none⟩) (ks.length + 1) capk')) (fun e => by cases e; omega))
              clear hnde ud3 hld hownk hgrowk hblkk houtk5 uk5 yk5 hnc hrc q0 q1 q2 q3 y0 y1 y2 y3 u0 u1 u2 u3 c0 c1 c2 f0 f1 f2
              generalize wk5.setCell ⟨w.heap.size + 1, 3, none⟩ (.slice (some ⟨gk', 0, none⟩) (ks.length + 1) capk') = WK at *
              have hwk := ref_white p s yk 0 WK hrk6
              have hfl : ∀ W ys', RRd W p s ys' 0 → Calls Tryd.prog 39 #[.pointer (some ⟨p, 0, none⟩), .int .i64 4] W fun e w' => e = .returned (.tuple #[]) ∧ RStep W p s ys' (orF 0 4) w' := fun W ys' hW => ref_fail p s ys' 0 4 W hW
              have HFl := Lib.hid hfl
              clear hfl
              generalize white yk = wy at *
              refine hwk.mono ?_
              rintro e wf ⟨rfl, hsf⟩
              have hnf := hnsk6.fr0 hsf.fr hplt (by omega) (by omega)
              clear hwk hnsk6 hrk6
              by_cases h58 : ∃ c2 q, wy = c2 :: q ∧ c2.toNat = 58
              · obtain ⟨c2, zq, rfl, hc2⟩ := h58
                have HX := Lib.hid (HCol.out.1 c2 zq rfl hc2)
                have his := is_yes (t := tCol) (er := 0) (by decide) (pre_one (a := 58) hc2) wf hsf.1
                clear HCol hc2 HFl
                go_wp2_with fail
                refine his.mono ?_
                rintro e wg ⟨rfl, hsg⟩
                have hng := hnf.fr0 hsg.fr hplt (by omega) (by omega)
                have hrg : RRd wg p s zq 0 := hsg.1
                clear his hsf hnf hsg
                obtain ⟨k, c0, c1, c2, f0, f1, f2, ha, hs⟩ := hrg.parts
                obtain ⟨A3, cap3, rfl, _, _, _⟩ := own_open hng.rowL (by omega)
                obtain ⟨⟨q0, q1, q2, q3⟩, ⟨y0, y1, y2, y3⟩, ⟨u0, u1, u2, u3⟩⟩ := hng.cells
                have hpr : PR w p s (w.heap.size + 1) w2.heap.size 7 (ks ++ [tt]) l (.slice A3 l.length cap3) (.slice (some ⟨gk', 0, none⟩) (ks.length + 1) capk') c zq 0 wg := ⟨hng, hrg, hG.rkept hp4 hng⟩
                have HP3 : Hid (p < w.heap.size ∧ w.heap.size < w.heap.size + 1 ∧ w.heap.size + 1 < w2.heap.size) := ⟨hplt, by omega, hsz2⟩
                have hl1 : l.length ≤ 30000 := by omega
                have hd1 : IntKind.i64.wrap ((d : Int) + 1) = (d : Int) + 1 := IntWalk.i64_in _ (by omega)
                clear ha
                go_wp2
                go_region_law ((first
                  | (apply step_app26 (hp := HP3) (hl := hl1)
                     case hgd => rfl
                     case ho => rfl
                     case h => ((repeat (first | with_reducible assumption | with_reducible apply QR.drew | (with_reducible apply QR.alloc; with_reducible assumption))); done)
                     case hs => rfl
                     case h1c => (simp [Value.oneCell']; done)
                     case hx => rfl
                     case hm => (simp; done)
                     intro g' cap' w5 c' u25 y25 hl5 hn5 hrd5)
                  | (go_simp
                     apply call37 HSub HP3
                     case h => ((repeat (first | with_reducible assumption | with_reducible apply PR.drew)); done)
                     intro t ys3 er3 kk tx A m1 cap1 A' m2 cap2 w3 hq3 hM3
                     have u23 := hq3.1.cells.2.2.2.2.1
                     have hl3 := blk_lt hq3.1.out)
                  | fail))
                all_goals
                  clear u23 hl3 u25 y25 hl5 hq3 hpr hd1 q0 q1 q2 q3 y0 y1 y2 y3 u0 u1 u2 u3 c0 c1 c2 f0 f1 f2 hng hrg HSub
                  generalize w5.setCell ⟨w.heap.size + 1, 2, none⟩ (.slice (some ⟨g', 0, none⟩) (l.length + 1) cap') = W6 at *
                  have hwh := ref_white p s ys3 er3 W6 hrd5
                  have hh : headM true ks zs = .ok (ks ++ [tt], zq) ∧ zq.length < zs.length := by
                    rcases HX.out with ⟨_, a, b⟩ | ⟨a, _⟩
                    · exact ⟨a, b⟩
                    · exact absurd rfl a
                  have hzl := hh.2
                  have HH := Lib.hid hh.1
                  clear hh HX
                  rcases hM3 with ⟨hM, rfl⟩ | ⟨hM, her⟩
                  · obtain ⟨hnil, hc44, hcfin, hcels⟩ := got_facts (ws := white ys3) HR.out HH.out HLen.out (.inl hM) rfl
                    have hfacts := Lib.hid (And.intro hnil (And.intro hc44 (And.intro hcfin hcels)))
                    clear hnil hc44 hcfin hcels HR hM
                    generalize white ys3 = ws at *
                    go_wp2_with fail
                    refine hwh.mono ?_
                    rintro e w7 ⟨rfl, hst7⟩
                    have hn7 := hn5.fr0 hst7.fr hplt (by omega) (by omega)
                    clear hwh hn5 hrd5
                    by_cases h93 : ∃ c1 q, ws = c1 :: q ∧ c1.toNat = 125
                    · obtain ⟨c1, q, rfl, hc1⟩ := h93
                      have HM := Lib.hid (hfacts.out.2.2.1 c1 q rfl hc1)
                      have his := is_yes (t := tBra) (by decide) (pre_one (a := 125) hc1) w7 hst7.1
                      clear hfacts hc1 HLen
                      go_wp2_with fail
                      refine his.mono ?_
                      rintro e w8 ⟨rfl, hst8⟩
                      have hn8 := hn7.fr0 hst8.fr hplt (by omega) (by omega)
                      obtain ⟨⟨q0, q1, q2, q3⟩, ⟨y0, y1, y2, y3⟩, ⟨u0, u1, u2, u3⟩⟩ := hn8.cells
                      have hjv := hn8.value (k := 7) rfl
                      have hrd8 := hst8.1
                      clear his hn7 hst7 hst8
                      go_wp2
                      refine bodyPost_ret (v := .agg #[.int .i64 7, .string ⟨#[]⟩, .slice (some ⟨g', 0, none⟩) (l.length + 1) cap', .slice (some ⟨gk', 0, none⟩) (ks.length + 1) capk']) (by simp [results, Tryd.results64, go_sem, q0, q1, q2, q3]) rfl ?_
                      rw [HM.out]
                      exact ⟨_, _, _, _, _, _, _, rfl, (hjv.set4 (fun g hg => by omega)).mono (fun g _ hg => by omega), RStep.set4 ⟨hrd8, hn8.frame⟩ (Nat.le_refl _) hplt, .inl ⟨rfl, rfl⟩⟩
                    · have his := is_no (t := tBra) (er := 0) (by decide) (pre_not (a := 125) (by decide) h93) w7 hst7.1
                      go_wp2_with fail
                      refine his.mono ?_
                      rintro e w8 ⟨rfl, hst8⟩
                      have hn8 := hn7.fr0 hst8.fr hplt (by omega) (by omega)
                      clear his hn7 hst7
                      by_cases h44 : ∃ c1 q, ws = c1 :: q ∧ c1.toNat = 44
                      · obtain ⟨c1, q, rfl, hc1⟩ := h44
                        obtain ⟨hM2, hql⟩ := hfacts.out.2.1 c1 q rfl hc1
                        have HM := Lib.hid hM2
                        have hi2 := is_yes (t := tCom) (by decide) (pre_one (a := 44) hc1) w8 hst8.1
                        clear hfacts hc1 hM2 h93
                        go_wp2_with fail
                        refine hi2.mono ?_
                        rintro e w9 ⟨rfl, hst9⟩
                        have hn9 := hn8.fr0 hst9.fr hplt (by omega) (by omega)
                        have hrd9 := hst9.1
                        clear hi2 hn8 hst8 hst9
                        go_wp2
                        go_roundg (q.length + 1)
                        case measure => have := HG.out; omega
                        case rel => exact .inl ⟨f, ks ++ [tt], l ++ [t], q, _, _, c', rfl, by omega, HM.out.symm, hrd9, by simp; omega, by simp; omega, hn9⟩
                      · have hi2 := is_no (t := tCom) (er := 0) (by decide) (pre_not (a := 44) (by decide) h44) w8 hst8.1
                        have hM2 : R = .error 4 := by
                          cases hws : ws with
                          | nil => exact hfacts.out.1 hws
                          | cons c1 q => exact hfacts.out.2.2.2 c1 q hws (fun e => h44 ⟨c1, q, hws, e⟩) (fun e => h93 ⟨c1, q, hws, e⟩)
                        have HM := Lib.hid hM2
                        clear hfacts h44 h93 hM2
                        go_wp2_with fail
                        refine hi2.mono ?_
                        rintro e w9 ⟨rfl, hst9⟩
                        have hfl := fail4N w9 hst9.1
                        have hn9 := hn8.fr0 hst9.fr hplt (by omega) (by omega)
                        clear hi2 hn8 hst8 hst9
                        go_wp2_with fail
                        refine hfl.mono ?_
                        rintro e w10 ⟨rfl, hst10⟩
                        have hn10 := hn9.fr0 hst10.fr hplt (by omega) (by omega)
                        have hrd10 := hst10.1
                        clear hfl hn9 hst10
                        go_wp2
                        go_roundg 0
                        case measure => have := HG.out; omega
                        case rel => exact .inr ⟨4, ws, _, _, _, _, _, by omega, HM.out, hrd10, hn10⟩
                  · have HM := Lib.hid (show R = .error er3 from HR.out.symm.trans (loopM_err (f := f) (ks := ks) (l := l) HH.out hM))
                    have HE := Lib.hid her
                    clear HR hM her HLen
                    generalize white ys3 = ws at *
                    go_wp2_with fail
                    refine hwh.mono ?_
                    rintro e w7 ⟨rfl, hst7⟩
                    have hn7 := hn5.fr0 hst7.fr hplt (by omega) (by omega)
                    clear hwh hn5 hrd5
                    by_cases h93 : ∃ c1 q, ws = c1 :: q ∧ c1.toNat = 125
                    · obtain ⟨c1, q, rfl, hc1⟩ := h93
                      have his := is_yes (t := tBra) (by decide) (pre_one (a := 125) hc1) w7 hst7.1
                      clear hc1
                      go_wp2_with fail
                      refine his.mono ?_
                      rintro e w8 ⟨rfl, hst8⟩
                      have hn8 := hn7.fr0 hst8.fr hplt (by omega) (by omega)
                      obtain ⟨⟨q0, q1, q2, q3⟩, ⟨y0, y1, y2, y3⟩, ⟨u0, u1, u2, u3⟩⟩ := hn8.cells
                      have hjv := hn8.value (k := 7) rfl
                      have hrd8 := hst8.1
                      clear his hn7 hst7 hst8
                      go_wp2
                      refine bodyPost_ret (v := .agg #[.int .i64 7, .string ⟨#[]⟩, .slice (some ⟨g', 0, none⟩) (l.length + 1) cap', .slice (some ⟨gk', 0, none⟩) (ks.length + 1) capk']) (by simp [results, Tryd.results64, go_sem, q0, q1, q2, q3]) rfl ?_
                      rw [HM.out]
                      exact ⟨_, _, _, _, _, _, _, rfl, (hjv.set4 (fun g hg => by omega)).mono (fun g _ hg => by omega), RStep.set4 ⟨hrd8, hn8.frame⟩ (Nat.le_refl _) hplt, .inr ⟨rfl, HE.out⟩⟩
                    · have his := is_no (t := tBra) (er := er3) (by decide) (pre_not (a := 125) (by decide) h93) w7 hst7.1
                      clear h93
                      go_wp2_with fail
                      refine his.mono ?_
                      rintro e w8 ⟨rfl, hst8⟩
                      have hn8 := hn7.fr0 hst8.fr hplt (by omega) (by omega)
                      clear his hn7 hst7
                      by_cases h44 : ∃ c1 q, ws = c1 :: q ∧ c1.toNat = 44
                      · obtain ⟨c1, q, rfl, hc1⟩ := h44
                        have hi2 := is_yes (t := tCom) (by decide) (pre_one (a := 44) hc1) w8 hst8.1
                        clear hc1
                        go_wp2_with fail
                        refine hi2.mono ?_
                        rintro e w9 ⟨rfl, hst9⟩
                        have hn9 := hn8.fr0 hst9.fr hplt (by omega) (by omega)
                        have hrd9 := hst9.1
                        clear hi2 hn8 hst8 hst9
                        go_wp2
                        go_roundg 0
                        case measure => have := HG.out; omega
                        case rel => exact .inr ⟨er3, _, _, _, _, _, _, HE.out, HM.out, hrd9, hn9⟩
                      · have hi2 := is_no (t := tCom) (er := er3) (by decide) (pre_not (a := 44) (by decide) h44) w8 hst8.1
                        clear h44
                        go_wp2_with fail
                        refine hi2.mono ?_
                        rintro e w9 ⟨rfl, hst9⟩
                        have hfl := failX (er := er3) HE.out w9 hst9.1
                        have hn9 := hn8.fr0 hst9.fr hplt (by omega) (by omega)
                        clear hi2 hn8 hst8 hst9
                        go_wp2_with fail
                        refine hfl.mono ?_
                        rintro e w10 ⟨rfl, hst10⟩
                        have hn10 := hn9.fr0 hst10.fr hplt (by omega) (by omega)
                        have hrd10 := hst10.1
                        clear hfl hn9 hst10
                        go_wp2
                        go_roundg 0
                        case measure => have := HG.out; omega
                        case rel => exact .inr ⟨er3, _, _, _, _, _, _, HE.out, HM.out, hrd10, hn10⟩
              · have HM := Lib.hid (HCol.out.2 h58)
                have his := is_no (t := tCol) (er := 0) (by decide) (pre_not (a := 58) (by decide) h58) wf hsf.1
                clear HCol h58 HSub
                go_wp2_with fail
                refine his.mono ?_
                rintro e wg ⟨rfl, hsg⟩
                have hng := hnf.fr0 hsg.fr hplt (by omega) (by omega)
                have hfl := HFl.out wg wy hsg.1
                clear his hsf hnf hsg HFl
                go_wp2_with fail
                refine hfl.mono ?_
                rintro e wh ⟨rfl, hsh⟩
                have hnh := hng.fr0 hsh.fr hplt (by omega) (by omega)
                obtain ⟨⟨q0, q1, q2, q3⟩, ⟨y0, y1, y2, y3⟩, _⟩ := hnh.cells
                have hrdE := hsh.1
                clear hfl hng hsh
                go_wp2
                refine bodyPost_ret (v := zero26) (by simp [results, Tryd.results64, go_sem, q0, q1, q2, q3]) rfl ?_
                rw [HM.out]
                exact ⟨_, _, _, _, _, _, _, rfl, JIn.leaf _ _ 0 _, RStep.set4 ⟨hrdE, hnh.frame⟩ (Nat.le_refl _) hplt, .inr ⟨rfl, orF_ne (by omega)⟩⟩
            · have hek : ((ek : Int) == 0) = false := by simp; omega
              clear hin h0
              have hnde := hnc.alloc0 (.cells #[.string tt] 9) hplt (by omega) (by omega)
              have ud3 : wc.cell? ⟨w.heap.size + 1, 3, none⟩ = some (.slice AK ks.length capK) := hnc.cells.2.2.2.2.2
              have hld := blk_lt hnc.out
              obtain ⟨i9, hi9, hz90, hz91, hz92⟩ := info_parts Tryd.info9
              go_wp2_with (at_builtin; refine wpList_append_own_at _ rfl _ _ 24 rfl w2.heap.size 9 i9 _ 1 16 Tryd.underlying24 hi9 hz90 hz91 hz92 rfl (by decide) _ ks.length (ks.map Value.string) rfl hnde.rowK ⟨wc.heap.size, 0, none⟩ 1 1 [.string tt] rfl rfl (cell_one_new _ _ _) (by simp [Value.oneCell']) (by unfold maxLen; omega) (by omega) hnde.size ?_; intro vk' wk5 hownk hgrowk _ hblkk; obtain ⟨gk', capk', rfl⟩ := ownsRow_succ hownk; have hnsk6 := hnde.key (by omega) (by omega) hownk hgrowk hblkk; have houtk5 := hnde.out6 hgrowk (by omega); have uk5 : wk5.cell? ⟨w.heap.size + 1, 3, none⟩ = some (.slice AK ks.length capK) := (by rw [cell_of_row _ _ _ _ _ _ houtk5]; rfl); have yk5 := frozen_of_row wk5 (w.heap.size + 1) 3 _ 26 houtk5; have hrk6 := (hrc.kept (World.grownBy_alloc wc (.cells #[.string tt] 9) none) (by simp)).kept hgrowk (fun e => by have := (hnde.rowK.lt p e.symm).1; omega) |>.kept (gset wk5 (w.heap.size + 1) 3 (.slice (some ⟨gk', 0, none⟩) (ks.length + 1) capk')) (fun e => by cases e; omega))
              clear hnde ud3 hld hownk hgrowk hblkk houtk5 uk5 yk5 hnc hrc q0 q1 q2 q3 y0 y1 y2 y3 u0 u1 u2 u3 c0 c1 c2 f0 f1 f2
              generalize wk5.setCell ⟨w.heap.size + 1, 3, none⟩ (.slice (some ⟨gk', 0, none⟩) (ks.length + 1) capk') = WK at *
              have hwk := ref_white p s yk ek WK hrk6
              have hfl : ∀ W ys', RRd W p s ys' ek → Calls Tryd.prog 39 #[.pointer (some ⟨p, 0, none⟩), .int .i64 4] W fun e w' => e = .returned (.tuple #[]) ∧ RStep W p s ys' (orF ek 4) w' := fun W ys' hW => ref_fail p s ys' ek 4 W hW
              have HFl := Lib.hid hfl
              clear hfl
              generalize white yk = wy at *
              refine hwk.mono ?_
              rintro e wf ⟨rfl, hsf⟩
              have hnf := hnsk6.fr0 hsf.fr hplt (by omega) (by omega)
              clear hwk hnsk6 hrk6
              by_cases h58 : ∃ c2 q, wy = c2 :: q ∧ c2.toNat = 58
              · obtain ⟨c2, zq, rfl, hc2⟩ := h58
                have HX := Lib.hid (HCol.out.1 c2 zq rfl hc2)
                have his := is_yes (t := tCol) (er := ek) (by decide) (pre_one (a := 58) hc2) wf hsf.1
                clear HCol hc2 HFl
                go_wp2_with fail
                refine his.mono ?_
                rintro e wg ⟨rfl, hsg⟩
                have hng := hnf.fr0 hsg.fr hplt (by omega) (by omega)
                have hrg : RRd wg p s zq ek := hsg.1
                clear his hsf hnf hsg
                obtain ⟨k, c0, c1, c2, f0, f1, f2, ha, hs⟩ := hrg.parts
                obtain ⟨A3, cap3, rfl, _, _, _⟩ := own_open hng.rowL (by omega)
                obtain ⟨⟨q0, q1, q2, q3⟩, ⟨y0, y1, y2, y3⟩, ⟨u0, u1, u2, u3⟩⟩ := hng.cells
                have hpr : PR w p s (w.heap.size + 1) w2.heap.size 7 (ks ++ [tt]) l (.slice A3 l.length cap3) (.slice (some ⟨gk', 0, none⟩) (ks.length + 1) capk') c zq ek wg := ⟨hng, hrg, hG.rkept hp4 hng⟩
                have HP3 : Hid (p < w.heap.size ∧ w.heap.size < w.heap.size + 1 ∧ w.heap.size + 1 < w2.heap.size) := ⟨hplt, by omega, hsz2⟩
                have hl1 : l.length ≤ 30000 := by omega
                have hd1 : IntKind.i64.wrap ((d : Int) + 1) = (d : Int) + 1 := IntWalk.i64_in _ (by omega)
                clear ha
                go_wp2
                go_region_law ((first
                  | (apply step_app26 (hp := HP3) (hl := hl1)
                     case hgd => rfl
                     case ho => rfl
                     case h => ((repeat (first | with_reducible assumption | with_reducible apply QR.drew | (with_reducible apply QR.alloc; with_reducible assumption))); done)
                     case hs => rfl
                     case h1c => (simp [Value.oneCell']; done)
                     case hx => rfl
                     case hm => (simp; done)
                     intro g' cap' w5 c' u25 y25 hl5 hn5 hrd5)
                  | (go_simp
                     apply call37 HSub HP3
                     case h => ((repeat (first | with_reducible assumption | with_reducible apply PR.drew)); done)
                     intro t ys3 er3 kk tx A m1 cap1 A' m2 cap2 w3 hq3 hM3
                     have u23 := hq3.1.cells.2.2.2.2.1
                     have hl3 := blk_lt hq3.1.out)
                  | fail))
                all_goals
                  clear u23 hl3 u25 y25 hl5 hq3 hpr hd1 q0 q1 q2 q3 y0 y1 y2 y3 u0 u1 u2 u3 c0 c1 c2 f0 f1 f2 hng hrg HSub
                  generalize w5.setCell ⟨w.heap.size + 1, 2, none⟩ (.slice (some ⟨g', 0, none⟩) (l.length + 1) cap') = W6 at *
                  have hwh := ref_white p s ys3 er3 W6 hrd5
                  have hRe : R = .error ek ∧ ek ≠ 0 := by
                    rcases HX.out with ⟨a, _⟩ | ⟨a, b⟩
                    · subst a; simp at hek
                    · exact ⟨b, a⟩
                  rcases hM3 with ⟨hM, rfl⟩ | ⟨hM, her⟩
                  · rw [orE, if_neg hRe.2] at hM; cases hM
                  · have HM := Lib.hid (show R = .error er3 by rw [orE, if_neg hRe.2] at hM; cases hM; exact hRe.1)
                    have HE := Lib.hid her
                    clear HR hM her HLen hRe HX hek
                    generalize white ys3 = ws at *
                    go_wp2_with fail
                    refine hwh.mono ?_
                    rintro e w7 ⟨rfl, hst7⟩
                    have hn7 := hn5.fr0 hst7.fr hplt (by omega) (by omega)
                    clear hwh hn5 hrd5
                    by_cases h93 : ∃ c1 q, ws = c1 :: q ∧ c1.toNat = 125
                    · obtain ⟨c1, q, rfl, hc1⟩ := h93
                      have his := is_yes (t := tBra) (by decide) (pre_one (a := 125) hc1) w7 hst7.1
                      clear hc1
                      go_wp2_with fail
                      refine his.mono ?_
                      rintro e w8 ⟨rfl, hst8⟩
                      have hn8 := hn7.fr0 hst8.fr hplt (by omega) (by omega)
                      obtain ⟨⟨q0, q1, q2, q3⟩, ⟨y0, y1, y2, y3⟩, ⟨u0, u1, u2, u3⟩⟩ := hn8.cells
                      have hjv := hn8.value (k := 7) rfl
                      have hrd8 := hst8.1
                      clear his hn7 hst7 hst8
                      go_wp2
                      refine bodyPost_ret (v := .agg #[.int .i64 7, .string ⟨#[]⟩, .slice (some ⟨g', 0, none⟩) (l.length + 1) cap', .slice (some ⟨gk', 0, none⟩) (ks.length + 1) capk']) (by simp [results, Tryd.results64, go_sem, q0, q1, q2, q3]) rfl ?_
                      rw [HM.out]
                      exact ⟨_, _, _, _, _, _, _, rfl, (hjv.set4 (fun g hg => by omega)).mono (fun g _ hg => by omega), RStep.set4 ⟨hrd8, hn8.frame⟩ (Nat.le_refl _) hplt, .inr ⟨rfl, HE.out⟩⟩
                    · have his := is_no (t := tBra) (er := er3) (by decide) (pre_not (a := 125) (by decide) h93) w7 hst7.1
                      clear h93
                      go_wp2_with fail
                      refine his.mono ?_
                      rintro e w8 ⟨rfl, hst8⟩
                      have hn8 := hn7.fr0 hst8.fr hplt (by omega) (by omega)
                      clear his hn7 hst7
                      by_cases h44 : ∃ c1 q, ws = c1 :: q ∧ c1.toNat = 44
                      · obtain ⟨c1, q, rfl, hc1⟩ := h44
                        have hi2 := is_yes (t := tCom) (by decide) (pre_one (a := 44) hc1) w8 hst8.1
                        clear hc1
                        go_wp2_with fail
                        refine hi2.mono ?_
                        rintro e w9 ⟨rfl, hst9⟩
                        have hn9 := hn8.fr0 hst9.fr hplt (by omega) (by omega)
                        have hrd9 := hst9.1
                        clear hi2 hn8 hst8 hst9
                        go_wp2
                        go_roundg 0
                        case measure => have := HG.out; omega
                        case rel => exact .inr ⟨er3, _, _, _, _, _, _, HE.out, HM.out, hrd9, hn9⟩
                      · have hi2 := is_no (t := tCom) (er := er3) (by decide) (pre_not (a := 44) (by decide) h44) w8 hst8.1
                        clear h44
                        go_wp2_with fail
                        refine hi2.mono ?_
                        rintro e w9 ⟨rfl, hst9⟩
                        have hfl := failX (er := er3) HE.out w9 hst9.1
                        have hn9 := hn8.fr0 hst9.fr hplt (by omega) (by omega)
                        clear hi2 hn8 hst8 hst9
                        go_wp2_with fail
                        refine hfl.mono ?_
                        rintro e w10 ⟨rfl, hst10⟩
                        have hn10 := hn9.fr0 hst10.fr hplt (by omega) (by omega)
                        have hrd10 := hst10.1
                        clear hfl hn9 hst10
                        go_wp2
                        go_roundg 0
                        case measure => have := HG.out; omega
                        case rel => exact .inr ⟨er3, _, _, _, _, _, _, HE.out, HM.out, hrd10, hn10⟩
              · have HM := Lib.hid (HCol.out.2 h58)
                have his := is_no (t := tCol) (er := ek) (by decide) (pre_not (a := 58) (by decide) h58) wf hsf.1
                clear HCol h58 HSub
                go_wp2_with fail
                refine his.mono ?_
                rintro e wg ⟨rfl, hsg⟩
                have hng := hnf.fr0 hsg.fr hplt (by omega) (by omega)
                have hfl := HFl.out wg wy hsg.1
                clear his hsf hnf hsg HFl
                go_wp2_with fail
                refine hfl.mono ?_
                rintro e wh ⟨rfl, hsh⟩
                have hnh := hng.fr0 hsh.fr hplt (by omega) (by omega)
                obtain ⟨⟨q0, q1, q2, q3⟩, ⟨y0, y1, y2, y3⟩, _⟩ := hnh.cells
                have hrdE := hsh.1
                clear hfl hng hsh
                go_wp2
                refine bodyPost_ret (v := zero26) (by simp [results, Tryd.results64, go_sem, q0, q1, q2, q3]) rfl ?_
                rw [HM.out]
                exact ⟨_, _, _, _, _, _, _, rfl, JIn.leaf _ _ 0 _, RStep.set4 ⟨hrdE, hnh.frame⟩ (Nat.le_refl _) hplt, .inr ⟨rfl, orF_ne (by omega)⟩⟩
        · -- no key
          have HM := Lib.hid (HKN.out (fun c1 q e hc => h34 ⟨c1, q, e, hc⟩))
          have his := is_no (t := tQuo) (er := 0) (by decide) (pre_not (a := 34) (by decide) h34) wa hsa.1
          clear HKF HKN h34
          go_wp2_with fail
          refine his.mono ?_
          rintro e wb ⟨rfl, hsb⟩
          have hnb := hna.fr0 hsb.fr hplt (by omega) (by omega)
          have hfl := fail4N wb hsb.1
          clear his hsa hna
          go_wp2_with fail
          refine hfl.mono ?_
          rintro e wc ⟨rfl, hsc⟩
          have hnc := hnb.fr0 hsc.fr hplt (by omega) (by omega)
          obtain ⟨⟨q0, q1, q2, q3⟩, ⟨y0, y1, y2, y3⟩, _⟩ := hnc.cells
          have hrdE := hsc.1
          clear hfl hsb hnb hsc
          go_wp2
          refine bodyPost_ret (v := zero26) (by simp [results, Tryd.results64, go_sem, q0, q1, q2, q3]) rfl ?_
          rw [HM.out]
          exact ⟨_, _, _, _, _, _, _, rfl, JIn.leaf _ _ 0 _, RStep.set4 ⟨hrdE, hnc.frame⟩ (Nat.le_refl _) hplt, .inr ⟨rfl, by omega⟩⟩
      · obtain ⟨k, c0, c1, c2, f0, f1, f2, ha, hs⟩ := hrd.parts
        obtain ⟨⟨q0, q1, q2, q3⟩, ⟨y0, y1, y2, y3⟩, ⟨u0, u1, u2, u3⟩⟩ := hn.cells
        have he' : ((er' : Int) == 0) = false := by simp; omega
        have HR := Lib.hid hR
        have HE := Lib.hid he
        have hst : RStep w p s zs er' wr := ⟨hrd, hn.frame⟩
        clear hR he ha HSub
        go_wp2
        refine bodyPost_ret (v := zero26) (by simp [results, Tryd.results64, go_sem, q0, q1, q2, q3]) rfl ?_
        rw [HR.out]
        exact ⟨_, _, _, _, _, _, _, rfl, JIn.leaf _ _ 0 _, hst.set4 (Nat.le_refl _) hplt, .inr ⟨rfl, HE.out⟩⟩
end Go.Proofs.YtjcnjaebmndeiaaDoor
