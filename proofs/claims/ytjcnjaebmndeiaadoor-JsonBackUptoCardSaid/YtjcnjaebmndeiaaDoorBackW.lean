/-
  JsonBack: what is printed is parsed, the same value; what is parsed is right, and printed anew it is parsed the same. For every value and every text whose bulk together is at most 1,048,576, at every memory.
-/
import Derived.Test.YtjcnjaebmndeiaaDoorAvz
import Derived.Test.YtjcnjaebmndeiaaDoorBkq
import Derived.Test.YtjcnjaebmndeiaaDoorBackF
import Derived.Test.YtjcnjaebmndeiaaDoorAwk
import Derived.Deep.DeepCutAuto
namespace Go.Proofs.YtjcnjaebmndeiaaDoor
open Go.RowKit

theorem core_parse {z : Z} (h : Rgt 0 z) (hl : (core [] z).length ≤ 20000) : parseM (core [] z) = .ok (toJ z) := by
  have e : spc [] z = core [] z := by unfold spc; simp
  have := parse_spc (g := []) rfl h (by rw [e]; exact hl)
  rwa [e] at this
theorem core_long_no {z : Z} (hl : 20000 < (core [] z).length) : parseM (core [] z) = .error 5 := by unfold parseM; rw [if_pos hl]
theorem core_ne {z : Z} {d : Nat} (h : Rgt d z) : str (core [] z) ≠ (⟨#[]⟩ : ByteArray) := by
  obtain ⟨c, r, e, _⟩ := core_head (g := []) h
  rw [e]
  intro h
  have := congrArg ByteArray.size h
  rw [qstr_size] at this
  exact Nat.succ_ne_zero _ this
theorem str_sz (l : Bs) : (str l).size = l.length := by rw [qstr_size]
theorem str_dl (l : Bs) : (str l).data.toList = l := rfl

set_option maxHeartbeats 8000000 in
set_option maxRecDepth 100000 in
theorem back_walk : jsonBack.Walk := by
  intro z v0 v1 v2 v3 s w hz hzw hssz hG
  have h4 := hG.size
  obtain ⟨kk, tt, A, m1, d1, A', m2, d2, rfl, rfl, rfl, rfl⟩ := zin_agg hz
  have hB0 := heap_alloc_new w (.cells #[.int .i64 kk, .string tt, .slice A m1 d1, .slice A' m2 d2] 26 (0, 0))
  have hb0 : Below w.heap.size w (w.alloc (.cells #[.int .i64 kk, .string tt, .slice A m1 d1, .slice A' m2 d2] 26)) := (Below.refl _ _).alloc (Nat.le_refl _) _
  have hzat : ∀ W, Below w.heap.size w W → ZIn W (fun b => b < W.heap.size) z (.int .i64 kk) (.string tt) (.slice A m1 d1) (.slice A' m2 d2) := fun W hW => (hz.fr (below_fr hW) (fun _ h => h)).mono (fun b _ hb => Nat.lt_of_lt_of_le hb hW.size)
  have hsm : Calls Tryd.prog 15 #[.agg #[.int .i64 kk, .string tt, .slice A m1 d1, .slice A' m2 d2], .int .i64 2000] (w.alloc (.cells #[.int .i64 kk, .string tt, .slice A m1 d1, .slice A' m2 d2] 26)) fun e w' => e = .returned (.bool (decide (zn z ≤ 2000))) ∧ Below (w.alloc (.cells #[.int .i64 kk, .string tt, .slice A m1 d1, .slice A' m2 d2] 26)).heap.size (w.alloc (.cells #[.int .i64 kk, .string tt, .slice A m1 d1, .slice A' m2 d2] 26)) w' :=
    small_any z hzw 2000 (by omega) _ _ _ _ _ (hzat _ hb0)
  obtain ⟨p0, p1, p2, p3⟩ := cells_4 hB0
  have HG := Lib.hid hG
  have HZ := Lib.hid hzat
  clear hG hzat hz
  by_cases hsz : zn z ≤ 2000
  · rw [decide_eq_true hsz] at hsm
    have HPR := Lib.hid (show ∀ W, Below w.heap.size w W → Calls Tryd.prog 20 #[.agg #[.int .i64 kk, .string tt, .slice A m1 d1, .slice A' m2 d2]] W (TextPost W (Rgt 0 z) (core [] z)) from fun W hW => print_any z (by omega) hzw W (HG.out.below hW) _ _ _ _ (HZ.out W hW))
    have HRR := Lib.hid (show ∀ W, Below w.heap.size w W → Calls Tryd.prog 19 #[.agg #[.int .i64 kk, .string tt, .slice A m1 d1, .slice A' m2 d2]] W (BoolPost W (Rgt 0 z)) from fun W hW => rright_any z (by omega) hzw W (HG.out.below hW) _ _ _ _ (HZ.out W hW))
    have HPA := Lib.hid (show ∀ W, Below w.heap.size w W → Calls Tryd.prog 12 #[.string s] W (ParsePost W (parseM s.data.toList)) from fun W hW => parse_any s W (HG.out.below hW))
    have HAW := Lib.hid (show ∀ W, Below w.heap.size w W → Calls Tryd.prog 11 #[] W fun e w' => e = .returned (.bool true) ∧ Below W.heap.size W w' from fun W hW => awake W (HG.out.below hW) (Nat.le_trans (by omega) hW.size))
    go_enter Tryd.func6, Tryd.ntmps6
    go_wp2_with fail
    generalize (w.alloc (.cells #[.int .i64 kk, .string tt, .slice A m1 d1, .slice A' m2 d2] 26)) = W0 at *
    refine hsm.mono ?_
    rintro e w1 ⟨rfl, hb1⟩
    have hB1 := (below_fr0 hb1).at hB0 trivial
    have hbw1 : Below w.heap.size w w1 := hb0.trans (hb1.mono hb0.size)
    obtain ⟨q0, q1, q2, q3⟩ := cells_4 hB1
    clear hsm hB0 p0 p1 p2 p3 hb1
    by_cases hlong : 30000 < s.size
    · have hli : (30000 : Int) < (s.size : Int) := by omega
      have haw := HAW.out w1 hbw1
      unfold maxLen at hssz
      go_wp2_with fail
      refine haw.mono ?_
      rintro e w3 ⟨rfl, hb3⟩
      go_wp2
      go_ret
      exact ⟨rfl, hbw1.trans (hb3.mono hbw1.size)⟩
    · have hli : ¬ (30000 : Int) < (s.size : Int) := by omega
      clear hssz
      have hpr := HPR.out w1 hbw1
      go_wp2_with fail
      refine hpr.mono ?_
      rintro e w2 ⟨tx, rfl, hyes, hno, hb2⟩
      have hB2 := (below_fr0 hb2).at hB1 trivial
      have hbw2 : Below w.heap.size w w2 := hbw1.trans (hb2.mono hbw1.size)
      obtain ⟨p0, p1, p2, p3⟩ := cells_4 hB2
      have HYES := Lib.hid hyes
      have HNO := Lib.hid hno
      have haw := HAW.out w2 hbw2
      clear hpr hB1 q0 q1 q2 q3 hb2 hyes hno
      go_wp2_with fail
      refine haw.mono ?_
      rintro e w3 ⟨rfl, hb3⟩
      have hB3 := (below_fr0 hb3).at hB2 trivial
      have hbw3 : Below w.heap.size w w3 := hbw2.trans (hb3.mono hbw2.size)
      obtain ⟨q0, q1, q2, q3⟩ := cells_4 hB3
      have hrr := HRR.out w3 hbw3
      clear haw hB2 p0 p1 p2 p3 hb3
      by_cases hR : Rgt 0 z
      · have htx := HYES.out hR
        have hne := core_ne hR
        have hsl := str_sz (core [] z)
        rw [← htx] at hne hsl
        obtain ⟨hem, hem2⟩ := empty_beq hne
        have hem3 : (!tx.toList.isEmpty) = true := by rw [hem]; rfl
        clear hne
        have hlc := core_long [] (by simp) z
        have htd : tx.data.toList = core [] z := by rw [htx]; rfl
        have HTD := Lib.hid htd
        have HSL := Lib.hid hsl
        clear htx htd
        go_wp2_with fail
        refine hrr.mono ?_
        rintro e w4 ⟨b, rfl, hbi, hb4⟩
        obtain rfl : b = true := hbi.2 hR
        have hB4 := (below_fr0 hb4).at hB3 trivial
        have hbw4 : Below w.heap.size w w4 := hbw3.trans (hb4.mono hbw3.size)
        obtain ⟨p0, p1, p2, p3⟩ := cells_4 hB4
        have hbig : tx.size ≤ 70000000 := by omega
        clear hrr hB3 q0 q1 q2 q3 hb4 hbi hlc hsl
        by_cases hsh : (core [] z).length ≤ 20000
        · have hsi : (tx.size : Int) ≤ 20000 := by have := HSL.out; omega
          have hpp := parse_any tx w4 (HG.out.below hbw4)
          rw [HTD.out, core_parse hR hsh] at hpp
          go_wp2_with fail
          refine hpp.mono ?_
          rintro e w5 ⟨hb5, u0, u1, u2, u3, rfl, hj⟩
          obtain ⟨jk, jt, B, B', e1, f1, e2, f2, rfl, rfl, rfl, rfl⟩ := hj.forms
          have hY5 := heap_alloc_new w5 (.cells #[.int .i64 jk, .string jt, .slice B e1 f1, .slice B' e2 f2] 26 (0, 0))
          have hfa : Fr w5 (w5.alloc (.cells #[.int .i64 jk, .string jt, .slice B e1 f1, .slice B' e2 f2] 26)) (fun _ => True) := (Fr.refl w5 _).alloc _
          have hB5 := hfa.at ((below_fr0 hb5).at hB4 trivial) trivial
          have hbw5 : Below w.heap.size w (w5.alloc (.cells #[.int .i64 jk, .string jt, .slice B e1 f1, .slice B' e2 f2] 26)) := (hbw4.trans (hb5.mono hbw4.size)).alloc (Nat.le_trans hbw4.size hb5.size) _
          have hj5 := hj.fr (ok' := fun _ => True) hfa (fun _ _ => trivial)
          have hjz := zin_jin (HZ.out _ hbw5) 0 hR
          have hsame := same_any (fits_toJ (SizeOf.sizeOf z + 1) z (by omega) (by omega)) _ _ _ _ _ _ _ _ _ _ _ hjz hj5
          obtain ⟨q0, q1, q2, q3⟩ := cells_4 hB5
          obtain ⟨r0, r1, r2, r3⟩ := cells_4 hY5
          clear hpp hB4 p0 p1 p2 p3 hb5 hj hfa hj5 hjz hB5 hY5
          go_wp2_with fail
          generalize (w5.alloc (.cells #[.int .i64 jk, .string jt, .slice B e1 f1, .slice B' e2 f2] 26)) = W5 at *
          refine hsame.mono ?_
          rintro e w6 ⟨rfl, hb6⟩
          have hbw6 : Below w.heap.size w w6 := hbw5.trans (hb6.mono hbw5.size)
          clear hsame q0 q1 q2 q3 r0 r1 r2 r3 hb6 hbw5
          have hpa := HPA.out w6 hbw6
          go_wp2_with fail
          refine hpa.mono ?_
          clear hpa
          intro e x1 hpo
          unfold ParsePost at hpo
          obtain ⟨hbx1, hpo⟩ := hpo
          have hbwx1 : Below w.heap.size w x1 := hbw6.trans (hbx1.mono hbw6.size)
          cases hpx : parseM s.data.toList with
          | error ne =>
            rw [hpx] at hpo
            have hpo' : e = .returned (.tuple #[zero26, .int .i64 ne]) := hpo
            subst hpo'
            have hne : ((ne : Int) != 0) = true := by have := parse_err hpx; simp only [bne_iff_ne, ne_eq]; omega
            clear hpx hpo
            unfold zero26
            go_wp2
            go_ret
            exact ⟨rfl, hbwx1.alloc hbwx1.size _⟩
          | ok tj =>
            rw [hpx] at hpo
            obtain ⟨u0, u1, u2, u3, he, hj⟩ := hpo
            subst he
            have hrx := parse_right hpx
            have hwx := parse_weight hpx
            have hnx := Nat.le_trans (zn_zw (ofJ tj)) hwx
            have hzx := jin_zin hj 0 hrx (by omega)
            have hjt := toJ_ofJ tj
            clear hpx hj
            obtain ⟨k2, t2, B, e1, f1, B', e2, f2, rfl, rfl, rfl, rfl⟩ := zin_agg hzx
            have hbwa : Below w.heap.size w (x1.alloc (.cells #[.int .i64 k2, .string t2, .slice B e1 f1, .slice B' e2 f2] 26)) := hbwx1.alloc hbwx1.size _
            have hX1 := heap_alloc_new x1 (.cells #[.int .i64 k2, .string t2, .slice B e1 f1, .slice B' e2 f2] 26 (0, 0))
            have hba : Below x1.heap.size x1 (x1.alloc (.cells #[.int .i64 k2, .string t2, .slice B e1 f1, .slice B' e2 f2] 26)) := (Below.refl _ _).alloc (Nat.le_refl _) _
            have hzb : ∀ W, Below x1.heap.size x1 W → ZIn W (fun b => b < W.heap.size) (ofJ tj) (.int .i64 k2) (.string t2) (.slice B e1 f1) (.slice B' e2 f2) := fun W hW => (hzx.fr (ok' := fun _ => True) (below_fr0 hW) (fun _ _ => trivial)).mono (fun b hb _ => hb)
            have hpr := print_any (ofJ tj) (by omega) (by omega) _ (HG.out.below hbwa) _ _ _ _ (hzb _ hba)
            have hlc := core_long [] (by simp) (ofJ tj)
            have HRX := Lib.hid hrx
            have HWX := Lib.hid hwx
            have HNX := Lib.hid hnx
            have HJT := Lib.hid hjt
            have HZB := Lib.hid hzb
            obtain ⟨p0, p1, p2, p3⟩ := cells_4 hX1
            have HX1 := Lib.hid hX1
            have HBX := Lib.hid hbwx1
            clear hrx hwx hnx hjt hzb hzx hX1
            have hs1 : x1.heap.size < (x1.alloc (.cells #[.int .i64 k2, .string t2, .slice B e1 f1, .slice B' e2 f2] 26)).heap.size := by simp
            go_wp2_with fail
            generalize (x1.alloc (.cells #[.int .i64 k2, .string t2, .slice B e1 f1, .slice B' e2 f2] 26)) = W1 at *
            refine hpr.mono ?_
            rintro e x2 ⟨tx2, rfl, hy2, _, hb2⟩
            have ht2 := hy2 HRX.out
            have hbwx2 : Below w.heap.size w x2 := hbwa.trans (hb2.mono hbwa.size)
            have hbx2 : Below x1.heap.size x1 x2 := hba.trans (hb2.mono hba.size)
            have hX2 := (below_fr0 hb2).at HX1.out trivial
            clear hpr hy2 p0 p1 p2 p3
            have hp2 := parse_any tx2 x2 (HG.out.below hbwx2)
            have htd : tx2.data.toList = core [] (ofJ tj) := by rw [ht2]; rfl
            have hts : tx2.size = (core [] (ofJ tj)).length := by rw [ht2]; exact str_sz _
            rw [htd] at hp2
            have HTS := Lib.hid hts
            clear ht2 htd hts
            by_cases hlg : (core [] (ofJ tj)).length ≤ 20000
            · rw [core_parse HRX.out hlg, HJT.out] at hp2
              go_wp2_with fail
              refine hp2.mono ?_
              rintro e x3 ⟨hb3, y0, y1, y2, y3, rfl, hj3⟩
              clear hp2
              obtain ⟨k3, t3, C, C', e3, f3, e4, f4, rfl, rfl, rfl, rfl⟩ := hj3.forms
              have hbwx3 : Below w.heap.size w x3 := hbwx2.trans (hb3.mono hbwx2.size)
              have hbx3 : Below x1.heap.size x1 x3 := hbx2.trans (hb3.mono hbx2.size)
              have hX3 := (below_fr0 hb3).at hX2 trivial
              have hY3 := heap_alloc_new x3 (.cells #[.int .i64 k3, .string t3, .slice C e3 f3, .slice C' e4 f4] 26 (0, 0))
              have hfa : Fr x3 (x3.alloc (.cells #[.int .i64 k3, .string t3, .slice C e3 f3, .slice C' e4 f4] 26)) (fun _ => True) := (Fr.refl x3 _).alloc _
              have hXa := hfa.at hX3 trivial
              have hbwa3 : Below w.heap.size w (x3.alloc (.cells #[.int .i64 k3, .string t3, .slice C e3 f3, .slice C' e4 f4] 26)) := hbwx3.alloc hbwx3.size _
              have hba3 : Below x1.heap.size x1 (x3.alloc (.cells #[.int .i64 k3, .string t3, .slice C e3 f3, .slice C' e4 f4] 26)) := hbx3.alloc hbx3.size _
              have hja := hj3.fr (ok' := fun _ => True) hfa (fun _ _ => trivial)
              have hri := right_any (ofJ tj) (Nat.le_trans HNX.out (by omega)) (Nat.le_trans HWX.out (by omega)) _ (HG.out.below hbwa3) _ _ _ _ (HZB.out _ hba3)
              obtain ⟨p0, p1, p2, p3⟩ := cells_4 hXa
              clear hX2 hX3 hj3 hfa
              go_wp2_with fail
              generalize (x3.alloc (.cells #[.int .i64 k3, .string t3, .slice C e3 f3, .slice C' e4 f4] 26)) = W3 at *
              refine hri.mono ?_
              rintro e x4 ⟨b4, rfl, hbi, hb4⟩
              obtain rfl : b4 = true := hbi.2 HRX.out
              have hX4 := (below_fr0 hb4).at hXa trivial
              have hY4 := (below_fr0 hb4).at hY3 trivial
              have hj4 := hja.fr (ok' := fun _ => True) (below_fr0 hb4) (fun _ _ => trivial)
              have hbwx4 : Below w.heap.size w x4 := hbwa3.trans (hb4.mono hbwa3.size)
              have hbx4 : Below x1.heap.size x1 x4 := hba3.trans (hb4.mono hba3.size)
              have hjz := zin_jin (HZB.out x4 hbx4) 0 HRX.out
              rw [HJT.out] at hjz
              have hfit : fits tj := by
                have := fits_toJ (SizeOf.sizeOf (ofJ tj) + 1) (ofJ tj) (by omega) (Nat.le_trans HNX.out (by omega))
                rwa [HJT.out] at this
              have hsame := same_any hfit x4 _ _ _ _ _ _ _ _ _ _ hjz hj4
              clear hri hXa hY3 hja p0 p1 p2 p3 hj4 hjz hbi
              obtain ⟨p0, p1, p2, p3⟩ := cells_4 hX4
              obtain ⟨q0, q1, q2, q3⟩ := cells_4 hY4
              clear hX4 hY4
              go_wp2_with fail
              refine hsame.mono ?_
              rintro e x5 ⟨rfl, hb5⟩
              go_wp2
              go_ret
              exact ⟨rfl, hbwx4.trans (hb5.mono hbwx4.size)⟩
            · rw [core_long_no (by omega)] at hp2
              go_wp2_with fail
              refine hp2.mono ?_
              rintro e x3 ⟨hb3, he3⟩
              have he3' : e = .returned (.tuple #[zero26, .int .i64 (5 : Nat)]) := he3
              subst he3'
              clear hp2 he3
              unfold zero26
              have hbwx3 : Below w.heap.size w x3 := hbwx2.trans (hb3.mono hbwx2.size)
              have hbx3 : Below x1.heap.size x1 x3 := hbx2.trans (hb3.mono hbx2.size)
              have hX3 := (below_fr0 hb3).at hX2 trivial
              have hfa : Fr x3 (x3.alloc (.cells #[.int .i64 0, .string ⟨#[]⟩, .slice none 0 0, .slice none 0 0] 26)) (fun _ => True) := (Fr.refl x3 _).alloc _
              have hXa := hfa.at hX3 trivial
              have hbwa3 : Below w.heap.size w (x3.alloc (.cells #[.int .i64 0, .string ⟨#[]⟩, .slice none 0 0, .slice none 0 0] 26)) := hbwx3.alloc hbwx3.size _
              have hba3 : Below x1.heap.size x1 (x3.alloc (.cells #[.int .i64 0, .string ⟨#[]⟩, .slice none 0 0, .slice none 0 0] 26)) := hbx3.alloc hbx3.size _
              have hri := right_any (ofJ tj) (Nat.le_trans HNX.out (by omega)) (Nat.le_trans HWX.out (by omega)) _ (HG.out.below hbwa3) _ _ _ _ (HZB.out _ hba3)
              obtain ⟨p0, p1, p2, p3⟩ := cells_4 hXa
              clear hX2 hX3 hfa
              go_wp2_with fail
              generalize (x3.alloc (.cells #[.int .i64 0, .string ⟨#[]⟩, .slice none 0 0, .slice none 0 0] 26)) = W3 at *
              refine hri.mono ?_
              rintro e x4 ⟨b4, rfl, hbi, hb4⟩
              obtain rfl : b4 = true := hbi.2 HRX.out
              have hX4 := (below_fr0 hb4).at hXa trivial
              have hbwx4 : Below w.heap.size w x4 := hbwa3.trans (hb4.mono hbwa3.size)
              have hbx4 : Below x1.heap.size x1 x4 := hba3.trans (hb4.mono hba3.size)
              have hrp := rprint_any (ofJ tj) (Nat.le_trans HNX.out (by omega)) (Nat.le_trans HWX.out (by omega)) x4 (HG.out.below hbwx4) _ _ _ _ (HZB.out x4 hbx4)
              clear hri hXa p0 p1 p2 p3 hbi
              obtain ⟨p0, p1, p2, p3⟩ := cells_4 hX4
              clear hX4
              go_wp2_with fail
              refine hrp.mono ?_
              rintro e x5 ⟨tx5, rfl, hy5, _, hb5⟩
              have hl5 : (20000 : Int) < (tx5.size : Int) := by
                rw [hy5 HRX.out, str_sz]
                omega
              have hm5 : tx5.size ≤ 70000000 := by
                rw [hy5 HRX.out, str_sz]
                have := HWX.out
                omega
              clear hy5 hrp
              go_wp2
              go_ret
              exact ⟨rfl, hbwx4.trans (hb5.mono hbwx4.size)⟩
        · have hsi : ¬ (tx.size : Int) ≤ 20000 := by have := HSL.out; omega
          clear hB4 p0 p1 p2 p3
          have hpa := HPA.out w4 hbw4
          go_wp2_with fail
          refine hpa.mono ?_
          clear hpa
          intro e x1 hpo
          unfold ParsePost at hpo
          obtain ⟨hbx1, hpo⟩ := hpo
          have hbwx1 : Below w.heap.size w x1 := hbw4.trans (hbx1.mono hbw4.size)
          cases hpx : parseM s.data.toList with
          | error ne =>
            rw [hpx] at hpo
            have hpo' : e = .returned (.tuple #[zero26, .int .i64 ne]) := hpo
            subst hpo'
            have hne : ((ne : Int) != 0) = true := by have := parse_err hpx; simp only [bne_iff_ne, ne_eq]; omega
            clear hpx hpo
            unfold zero26
            go_wp2
            go_ret
            exact ⟨rfl, hbwx1.alloc hbwx1.size _⟩
          | ok tj =>
            rw [hpx] at hpo
            obtain ⟨u0, u1, u2, u3, he, hj⟩ := hpo
            subst he
            have hrx := parse_right hpx
            have hwx := parse_weight hpx
            have hnx := Nat.le_trans (zn_zw (ofJ tj)) hwx
            have hzx := jin_zin hj 0 hrx (by omega)
            have hjt := toJ_ofJ tj
            clear hpx hj
            obtain ⟨k2, t2, B, e1, f1, B', e2, f2, rfl, rfl, rfl, rfl⟩ := zin_agg hzx
            have hbwa : Below w.heap.size w (x1.alloc (.cells #[.int .i64 k2, .string t2, .slice B e1 f1, .slice B' e2 f2] 26)) := hbwx1.alloc hbwx1.size _
            have hX1 := heap_alloc_new x1 (.cells #[.int .i64 k2, .string t2, .slice B e1 f1, .slice B' e2 f2] 26 (0, 0))
            have hba : Below x1.heap.size x1 (x1.alloc (.cells #[.int .i64 k2, .string t2, .slice B e1 f1, .slice B' e2 f2] 26)) := (Below.refl _ _).alloc (Nat.le_refl _) _
            have hzb : ∀ W, Below x1.heap.size x1 W → ZIn W (fun b => b < W.heap.size) (ofJ tj) (.int .i64 k2) (.string t2) (.slice B e1 f1) (.slice B' e2 f2) := fun W hW => (hzx.fr (ok' := fun _ => True) (below_fr0 hW) (fun _ _ => trivial)).mono (fun b hb _ => hb)
            have hpr := print_any (ofJ tj) (by omega) (by omega) _ (HG.out.below hbwa) _ _ _ _ (hzb _ hba)
            have hlc := core_long [] (by simp) (ofJ tj)
            have HRX := Lib.hid hrx
            have HWX := Lib.hid hwx
            have HNX := Lib.hid hnx
            have HJT := Lib.hid hjt
            have HZB := Lib.hid hzb
            obtain ⟨p0, p1, p2, p3⟩ := cells_4 hX1
            have HX1 := Lib.hid hX1
            have HBX := Lib.hid hbwx1
            clear hrx hwx hnx hjt hzb hzx hX1
            have hs1 : x1.heap.size < (x1.alloc (.cells #[.int .i64 k2, .string t2, .slice B e1 f1, .slice B' e2 f2] 26)).heap.size := by simp
            go_wp2_with fail
            generalize (x1.alloc (.cells #[.int .i64 k2, .string t2, .slice B e1 f1, .slice B' e2 f2] 26)) = W1 at *
            refine hpr.mono ?_
            rintro e x2 ⟨tx2, rfl, hy2, _, hb2⟩
            have ht2 := hy2 HRX.out
            have hbwx2 : Below w.heap.size w x2 := hbwa.trans (hb2.mono hbwa.size)
            have hbx2 : Below x1.heap.size x1 x2 := hba.trans (hb2.mono hba.size)
            have hX2 := (below_fr0 hb2).at HX1.out trivial
            clear hpr hy2 p0 p1 p2 p3
            have hp2 := parse_any tx2 x2 (HG.out.below hbwx2)
            have htd : tx2.data.toList = core [] (ofJ tj) := by rw [ht2]; rfl
            have hts : tx2.size = (core [] (ofJ tj)).length := by rw [ht2]; exact str_sz _
            rw [htd] at hp2
            have HTS := Lib.hid hts
            clear ht2 htd hts
            by_cases hlg : (core [] (ofJ tj)).length ≤ 20000
            · rw [core_parse HRX.out hlg, HJT.out] at hp2
              go_wp2_with fail
              refine hp2.mono ?_
              rintro e x3 ⟨hb3, y0, y1, y2, y3, rfl, hj3⟩
              clear hp2
              obtain ⟨k3, t3, C, C', e3, f3, e4, f4, rfl, rfl, rfl, rfl⟩ := hj3.forms
              have hbwx3 : Below w.heap.size w x3 := hbwx2.trans (hb3.mono hbwx2.size)
              have hbx3 : Below x1.heap.size x1 x3 := hbx2.trans (hb3.mono hbx2.size)
              have hX3 := (below_fr0 hb3).at hX2 trivial
              have hY3 := heap_alloc_new x3 (.cells #[.int .i64 k3, .string t3, .slice C e3 f3, .slice C' e4 f4] 26 (0, 0))
              have hfa : Fr x3 (x3.alloc (.cells #[.int .i64 k3, .string t3, .slice C e3 f3, .slice C' e4 f4] 26)) (fun _ => True) := (Fr.refl x3 _).alloc _
              have hXa := hfa.at hX3 trivial
              have hbwa3 : Below w.heap.size w (x3.alloc (.cells #[.int .i64 k3, .string t3, .slice C e3 f3, .slice C' e4 f4] 26)) := hbwx3.alloc hbwx3.size _
              have hba3 : Below x1.heap.size x1 (x3.alloc (.cells #[.int .i64 k3, .string t3, .slice C e3 f3, .slice C' e4 f4] 26)) := hbx3.alloc hbx3.size _
              have hja := hj3.fr (ok' := fun _ => True) hfa (fun _ _ => trivial)
              have hri := right_any (ofJ tj) (Nat.le_trans HNX.out (by omega)) (Nat.le_trans HWX.out (by omega)) _ (HG.out.below hbwa3) _ _ _ _ (HZB.out _ hba3)
              obtain ⟨p0, p1, p2, p3⟩ := cells_4 hXa
              clear hX2 hX3 hj3 hfa
              go_wp2_with fail
              generalize (x3.alloc (.cells #[.int .i64 k3, .string t3, .slice C e3 f3, .slice C' e4 f4] 26)) = W3 at *
              refine hri.mono ?_
              rintro e x4 ⟨b4, rfl, hbi, hb4⟩
              obtain rfl : b4 = true := hbi.2 HRX.out
              have hX4 := (below_fr0 hb4).at hXa trivial
              have hY4 := (below_fr0 hb4).at hY3 trivial
              have hj4 := hja.fr (ok' := fun _ => True) (below_fr0 hb4) (fun _ _ => trivial)
              have hbwx4 : Below w.heap.size w x4 := hbwa3.trans (hb4.mono hbwa3.size)
              have hbx4 : Below x1.heap.size x1 x4 := hba3.trans (hb4.mono hba3.size)
              have hjz := zin_jin (HZB.out x4 hbx4) 0 HRX.out
              rw [HJT.out] at hjz
              have hfit : fits tj := by
                have := fits_toJ (SizeOf.sizeOf (ofJ tj) + 1) (ofJ tj) (by omega) (Nat.le_trans HNX.out (by omega))
                rwa [HJT.out] at this
              have hsame := same_any hfit x4 _ _ _ _ _ _ _ _ _ _ hjz hj4
              clear hri hXa hY3 hja p0 p1 p2 p3 hj4 hjz hbi
              obtain ⟨p0, p1, p2, p3⟩ := cells_4 hX4
              obtain ⟨q0, q1, q2, q3⟩ := cells_4 hY4
              clear hX4 hY4
              go_wp2_with fail
              refine hsame.mono ?_
              rintro e x5 ⟨rfl, hb5⟩
              go_wp2
              go_ret
              exact ⟨rfl, hbwx4.trans (hb5.mono hbwx4.size)⟩
            · rw [core_long_no (by omega)] at hp2
              go_wp2_with fail
              refine hp2.mono ?_
              rintro e x3 ⟨hb3, he3⟩
              have he3' : e = .returned (.tuple #[zero26, .int .i64 (5 : Nat)]) := he3
              subst he3'
              clear hp2 he3
              unfold zero26
              have hbwx3 : Below w.heap.size w x3 := hbwx2.trans (hb3.mono hbwx2.size)
              have hbx3 : Below x1.heap.size x1 x3 := hbx2.trans (hb3.mono hbx2.size)
              have hX3 := (below_fr0 hb3).at hX2 trivial
              have hfa : Fr x3 (x3.alloc (.cells #[.int .i64 0, .string ⟨#[]⟩, .slice none 0 0, .slice none 0 0] 26)) (fun _ => True) := (Fr.refl x3 _).alloc _
              have hXa := hfa.at hX3 trivial
              have hbwa3 : Below w.heap.size w (x3.alloc (.cells #[.int .i64 0, .string ⟨#[]⟩, .slice none 0 0, .slice none 0 0] 26)) := hbwx3.alloc hbwx3.size _
              have hba3 : Below x1.heap.size x1 (x3.alloc (.cells #[.int .i64 0, .string ⟨#[]⟩, .slice none 0 0, .slice none 0 0] 26)) := hbx3.alloc hbx3.size _
              have hri := right_any (ofJ tj) (Nat.le_trans HNX.out (by omega)) (Nat.le_trans HWX.out (by omega)) _ (HG.out.below hbwa3) _ _ _ _ (HZB.out _ hba3)
              obtain ⟨p0, p1, p2, p3⟩ := cells_4 hXa
              clear hX2 hX3 hfa
              go_wp2_with fail
              generalize (x3.alloc (.cells #[.int .i64 0, .string ⟨#[]⟩, .slice none 0 0, .slice none 0 0] 26)) = W3 at *
              refine hri.mono ?_
              rintro e x4 ⟨b4, rfl, hbi, hb4⟩
              obtain rfl : b4 = true := hbi.2 HRX.out
              have hX4 := (below_fr0 hb4).at hXa trivial
              have hbwx4 : Below w.heap.size w x4 := hbwa3.trans (hb4.mono hbwa3.size)
              have hbx4 : Below x1.heap.size x1 x4 := hba3.trans (hb4.mono hba3.size)
              have hrp := rprint_any (ofJ tj) (Nat.le_trans HNX.out (by omega)) (Nat.le_trans HWX.out (by omega)) x4 (HG.out.below hbwx4) _ _ _ _ (HZB.out x4 hbx4)
              clear hri hXa p0 p1 p2 p3 hbi
              obtain ⟨p0, p1, p2, p3⟩ := cells_4 hX4
              clear hX4
              go_wp2_with fail
              refine hrp.mono ?_
              rintro e x5 ⟨tx5, rfl, hy5, _, hb5⟩
              have hl5 : (20000 : Int) < (tx5.size : Int) := by
                rw [hy5 HRX.out, str_sz]
                omega
              have hm5 : tx5.size ≤ 70000000 := by
                rw [hy5 HRX.out, str_sz]
                have := HWX.out
                omega
              clear hy5 hrp
              go_wp2
              go_ret
              exact ⟨rfl, hbwx4.trans (hb5.mono hbwx4.size)⟩
      · have htx := HNO.out hR
        subst htx
        go_wp2_with fail
        refine hrr.mono ?_
        rintro e w4 ⟨b, rfl, hbi, hb4⟩
        obtain rfl : b = false := by
          cases b with
          | false => rfl
          | true => exact absurd (hbi.1 rfl) hR
        have hbw4 : Below w.heap.size w w4 := hbw3.trans (hb4.mono hbw3.size)
        clear hrr hB3 q0 q1 q2 q3 hb4 hbi
        have hpa := HPA.out w4 hbw4
        go_wp2_with fail
        refine hpa.mono ?_
        clear hpa
        intro e x1 hpo
        unfold ParsePost at hpo
        obtain ⟨hbx1, hpo⟩ := hpo
        have hbwx1 : Below w.heap.size w x1 := hbw4.trans (hbx1.mono hbw4.size)
        cases hpx : parseM s.data.toList with
        | error ne =>
          rw [hpx] at hpo
          have hpo' : e = .returned (.tuple #[zero26, .int .i64 ne]) := hpo
          subst hpo'
          have hne : ((ne : Int) != 0) = true := by have := parse_err hpx; simp only [bne_iff_ne, ne_eq]; omega
          clear hpx hpo
          unfold zero26
          go_wp2
          go_ret
          exact ⟨rfl, hbwx1.alloc hbwx1.size _⟩
        | ok tj =>
          rw [hpx] at hpo
          obtain ⟨u0, u1, u2, u3, he, hj⟩ := hpo
          subst he
          have hrx := parse_right hpx
          have hwx := parse_weight hpx
          have hnx := Nat.le_trans (zn_zw (ofJ tj)) hwx
          have hzx := jin_zin hj 0 hrx (by omega)
          have hjt := toJ_ofJ tj
          clear hpx hj
          obtain ⟨k2, t2, B, e1, f1, B', e2, f2, rfl, rfl, rfl, rfl⟩ := zin_agg hzx
          have hbwa : Below w.heap.size w (x1.alloc (.cells #[.int .i64 k2, .string t2, .slice B e1 f1, .slice B' e2 f2] 26)) := hbwx1.alloc hbwx1.size _
          have hX1 := heap_alloc_new x1 (.cells #[.int .i64 k2, .string t2, .slice B e1 f1, .slice B' e2 f2] 26 (0, 0))
          have hba : Below x1.heap.size x1 (x1.alloc (.cells #[.int .i64 k2, .string t2, .slice B e1 f1, .slice B' e2 f2] 26)) := (Below.refl _ _).alloc (Nat.le_refl _) _
          have hzb : ∀ W, Below x1.heap.size x1 W → ZIn W (fun b => b < W.heap.size) (ofJ tj) (.int .i64 k2) (.string t2) (.slice B e1 f1) (.slice B' e2 f2) := fun W hW => (hzx.fr (ok' := fun _ => True) (below_fr0 hW) (fun _ _ => trivial)).mono (fun b hb _ => hb)
          have hpr := print_any (ofJ tj) (by omega) (by omega) _ (HG.out.below hbwa) _ _ _ _ (hzb _ hba)
          have hlc := core_long [] (by simp) (ofJ tj)
          have HRX := Lib.hid hrx
          have HWX := Lib.hid hwx
          have HNX := Lib.hid hnx
          have HJT := Lib.hid hjt
          have HZB := Lib.hid hzb
          obtain ⟨p0, p1, p2, p3⟩ := cells_4 hX1
          have HX1 := Lib.hid hX1
          have HBX := Lib.hid hbwx1
          clear hrx hwx hnx hjt hzb hzx hX1
          have hs1 : x1.heap.size < (x1.alloc (.cells #[.int .i64 k2, .string t2, .slice B e1 f1, .slice B' e2 f2] 26)).heap.size := by simp
          go_wp2_with fail
          generalize (x1.alloc (.cells #[.int .i64 k2, .string t2, .slice B e1 f1, .slice B' e2 f2] 26)) = W1 at *
          refine hpr.mono ?_
          rintro e x2 ⟨tx2, rfl, hy2, _, hb2⟩
          have ht2 := hy2 HRX.out
          have hbwx2 : Below w.heap.size w x2 := hbwa.trans (hb2.mono hbwa.size)
          have hbx2 : Below x1.heap.size x1 x2 := hba.trans (hb2.mono hba.size)
          have hX2 := (below_fr0 hb2).at HX1.out trivial
          clear hpr hy2 p0 p1 p2 p3
          have hp2 := parse_any tx2 x2 (HG.out.below hbwx2)
          have htd : tx2.data.toList = core [] (ofJ tj) := by rw [ht2]; rfl
          have hts : tx2.size = (core [] (ofJ tj)).length := by rw [ht2]; exact str_sz _
          rw [htd] at hp2
          have HTS := Lib.hid hts
          clear ht2 htd hts
          by_cases hlg : (core [] (ofJ tj)).length ≤ 20000
          · rw [core_parse HRX.out hlg, HJT.out] at hp2
            go_wp2_with fail
            refine hp2.mono ?_
            rintro e x3 ⟨hb3, y0, y1, y2, y3, rfl, hj3⟩
            clear hp2
            obtain ⟨k3, t3, C, C', e3, f3, e4, f4, rfl, rfl, rfl, rfl⟩ := hj3.forms
            have hbwx3 : Below w.heap.size w x3 := hbwx2.trans (hb3.mono hbwx2.size)
            have hbx3 : Below x1.heap.size x1 x3 := hbx2.trans (hb3.mono hbx2.size)
            have hX3 := (below_fr0 hb3).at hX2 trivial
            have hY3 := heap_alloc_new x3 (.cells #[.int .i64 k3, .string t3, .slice C e3 f3, .slice C' e4 f4] 26 (0, 0))
            have hfa : Fr x3 (x3.alloc (.cells #[.int .i64 k3, .string t3, .slice C e3 f3, .slice C' e4 f4] 26)) (fun _ => True) := (Fr.refl x3 _).alloc _
            have hXa := hfa.at hX3 trivial
            have hbwa3 : Below w.heap.size w (x3.alloc (.cells #[.int .i64 k3, .string t3, .slice C e3 f3, .slice C' e4 f4] 26)) := hbwx3.alloc hbwx3.size _
            have hba3 : Below x1.heap.size x1 (x3.alloc (.cells #[.int .i64 k3, .string t3, .slice C e3 f3, .slice C' e4 f4] 26)) := hbx3.alloc hbx3.size _
            have hja := hj3.fr (ok' := fun _ => True) hfa (fun _ _ => trivial)
            have hri := right_any (ofJ tj) (Nat.le_trans HNX.out (by omega)) (Nat.le_trans HWX.out (by omega)) _ (HG.out.below hbwa3) _ _ _ _ (HZB.out _ hba3)
            obtain ⟨p0, p1, p2, p3⟩ := cells_4 hXa
            clear hX2 hX3 hj3 hfa
            go_wp2_with fail
            generalize (x3.alloc (.cells #[.int .i64 k3, .string t3, .slice C e3 f3, .slice C' e4 f4] 26)) = W3 at *
            refine hri.mono ?_
            rintro e x4 ⟨b4, rfl, hbi, hb4⟩
            obtain rfl : b4 = true := hbi.2 HRX.out
            have hX4 := (below_fr0 hb4).at hXa trivial
            have hY4 := (below_fr0 hb4).at hY3 trivial
            have hj4 := hja.fr (ok' := fun _ => True) (below_fr0 hb4) (fun _ _ => trivial)
            have hbwx4 : Below w.heap.size w x4 := hbwa3.trans (hb4.mono hbwa3.size)
            have hbx4 : Below x1.heap.size x1 x4 := hba3.trans (hb4.mono hba3.size)
            have hjz := zin_jin (HZB.out x4 hbx4) 0 HRX.out
            rw [HJT.out] at hjz
            have hfit : fits tj := by
              have := fits_toJ (SizeOf.sizeOf (ofJ tj) + 1) (ofJ tj) (by omega) (Nat.le_trans HNX.out (by omega))
              rwa [HJT.out] at this
            have hsame := same_any hfit x4 _ _ _ _ _ _ _ _ _ _ hjz hj4
            clear hri hXa hY3 hja p0 p1 p2 p3 hj4 hjz hbi
            obtain ⟨p0, p1, p2, p3⟩ := cells_4 hX4
            obtain ⟨q0, q1, q2, q3⟩ := cells_4 hY4
            clear hX4 hY4
            go_wp2_with fail
            refine hsame.mono ?_
            rintro e x5 ⟨rfl, hb5⟩
            go_wp2
            go_ret
            exact ⟨rfl, hbwx4.trans (hb5.mono hbwx4.size)⟩
          · rw [core_long_no (by omega)] at hp2
            go_wp2_with fail
            refine hp2.mono ?_
            rintro e x3 ⟨hb3, he3⟩
            have he3' : e = .returned (.tuple #[zero26, .int .i64 (5 : Nat)]) := he3
            subst he3'
            clear hp2 he3
            unfold zero26
            have hbwx3 : Below w.heap.size w x3 := hbwx2.trans (hb3.mono hbwx2.size)
            have hbx3 : Below x1.heap.size x1 x3 := hbx2.trans (hb3.mono hbx2.size)
            have hX3 := (below_fr0 hb3).at hX2 trivial
            have hfa : Fr x3 (x3.alloc (.cells #[.int .i64 0, .string ⟨#[]⟩, .slice none 0 0, .slice none 0 0] 26)) (fun _ => True) := (Fr.refl x3 _).alloc _
            have hXa := hfa.at hX3 trivial
            have hbwa3 : Below w.heap.size w (x3.alloc (.cells #[.int .i64 0, .string ⟨#[]⟩, .slice none 0 0, .slice none 0 0] 26)) := hbwx3.alloc hbwx3.size _
            have hba3 : Below x1.heap.size x1 (x3.alloc (.cells #[.int .i64 0, .string ⟨#[]⟩, .slice none 0 0, .slice none 0 0] 26)) := hbx3.alloc hbx3.size _
            have hri := right_any (ofJ tj) (Nat.le_trans HNX.out (by omega)) (Nat.le_trans HWX.out (by omega)) _ (HG.out.below hbwa3) _ _ _ _ (HZB.out _ hba3)
            obtain ⟨p0, p1, p2, p3⟩ := cells_4 hXa
            clear hX2 hX3 hfa
            go_wp2_with fail
            generalize (x3.alloc (.cells #[.int .i64 0, .string ⟨#[]⟩, .slice none 0 0, .slice none 0 0] 26)) = W3 at *
            refine hri.mono ?_
            rintro e x4 ⟨b4, rfl, hbi, hb4⟩
            obtain rfl : b4 = true := hbi.2 HRX.out
            have hX4 := (below_fr0 hb4).at hXa trivial
            have hbwx4 : Below w.heap.size w x4 := hbwa3.trans (hb4.mono hbwa3.size)
            have hbx4 : Below x1.heap.size x1 x4 := hba3.trans (hb4.mono hba3.size)
            have hrp := rprint_any (ofJ tj) (Nat.le_trans HNX.out (by omega)) (Nat.le_trans HWX.out (by omega)) x4 (HG.out.below hbwx4) _ _ _ _ (HZB.out x4 hbx4)
            clear hri hXa p0 p1 p2 p3 hbi
            obtain ⟨p0, p1, p2, p3⟩ := cells_4 hX4
            clear hX4
            go_wp2_with fail
            refine hrp.mono ?_
            rintro e x5 ⟨tx5, rfl, hy5, _, hb5⟩
            have hl5 : (20000 : Int) < (tx5.size : Int) := by
              rw [hy5 HRX.out, str_sz]
              omega
            have hm5 : tx5.size ≤ 70000000 := by
              rw [hy5 HRX.out, str_sz]
              have := HWX.out
              omega
            clear hy5 hrp
            go_wp2
            go_ret
            exact ⟨rfl, hbwx4.trans (hb5.mono hbwx4.size)⟩
  · rw [decide_eq_false hsz] at hsm
    go_enter Tryd.func6, Tryd.ntmps6
    go_wp2_with fail
    generalize (w.alloc (.cells #[.int .i64 kk, .string tt, .slice A m1 d1, .slice A' m2 d2] 26)) = W0 at *
    refine hsm.mono ?_
    rintro e w1 ⟨rfl, hb1⟩
    have hbw1 : Below w.heap.size w w1 := hb0.trans (hb1.mono hb0.size)
    have haw := awake w1 (HG.out.below hbw1) (Nat.le_trans (by omega) hbw1.size)
    clear hsm
    go_wp2_with fail
    refine haw.mono ?_
    rintro e w3 ⟨rfl, hb3⟩
    go_wp2
    go_ret
    exact ⟨rfl, hbw1.trans (hb3.mono hbw1.size)⟩
theorem jsonBack_holds : Rows.JsonBackUptoCardSaid := jsonBack.card back_walk
end Go.Proofs.YtjcnjaebmndeiaaDoor
