/-
  JsonWhite: white between what stands there plays no part. For every value and every white whose bulk together is at most 1,048,576, at every memory.
-/
import Derived.Test.YtjcnjaebmndeiaaDoorZcc
import Derived.Test.YtjcnjaebmndeiaaDoorWhF
import Derived.Test.YtjcnjaebmndeiaaDoorAwk
import Derived.Deep.DeepCutAuto
namespace Go.Proofs.YtjcnjaebmndeiaaDoor
open Go.RowKit

theorem parse_spc_long {g : Bs} {z : Z} (hl : 20000 < (spc g z).length) : parseM (spc g z) = .error 5 := by unfold parseM; rw [if_pos hl]
theorem mod4 (u : Int) : (u % 4 = 0 ∨ u % 4 = 1 ∨ u % 4 = 2 ∨ u % 4 = 3) := by omega
/-- What holds while the white is gathered. -/
def GapRel (w : World) (n : Nat) (box : Obj) (g : Nat) (t i : Value) (wr : World) : Prop :=
  ∃ (q : Nat) (gp : Bs), q + g = n ∧ i = .int .i64 q ∧ t = .string (str gp) ∧ gp.all isWhite = true ∧ gp.length = q ∧ wr.heap[w.heap.size]? = some box ∧ Below w.heap.size w wr
set_option maxHeartbeats 4000000 in
set_option maxRecDepth 100000 in
theorem white_walk : jsonWhite.Walk := by
  intro z v0 v1 v2 v3 A1 n1 c1 x1 w hz hzw hB hG
  have h4 := hG.size
  obtain ⟨hxl, hnc, hcm, hxb, hS⟩ := hB
  obtain ⟨kk, tt, A, m1, d1, A', m2, d2, rfl, rfl, rfl, rfl⟩ := zin_agg hz
  have hB0 := heap_alloc_new w (.cells #[.int .i64 kk, .string tt, .slice A m1 d1, .slice A' m2 d2] 26 (0, 0))
  have hb0 : Below w.heap.size w (w.alloc (.cells #[.int .i64 kk, .string tt, .slice A m1 d1, .slice A' m2 d2] 26)) := (Below.refl _ _).alloc (Nat.le_refl _) _
  have hzat : ∀ W, Below w.heap.size w W → ZIn W (fun b => b < W.heap.size) z (.int .i64 kk) (.string tt) (.slice A m1 d1) (.slice A' m2 d2) := fun W hW => (hz.fr (below_fr hW) (fun _ h => h)).mono (fun b _ hb => Nat.lt_of_lt_of_le hb hW.size)
  have hsm : Calls Tryd.prog 15 #[.agg #[.int .i64 kk, .string tt, .slice A m1 d1, .slice A' m2 d2], .int .i64 300] (w.alloc (.cells #[.int .i64 kk, .string tt, .slice A m1 d1, .slice A' m2 d2] 26)) fun e w' => e = .returned (.bool (decide (zn z ≤ 300))) ∧ Below (w.alloc (.cells #[.int .i64 kk, .string tt, .slice A m1 d1, .slice A' m2 d2] 26)).heap.size (w.alloc (.cells #[.int .i64 kk, .string tt, .slice A m1 d1, .slice A' m2 d2] 26)) w' :=
    small_any z hzw 300 (by omega) _ _ _ _ _ (hzat _ hb0)
  obtain ⟨p0, p1, p2, p3⟩ := cells_4 hB0
  have HG := Lib.hid hG
  have HZ := Lib.hid hzat
  have HS := Lib.hid hS
  have HXB := Lib.hid hxb
  have HZZ := Lib.hid hz
  clear hG hzat hS hz hxb
  by_cases hsz : zn z ≤ 300
  · rw [decide_eq_true hsz] at hsm
    have hrr : ∀ W, Below w.heap.size w W → Calls Tryd.prog 19 #[.agg #[.int .i64 kk, .string tt, .slice A m1 d1, .slice A' m2 d2]] W (BoolPost W (Rgt 0 z)) := fun W hW => rright_any z (by omega) hzw W (HG.out.below hW) _ _ _ _ (HZ.out W hW)
    have HRR := Lib.hid hrr
    clear hrr
    go_enter Tryd.func7, Tryd.ntmps7
    go_wp2_with fail
    generalize (w.alloc (.cells #[.int .i64 kk, .string tt, .slice A m1 d1, .slice A' m2 d2] 26)) = W0 at *
    refine hsm.mono ?_
    rintro e w1 ⟨rfl, hb1⟩
    have hB1 := (below_fr0 hb1).at hB0 trivial
    have hbw1 : Below w.heap.size w w1 := hb0.trans (hb1.mono hb0.size)
    obtain ⟨q0, q1, q2, q3⟩ := cells_4 hB1
    clear hsm hB0 p0 p1 p2 p3 hb1
    go_wp2_with fail
    refine (HRR.out w1 hbw1).mono ?_
    rintro e w2 ⟨b, rfl, hbi, hb2⟩
    have hB2 := (below_fr0 hb2).at hB1 trivial
    have hbw2 : Below w.heap.size w w2 := hbw1.trans (hb2.mono hbw1.size)
    have HBI := Lib.hid hbi
    clear hB1 q0 q1 q2 q3 hb2 hbi
    cases b with
    | false =>
      have haw := awake w2 (HG.out.below hbw2) (Nat.le_trans (by omega) hbw2.size)
      go_wp2_with fail
      refine haw.mono ?_
      rintro e w3 ⟨rfl, hb3⟩
      go_wp2
      go_ret
      exact ⟨rfl, hbw2.trans (hb3.mono hbw2.size)⟩
    | true =>
      have hrg : Rgt 0 z := HBI.out.1 rfl
      have HRG := Lib.hid hrg
      clear hrg HBI HRR
      by_cases hn8 : 8 < n1
      · have hn8i : (8 : Int) < (n1 : Int) := by omega
        have haw := awake w2 (HG.out.below hbw2) (Nat.le_trans (by omega) hbw2.size)
        go_wp2_with fail
        refine haw.mono ?_
        rintro e w3 ⟨rfl, hb3⟩
        go_wp2
        go_ret
        exact ⟨rfl, hbw2.trans (hb3.mono hbw2.size)⟩
      · have hn8i : ¬ (8 : Int) < (n1 : Int) := by omega
        have HB2 := Lib.hid hB2
        clear hB2
        go_wp2
        go_loopg [5, 6] n1 (fun g t i wr => GapRel w n1 (.cells #[.int .i64 kk, .string tt, .slice A m1 d1, .slice A' m2 d2] 26 (0, 0)) g t i wr)
        case atStart => exact ⟨0, [], by omega, rfl, rfl, rfl, rfl, HB2.out, hbw2⟩
        case round =>
          obtain ⟨q, gp, hqg, rfl, rfl, hgw, hgl, hbx, hbw⟩ := hrel
          have HGW := Lib.hid hgw
          have HGL := Lib.hid hgl
          have HBX := Lib.hid hbx
          clear hgw hgl hbx
          by_cases hq : q < n1
          · obtain ⟨b, off, rfl, hbl, hc⟩ := HS.out (by omega)
            obtain ⟨u, hu⟩ : ∃ u, x1[q]? = some u := ⟨_, List.getElem?_eq_getElem (by omega)⟩
            have hub := HXB.out u (List.mem_of_getElem? hu)
            have hcell := (below_fr hbw).cell (hc q u hu) hbl
            have hqi : (q : Int) < (n1 : Int) := by omega
            have hq0 : (0 : Int) ≤ (q : Int) := by omega
            have hgs : (str gp).size ≤ 8 := by rw [qstr_size, HGL.out]; omega
            obtain ⟨g', hg'⟩ : ∃ g', gk = g' + 1 := ⟨gk - 1, by omega⟩
            subst hg'
            clear hc hu
            have hfa : Fr wr (wr.alloc (.cells #[.string ⟨#[32]⟩, .string ⟨#[9]⟩, .string ⟨#[10]⟩, .string ⟨#[13]⟩] 9)) (fun _ => True) := (Fr.refl wr _).alloc _
            have hcell2 := hfa.cell hcell trivial
            have hbx2 := hfa.at HBX.out trivial
            have hbw2' : Below w.heap.size w (wr.alloc (.cells #[.string ⟨#[32]⟩, .string ⟨#[9]⟩, .string ⟨#[10]⟩, .string ⟨#[13]⟩] 9)) := hbw.alloc hbw.size _
            have HBX2 := Lib.hid hbx2
            clear hcell hfa hbx2
            rcases mod4 u with h | h | h | h
            · have ht : u.tmod 4 = _ := (Int.tmod_eq_emod_of_nonneg hub.1).trans h
              go_wp2
              go_roundg g'
              case measure => omega
              case rel => exact ⟨q + 1, gp ++ [32], by omega, by go_num, congrArg Value.string (qstr_cat gp ⟨#[32]⟩), by rw [List.all_append, HGW.out]; rfl, by rw [List.length_append, HGL.out]; rfl, HBX2.out, hbw2'⟩
            · have ht : u.tmod 4 = _ := (Int.tmod_eq_emod_of_nonneg hub.1).trans h
              go_wp2
              go_roundg g'
              case measure => omega
              case rel => exact ⟨q + 1, gp ++ [9], by omega, by go_num, congrArg Value.string (qstr_cat gp ⟨#[9]⟩), by rw [List.all_append, HGW.out]; rfl, by rw [List.length_append, HGL.out]; rfl, HBX2.out, hbw2'⟩
            · have ht : u.tmod 4 = _ := (Int.tmod_eq_emod_of_nonneg hub.1).trans h
              go_wp2
              go_roundg g'
              case measure => omega
              case rel => exact ⟨q + 1, gp ++ [10], by omega, by go_num, congrArg Value.string (qstr_cat gp ⟨#[10]⟩), by rw [List.all_append, HGW.out]; rfl, by rw [List.length_append, HGL.out]; rfl, HBX2.out, hbw2'⟩
            · have ht : u.tmod 4 = _ := (Int.tmod_eq_emod_of_nonneg hub.1).trans h
              go_wp2
              go_roundg g'
              case measure => omega
              case rel => exact ⟨q + 1, gp ++ [13], by omega, by go_num, congrArg Value.string (qstr_cat gp ⟨#[13]⟩), by rw [List.all_append, HGW.out]; rfl, by rw [List.length_append, HGL.out]; rfl, HBX2.out, hbw2'⟩
          · have hqn : q = n1 := by omega
            have hg8 : gp.length ≤ 8 := by rw [HGL.out]; omega
            have hsp := spaced_json gp hg8 (SizeOf.sizeOf z + 1) z (by omega) (by omega) hzw 0 HRG.out wr _ _ _ _ (HZ.out wr hbw) (HG.out.below hbw)
            have hcl := core_long gp hg8 z
            have hszX : (str (spc gp z)).size = (spc gp z).length := rfl
            have hsl : (spc gp z).length ≤ 63000000 := by unfold spc; simp only [List.length_append]; omega
            have hpa : ∀ W, Below w.heap.size w W → Calls Tryd.prog 12 #[.string (str (spc gp z))] W (ParsePost W (parseM (spc gp z))) := fun W hW => parse_any (str (spc gp z)) W (HG.out.below hW)
            have hps := parse_spc HGW.out HRG.out
            have hpl := parse_spc_long (g := gp) (z := z)
            obtain ⟨p0, p1, p2, p3⟩ := cells_4 HBX.out
            generalize hX : str (spc gp z) = X at *
            generalize spc gp z = sp at *
            have HPA := Lib.hid hpa
            have HPS := Lib.hid hps
            have HPL := Lib.hid hpl
            clear hpa hps hpl hcl hX
            go_wp2_with fail
            refine hsp.mono ?_
            rintro e w3 ⟨rfl, hb3⟩
            have hbx3 := (below_fr0 hb3).at HBX.out trivial
            have hbw3 : Below w.heap.size w w3 := hbw.trans (hb3.mono hbw.size)
            have HBX3 := Lib.hid hbx3
            clear hsp p0 p1 p2 p3 hbx3
            by_cases hlong : 20000 < sp.length
            · have hpp := HPA.out w3 hbw3
              rw [HPL.out hlong] at hpp
              have hli : (20000 : Int) < (X.size : Int) := by omega
              go_wp2_with fail
              refine hpp.mono ?_
              rintro e w4 ⟨hb4, rfl⟩
              have hbw4 : Below w.heap.size w (w4.alloc (.cells #[.int .i64 0, .string ⟨#[]⟩, .slice none 0 0, .slice none 0 0] 26)) := (hbw3.trans (hb4.mono hbw3.size)).alloc (Nat.le_trans hbw3.size hb4.size) _
              have haw := awake _ (HG.out.below hbw4) (Nat.le_trans (by omega) hbw4.size)
              clear hpp
              go_wp2_with fail
              refine haw.mono ?_
              rintro e w5 ⟨rfl, hb5⟩
              go_wp2
              go_ret
              exact ⟨rfl, hbw4.trans (hb5.mono hbw4.size)⟩
            · have hpp := HPA.out w3 hbw3
              rw [HPS.out (by omega)] at hpp
              have hli : ¬ (20000 : Int) < (X.size : Int) := by omega
              go_wp2_with fail
              refine hpp.mono ?_
              rintro e w4 ⟨hb4, u0, u1, u2, u3, rfl, hj⟩
              obtain ⟨jk, jt, B, B', e1, f1, e2, f2, rfl, rfl, rfl, rfl⟩ := hj.forms
              have hB4 := heap_alloc_new w4 (.cells #[.int .i64 jk, .string jt, .slice B e1 f1, .slice B' e2 f2] 26 (0, 0))
              have hfa : Fr w4 (w4.alloc (.cells #[.int .i64 jk, .string jt, .slice B e1 f1, .slice B' e2 f2] 26)) (fun _ => True) := (Fr.refl w4 _).alloc _
              have hj4 := hj.fr (hfa.mono (ok' := fun b => w3.heap.size ≤ b) (fun _ _ _ => trivial)) (fun _ h => h)
              have hbx4 := hfa.at ((below_fr0 hb4).at HBX3.out trivial) trivial
              have hbw4 : Below w.heap.size w (w4.alloc (.cells #[.int .i64 jk, .string jt, .slice B e1 f1, .slice B' e2 f2] 26)) := (hbw3.trans (hb4.mono hbw3.size)).alloc (Nat.le_trans hbw3.size hb4.size) _
              have haw := awake _ (HG.out.below hbw4) (Nat.le_trans (by omega) hbw4.size)
              clear hpp
              go_wp2_with fail
              generalize (w4.alloc (.cells #[.int .i64 jk, .string jt, .slice B e1 f1, .slice B' e2 f2] 26)) = W4 at *
              refine haw.mono ?_
              rintro e w5 ⟨rfl, hb5⟩
              have hf5 := below_fr0 hb5
              have hB5 := hf5.at hB4 trivial
              have hbx5 := hf5.at hbx4 trivial
              have hj5 := hj4.fr (hf5.mono (ok' := fun b => w3.heap.size ≤ b) (fun _ _ _ => trivial)) (fun _ h => h)
              have hbw5 : Below w.heap.size w w5 := hbw4.trans (hb5.mono hbw4.size)
              have hjz := zin_jin (HZ.out w5 hbw5) 0 HRG.out
              have hsame := same_any (fits_toJ (SizeOf.sizeOf z + 1) z (by omega) (by omega)) w5 _ _ _ _ _ _ _ _ _ _ hjz hj5
              obtain ⟨p0, p1, p2, p3⟩ := cells_4 hbx5
              obtain ⟨r0, r1, r2, r3⟩ := cells_4 hB5
              clear haw hB4 hbx4 hj4 hj hjz hj5 hB5 hbx5
              go_wp2_with fail
              refine hsame.mono ?_
              rintro e w6 ⟨rfl, hb6⟩
              go_wp2
              go_ret
              exact ⟨rfl, hbw5.trans (hb6.mono hbw5.size)⟩
  · rw [decide_eq_false hsz] at hsm
    go_enter Tryd.func7, Tryd.ntmps7
    go_wp2_with fail
    generalize (w.alloc (.cells #[.int .i64 kk, .string tt, .slice A m1 d1, .slice A' m2 d2] 26)) = W0 at *
    refine hsm.mono ?_
    rintro e w1 ⟨rfl, hb1⟩
    have hbw1 : Below w.heap.size w w1 := hb0.trans (hb1.mono hb0.size)
    have haw := awake w1 (HG.out.below hbw1) (Nat.le_trans (by omega) hbw1.size)
    clear hsm
    go_wp2_with fail
    refine haw.mono ?_
    rintro e w3 ⟨rfl, hb3⟩
    go_wp2
    go_ret
    exact ⟨rfl, hbw1.trans (hb3.mono hbw1.size)⟩
theorem jsonWhite_holds : Rows.JsonWhiteUptoCardSaid := jsonWhite.card white_walk
end Go.Proofs.YtjcnjaebmndeiaaDoor
