/-
  'plan': where it is not known yet.
-/
import Derived.Test.YtcmillbjpplfjaaGreatDoorRpl
import Derived.Test.YtcmillbjpplfjaaGreatDoorFl2
import Derived.Test.YtcmillbjpplfjaaGreatDoorRmd
namespace Go.Proofs.YtcmillbjpplfjaaGreatDoor
open Go.RowKit Go.Maps

def pl4J : List (Option Nat) := [none, none, none, none, none, none, none, some 14, none, none, none, none, none, none, none, none, none, none, none, none, some 0, some 1, some 2, some 3, some 4, some 5, some 6, some 7, some 8, some 9, some 10, some 11, some 12, some 13, none, none, none, none, none, none, none, none, none, none, none, none, none, none, none, none, none, none, none, none, none, none, none, none, none, none, none, none, none, none, none, none, none, none, none, none, none, none, none, none, none, none, none, none, none, none, none, none, none, none, none, none, none, none]
def pl4D : List (List Nat) := [[], [0], [1], [2], [], [4], [], [6], [7], [8], [], [10], [3, 5, 9, 11], [12], [], [14, 13]]
def pl4I (p P n : Nat) (vw vr : Value) (i k : Int) (m : Bool) : Nat → (Nat → Value) → World → Prop
  | 0, x, _ => x 0 = .pointer (some ⟨p, 0, none⟩)
  | 1, x, _ => x 1 = .pointer (some ⟨p, 0, none⟩)
  | 2, x, _ => x 2 = .pointer (some ⟨p, 0, none⟩)
  | 3, x, _ => x 3 = .agg #[vw]
  | 4, x, _ => x 4 = .pointer (some ⟨P, 0, none⟩)
  | 5, x, _ => x 5 = .int .i64 i
  | 6, x, _ => x 6 = .pointer (some ⟨p, 0, none⟩)
  | 7, x, _ => x 7 = .pointer (some ⟨p, 0, none⟩)
  | 8, x, _ => x 8 = .pointer (some ⟨p, 1, none⟩)
  | 9, x, _ => x 9 = .agg #[vr]
  | 10, x, _ => x 10 = .pointer (some ⟨P, 1, none⟩)
  | 11, x, _ => x 11 = .int .i64 k
  | 12, x, _ => x 12 = .bool m
  | 13, x, _ => x 13 = .agg #[.bool m, .int .i64 0, .slice none 0 0]
  | 14, x, w => ∃ (b : Nat) (a0 a1 a2 : Value), x 14 = .pointer (some ⟨b, 0, none⟩) ∧ n ≤ b ∧ w.heap[b]? = some (.cells #[a0, a1, a2] 109 (0, 0))
  | 15, x, w => ∃ (b : Nat), x 14 = .pointer (some ⟨b, 0, none⟩) ∧ n ≤ b ∧ w.heap[b]? = some (.cells #[.bool m, .int .i64 0, .slice none 0 0] 109 (0, 0))
  | _, _, _ => True

/-- What each operation leaves of the world. -/
def keep3 (n : Nat) (w w' : World) : Prop := Fr w w' (fun b => b < n) ∧ ∀ (b : Nat) (a0 a1 a2 : Value), w.heap[b]? = some (.cells #[a0, a1, a2] 109 (0, 0)) → ∃ (c0 c1 c2 : Value), w'.heap[b]? = some (.cells #[c0, c1, c2] 109 (0, 0))
def pl4R (n : Nat) : Nat → World → World → Prop
  | 15, w, w' => keep3 n w w'
  | _, w, w' => Fr w w' (fun _ => True)
theorem set3_keep {n b : Nat} {w : World} {a0 a1 a2 v0 v1 v2 : Value} (h : w.heap[b]? = some (.cells #[a0, a1, a2] 109 (0, 0))) (hb : n ≤ b) : keep3 n w (((w.setCell ⟨b, 0, none⟩ v0).setCell ⟨b, 1, none⟩ v1).setCell ⟨b, 2, none⟩ v2) :=
  ⟨(set3_fr w b v0 v1 v2).mono (fun g _ hg => by omega), fun g c0 c1 c2 hg => by
    by_cases e : g = b
    · subst e; exact ⟨_, _, _, set3 _ _ _ h⟩
    · exact ⟨c0, c1, c2, (set3_fr w b v0 v1 v2).at hg e⟩⟩
theorem pl4R_fr {n : Nat} {j : Nat} {w w' : World} (h : pl4R n j w w') (hj : j ≠ 15) : Fr w w' (fun _ => True) := by
  unfold pl4R at h
  split at h
  · exact absurd rfl hj
  · exact h

set_option maxRecDepth 100000 in
set_option maxHeartbeats 8000000 in
theorem plan_leaf (S T : List Nd) (w : World) (p pm qm : Nat) (As Ar : Option Addr) (cs cr : Nat) (cnt : Int) (bad okS okT : Nat → Prop) (hT : Tn w p pm qm (.slice As S.length cs) (.slice Ar T.length cr) cnt) (hS : NdsAt w okS S (.slice As S.length cs)) (hR : NdsAt w okT T (.slice Ar T.length cr))
    (hP : PlansOk w pm bad S T) (hpm : bad pm) (i : Int) (k : Nat) (nd : Nd) (hk : T[k]? = some nd) (hiw : (Lit.int .i64 i).wf = true) (hkw : (Lit.int .i64 k).wf = true) (hnk : nd.kind ≠ 13 ∧ nd.kind ≠ 9)
    (hlook : ∀ W, Fr w W (fun _ => True) → (Instr.lookup 67 (.map (some pm)) (pairV i k) true).run Tryz.prog W = .ok (.tuple #[.agg #[.bool false, .int .i64 0, .slice none 0 0], .bool false]) W)
    (hnew : ∀ es, MapL w pm es → ∀ q, q ∈ es → q.1 ≠ pairV i k) :
    Calls Tryz.prog 50 #[.pointer (some ⟨p, 0, none⟩), pairV i k] w (PlanP w pm bad S T i k) := by
  have hb0 : Below w.heap.size w (plW w i k) := ((Below.refl _ w).alloc (Nat.le_refl _) _).alloc (by simp) _
  have hf0 := below_fr0 hb0
  have h0 : (plW w i k).heap[w.heap.size]? = some (.cells #[.int .i64 i, .int .i64 k] 73 (0, 0)) := old_at _ (new_at rfl _)
  have h1 : (plW w i k).heap[w.heap.size + 1]? = some (.cells #[.bool false, .int .i64 0, .slice none 0 0] 109 (0, 0)) := new_at (by simp) _
  have hc := (hT.fr hf0 trivial).box
  have HLK := Lib.hid hlook
  have H0 := Lib.hid h0
  have H1 := Lib.hid h1
  have HC := Lib.hid hc
  have HF0 := Lib.hid hf0
  have HS := Lib.hid hS
  have HR := Lib.hid hR
  have HPP := Lib.hid hP
  have HK := Lib.hid hk
  have HNK := Lib.hid hnk
  have HNEW := Lib.hid hnew
  have HTY := Lib.hid (show ∀ W, Fr w W (fun _ => True) → Calls Tryz.prog 85 #[.agg #[.slice As S.length cs], .int .i64 i, .agg #[.slice Ar T.length cr], .int .i64 k] W fun e w' => e = .returned (.bool (matchT S T i k)) ∧ Below W.heap.size W w' from
    fun W h => types_any S T _ _ i k W okS okT hkw (nds_fr h (fun _ _ => trivial) hS) (nds_fr h (fun _ _ => trivial) hR))
  clear hT hS hR hP hlook hk hnk hnew hb0
  go_enter Tryz.func50, Tryz.ntmps50
  go_upto_region 1 with fail
  change Code.wp _ _ _ _ (plW w i k)
  generalize plW w i k = W0 at *
  have c3 := cell_of_row _ _ 3 _ _ _ hc
  have a0 := cell_of_row _ _ 0 _ _ _ h0
  have a1 := cell_of_row _ _ 1 _ _ _ h0
  have c3o : ∀ o, (W0.alloc o).cell? ⟨p, 3, none⟩ = some (.map (some pm)) := fun o => (fr_all W0 o).cell c3 trivial
  have a0o : ∀ o, (W0.alloc o).cell? ⟨w.heap.size, 0, none⟩ = some (.int .i64 i) := fun o => (fr_all W0 o).cell a0 trivial
  have a1o : ∀ o, (W0.alloc o).cell? ⟨w.heap.size, 1, none⟩ = some (.int .i64 k) := fun o => (fr_all W0 o).cell a1 trivial
  have l3 := HLK.out W0.drew (HF0.out.drewN 1)
  have l4 := fun o => HLK.out (W0.drew.alloc o) ((HF0.out.drewN 1).trans (fr_all W0.drew o))
  have l5 := fun o => HLK.out (W0.alloc o).drew ((HF0.out.trans (fr_all W0 o)).drewN 1)
  clear hc h0 h1
  go_cut [5, 6] (fun a c wx => c = .bool false ∧ Fr W0 wx (fun _ => True))
  case first =>
    go_region_law (fail)
    all_goals
      go_wp2_with fail
      go_meet
      exact ⟨rfl, (fr_all W0 _).drewN 1⟩
  case rest =>
    obtain ⟨rfl, hfc⟩ := hcut
    clear l3 l4 l5 c3o a0o a1o c3 a0 a1
    go_upto_region 4 with fail
    obtain ⟨m, hm⟩ : ∃ m, matchT S T i k = m := ⟨_, rfl⟩
    rw [hm] at HTY
    have HMM := Lib.hid hm
    clear hm
    have HG := Lib.hid (show ∀ W, Fr wc W (fun b => b < wc.heap.size) → W.cell? ⟨p, 0, none⟩ = some (.slice As S.length cs) ∧ W.cell? ⟨p, 1, none⟩ = some (.slice Ar T.length cr) ∧ W.cell? ⟨w.heap.size, 0, none⟩ = some (.int .i64 i) ∧ W.cell? ⟨w.heap.size, 1, none⟩ = some (.int .i64 k) from
      fun W h => by
        have x1 := hfc.at HC.out trivial
        have x2 := hfc.at H0.out trivial
        have y1 := h.at x1 (blk_lt x1)
        have y2 := h.at x2 (blk_lt x2)
        exact ⟨cell_of_row _ _ 0 _ _ _ y1, cell_of_row _ _ 1 _ _ _ y1, cell_of_row _ _ 0 _ _ _ y2, cell_of_row _ _ 1 _ _ _ y2⟩)
    have HT := Lib.hid (show ∀ W, Fr wc W (fun b => b < wc.heap.size) → Calls Tryz.prog 85 #[.agg #[.slice As S.length cs], .int .i64 i, .agg #[.slice Ar T.length cr], .int .i64 k] W fun e w' => e = .returned (.bool m) ∧ Below W.heap.size W w' from
      fun W h => HTY.out W ((HF0.out.trans hfc).trans (h.mono (fun b hb _ => hb) |>.mono (fun b hb _ => hb)))) 
    have HFC := Lib.hid (HF0.out.trans hfc)
    have HCC := Lib.hid (hfc.at HC.out trivial)
    have H0C := Lib.hid (hfc.at H0.out trivial)
    have H1C := Lib.hid (hfc.at H1.out trivial)
    clear hfc
    refine reg_flow (J := pl4J) (fun W => Fr wc W (fun b => b < wc.heap.size)) (pl4R wc.heap.size) pl4D (pl4I p w.heap.size wc.heap.size (.slice As S.length cs) (.slice Ar T.length cr) i k m) (by kernel_rfl) (by kernel_rfl) rfl ?_ ((Fr.refl _ _).drewN 1) ?_ ?_
    · intro i j x v wy wz hij hnd hi hr
      match i, hij, hnd, hi with
      | 0, hij, _, hi => show upd x j v 0 = _; unfold upd; rw [if_neg hij]; exact hi
      | 1, hij, _, hi => show upd x j v 1 = _; unfold upd; rw [if_neg hij]; exact hi
      | 2, hij, _, hi => show upd x j v 2 = _; unfold upd; rw [if_neg hij]; exact hi
      | 3, hij, _, hi => show upd x j v 3 = _; unfold upd; rw [if_neg hij]; exact hi
      | 4, hij, _, hi => show upd x j v 4 = _; unfold upd; rw [if_neg hij]; exact hi
      | 5, hij, _, hi => show upd x j v 5 = _; unfold upd; rw [if_neg hij]; exact hi
      | 6, hij, _, hi => show upd x j v 6 = _; unfold upd; rw [if_neg hij]; exact hi
      | 7, hij, _, hi => show upd x j v 7 = _; unfold upd; rw [if_neg hij]; exact hi
      | 8, hij, _, hi => show upd x j v 8 = _; unfold upd; rw [if_neg hij]; exact hi
      | 9, hij, _, hi => show upd x j v 9 = _; unfold upd; rw [if_neg hij]; exact hi
      | 10, hij, _, hi => show upd x j v 10 = _; unfold upd; rw [if_neg hij]; exact hi
      | 11, hij, _, hi => show upd x j v 11 = _; unfold upd; rw [if_neg hij]; exact hi
      | 12, hij, _, hi => show upd x j v 12 = _; unfold upd; rw [if_neg hij]; exact hi
      | 13, hij, _, hi => show upd x j v 13 = _; unfold upd; rw [if_neg hij]; exact hi
      | 14, hij, hnd, hi =>
        obtain ⟨b, a0, a1, a2, e, hb, hl⟩ := hi
        by_cases hj : j = 15
        · subst hj; obtain ⟨c0, c1, c2, h⟩ := hr.2 _ _ _ _ hl; exact ⟨b, c0, c1, c2, by unfold upd; rw [if_neg hij]; exact e, hb, h⟩
        · exact ⟨b, a0, a1, a2, by unfold upd; rw [if_neg hij]; exact e, hb, (pl4R_fr hr hj).at hl trivial⟩
      | 15, hij, hnd, hi =>
        obtain ⟨b, e, hb, hl⟩ := hi
        exact ⟨b, by unfold upd; rw [if_neg (fun e => hnd (by subst e; decide))]; exact e, hb, (pl4R_fr hr (Ne.symm hij)).at hl trivial⟩
      | m + 16, _, _, _ => trivial
    · refine And.intro ?_ (And.intro ?_ (And.intro ?_ (And.intro ?_ (And.intro ?_ (And.intro ?_ (And.intro ?_ (And.intro ?_ (And.intro ?_ (And.intro ?_ (And.intro ?_ (And.intro ?_ (And.intro ?_ (And.intro ?_ (And.intro ?_ (And.intro ?_ (trivial))))))))))))))))
      · intro x wx hG hd K hK
        clear hd
        obtain ⟨g0, g1, g2, g3⟩ := HG.out wx hG
        simp only [pl4J, fillZ] at hK ⊢
        go_simp
        exact hK _ _ (Fr.refl _ _) hG (by first | rfl | simp [pl4I, upd])
      · intro x wx hG hd K hK
        have d0 : x 0 = .pointer (some ⟨p, 0, none⟩) := hd 0 (by decide)
        clear hd
        obtain ⟨g0, g1, g2, g3⟩ := HG.out wx hG
        simp only [pl4J, fillZ, d0] at hK ⊢
        go_simp
        exact hK _ _ (Fr.refl _ _) hG (by first | rfl | simp [pl4I, upd])
      · intro x wx hG hd K hK
        have d1 : x 1 = .pointer (some ⟨p, 0, none⟩) := hd 1 (by decide)
        clear hd
        obtain ⟨g0, g1, g2, g3⟩ := HG.out wx hG
        simp only [pl4J, fillZ, d1] at hK ⊢
        go_simp
        exact hK _ _ (Fr.refl _ _) hG (by first | rfl | simp [pl4I, upd])
      · intro x wx hG hd K hK
        have d2 : x 2 = .pointer (some ⟨p, 0, none⟩) := hd 2 (by decide)
        clear hd
        obtain ⟨g0, g1, g2, g3⟩ := HG.out wx hG
        simp only [pl4J, fillZ, d2] at hK ⊢
        go_simp
        exact hK _ _ (Fr.refl _ _) hG (by first | rfl | simp [pl4I, upd])
      · intro x wx hG hd K hK
        clear hd
        obtain ⟨g0, g1, g2, g3⟩ := HG.out wx hG
        simp only [pl4J, fillZ] at hK ⊢
        go_simp
        exact hK _ _ (Fr.refl _ _) hG (by first | rfl | simp [pl4I, upd])
      · intro x wx hG hd K hK
        have d4 : x 4 = .pointer (some ⟨w.heap.size, 0, none⟩) := hd 4 (by decide)
        clear hd
        obtain ⟨g0, g1, g2, g3⟩ := HG.out wx hG
        simp only [pl4J, fillZ, d4] at hK ⊢
        go_simp
        exact hK _ _ (Fr.refl _ _) hG (by first | rfl | simp [pl4I, upd])
      · intro x wx hG hd K hK
        clear hd
        obtain ⟨g0, g1, g2, g3⟩ := HG.out wx hG
        simp only [pl4J, fillZ] at hK ⊢
        go_simp
        exact hK _ _ (Fr.refl _ _) hG (by first | rfl | simp [pl4I, upd])
      · intro x wx hG hd K hK
        have d6 : x 6 = .pointer (some ⟨p, 0, none⟩) := hd 6 (by decide)
        clear hd
        obtain ⟨g0, g1, g2, g3⟩ := HG.out wx hG
        simp only [pl4J, fillZ, d6] at hK ⊢
        go_simp
        exact hK _ _ (Fr.refl _ _) hG (by first | rfl | simp [pl4I, upd])
      · intro x wx hG hd K hK
        have d7 : x 7 = .pointer (some ⟨p, 0, none⟩) := hd 7 (by decide)
        clear hd
        obtain ⟨g0, g1, g2, g3⟩ := HG.out wx hG
        simp only [pl4J, fillZ, d7] at hK ⊢
        go_simp
        exact hK _ _ (Fr.refl _ _) hG (by first | rfl | simp [pl4I, upd])
      · intro x wx hG hd K hK
        have d8 : x 8 = .pointer (some ⟨p, 1, none⟩) := hd 8 (by decide)
        clear hd
        obtain ⟨g0, g1, g2, g3⟩ := HG.out wx hG
        simp only [pl4J, fillZ, d8] at hK ⊢
        go_simp
        exact hK _ _ (Fr.refl _ _) hG (by first | rfl | simp [pl4I, upd])
      · intro x wx hG hd K hK
        clear hd
        obtain ⟨g0, g1, g2, g3⟩ := HG.out wx hG
        simp only [pl4J, fillZ] at hK ⊢
        go_simp
        exact hK _ _ (Fr.refl _ _) hG (by first | rfl | simp [pl4I, upd])
      · intro x wx hG hd K hK
        have d10 : x 10 = .pointer (some ⟨w.heap.size, 1, none⟩) := hd 10 (by decide)
        clear hd
        obtain ⟨g0, g1, g2, g3⟩ := HG.out wx hG
        simp only [pl4J, fillZ, d10] at hK ⊢
        go_simp
        exact hK _ _ (Fr.refl _ _) hG (by first | rfl | simp [pl4I, upd])
      · intro x wx hG hd K hK
        have d3 : x 3 = .agg #[.slice As S.length cs] := hd 3 (by decide)
        have d5 : x 5 = .int .i64 i := hd 5 (by decide)
        have d9 : x 9 = .agg #[.slice Ar T.length cr] := hd 9 (by decide)
        have d11 : x 11 = .int .i64 k := hd 11 (by decide)
        clear hd
        obtain ⟨g0, g1, g2, g3⟩ := HG.out wx hG
        simp only [pl4J, fillZ, d3, d5, d9, d11] at hK ⊢
        go_simp
        refine (HT.out wx hG).mono ?_
        rintro e w1 ⟨rfl, hb⟩
        exact hK _ _ (below_fr0 hb) (hG.trans ((below_fr0 hb).mono (fun _ _ _ => trivial))) rfl
      · intro x wx hG hd K hK
        have d12 : x 12 = .bool m := hd 12 (by decide)
        clear hd
        obtain ⟨g0, g1, g2, g3⟩ := HG.out wx hG
        simp only [pl4J, fillZ, d12] at hK ⊢
        go_simp
        exact hK _ _ (Fr.refl _ _) hG (by first | rfl | simp [pl4I, upd])
      · intro x wx hG hd K hK
        clear hd
        obtain ⟨g0, g1, g2, g3⟩ := HG.out wx hG
        simp only [pl4J, fillZ] at hK ⊢
        go_simp
        exact hK _ _ (fr_all wx _) (hG.trans ((fr_all wx _).mono (fun _ _ _ => trivial))) ⟨wx.heap.size, _, _, _, rfl, hG.size, new_at rfl _⟩
      · intro x wx hG hd K hK
        have s14 := hd 14 (by decide)
        have d13 : x 13 = .agg #[.bool m, .int .i64 0, .slice none 0 0] := hd 13 (by decide)
        clear hd
        obtain ⟨g0, g1, g2, g3⟩ := HG.out wx hG
        obtain ⟨b, a0, a1, a2, e14, hnb, hbl⟩ := s14
        obtain ⟨f0, f1, f2, _⟩ := frozen_10 hbl
        have r0 := cell_of_row _ _ 0 _ _ _ hbl
        have r1 := cell_of_row _ _ 1 _ _ _ hbl
        have r2 := cell_of_row _ _ 2 _ _ _ hbl
        have HBL := Lib.hid hbl
        simp only [pl4J, fillZ, d13, e14] at hK ⊢
        go_simp
        exact hK undef _ (set3_keep HBL.out hnb) (hG.trans (set3_keep HBL.out hnb).1) ⟨b, by show upd x 15 undef 14 = _; unfold upd; rw [if_neg (by decide)]; exact e14, hnb, set3 _ _ _ HBL.out⟩
    · intro x wx hG hI
      obtain ⟨b, e14, hnb, hbl⟩ := hI 15 (by decide)
      simp only [pl4J, fillZ, e14]
      clear hI
      show Exit.then _ _ Exit.normal _ wx
      have hfw : Fr w wx (fun b => b < w.heap.size) := (HFC.out.mono (fun _ _ _ => trivial)).trans (hG.mono (fun g hg hlt => by have := HFC.out.size; omega))
      obtain ⟨g, off, A2, n2, c2, A3, n3, c3, A4, n4, c4, A8, n8, c8, rfl, hokg, hgl, hND, hNC⟩ := node_at HR.out HK.out
      have hlk := (List.getElem?_eq_some_iff.1 HK.out).1
      obtain ⟨_, _, _, hsl, hlcr, hmcr, _⟩ := id HR.out
      cases hsl
      unfold maxLen at hmcr
      obtain ⟨z0, z1, z2, z3, z4, z5, z6, z7, z8, z9⟩ := hNC.fr hfw hgl
      have hpb := hG.at HCC.out (blk_lt HCC.out)
      have hPb := hG.at H0C.out (blk_lt H0C.out)
      have hRb := hG.at H1C.out (blk_lt H1C.out)
      have p1 := cell_of_row _ _ 1 _ _ _ hpb
      have a1 := cell_of_row _ _ 1 _ _ _ hPb
      have b0 := cell_of_row _ _ 0 _ _ _ hbl
      have HPB := Lib.hid hpb
      have HPPB := Lib.hid hPb
      have HRB := Lib.hid hRb
      have HBL := Lib.hid hbl
      have HGX := Lib.hid hG
      have HFW := Lib.hid hfw
      clear hpb hPb hRb hbl hG hfw hokg hgl hND hNC
      go_upto_if 35 with fail
      go_cut [8] (fun _ wy => Fr wx wy (fun _ => True))
      case first =>
        cases m with
        | false =>
          go_wp2_with fail
          go_meet
          exact Fr.refl _ _
        | true =>
          have p1o := fun o => (fr_all wx o).cell p1 trivial
          have a1o := fun o => (fr_all wx o).cell a1 trivial
          have y0 := fun o => (fr_all wx o).cell z0 trivial
          have y1 := fun o => (fr_all wx o).cell z1 trivial
          have y2 := fun o => (fr_all wx o).cell z2 trivial
          have y3 := fun o => (fr_all wx o).cell z3 trivial
          have y4 := fun o => (fr_all wx o).cell z4 trivial
          have y5 := fun o => (fr_all wx o).cell z5 trivial
          have y6 := fun o => (fr_all wx o).cell z6 trivial
          have y7 := fun o => (fr_all wx o).cell z7 trivial
          have y8 := fun o => (fr_all wx o).cell z8 trivial
          have y9 := fun o => (fr_all wx o).cell z9 trivial
          obtain ⟨hn13, hn9⟩ := HNK.out
          generalize nd.kind = kd at *
          go_upto_region 6 with fail
          go_region_law (fail)
          all_goals
            go_wp2_with fail
            go_meet
            exact (fr_all wx _).drewN 1
      case rest =>
        have HWC := Lib.hid hcut
        have hpc := hcut.at HPB.out trivial
        have hPc := hcut.at HPPB.out trivial
        have hBc := hcut.at HBL.out trivial
        have hRc := hcut.at HRB.out trivial
        have hfc : Fr w wc (fun b => b < w.heap.size) := HFW.out.trans (hcut.mono (fun _ _ _ => trivial))
        have HFC2 := Lib.hid hfc
        obtain ⟨es, hM, hes⟩ := HPP.out
        have hMc : MapL wc.drew pm es := (hM.fr HFW.out hM.lt).fr (hcut.drewN 1) trivial
        have hks : ∀ q, q ∈ es → ∃ l, keyOf Tryz.prog 73 q.1 = some l := fun q hq => by
          obtain ⟨i', k', src, rfl, h1, h2, _⟩ := hes q hq
          exact ⟨_, pair_key h1 h2⟩
        obtain ⟨w5, hrun, hM5, hf5, hs5⟩ := hMc.more pair_law Tryz.underlying67 hks (pair_key hiw hkw) (HNEW.out es hM) (.agg #[.bool m, .int .i64 0, .slice none 0 0])
        have p3 := cell_of_row _ _ 3 _ _ _ hpc
        have a0 := cell_of_row _ _ 0 _ _ _ hPc
        have a1 := cell_of_row _ _ 1 _ _ _ hPc
        have b0 := cell_of_row _ _ 0 _ _ _ hBc
        have b1 := cell_of_row _ _ 1 _ _ _ hBc
        have b2 := cell_of_row _ _ 2 _ _ _ hBc
        have hlw := hM.lt
        have HLW := Lib.hid hlw
        have hs1 := HFC.out.size
        have hB5 := hf5.at (w := wc.drew) hBc (by omega)
        have hR5 := hf5.at (w := wc.drew) hRc (by omega)
        have d0 := cell_of_row _ _ 0 _ _ _ hB5
        have d1 := cell_of_row _ _ 1 _ _ _ hB5
        have d2 := cell_of_row _ _ 2 _ _ _ hB5
        have e0 := cell_of_row _ _ 0 _ _ _ hR5
        have e1 := cell_of_row _ _ 1 _ _ _ hR5
        have e2 := cell_of_row _ _ 2 _ _ _ hR5
        obtain ⟨f0, f1, f2, _⟩ := frozen_10 hR5
        have HR5 := Lib.hid hR5
        have HM5 := Lib.hid hM5
        have HF5 := Lib.hid hf5
        have HES := Lib.hid hes
        clear hM hes hMc hks hpc hPc hBc hRc hB5 hR5 hf5 hfc hcut hs5 hs1 hlw
        go_upto_region 13 with fail
        go_region_law (fail)
        all_goals
          go_wp2
          have hpl : planR S T i k = m ∧ planB S T i k = 0 ∧ planS S T i k = [] := by
            have hk0 := ndAt_get HK.out
            unfold planR planB planS
            rw [HMM.out, hk0]
            obtain ⟨hn13, hn9⟩ := HNK.out
            cases m <;> simp [hn13, hn9]
          obtain ⟨hp1, hp2, hp3⟩ := hpl
          have fA : Fr w w5 (fun g => g < w.heap.size ∧ g ≠ pm) := ((HFC2.out.drewN 1).mono (fun _ h _ => h)).trans (HF5.out.mono (fun _ _ h => h.2))
          have fB := fA.trans ((set3_fr w5 (w.heap.size + 1) (.bool m) (.int .i64 0) (.slice none 0 0)).mono (fun g _ (h : g < w.heap.size ∧ g ≠ pm) => by omega))
          refine plan_ret (set3 _ _ _ HR5.out) rfl rfl ⟨.slice none 0 0, by rw [planV, hp1, hp2], ?_, ?_, fB.mono (fun g hg hne => ⟨hg, hne⟩)⟩
          · rw [hp3]; exact ints_nil _ _
          · refine ⟨_, HM5.out.fr (set3_fr _ _ _ _ _) (by have := HLW.out; omega), fun q hq => ?_⟩
            rcases List.mem_append.1 hq with hq | hq
            · obtain ⟨i', k', src, e, h1, h2, h3⟩ := HES.out q hq
              exact ⟨i', k', src, e, h1, h2, ints_new h3 fB (fun g hg hb => ⟨hg, fun e => hb (e ▸ hpm)⟩)⟩
            · rw [List.mem_singleton] at hq
              exact ⟨i, k, .slice none 0 0, by rw [hq, planV, hp1, hp2], hiw, hkw, by rw [hp3]; exact ints_nil _ _⟩
end Go.Proofs.YtcmillbjpplfjaaGreatDoor
