/-
  The first line of each law: Default, Fits and Count of one value.
-/
import Derived.Test.YtfboecnhakihnaaGreatDoorJAlone
import Derived.Test.YtfboecnhakihnaaGreatDoorUnx
import Derived.Test.YtfboecnhakihnaaGreatDoorBia
namespace Go.Proofs.YtfboecnhakihnaaGreatDoor
open Go.RowKit

def five : ByteArray := ⟨#[53]⟩
def K1 : js.J := .mk 4 five [] []
def K0 : js.J := .mk 6 ⟨#[]⟩ [K1] []
theorem five1 : js.numN five.data.toList = five.size := by rfl
theorem five2 : five.toList.isEmpty = false := by decide +kernel
theorem five3 : (five.toList == [45, 48]) = false := by decide +kernel
theorem fiveP : Lib.parseIntB 32 five.data.toList = .ok 5 := by rfl
theorem five_parses : ParsesTo five 5 := fun W =>
  (Tryz.strconv_ParseInt_10_at32_ok five (by decide) 5 fiveP W).mono fun e w' ⟨he, hw⟩ => ⟨he, by
    rcases hw with rfl | ⟨t, rfl⟩
    · exact Below.refl _ _
    · exact Joins.below_bytesWorld _ _ _ _ (Nat.le_refl _)⟩
def Y1 (A A' : Option Addr) (c c' : Nat) : js.VT := .mk K1 (.int .i64 4) (.string five) (.slice A 0 c) (.slice A' 0 c') []
theorem jform {w : World} {ok : Nat → Prop} {k : Nat} {t : ByteArray} {l : List js.J} {ks : List ByteArray} {v0 v1 v2 v3 : Value} (h : js.JIn w ok (.mk k t l ks) v0 v1 v2 v3) : ∃ (A A' : Option Addr) (c c' : Nat), v0 = .int .i64 k ∧ v1 = .string t ∧ v2 = .slice A l.length c ∧ v3 = .slice A' ks.length c' := by
  cases h with
  | mk _ _ _ _ A A' cap cap' c => exact ⟨A, A', cap, cap', rfl, rfl, rfl, rfl⟩
theorem vt5 {w : World} {ok : Nat → Prop} {v0 v1 v2 v3 : Value} {kids : List js.VT} (h : js.VIn w ok (.mk K0 v0 v1 v2 v3 kids)) : ∃ A1 A1' c1 c1', kids = [Y1 A1 A1' c1 c1'] := by
  have ht := h.ts
  have hk := h.kid
  simp only [js.VT.kids, js.VT.t, K0, js.J.l] at ht hk
  match kids, ht, hk with
  | [], ht, _ => simp at ht
  | _ :: _ :: _, ht, _ => simp at ht
  | [a], ht, hk =>
    simp only [List.map_cons, List.map_nil, List.cons.injEq, and_true] at ht
    have ha := hk a (by simp)
    match a, ha, ht with
    | .mk ta a0 a1 a2 a3 ka, ha, ha1 =>
      simp only [js.VT.t] at ha1
      subst ha1
      have hta := ha.ts
      obtain ⟨A1, A1', c1, c1', f0, f1, f2, f3⟩ := jform ha.jin
      simp only [js.VT.kids, js.VT.t, K1, js.J.l, List.map_eq_nil_iff, js.VT.v0, js.VT.v1, js.VT.v2, js.VT.v3] at hta f0 f1 f2 f3
      subst hta f0 f1 f2 f3
      exact ⟨A1, A1', c1, c1', rfl⟩
set_option maxRecDepth 100000 in
theorem right5 (lb : Nat) (w : World) (hG : js.Gl w) (hl : w.heap[lb]? = some (.cells #[.int .i64 4, .string five, zs, zs] 37 (0, 0))) :
    Calls Tryz.prog 37 #[.agg #[.int .i64 6, .string ⟨#[]⟩, .slice (some ⟨lb, 0, none⟩) 1 1, zs]] w fun e w' => e = .returned (.bool true) ∧ Below w.heap.size w w' := by
  have hlt := blk_lt hl
  have hj1 : js.JIn w (fun k => k < w.heap.size) K1 (.int .i64 4) (.string five) zs zs :=
    .mk 4 five [] [] none none 0 0 (fun _ _ => undef) ⟨by simp, by unfold maxLen; omega⟩ ⟨by simp, by unfold maxLen; omega⟩ (by simp) (by simp) (by simp)
  have hj : js.JIn w (fun k => k < w.heap.size) K0 (.int .i64 6) (.string ⟨#[]⟩) (.slice (some ⟨lb, 0, none⟩) 1 1) zs :=
    .mk 6 ⟨#[]⟩ [K1] [] (some ⟨lb, 0, none⟩) none 1 0 (fun _ j => if j = 0 then .int .i64 4 else if j = 1 then .string five else zs) ⟨by simp, by unfold maxLen; omega⟩ ⟨by simp, by unfold maxLen; omega⟩
      (fun _ => ⟨lb, 0, rfl, hlt, fun i j hi hj => by
        obtain rfl : i = 0 := by simpa using hi
        match j, hj with
        | 0, _ => exact cell_of_row _ _ 0 _ _ _ hl
        | 1, _ => exact cell_of_row _ _ 1 _ _ _ hl
        | 2, _ => exact cell_of_row _ _ 2 _ _ _ hl
        | 3, _ => exact cell_of_row _ _ 3 _ _ _ hl⟩) (by simp)
      (fun i t' ht => by
        match i, ht with
        | 0, ht => cases ht; exact hj1)
  obtain ⟨kids, hv⟩ := hj.vt
  obtain ⟨A1, A1', c1, c1', rfl⟩ := vt5 hv
  have hpre : js.pre 0 (.mk K0 (.int .i64 6) (.string ⟨#[]⟩) (.slice (some ⟨lb, 0, none⟩) 1 1) zs [Y1 A1 A1' c1 c1']) = [(0, .mk K0 (.int .i64 6) (.string ⟨#[]⟩) (.slice (some ⟨lb, 0, none⟩) 1 1) zs [Y1 A1 A1' c1 c1']), (1, Y1 A1 A1' c1 c1')] := by
    simp only [js.pre, js.preL, Y1, List.append_nil]
  refine js.right_true (.mk K0 (.int .i64 6) (.string ⟨#[]⟩) (.slice (some ⟨lb, 0, none⟩) 1 1) zs [Y1 A1 A1' c1 c1']) w hG hv (by rw [hpre]; simp) ?_
  intro d x hx W hW hvW
  rw [hpre] at hx
  simp only [List.mem_cons, List.not_mem_nil, or_false, Prod.mk.injEq] at hx
  rcases hx with ⟨rfl, rfl⟩ | ⟨rfl, rfl⟩
  · exact js.alone_arr 0 1 1 0 (some ⟨lb, 0, none⟩) none W (by omega)
  · exact js.alone_num 1 c1 c1' five A1 A1' W (by decide) five2 five1 five3
def Nz (k it : Int) : Nd := ⟨k, ⟨#[]⟩, [], [], [], false, ⟨#[]⟩, it, [], 0⟩
theorem nz_in (w : World) (ok : Nat → Prop) (k it : Int) (c : Nat → Value) (h : ∀ j, j < 10 → #[Value.int .i64 k, .string ⟨#[]⟩, zs, zs, zs, .bool false, .string ⟨#[]⟩, .int .i64 it, zs, .int .i64 0][j]? = some (c j)) (hk : (Lit.int .i64 k).wf = true) (hi : (Lit.int .i64 it).wf = true) : NdIn w ok (Nz k it) c where
  kind := (Option.some.inj (h 0 (by omega))).symm
  name := (Option.some.inj (h 1 (by omega))).symm
  al := ⟨none, 0, (Option.some.inj (h 2 (by omega))).symm, Nat.le_refl _, by unfold maxLen; omega, by simp [Nz], by simp [Nz]⟩
  fs := ⟨none, 0, fun _ _ => undef, (Option.some.inj (h 3 (by omega))).symm, Nat.le_refl _, by unfold maxLen; omega, by simp [Nz], by simp [Nz]⟩
  sy := ⟨none, 0, (Option.some.inj (h 4 (by omega))).symm, Nat.le_refl _, by unfold maxLen; omega, by simp [Nz], by simp [Nz]⟩
  has := (Option.some.inj (h 5 (by omega))).symm
  dflt := (Option.some.inj (h 6 (by omega))).symm
  items := (Option.some.inj (h 7 (by omega))).symm
  br := ⟨none, 0, (Option.some.inj (h 8 (by omega))).symm, Nat.le_refl _, by unfold maxLen; omega, by simp [Nz], by simp [Nz]⟩
  size := (Option.some.inj (h 9 (by omega))).symm
  kindw := hk
  itemsw := hi
  sizew := show (Lit.int .i64 0).wf = true by decide
  namel := Nat.zero_le _
  dfltl := Nat.zero_le _
def nsc : Nat → Nat → Value := fun i j => (nodes2[10 * i + j]?).getD undef
theorem nds2 (w : World) (g : Nat) (hg : w.heap[g]? = some (.cells nodes2 61 (0, 0))) : NdsAt w (fun b => b < w.heap.size) [Nz 11 1, Nz 3 0] (.slice (some ⟨g, 0, none⟩) 2 2) := by
  refine ⟨some ⟨g, 0, none⟩, 2, nsc, rfl, by simp, by unfold maxLen; omega, fun _ => ⟨g, 0, rfl, blk_lt hg, fun i j hi hj => ?_⟩, fun i x hx => ?_⟩
  · have hi' : i < 2 := by simpa using hi
    rw [Nat.zero_add, cell_of_row _ _ _ _ _ _ hg]
    unfold nsc
    rw [List.getElem?_toArray]
    have : 10 * i + j < nodes2.toList.length := by simp; omega
    rw [List.getElem?_eq_getElem (by simpa using this)]
    rfl
  · match i, hx with
    | 0, hx => cases hx; exact nz_in _ _ _ _ _ (fun j hj => by match j, hj with | 0, _ => rfl | 1, _ => rfl | 2, _ => rfl | 3, _ => rfl | 4, _ => rfl | 5, _ => rfl | 6, _ => rfl | 7, _ => rfl | 8, _ => rfl | 9, _ => rfl) (by decide) (by decide)
    | 1, hx => cases hx; exact nz_in _ _ _ _ _ (fun j hj => by match j, hj with | 0, _ => rfl | 1, _ => rfl | 2, _ => rfl | 3, _ => rfl | 4, _ => rfl | 5, _ => rfl | 6, _ => rfl | 7, _ => rfl | 8, _ => rfl | 9, _ => rfl) (by decide) (by decide)
def V1 : U := .mk 3 5 [] [] []
def V0 : U := .mk 11 0 [] [V1] []
theorem v_in (w : World) (u : Value) (base : Nat) (hu : w.ownsRow base 29 5 u 1 [.int .i64 3, .int .i64 5, zs, zs, zs]) : UIn w (fun b => b < w.heap.size) V0 (.int .i64 11) (.int .i64 0) zs u zs := by
  obtain ⟨A, cap, rfl, h1, h2, h3⟩ := own_open hu (by omega)
  obtain ⟨g, rfl, hgb, hc⟩ := h3 (by omega)
  refine .mk 11 0 [] [V1] [] none (some ⟨g, 0, none⟩) none 0 cap 0 (fun _ j => if j = 0 then .int .i64 3 else if j = 1 then .int .i64 5 else zs) (by decide) (by decide) (by simp) (by simp) ⟨Nat.le_refl _, by unfold maxLen; omega⟩ ⟨h1, h2⟩ ⟨Nat.le_refl _, by unfold maxLen; omega⟩ (by simp) (fun _ => ⟨g, 0, rfl, (hu.lt g rfl).2, fun i j hi hj => ?_⟩) (by simp) (fun i z hz => ?_)
  · obtain rfl : i = 0 := by simpa using hi
    rw [Nat.zero_add, Nat.mul_zero, Nat.zero_add]
    match j, hj with
    | 0, _ => exact hc 0 _ rfl
    | 1, _ => exact hc 1 _ rfl
    | 2, _ => exact hc 2 _ rfl
    | 3, _ => exact hc 3 _ rfl
    | 4, _ => exact hc 4 _ rfl
  · match i, hz with
    | 0, hz => cases hz; exact .mk 3 5 [] [] [] none none none 0 0 0 (fun _ _ => undef) (by decide) (by decide) (by simp) (by simp) ⟨Nat.le_refl _, by unfold maxLen; omega⟩ ⟨Nat.le_refl _, by unfold maxLen; omega⟩ ⟨Nat.le_refl _, by unfold maxLen; omega⟩ (by simp) (by simp) (by simp) (by simp)
theorem fits_v0 : fitsU (aloneV (fun _ => false) (fun _ => false)) [Nz 11 1, Nz 3 0] 0 V0 = true := by decide +kernel
set_option maxRecDepth 100000 in
set_option maxHeartbeats 2000000 in
theorem vawake (w : World) (hG : js.Gl w) : Calls Tryz.prog 9 #[] w fun e w' => e = .returned (.bool true) ∧ Below w.heap.size w w' := by
  have HG := Lib.hid hG
  clear hG
  obtain ⟨W0, hW0⟩ : ∃ W0, ((w.alloc (.cells nodes2 61)).alloc (.cells #[.slice (some ⟨w.heap.size, 0, none⟩) 2 2] 24)).alloc (.cells #[.int .i64 4, .string ⟨#[53]⟩, .slice none 0 0, .slice none 0 0] 37) = W0 := ⟨_, rfl⟩
  have hb0 : Below w.heap.size w W0 := by rw [← hW0]; exact (((Below.refl _ w).alloc (Nat.le_refl _) _).alloc (by simp) _).alloc (by simp; omega) _
  have hs0 : W0.heap.size = w.heap.size + 3 := by rw [← hW0]; simp
  have n0 : W0.heap[w.heap.size]? = some (.cells nodes2 61 (0, 0)) := by rw [← hW0]; exact old_at _ (old_at _ (new_at rfl _))
  have s0 : W0.heap[w.heap.size + 1]? = some (.cells #[.slice (some ⟨w.heap.size, 0, none⟩) 2 2] 24 (0, 0)) := by rw [← hW0]; exact old_at _ (new_at (by simp) _)
  have l0 : W0.heap[w.heap.size + 2]? = some (.cells #[.int .i64 4, .string five, zs, zs] 37 (0, 0)) := by rw [← hW0]; exact new_at (by simp) _
  have hdef := default_one five 5 five_parses w.heap.size (w.heap.size + 2) W0 l0 n0 (fun W hW => right5 _ W (HG.out.below (hb0.trans (hW.mono hb0.size))) ((below_fr0 hW).at l0 trivial))
  go_enter Tryz.func9, Tryz.ntmps9
  go_wp2_with fail
  clear hW0
  refine hdef.mono ?_
  rintro e w1 ⟨u, rfl, how, hb1⟩
  have hbw1 := hb0.trans (hb1.mono hb0.size)
  obtain ⟨Au, cu, hu, _⟩ := own_open how (by omega)
  subst hu
  have n1 := (below_fr0 hb1).at n0 trivial
  have s1 := (below_fr0 hb1).at s0 trivial
  go_upto_region 3 with fail
  obtain ⟨W2, hW2⟩ : ∃ W2, w1.alloc (.cells #[.int .i64 11, .int .i64 0, zs, .slice Au 1 cu, zs] 29) = W2 := ⟨_, rfl⟩
  have hf2 : Fr w1 W2 (fun _ => True) := by rw [← hW2]; exact (Fr.refl w1 _).alloc _
  have hb2 : Below w.heap.size w W2 := hbw1.trans ⟨hf2.os, hf2.tape, hf2.output, hf2.size, fun i hi => hf2.block i (by have := hbw1.size; omega) trivial⟩
  have hv := v_in W2 _ _ (ownsRow_fr how hf2 (fun _ _ => trivial))
  have v2 : W2.heap[w1.heap.size]? = some (.cells #[.int .i64 11, .int .i64 0, zs, .slice Au 1 cu, zs] 29 (0, 0)) := by rw [← hW2]; exact new_at rfl _
  have s2 := hf2.at s1 trivial
  have hfit := fits_any (aloneV (fun _ => false) (fun _ => false)) [Nz 11 1, Nz 3 0] (alone_leaves _ _ _) (by simp) 0 V0 (by decide) (by decide) W2 _ _ _ _ _ _ hv (nds2 W2 w.heap.size (hf2.at n1 trivial)) (by
    intro W hW nd c x d0 d1 d2 d3 d4 hnd hn hx _
    have hk : nd.kind = 11 ∨ nd.kind = 3 := by
      simp only [List.mem_cons, List.not_mem_nil, or_false] at hnd
      rcases hnd with rfl | rfl
      · exact .inl rfl
      · exact .inr rfl
    exact alone_any _ _ nd c W _ _ hn x d0 d1 d2 d3 d4 hx (fun h => by omega) (fun h => by omega))
  rw [fits_v0] at hfit
  obtain ⟨p0, p1, p2, p3, p4⟩ := cells_5 v2
  have q0 : W2.cell? ⟨w.heap.size + 1, 0, none⟩ = some (.slice (some ⟨w.heap.size, 0, none⟩) 2 2) := cell_of_row _ _ 0 _ _ _ s2
  have HV := Lib.hid hv
  clear how hv n0 s0 l0 n1 s1 hdef
  go_wp2_with fail
  refine hfit.mono ?_
  rintro e w3 ⟨rfl, hb3⟩
  have hv3 := (HV.out.fr (ok' := fun _ => True) (below_fr0 hb3) (fun _ _ => trivial)).mono (ok' := fun b => b < w3.heap.size) (fun b hb _ => hb)
  have v3 := (below_fr0 hb3).at v2 trivial
  have hcnt := count_any V0 w3 _ _ _ _ _ ((HV.out.fr (ok' := fun b => b < W2.heap.size) (below_fr hb3) (fun _ h => h)).mono (fun b _ hb => Nat.lt_of_lt_of_le hb hb3.size)) (by decide)
  rw [show uc V0 = 2 by decide] at hcnt
  clear p0 p1 p2 p3 p4 q0 hfit
  obtain ⟨p0, p1, p2, p3, p4⟩ := cells_5 v3
  go_wp2_with fail
  refine hcnt.mono ?_
  rintro e w4 ⟨rfl, hb4⟩
  have hb3' := hb2.trans (hb3.mono hb2.size)
  go_wp2
  go_ret
  exact ⟨rfl, hb3'.trans (hb4.mono hb3'.size)⟩
end Go.Proofs.YtfboecnhakihnaaGreatDoor
