/-
  The first line of each law: Parse and Print of one text.
-/
import Derived.Test.YtjcnjaebmndeiaaDoorApv
import Derived.Test.YtjcnjaebmndeiaaDoorParse
import Derived.Test.YtjcnjaebmndeiaaDoorAlone
namespace Go.Proofs.YtjcnjaebmndeiaaDoor
open Go.RowKit

def J1 : J := .mk 4 ⟨#[49]⟩ [] []
def J2 : J := .mk 5 ⟨#[97]⟩ [] []
def J0 : J := .mk 6 ⟨#[]⟩ [J1, J2] []
theorem parse0 : parseM [91, 49, 44, 32, 34, 97, 34, 93] = .ok J0 := by rfl
theorem n1 : numN [49] = 1 := by rfl
theorem n2 : (⟨#[49]⟩ : ByteArray).toList.isEmpty = false := by decide +kernel
theorem n3 : ((⟨#[49]⟩ : ByteArray).toList == [45, 48]) = false := by decide +kernel
theorem v97 : Lib.validD [97] = true := by decide +kernel
theorem JIn.form4 {w : World} {ok : Nat → Prop} {k : Nat} {t : ByteArray} {l : List J} {ks : List ByteArray} {v0 v1 v2 v3 : Value} (h : JIn w ok (.mk k t l ks) v0 v1 v2 v3) : ∃ (A A' : Option Addr) (c c' : Nat), v0 = .int .i64 k ∧ v1 = .string t ∧ v2 = .slice A l.length c ∧ v3 = .slice A' ks.length c' := by
  cases h with
  | mk _ _ _ _ A A' cap cap' c => exact ⟨A, A', cap, cap', rfl, rfl, rfl, rfl⟩
def X1 (A A' : Option Addr) (c c' : Nat) : VT := .mk J1 (.int .i64 4) (.string ⟨#[49]⟩) (.slice A 0 c) (.slice A' 0 c') []
def X2 (A A' : Option Addr) (c c' : Nat) : VT := .mk J2 (.int .i64 5) (.string ⟨#[97]⟩) (.slice A 0 c) (.slice A' 0 c') []
theorem vt0 {w : World} {ok : Nat → Prop} {v0 v1 v2 v3 : Value} {kids : List VT} (h : VIn w ok (.mk J0 v0 v1 v2 v3 kids)) :
    ∃ A A' c c' A1 A1' c1 c1' A2 A2' c2 c2', v0 = .int .i64 6 ∧ v1 = .string ⟨#[]⟩ ∧ v2 = .slice A 2 c ∧ v3 = .slice A' 0 c' ∧ kids = [X1 A1 A1' c1 c1', X2 A2 A2' c2 c2'] := by
  obtain ⟨A, A', c, c', e0, e1, e2, e3⟩ := JIn.form4 h.jin
  have ht := h.ts
  have hk := h.kid
  simp only [VT.kids, VT.t, J0, J.l] at ht hk
  match kids, ht, hk with
  | [], ht, _ => simp at ht
  | [_], ht, _ => simp at ht
  | _ :: _ :: _ :: _, ht, _ => simp at ht
  | [a, b], ht, hk =>
    simp only [List.map_cons, List.map_nil, List.cons.injEq, and_true] at ht
    have ha := hk a (by simp)
    have hb := hk b (by simp)
    obtain ⟨ha1, hb1⟩ := ht
    match a, ha, ha1 with
    | .mk ta a0 a1 a2 a3 ka, ha, ha1 =>
      match b, hb, hb1 with
      | .mk tb b0 b1 b2 b3 kb, hb, hb1 =>
        simp only [VT.t] at ha1 hb1
        subst ha1 hb1
        have hta := ha.ts
        have htb := hb.ts
        obtain ⟨A1, A1', c1, c1', f0, f1, f2, f3⟩ := JIn.form4 ha.jin
        obtain ⟨A2, A2', c2, c2', g0, g1, g2, g3⟩ := JIn.form4 hb.jin
        simp only [VT.kids, VT.t, J1, J2, J.l, List.map_eq_nil_iff, VT.v0, VT.v1, VT.v2, VT.v3] at hta htb f0 f1 f2 f3 g0 g1 g2 g3 e0 e1 e2 e3
        subst hta htb f0 f1 f2 f3 g0 g1 g2 g3
        exact ⟨A, A', c, c', A1, A1', c1, c1', A2, A2', c2, c2', e0, e1, e2, e3, rfl⟩
def pr0 (x : VT) : Bs := match x.t with
  | .mk 4 t _ _ => t.data.toList
  | .mk _ t _ _ => [34] ++ t.data.toList ++ [34]
theorem VIn.inside {w : World} {ok : Nat → Prop} {x : VT} (h : VIn w ok x) : VIn w (fun k => k < w.heap.size) x := by
  induction h with
  | mk t v0 v1 v2 v3 kids hs hj ht _ ih =>
    refine .mk t v0 v1 v2 v3 kids ?_ (hj.mono (fun b hb _ => hb)) ht ih
    obtain ⟨A, cap, e, h1, h2, h3⟩ := hs
    refine ⟨A, cap, e, h1, h2, fun hp => ?_⟩
    obtain ⟨g, off, ea, ho, hc⟩ := h3 hp
    refine ⟨g, off, ea, ?_, hc⟩
    obtain ⟨x, hx⟩ : ∃ x, kids[0]? = some x := ⟨_, List.getElem?_eq_getElem hp⟩
    exact World.block_lt_of_cell? w ⟨g, _, none⟩ (hc 0 x hx).1
set_option maxRecDepth 100000 in
theorem right0 (A A' : Option Addr) (c c' : Nat) (A1 A1' : Option Addr) (c1 c1' : Nat) (A2 A2' : Option Addr) (c2 c2' : Nat) (w : World) (hG : Gl w)
    (hv : VIn w (fun k => k < w.heap.size) (.mk J0 (.int .i64 6) (.string ⟨#[]⟩) (.slice A 2 c) (.slice A' 0 c') [X1 A1 A1' c1 c1', X2 A2 A2' c2 c2'])) :
    Calls Tryd.prog 18 #[jv 6 ⟨#[]⟩ A A' 2 c 0 c'] w fun e w' => e = .returned (.bool true) ∧ Below w.heap.size w w' := by
  have hpre : pre 0 (.mk J0 (.int .i64 6) (.string ⟨#[]⟩) (.slice A 2 c) (.slice A' 0 c') [X1 A1 A1' c1 c1', X2 A2 A2' c2 c2']) = [(0, .mk J0 (.int .i64 6) (.string ⟨#[]⟩) (.slice A 2 c) (.slice A' 0 c') [X1 A1 A1' c1 c1', X2 A2 A2' c2 c2']), (1, X1 A1 A1' c1 c1'), (1, X2 A2 A2' c2 c2')] := by
    simp only [pre, preL, X1, X2, List.append_nil, List.cons_append, List.nil_append]
  refine right_true (.mk J0 (.int .i64 6) (.string ⟨#[]⟩) (.slice A 2 c) (.slice A' 0 c') [X1 A1 A1' c1 c1', X2 A2 A2' c2 c2']) w hG hv (by rw [hpre]; simp) ?_
  intro d x hx W hW hvW
  rw [hpre] at hx
  simp only [List.mem_cons, List.not_mem_nil, or_false, Prod.mk.injEq] at hx
  rcases hx with ⟨rfl, rfl⟩ | ⟨rfl, rfl⟩ | ⟨rfl, rfl⟩
  · exact alone_arr 0 2 c c' A A' W (by omega)
  · exact alone_num 1 c1 c1' ⟨#[49]⟩ A1 A1' W (by decide) n2 n1 n3
  · refine alone_str 1 c2 c2' ⟨#[97]⟩ A2 A2' W hW (fun W' hG' => ?_)
    have := Tryd.utf8_ValidString ⟨#[97]⟩ W' (by decide) hG'.u8
    rw [v97] at this
    exact this
theorem kc1 (B : Nat) (A1 A1' : Option Addr) (c1 c1' : Nat) : KC B pr0 (X1 A1 A1' c1 c1') := fun v l W hown hB hl _ _ =>
  value_num B v l ⟨#[49]⟩ A1 A1' 0 c1 0 c1' W hown hB (by have : (⟨#[49]⟩ : ByteArray).size = 1 := rfl; omega)
theorem kc2 (B : Nat) (A1 A1' : Option Addr) (c1 c1' : Nat) : KC B pr0 (X2 A1 A1' c1 c1') := fun v l W hown hB hl _ _ =>
  value_st B v l ⟨#[97]⟩ A1 A1' 0 c1 0 c1' W hown hB (by omega) (by decide) (by intro c hc; simp at hc; subst hc; decide)
set_option maxHeartbeats 1000000 in
set_option maxRecDepth 100000 in
theorem print0 (A A' : Option Addr) (c c' : Nat) (A1 A1' : Option Addr) (c1 c1' : Nat) (A2 A2' : Option Addr) (c2 c2' : Nat) (w : World) (hG : Gl w) (h4 : 4 ≤ w.heap.size)
    (hv : VIn w (fun k => k < w.heap.size) (.mk J0 (.int .i64 6) (.string ⟨#[]⟩) (.slice A 2 c) (.slice A' 0 c') [X1 A1 A1' c1 c1', X2 A2 A2' c2 c2'])) :
    Calls Tryd.prog 20 #[jv 6 ⟨#[]⟩ A A' 2 c 0 c'] w fun e w' => e = .returned (.string ⟨#[91, 49, 44, 34, 97, 34, 93]⟩) ∧ Below w.heap.size w w' := by
  have hb0 : Below w.heap.size w (w.alloc (.cells #[.int .i64 6, .string ⟨#[]⟩, .slice A 2 c, .slice A' 0 c'] 26)) := (Below.refl _ _).alloc (Nat.le_refl _) _
  have hbx := heap_alloc_new w (.cells #[.int .i64 6, .string ⟨#[]⟩, .slice A 2 c, .slice A' 0 c'] 26 (0, 0))
  have hv0 := (hv.fr (below_fr hb0) (fun _ h => h)).mono (ok' := fun k => k < (w.alloc (.cells #[.int .i64 6, .string ⟨#[]⟩, .slice A 2 c, .slice A' 0 c'] 26)).heap.size) (fun b (h : b < w.heap.size) => by simp; omega)
  have hr0 := right0 A A' c c' A1 A1' c1 c1' A2 A2' c2 c2' _ (hG.below hb0) hv0
  have hG0 := hG.below hb0
  have hs0 : w.heap.size < (w.alloc (.cells #[.int .i64 6, .string ⟨#[]⟩, .slice A 2 c, .slice A' 0 c'] 26)).heap.size := by simp
  have HG := Lib.hid hG0
  have HV := Lib.hid hv0
  clear hG hG0 hv hv0
  go_enter Tryd.func20, Tryd.ntmps20
  go_wp2_with fail
  refine hr0.mono ?_
  rintro e w1 ⟨rfl, hb1⟩
  have hB1 : w1.heap[w.heap.size]? = some (.cells #[.int .i64 6, .string ⟨#[]⟩, .slice A 2 c, .slice A' 0 c'] 26) := (hb1.block _ hs0).trans hbx
  have q0 : w1.cell? ⟨w.heap.size, 0, none⟩ = some (.int .i64 6) := cell_of_row w1 _ 0 _ _ _ hB1
  have q1 : w1.cell? ⟨w.heap.size, 1, none⟩ = some (.string ⟨#[]⟩) := cell_of_row w1 _ 1 _ _ _ hB1
  have q2 : w1.cell? ⟨w.heap.size, 2, none⟩ = some (.slice A 2 c) := cell_of_row w1 _ 2 _ _ _ hB1
  have q3 : w1.cell? ⟨w.heap.size, 3, none⟩ = some (.slice A' 0 c') := cell_of_row w1 _ 3 _ _ _ hB1
  have hsz := hb1.size
  have hv1 : VIn w1 (fun k => k < w1.heap.size) (.mk J0 (.int .i64 6) (.string ⟨#[]⟩) (.slice A 2 c) (.slice A' 0 c') [X1 A1 A1' c1 c1', X2 A2 A2' c2 c2']) :=
    (VIn.fr (below_fr hb1) (fun _ h => h) HV).mono (fun b h => Nat.lt_of_lt_of_le h hsz)
  have hm0 : memL pr0 [X1 A1 A1' c1 c1', X2 A2 A2' c2 c2'] = [49, 44, 34, 97, 34] := rfl
  have hcall := value_ar w1.heap.size pr0 [] (.slice none 0 0) ⟨#[]⟩ A A' c 0 c' [X1 A1 A1' c1 c1', X2 A2 A2' c2 c2'] w1 (Gl.below HG hb1) (World.ownsRow_nil _ _ _ _) (Nat.le_refl _) (by omega) (by rw [hm0]; decide) (by simp) hv1.sl hv1.kid
    (fun x hx => by
      simp only [List.mem_cons, List.not_mem_nil, or_false] at hx
      rcases hx with rfl | rfl
      · exact kc1 _ _ _ _ _
      · exact kc2 _ _ _ _ _)
  rw [hm0] at hcall
  clear hv1 HG HV hB1 hbx hr0 hm0
  go_wp2_with fail
  refine hcall.mono ?_
  rintro e w2 ⟨v2, rfl, hown2, hg2, _⟩
  have hcv := run_string_own hown2
  go_wp2
  go_ret
  refine ⟨rfl, hb0.trans ((hb1.mono (by omega)).trans ((?_ : Below w1.heap.size w1 w2).mono (by omega)))⟩
  exact ⟨hg2.os, hg2.tape, hg2.output, hg2.size, fun k hk => hg2.block k hk (by simp [Value.ownBlock])⟩
set_option maxHeartbeats 1000000 in
set_option maxRecDepth 100000 in
theorem awake (w : World) (hG : Gl w) (h4 : 4 ≤ w.heap.size) : Calls Tryd.prog 11 #[] w fun e w' => e = .returned (.bool true) ∧ Below w.heap.size w w' := by
  have hp := parse_any ⟨#[91, 49, 44, 32, 34, 97, 34, 93]⟩ w hG
  have hp0 : parseM (⟨#[91, 49, 44, 32, 34, 97, 34, 93]⟩ : ByteArray).data.toList = .ok J0 := parse0
  rw [hp0] at hp
  clear hp0
  have HG := Lib.hid hG
  clear hG
  go_enter Tryd.func11, Tryd.ntmps11
  go_wp2_with fail
  refine hp.mono ?_
  rintro e w1 ⟨hb1, v0, v1, v2, v3, rfl, hj⟩
  obtain ⟨kids, hv⟩ := hj.vt
  obtain ⟨A, A', c, c', A1, A1', c1, c1', A2, A2', c2, c2', rfl, rfl, rfl, rfl, rfl⟩ := vt0 hv
  clear hj hp
  have hb2 : Below w1.heap.size w1 (w1.alloc (.cells #[.int .i64 6, .string ⟨#[]⟩, .slice A 2 c, .slice A' 0 c'] 26)) := (Below.refl _ _).alloc (Nat.le_refl _) _
  have hsz := hb1.size
  have hpr := print0 A A' c c' A1 A1' c1 c1' A2 A2' c2 c2' _ ((Gl.below HG hb1).below hb2) (by simp; omega) (VIn.fr (below_fr hb2) (fun _ h => h) hv.inside).inside
  clear hv
  go_wp2_with fail
  refine hpr.mono ?_
  rintro e w2 ⟨rfl, hb3⟩
  go_wp2
  go_ret
  refine ⟨rfl, hb1.trans ((hb2.mono (by omega)).trans (hb3.mono (by simp; omega)))⟩
end Go.Proofs.YtjcnjaebmndeiaaDoor
