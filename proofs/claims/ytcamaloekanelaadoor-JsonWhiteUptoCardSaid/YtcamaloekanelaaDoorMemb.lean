/-
  'appendMembers' of an array, 'appendValue' of an array, a number, a string.
-/
import Derived.Test.YtcamaloekanelaaDoorApp
namespace Go.Proofs.YtcamaloekanelaaDoor
open Go.RowKit

theorem ARel.post {w wr w5 : World} {B bb : Nat} {v v' v5 : Value} {l l5 : Bs} (h : ARel w B bb v l v' wr) (hbb : bb < wr.heap.size) (hown : w5.ownsRow B 5 1 v5 l5.length (Lib.byteCells l5)) (hg : wr.grownBy w5 v'.ownBlock) (hb : v5.ownBlock = v'.ownBlock ∨ ∃ g, v5.ownBlock = some g ∧ wr.heap.size ≤ g) :
    ARel w B bb v l5 v5 w5 ∧ Fr wr w5 (fun k => k = bb) := by
  obtain ⟨h1, h2, h3, h4, h5⟩ := h
  have hf : Fr wr w5 (fun k => some k ≠ v'.ownBlock) := Fr.of hg (fun _ _ h => h)
  refine ⟨⟨hown, ⟨hf.os.trans h2.os, hf.tape.trans h2.tape, hf.output.trans h2.output, Nat.le_trans h2.size hf.size, fun k hk hn => ?_⟩, ?_, Nat.le_trans h4 hf.size, ?_⟩, hf.mono (fun k _ e => by subst e; exact fun e' => h5 e'.symm)⟩
  · refine (hf.block k (by have := h2.size; omega) (fun e => ?_)).trans (h2.block k hk hn)
    rcases h3 with e3 | ⟨g, e3, hg3⟩
    · exact hn (by rw [e, e3])
    · rw [e3] at e; cases e; omega
  · rcases hb with e | ⟨g, e, hg'⟩
    · rw [e]; exact h3
    · exact .inr ⟨g, e, by have := h2.size; omega⟩
  · rcases hb with e | ⟨g, e, hg'⟩
    · rw [e]; exact h5
    · rw [e]; intro e'; cases e'; omega
theorem ARel.alloc {w wr : World} {B bb : Nat} {v v' : Value} {l : Bs} (h : ARel w B bb v l v' wr) (o : Obj) : ARel w B bb v l v' (wr.alloc o) :=
  ⟨h.1.alloc o, gtrans h.2.1 (World.grownBy_alloc wr o _), h.2.2.1, by have := h.2.2.2.1; simp; omega, h.2.2.2.2⟩
/-- Below the rows' base all is as it was. -/
theorem ARel.fr {w wr : World} {B bb : Nat} {v v' : Value} {l : Bs} (h : ARel w B bb v l v' wr) (hv : ∀ g, v.ownBlock = some g → B ≤ g) : Fr w wr (fun k => k < B) := Fr.of h.2.1 (fun k _ hk e => by have := hv k e.symm; omega)

/-- The members, commas between. -/
def memL (pr : VT → Bs) : List VT → Bs
  | [] => []
  | x :: r => pr x ++ r.flatMap (fun y => 44 :: pr y)
theorem memL_snoc (pr : VT → Bs) (ks : List VT) (x : VT) : memL pr (ks ++ [x]) = if ks = [] then pr x else memL pr ks ++ [44] ++ pr x := by
  cases ks with
  | nil => simp [memL]
  | cons y r => simp [memL]
theorem memL_le (pr : VT → Bs) (ks rs : List VT) : (memL pr ks).length ≤ (memL pr (ks ++ rs)).length := by
  cases ks with
  | nil => simp [memL]
  | cons y r => simp [memL]
/-- What is asked of each member. -/
def KC (B : Nat) (pr : VT → Bs) (x : VT) : Prop :=
  ∀ (v : Value) (l : Bs) (W : World), W.ownsRow B 5 1 v l.length (Lib.byteCells l) → B ≤ W.heap.size → l.length ≤ 400000 → VIn W (fun k => k < B) x → Gl W → Calls Tryd.prog 46 #[v, x.val] W (AppPost W B v (l ++ pr x))

set_option maxHeartbeats 2000000 in
set_option maxRecDepth 100000 in
theorem members_arr (B : Nat) (pr : VT → Bs) (v : Value) (l : Bs) (t : ByteArray) (A A' : Option Addr) (c1 n2 c2 : Nat) (kids : List VT) (w : World) (hG : Gl w) (hown : w.ownsRow B 5 1 v l.length (Lib.byteCells l)) (hB : B ≤ w.heap.size) (h4 : 4 ≤ B)
    (hll : (l ++ memL pr kids).length ≤ 300000) (hkl : kids.length ≤ 100000) (hsl : SlV w (fun k => k < B) (.slice A kids.length c1) kids) (hkv : ∀ x, x ∈ kids → VIn w (fun k => k < B) x) (hkc : ∀ x, x ∈ kids → KC B pr x) :
    Calls Tryd.prog 72 #[v, jv 6 t A A' kids.length c1 n2 c2] w (AppPost w B v (l ++ memL pr kids)) := by
  obtain ⟨i0, hi, hz0, hz1, hz2⟩ := info_parts Tryd.info5
  have hvlt := hown.lt
  have har0 : ARel w B w.heap.size v l v (w.alloc (.cells #[.int .i64 6, .string t, .slice A kids.length c1, .slice A' n2 c2] 26)) :=
    ⟨hown.alloc _, World.grownBy_alloc w _ _, .inl rfl, by simp; omega, fun e => by have := (hvlt _ e).2; omega⟩
  have hbox0 := heap_alloc_new w (.cells #[.int .i64 6, .string t, .slice A kids.length c1, .slice A' n2 c2] 26 (0, 0))
  have HG := Lib.hid hG
  have HSl := Lib.hid hsl
  have HKv := Lib.hid hkv
  have HKc := Lib.hid hkc
  clear hG hsl hkv hkc
  go_enter Tryd.func72, Tryd.ntmps72
  go_wp2
  generalize w.alloc (.cells #[.int .i64 6, .string t, .slice A kids.length c1, .slice A' n2 c2] 26) = W1 at *
  go_loopg [0, 10] kids.length (fun g u i wr => ∃ k : Nat, k + g = kids.length ∧ i = .int .i64 k ∧ ARel w B w.heap.size v (l ++ memL pr (kids.take k)) u wr ∧ w.heap.size < wr.heap.size ∧ wr.heap[w.heap.size]? = some (.cells #[.int .i64 6, .string t, .slice A kids.length c1, .slice A' n2 c2] 26 (0, 0)))
  case atStart => exact ⟨0, by omega, rfl, by simpa [memL] using har0, blk_lt hbox0, hbox0⟩
  case round =>
    obtain ⟨k, hkg, rfl, har, hltr, hbx⟩ := hrel
    clear har0 hbox0
    by_cases hk : k < kids.length
    · have hfr := har.fr (fun g e => (hvlt g e).1)
      obtain ⟨A9, cp9, e9, hs1, hs2, hs3⟩ := HSl.out.fr hfr (fun _ h => h)
      cases e9
      obtain ⟨g, off, rfl, hgB, hcells⟩ := hs3 (by omega)
      have hxk : kids[k]? = some kids[k] := List.getElem?_eq_getElem hk
      obtain ⟨d0, d1, d2, d3⟩ := hcells k _ hxk
      have hxm : kids[k] ∈ kids := List.getElem_mem hk
      have hxv := (HKv.out _ hxm).fr hfr (fun _ h => h)
      have hxc := HKc.out _ hxm
      have htk : kids.take (k + 1) = kids.take k ++ [kids[k]] := List.take_succ_eq_append_getElem hk
      have hms := memL_snoc pr (kids.take k) kids[k]
      rw [← htk] at hms
      have hml := memL_le pr (kids.take (k + 1)) (kids.drop (k + 1))
      rw [List.take_append_drop] at hml
      have hg1 : g < wr.heap.size := World.block_lt_of_cell? wr ⟨g, off + 4 * k, none⟩ d0
      generalize kids[k] = x at *
      obtain ⟨kx, tx, Ax, Ax', m1, cx1, m2, cx2, f0, f1, f2, f3⟩ := hxv.jin.forms
      have hxval : x.val = .agg #[.int .i64 kx, .string tx, .slice Ax m1 cx1, .slice Ax' m2 cx2] := by simp only [VT.val, f0, f1, f2, f3]
      rw [f0] at d0
      rw [f1] at d1
      rw [f2] at d2
      rw [f3] at d3
      have z0 : wr.cell? ⟨w.heap.size, 0, none⟩ = some (.int .i64 6) := by rw [cell_of_row _ _ _ _ _ _ hbx]; rfl
      have hne : g ≠ w.heap.size := by omega
      have har1 := har.alloc (.cells #[.int .i64 kx, .string tx, .slice Ax m1 cx1, .slice Ax' m2 cx2] 26)
      unfold maxLen at hs2
      rw [Nat.mul_comm] at d0 d1 d2 d3
      clear hcells hs3 hxk
      have hkt : kids.take k = [] ↔ k = 0 := by
        constructor
        · intro e
          have := congrArg List.length e
          rw [List.length_take] at this
          simp only [List.length_nil] at this
          omega
        · intro e; rw [e]; rfl
      have hfin : ∀ (wa w5 : World) (va v5 : Value) (la : Bs), ARel w B w.heap.size v la va wa → w.heap.size < wa.heap.size → wa.heap[w.heap.size]? = some (.cells #[.int .i64 6, .string t, .slice (some ⟨g, off, none⟩) kids.length c1, .slice A' n2 c2] 26 (0, 0)) → w5.ownsRow B 5 1 v5 (la ++ pr x).length (Lib.byteCells (la ++ pr x)) → wa.grownBy w5 va.ownBlock → (v5.ownBlock = va.ownBlock ∨ ∃ g, v5.ownBlock = some g ∧ wa.heap.size ≤ g) → la ++ pr x = l ++ memL pr (kids.take (k + 1)) →
          ∃ k' : Nat, k' + (kids.length - (k + 1)) = kids.length ∧ Value.int .i64 ((k : Int) + 1) = .int .i64 k' ∧ ARel w B w.heap.size v (l ++ memL pr (kids.take k')) v5 w5 ∧ w.heap.size < w5.heap.size ∧ w5.heap[w.heap.size]? = some (.cells #[.int .i64 6, .string t, .slice (some ⟨g, off, none⟩) kids.length c1, .slice A' n2 c2] 26 (0, 0)) := by
        intro wa w5 va v5 la ha hlt hbxa ho hg hb he
        obtain ⟨h1, h2⟩ := ha.post hlt ho hg hb
        rw [he] at h1
        exact ⟨k + 1, by omega, by simp, h1, by have := h2.size; omega, h2.at hbxa rfl⟩
      have hGw : ∀ wa va la, ARel w B w.heap.size v la va wa → Gl wa := fun wa va la ha => HG.out.kept ha.2.1 (fun k e => by have := (hvlt k e).1; omega)
      have hVw : ∀ wa va la, ARel w B w.heap.size v la va wa → VIn wa (fun k => k < B) x := fun wa va la ha => (HKv.out x hxm).fr (ha.fr (fun g e => (hvlt g e).1)) (fun _ h => h)
      have HFin := Lib.hid hfin
      have HGw := Lib.hid hGw
      have HVw := Lib.hid hVw
      have HMs := Lib.hid hms
      have HMl := Lib.hid hml
      have HKt := Lib.hid hkt
      have HXc := Lib.hid hxc
      have HLl := Lib.hid hll
      rw [List.length_append] at hll
      have hbx1 := (Below.heap_alloc wr (.cells #[.int .i64 kx, .string tx, .slice Ax m1 cx1, .slice Ax' m2 cx2] 26) w.heap.size hltr).trans hbx
      have har' := har
      clear hfin hGw hVw hms hml hkt hxc hfr hxv htk har' 
      by_cases hk0 : k = 0
      · have hk1 : ¬ (0 < (k : Int)) := by omega
        have he : memL pr (kids.take k) = [] := by rw [HKt.out.2 hk0]; rfl
        have he2 : memL pr (kids.take (k + 1)) = pr x := by rw [HMs.out, if_pos (HKt.out.2 hk0)]
        have hc := HXc.out u0 (l ++ memL pr (kids.take k)) _ har1.1 har1.2.2.2.1 (by rw [he, List.append_nil]; omega) (HVw.out _ _ _ har1) (HGw.out _ _ _ har1)
        rw [hxval] at hc
        have HE : Hid ((l ++ memL pr (kids.take k)) ++ pr x = l ++ memL pr (kids.take (k + 1))) := by show _ = _; rw [he, he2, List.append_nil]
        clear hk0 he he2 hxval f0 f1 f2 f3
        go_wp2_with fail
        refine hc.mono ?_
        rintro e w5 ⟨v5, rfl, ho5, hg5, hb5⟩
        go_wp2
        go_roundg (kids.length - (k + 1))
        case measure => omega
        case rel => exact HFin.out _ w5 u0 v5 _ har1 (by simp; omega) hbx1 ho5 hg5 hb5 HE.out
      · have hk1 : 0 < (k : Int) := by omega
        have hne2 : kids.take k ≠ [] := fun e => hk0 (HKt.out.1 e)
        have he2 : memL pr (kids.take (k + 1)) = memL pr (kids.take k) ++ [44] ++ pr x := by rw [HMs.out, if_neg hne2]
        have hle2 : (l ++ memL pr (kids.take k)).length + 1 ≤ 300000 := by
          have := HMl.out
          rw [he2] at this
          simp only [List.length_append, List.length_cons, List.length_nil] at this ⊢
          omega
        have HE : Hid ((l ++ memL pr (kids.take k) ++ [44]) ++ pr x = l ++ memL pr (kids.take (k + 1))) := by show _ = _; rw [he2]; simp
        clear hk0 he2 hne2 f0 f1 f2 f3
        have HXv := Lib.hid hxval
        clear hxval
        generalize memL pr (kids.take k) = mm at *
        have hafter : ∀ (w4 : World) (v4 : Value) (o4 : Obj), w4.ownsRow B 5 1 v4 ((l ++ mm).length + 1) (Lib.byteCells (l ++ mm) ++ [.int .u8 44]) → ((wr.alloc (.cells #[.int .i64 kx, .string tx, .slice Ax m1 cx1, .slice Ax' m2 cx2] 26)).alloc o4).grownBy w4 u0.ownBlock →
            (v4.ownBlock = u0.ownBlock ∨ v4.ownBlock = some ((wr.alloc (.cells #[.int .i64 kx, .string tx, .slice Ax m1 cx1, .slice Ax' m2 cx2] 26)).alloc o4).heap.size) →
            ARel w B w.heap.size v (l ++ mm ++ [44]) v4 w4 ∧ w.heap.size < w4.heap.size ∧ w4.heap[w.heap.size]? = some (.cells #[.int .i64 6, .string t, .slice (some ⟨g, off, none⟩) kids.length c1, .slice A' n2 c2] 26 (0, 0)) ∧ w4.heap[wr.heap.size]? = some (.cells #[.int .i64 kx, .string tx, .slice Ax m1 cx1, .slice Ax' m2 cx2] 26 (0, 0)) := by
          intro w4 v4 o4 ho hg hb
          obtain ⟨h1, h2⟩ := har1.app (by simp; omega) (app_one (c := 44) ho) hg hb
          refine ⟨h1, by have := h2.size; simp at this; omega, h2.at hbx1 rfl, ?_⟩
          have hxb := heap_alloc_new wr (.cells #[.int .i64 kx, .string tx, .slice Ax m1 cx1, .slice Ax' m2 cx2] 26 (0, 0))
          have hf : Fr (wr.alloc (.cells #[.int .i64 kx, .string tx, .slice Ax m1 cx1, .slice Ax' m2 cx2] 26)) w4 (fun k => some k ≠ u0.ownBlock) := ((Fr.refl _ _).alloc o4).trans (Fr.of hg (fun _ _ h => h))
          exact hf.at hxb (fun e => by have := (har.1.lt _ e.symm).2; omega)
        have HAf := Lib.hid hafter
        clear hafter
        go_wp2_with (at_builtin; refine wpList_append_own_at _ rfl _ _ 50 rfl B 5 i0 _ 1 1 Tryd.underlying50 hi hz0 hz1 hz2 rfl (by decide) _ _ _ rfl (har1.1.alloc _) ⟨wr.heap.size + 1, 0, none⟩ 1 1 [.int .u8 44] rfl rfl (by have := cell_one_new (wr.alloc (.cells #[.int .i64 kx, .string tx, .slice Ax m1 cx1, .slice Ax' m2 cx2] 26)) (.int .u8 44) 5; simpa using this) (by simp [Value.oneCell']) (by unfold maxLen; omega) (by omega) (by have := har1.2.2.2.1; simp at this ⊢; omega) ?_; intro v4 w4 hown4 hg4 _ hb4; obtain ⟨har4, hlt4, hbx4, hxb4⟩ := HAf.out w4 v4 _ hown4 hg4 hb4; have z4 : w4.cell? ⟨w.heap.size, 0, none⟩ = some (.int .i64 6) := (by rw [cell_of_row _ _ _ _ _ _ hbx4]; rfl); have x0 : w4.cell? ⟨wr.heap.size, 0, none⟩ = some (.int .i64 kx) := (by rw [cell_of_row _ _ _ _ _ _ hxb4]; rfl); have x1 : w4.cell? ⟨wr.heap.size, 1, none⟩ = some (.string tx) := (by rw [cell_of_row _ _ _ _ _ _ hxb4]; rfl); have x2 : w4.cell? ⟨wr.heap.size, 2, none⟩ = some (.slice Ax m1 cx1) := (by rw [cell_of_row _ _ _ _ _ _ hxb4]; rfl); have x3 : w4.cell? ⟨wr.heap.size, 3, none⟩ = some (.slice Ax' m2 cx2) := (by rw [cell_of_row _ _ _ _ _ _ hxb4]; rfl))
        have hc := HXc.out v4 (l ++ mm ++ [44]) _ har4.1 har4.2.2.2.1 (by simp only [List.length_append, List.length_cons, List.length_nil] at hle2 ⊢; omega) (HVw.out _ _ _ har4) (HGw.out _ _ _ har4)
        rw [HXv.out] at hc
        refine hc.mono ?_
        rintro e w5 ⟨v5, rfl, ho5, hg5, hb5⟩
        go_wp2
        go_roundg (kids.length - (k + 1))
        case measure => omega
        case rel => exact HFin.out _ w5 v4 v5 _ har4 hlt4 hbx4 ho5 hg5 hb5 HE.out
    · have hall : kids.take k = kids := List.take_of_length_le (by omega)
      rw [hall] at har
      clear hall
      go_wp2
      go_ret
      exact ⟨u0, rfl, har.1, har.2.1, har.2.2.1⟩
end Go.Proofs.YtcamaloekanelaaDoor
