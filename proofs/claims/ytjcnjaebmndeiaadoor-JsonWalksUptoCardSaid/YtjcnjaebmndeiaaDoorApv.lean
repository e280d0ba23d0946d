/-
  A row of bytes that a call writes; what holds while it is written.
  'appendMembers' of an array, 'appendValue' of an array, a number, a string.
  'quote.Text' of every text.
  'appendValue' of an array, a number, a string; 'Print'.
  'appendValue' of an array.
-/
import Derived.Test.YtjcnjaebmndeiaaDoorAlone
import Derived.Test.YtjcnjaebmndeiaaDoorQtm
import Derived.Test.YtjcnjaebmndeiaaDoorShelfV
import Derived.Deep.RegionWith
import Derived.Deep.RegionLaw
import Derived.Deep.AppendLies
namespace Go.Proofs.YtjcnjaebmndeiaaDoor
open Go.RowKit

/-- A row of bytes of the call's own, and nothing that was there has turned but that row. -/
def AppPost (w : World) (B : Nat) (v : Value) (l : Bs) (e : Ending) (w' : World) : Prop :=
  ∃ v', e = .returned v' ∧ w'.ownsRow B 5 1 v' l.length (Lib.byteCells l) ∧ w.grownBy w' v.ownBlock ∧ (v'.ownBlock = v.ownBlock ∨ ∃ g, v'.ownBlock = some g ∧ w.heap.size ≤ g)
def Plain8 (l : Bs) : Prop := ∀ c, c ∈ l → 32 ≤ c.toNat ∧ c.toNat ≠ 34 ∧ c.toNat ≠ 92

theorem app_one {w1 : World} {B : Nat} {v' : Value} {l : Bs} {c : UInt8} (h : w1.ownsRow B 5 1 v' (l.length + 1) (Lib.byteCells l ++ [.int .u8 c.toNat])) : w1.ownsRow B 5 1 v' (l ++ [c]).length (Lib.byteCells (l ++ [c])) := by
  rw [Lib.byteCells_append, List.length_append]; exact h
/-- What holds of the row while it is written. -/
def ARel (w : World) (B bb : Nat) (v : Value) (l : Bs) (v' : Value) (wr : World) : Prop :=
  wr.ownsRow B 5 1 v' l.length (Lib.byteCells l) ∧ w.grownBy wr v.ownBlock ∧ (v'.ownBlock = v.ownBlock ∨ ∃ g, v'.ownBlock = some g ∧ w.heap.size ≤ g) ∧ B ≤ wr.heap.size ∧ v'.ownBlock ≠ some bb
theorem ARel.app {w wr w5 : World} {B bb : Nat} {v v' v5 : Value} {l l5 : Bs} {o : Obj} (h : ARel w B bb v l v' wr) (hbb : bb < wr.heap.size) (hown : w5.ownsRow B 5 1 v5 l5.length (Lib.byteCells l5)) (hg : (wr.alloc o).grownBy w5 v'.ownBlock) (hb : v5.ownBlock = v'.ownBlock ∨ v5.ownBlock = some (wr.alloc o).heap.size) :
    ARel w B bb v l5 v5 w5 ∧ Fr wr w5 (fun k => k = bb) := by
  obtain ⟨h1, h2, h3, h4, h5⟩ := h
  have hf : Fr wr w5 (fun k => some k ≠ v'.ownBlock) := ((Fr.refl wr _).alloc o).trans (Fr.of hg (fun _ _ h => h))
  refine ⟨⟨hown, ⟨hf.os.trans h2.os, hf.tape.trans h2.tape, hf.output.trans h2.output, Nat.le_trans h2.size hf.size, fun k hk hn => ?_⟩, ?_, Nat.le_trans h4 hf.size, ?_⟩, hf.mono (fun k _ e => by subst e; exact fun e' => h5 e'.symm)⟩
  · refine (hf.block k (by have := h2.size; omega) (fun e => ?_)).trans (h2.block k hk hn)
    rcases h3 with e3 | ⟨g, e3, hg3⟩
    · exact hn (by rw [e, e3])
    · rw [e3] at e; cases e; omega
  · rcases hb with e | e
    · rw [e]; exact h3
    · exact .inr ⟨_, e, by have := h2.size; simp; omega⟩
  · rcases hb with e | e
    · rw [e]; exact h5
    · rw [e]; intro e'; simp at e'; omega

end Go.Proofs.YtjcnjaebmndeiaaDoor

namespace Go.Proofs.YtjcnjaebmndeiaaDoor
open Go.RowKit

theorem ARel.post {w wr w5 : World} {B bb : Nat} {v v' v5 : Value} {l l5 : Bs} (h : ARel w B bb v l v' wr) (hbb : bb < wr.heap.size) (hown : w5.ownsRow B 5 1 v5 l5.length (Lib.byteCells l5)) (hg : wr.grownBy w5 v'.ownBlock) (hb : v5.ownBlock = v'.ownBlock ∨ ∃ g, v5.ownBlock = some g ∧ wr.heap.size ≤ g) :
    ARel w B bb v l5 v5 w5 ∧ Fr wr w5 (fun k => k = bb) := by
  obtain ⟨h1, h2, h3, h4, h5⟩ := h
  have hf : Fr wr w5 (fun k => some k ≠ v'.ownBlock) := Fr.of hg (fun _ _ h => h)
  refine ⟨⟨hown, ⟨hf.os.trans h2.os, hf.tape.trans h2.tape, hf.output.trans h2.output, Nat.le_trans h2.size hf.size, fun k hk hn => ?_⟩, ?_, Nat.le_trans h4 hf.size, ?_⟩, hf.mono (fun k _ e => by subst e; exact fun e' => h5 e'.symm)⟩
  · refine (hf.block k (by have := h2.size; omega) (fun e => ?_)).trans (h2.block k hk hn)
    rcases h3 with e3 | ⟨g, e3, hg3⟩
    · exact hn (by rw [e, e3])
    · rw [e3] at e; cases e; omega
  · rcases hb with e | ⟨g, e, hg'⟩
    · rw [e]; exact h3
    · exact .inr ⟨g, e, by have := h2.size; omega⟩
  · rcases hb with e | ⟨g, e, hg'⟩
    · rw [e]; exact h5
    · rw [e]; intro e'; cases e'; omega
theorem ARel.alloc {w wr : World} {B bb : Nat} {v v' : Value} {l : Bs} (h : ARel w B bb v l v' wr) (o : Obj) : ARel w B bb v l v' (wr.alloc o) :=
  ⟨h.1.alloc o, gtrans h.2.1 (World.grownBy_alloc wr o _), h.2.2.1, by have := h.2.2.2.1; simp; omega, h.2.2.2.2⟩
/-- Below the rows' base all is as it was. -/
theorem ARel.fr {w wr : World} {B bb : Nat} {v v' : Value} {l : Bs} (h : ARel w B bb v l v' wr) (hv : ∀ g, v.ownBlock = some g → B ≤ g) : Fr w wr (fun k => k < B) := Fr.of h.2.1 (fun k _ hk e => by have := hv k e.symm; omega)

/-- The members, commas between. -/
def memL (pr : VT → Bs) : List VT → Bs
  | [] => []
  | x :: r => pr x ++ r.flatMap (fun y => 44 :: pr y)
theorem memL_snoc (pr : VT → Bs) (ks : List VT) (x : VT) : memL pr (ks ++ [x]) = if ks = [] then pr x else memL pr ks ++ [44] ++ pr x := by
  cases ks with
  | nil => simp [memL]
  | cons y r => simp [memL]
theorem memL_le (pr : VT → Bs) (ks rs : List VT) : (memL pr ks).length ≤ (memL pr (ks ++ rs)).length := by
  cases ks with
  | nil => simp [memL]
  | cons y r => simp [memL]
/-- What is asked of each member. -/
def KC (B : Nat) (pr : VT → Bs) (x : VT) : Prop :=
  ∀ (v : Value) (l : Bs) (W : World), W.ownsRow B 5 1 v l.length (Lib.byteCells l) → B ≤ W.heap.size → l.length ≤ 400000 → VIn W (fun k => k < B) x → Gl W → Calls Tryd.prog 46 #[v, x.val] W (AppPost W B v (l ++ pr x))

set_option maxHeartbeats 2000000 in
set_option maxRecDepth 100000 in
theorem members_arr (B : Nat) (pr : VT → Bs) (v : Value) (l : Bs) (t : ByteArray) (A A' : Option Addr) (c1 n2 c2 : Nat) (kids : List VT) (w : World) (hG : Gl w) (hown : w.ownsRow B 5 1 v l.length (Lib.byteCells l)) (hB : B ≤ w.heap.size) (h4 : 4 ≤ B)
    (hll : (l ++ memL pr kids).length ≤ 300000) (hkl : kids.length ≤ 100000) (hsl : SlV w (fun k => k < B) (.slice A kids.length c1) kids) (hkv : ∀ x, x ∈ kids → VIn w (fun k => k < B) x) (hkc : ∀ x, x ∈ kids → KC B pr x) :
    Calls Tryd.prog 72 #[v, jv 6 t A A' kids.length c1 n2 c2] w (AppPost w B v (l ++ memL pr kids)) := by
  obtain ⟨i0, hi, hz0, hz1, hz2⟩ := info_parts Tryd.info5
  have hvlt := hown.lt
  have har0 : ARel w B w.heap.size v l v (w.alloc (.cells #[.int .i64 6, .string t, .slice A kids.length c1, .slice A' n2 c2] 26)) :=
    ⟨hown.alloc _, World.grownBy_alloc w _ _, .inl rfl, by simp; omega, fun e => by have := (hvlt _ e).2; omega⟩
  have hbox0 := heap_alloc_new w (.cells #[.int .i64 6, .string t, .slice A kids.length c1, .slice A' n2 c2] 26 (0, 0))
  have HG := Lib.hid hG
  have HSl := Lib.hid hsl
  have HKv := Lib.hid hkv
  have HKc := Lib.hid hkc
  clear hG hsl hkv hkc
  go_enter Tryd.func72, Tryd.ntmps72
  go_wp2
  generalize w.alloc (.cells #[.int .i64 6, .string t, .slice A kids.length c1, .slice A' n2 c2] 26) = W1 at *
  go_loopg [0, 10] kids.length (fun g u i wr => ∃ k : Nat, k + g = kids.length ∧ i = .int .i64 k ∧ ARel w B w.heap.size v (l ++ memL pr (kids.take k)) u wr ∧ w.heap.size < wr.heap.size ∧ wr.heap[w.heap.size]? = some (.cells #[.int .i64 6, .string t, .slice A kids.length c1, .slice A' n2 c2] 26 (0, 0)))
  case atStart => exact ⟨0, by omega, rfl, by simpa [memL] using har0, blk_lt hbox0, hbox0⟩
  case round =>
    obtain ⟨k, hkg, rfl, har, hltr, hbx⟩ := hrel
    clear har0 hbox0
    by_cases hk : k < kids.length
    · have hfr := har.fr (fun g e => (hvlt g e).1)
      obtain ⟨A9, cp9, e9, hs1, hs2, hs3⟩ := HSl.out.fr hfr (fun _ h => h)
      cases e9
      obtain ⟨g, off, rfl, hgB, hcells⟩ := hs3 (by omega)
      have hxk : kids[k]? = some kids[k] := List.getElem?_eq_getElem hk
      obtain ⟨d0, d1, d2, d3⟩ := hcells k _ hxk
      have hxm : kids[k] ∈ kids := List.getElem_mem hk
      have hxv := (HKv.out _ hxm).fr hfr (fun _ h => h)
      have hxc := HKc.out _ hxm
      have htk : kids.take (k + 1) = kids.take k ++ [kids[k]] := List.take_succ_eq_append_getElem hk
      have hms := memL_snoc pr (kids.take k) kids[k]
      rw [← htk] at hms
      have hml := memL_le pr (kids.take (k + 1)) (kids.drop (k + 1))
      rw [List.take_append_drop] at hml
      have hg1 : g < wr.heap.size := World.block_lt_of_cell? wr ⟨g, off + 4 * k, none⟩ d0
      generalize kids[k] = x at *
      obtain ⟨kx, tx, Ax, Ax', m1, cx1, m2, cx2, f0, f1, f2, f3⟩ := hxv.jin.forms
      have hxval : x.val = .agg #[.int .i64 kx, .string tx, .slice Ax m1 cx1, .slice Ax' m2 cx2] := by simp only [VT.val, f0, f1, f2, f3]
      rw [f0] at d0
      rw [f1] at d1
      rw [f2] at d2
      rw [f3] at d3
      have z0 : wr.cell? ⟨w.heap.size, 0, none⟩ = some (.int .i64 6) := by rw [cell_of_row _ _ _ _ _ _ hbx]; rfl
      have hne : g ≠ w.heap.size := by omega
      have har1 := har.alloc (.cells #[.int .i64 kx, .string tx, .slice Ax m1 cx1, .slice Ax' m2 cx2] 26)
      unfold maxLen at hs2
      rw [Nat.mul_comm] at d0 d1 d2 d3
      clear hcells hs3 hxk
      have hkt : kids.take k = [] ↔ k = 0 := by
        constructor
        · intro e
          have := congrArg List.length e
          rw [List.length_take] at this
          simp only [List.length_nil] at this
          omega
        · intro e; rw [e]; rfl
      have hfin : ∀ (wa w5 : World) (va v5 : Value) (la : Bs), ARel w B w.heap.size v la va wa → w.heap.size < wa.heap.size → wa.heap[w.heap.size]? = some (.cells #[.int .i64 6, .string t, .slice (some ⟨g, off, none⟩) kids.length c1, .slice A' n2 c2] 26 (0, 0)) → w5.ownsRow B 5 1 v5 (la ++ pr x).length (Lib.byteCells (la ++ pr x)) → wa.grownBy w5 va.ownBlock → (v5.ownBlock = va.ownBlock ∨ ∃ g, v5.ownBlock = some g ∧ wa.heap.size ≤ g) → la ++ pr x = l ++ memL pr (kids.take (k + 1)) →
          ∃ k' : Nat, k' + (kids.length - (k + 1)) = kids.length ∧ Value.int .i64 ((k : Int) + 1) = .int .i64 k' ∧ ARel w B w.heap.size v (l ++ memL pr (kids.take k')) v5 w5 ∧ w.heap.size < w5.heap.size ∧ w5.heap[w.heap.size]? = some (.cells #[.int .i64 6, .string t, .slice (some ⟨g, off, none⟩) kids.length c1, .slice A' n2 c2] 26 (0, 0)) := by
        intro wa w5 va v5 la ha hlt hbxa ho hg hb he
        obtain ⟨h1, h2⟩ := ha.post hlt ho hg hb
        rw [he] at h1
        exact ⟨k + 1, by omega, by simp, h1, by have := h2.size; omega, h2.at hbxa rfl⟩
      have hGw : ∀ wa va la, ARel w B w.heap.size v la va wa → Gl wa := fun wa va la ha => HG.out.kept ha.2.1 (fun k e => by have := (hvlt k e).1; omega)
      have hVw : ∀ wa va la, ARel w B w.heap.size v la va wa → VIn wa (fun k => k < B) x := fun wa va la ha => (HKv.out x hxm).fr (ha.fr (fun g e => (hvlt g e).1)) (fun _ h => h)
      have HFin := Lib.hid hfin
      have HGw := Lib.hid hGw
      have HVw := Lib.hid hVw
      have HMs := Lib.hid hms
      have HMl := Lib.hid hml
      have HKt := Lib.hid hkt
      have HXc := Lib.hid hxc
      have HLl := Lib.hid hll
      rw [List.length_append] at hll
      have hbx1 := (Below.heap_alloc wr (.cells #[.int .i64 kx, .string tx, .slice Ax m1 cx1, .slice Ax' m2 cx2] 26) w.heap.size hltr).trans hbx
      have har' := har
      clear hfin hGw hVw hms hml hkt hxc hfr hxv htk har' 
      by_cases hk0 : k = 0
      · have hk1 : ¬ (0 < (k : Int)) := by omega
        have he : memL pr (kids.take k) = [] := by rw [HKt.out.2 hk0]; rfl
        have he2 : memL pr (kids.take (k + 1)) = pr x := by rw [HMs.out, if_pos (HKt.out.2 hk0)]
        have hc := HXc.out u0 (l ++ memL pr (kids.take k)) _ har1.1 har1.2.2.2.1 (by rw [he, List.append_nil]; omega) (HVw.out _ _ _ har1) (HGw.out _ _ _ har1)
        rw [hxval] at hc
        have HE : Hid ((l ++ memL pr (kids.take k)) ++ pr x = l ++ memL pr (kids.take (k + 1))) := by show _ = _; rw [he, he2, List.append_nil]
        clear hk0 he he2 hxval f0 f1 f2 f3
        go_wp2_with fail
        refine hc.mono ?_
        rintro e w5 ⟨v5, rfl, ho5, hg5, hb5⟩
        go_wp2
        go_roundg (kids.length - (k + 1))
        case measure => omega
        case rel => exact HFin.out _ w5 u0 v5 _ har1 (by simp; omega) hbx1 ho5 hg5 hb5 HE.out
      · have hk1 : 0 < (k : Int) := by omega
        have hne2 : kids.take k ≠ [] := fun e => hk0 (HKt.out.1 e)
        have he2 : memL pr (kids.take (k + 1)) = memL pr (kids.take k) ++ [44] ++ pr x := by rw [HMs.out, if_neg hne2]
        have hle2 : (l ++ memL pr (kids.take k)).length + 1 ≤ 300000 := by
          have := HMl.out
          rw [he2] at this
          simp only [List.length_append, List.length_cons, List.length_nil] at this ⊢
          omega
        have HE : Hid ((l ++ memL pr (kids.take k) ++ [44]) ++ pr x = l ++ memL pr (kids.take (k + 1))) := by show _ = _; rw [he2]; simp
        clear hk0 he2 hne2 f0 f1 f2 f3
        have HXv := Lib.hid hxval
        clear hxval
        generalize memL pr (kids.take k) = mm at *
        have hafter : ∀ (w4 : World) (v4 : Value) (o4 : Obj), w4.ownsRow B 5 1 v4 ((l ++ mm).length + 1) (Lib.byteCells (l ++ mm) ++ [.int .u8 44]) → ((wr.alloc (.cells #[.int .i64 kx, .string tx, .slice Ax m1 cx1, .slice Ax' m2 cx2] 26)).alloc o4).grownBy w4 u0.ownBlock →
            (v4.ownBlock = u0.ownBlock ∨ v4.ownBlock = some ((wr.alloc (.cells #[.int .i64 kx, .string tx, .slice Ax m1 cx1, .slice Ax' m2 cx2] 26)).alloc o4).heap.size) →
            ARel w B w.heap.size v (l ++ mm ++ [44]) v4 w4 ∧ w.heap.size < w4.heap.size ∧ w4.heap[w.heap.size]? = some (.cells #[.int .i64 6, .string t, .slice (some ⟨g, off, none⟩) kids.length c1, .slice A' n2 c2] 26 (0, 0)) ∧ w4.heap[wr.heap.size]? = some (.cells #[.int .i64 kx, .string tx, .slice Ax m1 cx1, .slice Ax' m2 cx2] 26 (0, 0)) := by
          intro w4 v4 o4 ho hg hb
          obtain ⟨h1, h2⟩ := har1.app (by simp; omega) (app_one (c := 44) ho) hg hb
          refine ⟨h1, by have := h2.size; simp at this; omega, h2.at hbx1 rfl, ?_⟩
          have hxb := heap_alloc_new wr (.cells #[.int .i64 kx, .string tx, .slice Ax m1 cx1, .slice Ax' m2 cx2] 26 (0, 0))
          have hf : Fr (wr.alloc (.cells #[.int .i64 kx, .string tx, .slice Ax m1 cx1, .slice Ax' m2 cx2] 26)) w4 (fun k => some k ≠ u0.ownBlock) := ((Fr.refl _ _).alloc o4).trans (Fr.of hg (fun _ _ h => h))
          exact hf.at hxb (fun e => by have := (har.1.lt _ e.symm).2; omega)
        have HAf := Lib.hid hafter
        clear hafter
        go_wp2_with (at_builtin; refine wpList_append_own_at _ rfl _ _ 50 rfl B 5 i0 _ 1 1 Tryd.underlying50 hi hz0 hz1 hz2 rfl (by decide) _ _ _ rfl (har1.1.alloc _) ⟨wr.heap.size + 1, 0, none⟩ 1 1 [.int .u8 44] rfl rfl (by have := cell_one_new (wr.alloc (.cells #[.int .i64 kx, .string tx, .slice Ax m1 cx1, .slice Ax' m2 cx2] 26)) (.int .u8 44) 5; simpa using this) (by simp [Value.oneCell']) (by unfold maxLen; omega) (by omega) (by have := har1.2.2.2.1; simp at this ⊢; omega) ?_; intro v4 w4 hown4 hg4 _ hb4; obtain ⟨har4, hlt4, hbx4, hxb4⟩ := HAf.out w4 v4 _ hown4 hg4 hb4; have z4 : w4.cell? ⟨w.heap.size, 0, none⟩ = some (.int .i64 6) := (by rw [cell_of_row _ _ _ _ _ _ hbx4]; rfl); have x0 : w4.cell? ⟨wr.heap.size, 0, none⟩ = some (.int .i64 kx) := (by rw [cell_of_row _ _ _ _ _ _ hxb4]; rfl); have x1 : w4.cell? ⟨wr.heap.size, 1, none⟩ = some (.string tx) := (by rw [cell_of_row _ _ _ _ _ _ hxb4]; rfl); have x2 : w4.cell? ⟨wr.heap.size, 2, none⟩ = some (.slice Ax m1 cx1) := (by rw [cell_of_row _ _ _ _ _ _ hxb4]; rfl); have x3 : w4.cell? ⟨wr.heap.size, 3, none⟩ = some (.slice Ax' m2 cx2) := (by rw [cell_of_row _ _ _ _ _ _ hxb4]; rfl))
        have hc := HXc.out v4 (l ++ mm ++ [44]) _ har4.1 har4.2.2.2.1 (by simp only [List.length_append, List.length_cons, List.length_nil] at hle2 ⊢; omega) (HVw.out _ _ _ har4) (HGw.out _ _ _ har4)
        rw [HXv.out] at hc
        refine hc.mono ?_
        rintro e w5 ⟨v5, rfl, ho5, hg5, hb5⟩
        go_wp2
        go_roundg (kids.length - (k + 1))
        case measure => omega
        case rel => exact HFin.out _ w5 v4 v5 _ har4 hlt4 hbx4 ho5 hg5 hb5 HE.out
    · have hall : kids.take k = kids := List.take_of_length_le (by omega)
      rw [hall] at har
      clear hall
      go_wp2
      go_ret
      exact ⟨u0, rfl, har.1, har.2.1, har.2.2.1⟩
end Go.Proofs.YtjcnjaebmndeiaaDoor

namespace Go.Proofs.YtjcnjaebmndeiaaDoor
open Go.RowKit

theorem row_new (w : World) (cs : Array Value) (t : TypeId) (j : Nat) (u : Value) (h : cs.toList[j]? = some u) : (w.alloc (.cells cs t)).cell? ((⟨w.heap.size, 0, none⟩ : Addr).add j) = some u := by
  rw [addr_add, Nat.zero_add, cell_of_row _ w.heap.size j cs t (0, 0) (heap_alloc_new w _)]
  simpa using h
theorem app_row {w1 : World} {B m : Nat} {v' : Value} {l cs : Bs} (h : w1.ownsRow B 5 1 v' (l.length + m) (Lib.byteCells l ++ Lib.byteCells cs)) (hm : cs.length = m := by rfl) : w1.ownsRow B 5 1 v' (l ++ cs).length (Lib.byteCells (l ++ cs)) := by
  subst hm; rw [Lib.byteCells_append, List.length_append]; exact h

theorem and15 : ∀ n : Fin 32, bits BinOp.and IntKind.u8 (n.val : Int) 15 = ((n.val % 16 : Nat) : Int) := by decide +kernel
theorem hexIdx (W : World) : ∀ n : Nat, n < 16 → (Instr.index 9 (.string ⟨#[48, 49, 50, 51, 52, 53, 54, 55, 56, 57, 97, 98, 99, 100, 101, 102]⟩) (.int .u8 (n : Int))).run Tryd.prog W = .ok (.int .u8 (hexS n).toNat) W
  | 0, _ => by kernel_rfl
  | 1, _ => by kernel_rfl
  | 2, _ => by kernel_rfl
  | 3, _ => by kernel_rfl
  | 4, _ => by kernel_rfl
  | 5, _ => by kernel_rfl
  | 6, _ => by kernel_rfl
  | 7, _ => by kernel_rfl
  | 8, _ => by kernel_rfl
  | 9, _ => by kernel_rfl
  | 10, _ => by kernel_rfl
  | 11, _ => by kernel_rfl
  | 12, _ => by kernel_rfl
  | 13, _ => by kernel_rfl
  | 14, _ => by kernel_rfl
  | 15, _ => by kernel_rfl
  | n + 16, h => by omega

set_option maxHeartbeats 2000000 in
set_option maxRecDepth 100000 in
theorem quote_text (t : ByteArray) (w : World) (ht : t.size ≤ 1100000) :
    Calls Tryd.prog 71 #[.string t] w fun e w' => e = .returned (.string (str (34 :: (quoL t.data.toList ++ [34])))) ∧ Below w.heap.size w w' := by
  obtain ⟨i0, hi, hz0, hz1, hz2⟩ := info_parts Tryd.info5
  have hcv := fun W => Lib.run_convert_string_bytes (P := Tryd.prog) W 9 50 5 t (u := .string) Tryd.underlying9 Tryd.underlying50 Tryd.underlying5
  obtain ⟨B, hBw⟩ : ∃ B, B = w.heap.size := ⟨_, rfl⟩
  obtain ⟨l, hl0⟩ : ∃ l : Bs, l = [] := ⟨_, rfl⟩
  go_enter Tryd.func71, Tryd.ntmps71
  go_wp2_with (first | (at_make; refine wpList_make_own _ rfl _ _ 50 rfl B 5 i0 _ 1 Tryd.underlying50 hi hz0 hz1 _ _ _ (t.size + 2) rfl rfl (by push_cast; omega) (by rw [hz2]; omega) (by unfold maxLen; omega) (by omega) ?_; intro w0 hown0 hg0; have hs0 := hg0.size) | (at_builtin; refine wpList_append_own_at _ rfl _ _ 50 rfl B 5 i0 _ 1 1 Tryd.underlying50 hi hz0 hz1 hz2 rfl (by decide) _ _ _ rfl (hown0.alloc _) ⟨w0.heap.size, 0, none⟩ 1 1 [.int .u8 34] rfl rfl (cell_one_new _ _ _) (by simp [Value.oneCell']) (by unfold maxLen; omega) (by omega) (by simp; omega) ?_; intro v1 w1 hown1 hg1 _ hb1))
  have ho1 : w1.ownsRow B 5 1 v1 (l ++ [34]).length (Lib.byteCells (l ++ [34])) := by subst hl0; exact hown1
  have hf1 := (Lib.bytesWorld_size w1 5 t)
  have hbw := Joins.below_bytesWorld w1.heap.size w1 5 t (Nat.le_refl _)
  have hbc := fun j (hj : j < t.size) => Lib.bytesWorld_cell w1 5 t j hj
  have hlt1 : ∀ g, v1.ownBlock = some g → g < w1.heap.size := fun g e => (ho1.lt g e).2
  have hs1 : w0.heap.size ≤ w1.heap.size := by have := hg1.size; simp at this; omega
  have hfr01 : Fr w w1 (fun k => k < w.heap.size) := (Fr.of hg0 (fun _ _ _ e => by cases e)).trans (((Fr.refl w0 _).alloc _).trans (Fr.of hg1 (fun k _ hk e => absurd (Option.some.inj e) (Nat.ne_of_lt hk))))
  have hg01 : w.grownBy w1 none := ⟨hfr01.os, hfr01.tape, hfr01.output, hfr01.size, fun k hk _ => hfr01.block k hk hk⟩
  have har0 : ARel w B w1.heap.size (.slice none 0 0) (l ++ [34]) v1 (Lib.bytesWorld w1 5 t) := by
    refine ⟨ownsRow_fr ho1 (below_fr hbw) (fun g e => hlt1 g e), ?_, ?_, ?_, fun e => by have := hlt1 _ e; omega⟩
    · exact gtrans hg01 ⟨hbw.os, hbw.tape, hbw.output, hbw.size, fun k hk _ => hbw.block k hk⟩
    · cases hob : v1.ownBlock with
      | none => exact .inl rfl
      | some g => exact .inr ⟨g, rfl, by have := (ho1.lt g hob).1; omega⟩
    · rw [hf1]; omega
  have hl : l.length ≤ 1000000 := by rw [hl0]; simp
  have HL0 := Lib.hid hl0
  clear hl0
  generalize Lib.bytesWorld w1 5 t = W1 at *
  clear hown1 hg1 hb1 hown0 hg0 hfr01 hg01 hbw ho1
  have hlen := size_len t
  generalize hts : t.data.toList = ts at *
  have HTS := Lib.hid hts
  clear hts
  have HLn := Lib.hid hlen
  clear hlen
  go_loopg [3, 16] t.size (fun g u i wr => ∃ k : Nat, k + g = t.size ∧ i = .int .i64 k ∧ ARel w B w1.heap.size (.slice none 0 0) (l ++ [34] ++ quoL (ts.take k)) u wr ∧ w1.heap.size < wr.heap.size ∧ Hid (∀ j, j < t.size → wr.cell? ⟨w1.heap.size, j, none⟩ = some (.int .u8 (ts.getD j 0).toNat)))
  case atStart => exact ⟨0, by omega, rfl, by simpa [quoL] using har0, by omega, hbc⟩
  case round =>
    obtain ⟨k, hkg, rfl, har, hltr, HB⟩ := hrel
    clear hbc har0
    by_cases hk : k < t.size
    · have hc := HB.out k hk
      have hkl : k < ts.length := by have := HLn.out; omega
      have hget : ts.getD k 0 = ts[k] := by simp [List.getD, List.getElem?_eq_getElem hkl]
      rw [hget] at hc
      have htk : quoL (ts.take (k + 1)) = quoL (ts.take k) ++ quoC ts[k] := by rw [List.take_succ_eq_append_getElem hkl, quoL_app]; simp [quoL]
      have hqq := (quoL_len (ts.take k)).2
      have hkt : (ts.take k).length ≤ k := List.length_take_le _ _
      generalize ts[k] = c at *
      have hll : (l ++ [34] ++ quoL (ts.take k)).length ≤ 8000000 := by simp only [List.length_append, List.length_cons, List.length_nil]; omega
      have HTK := Lib.hid htk
      clear htk hget hqq hkt
      by_cases he : c.toNat = 34 ∨ c.toNat = 92
      · have HQ := Lib.hid (show quoC c = [92, c] by rw [quoC, if_pos he])
        have hb' : ((c.toNat : Int) == 34) = true ∨ (((c.toNat : Int) == 34) = false ∧ ((c.toNat : Int) == 92) = true) := by
          simp only [beq_iff_eq, beq_eq_false_iff_ne, ne_eq]; omega
        clear he
        rcases hb' with b1 | ⟨b1, b2⟩
        all_goals
          go_wp2_with (at_builtin; refine wpList_append_own_at _ rfl _ _ 50 rfl B 5 i0 _ 1 1 Tryd.underlying50 hi hz0 hz1 hz2 rfl (by decide) _ _ _ rfl (har.1.alloc _) ⟨wr.heap.size, 0, none⟩ 2 2 [.int .u8 92, .int .u8 c.toNat] rfl rfl (row_new _ _ _) (by simp [Value.oneCell']) (by unfold maxLen; omega) (by omega) (by have := har.2.2.2.1; simp; omega) ?_; intro v5 w5 hown5 hg5 _ hb5; obtain ⟨har5, hf5⟩ := har.app hltr (app_row (cs := [92, c]) hown5) hg5 hb5)
          go_roundg (t.size - (k + 1))
          case measure => omega
          case rel => exact ⟨k + 1, by omega, by go_num, by rw [HTK.out, HQ.out, ← List.append_assoc]; exact har5, by have := hf5.size; omega, fun j hj => hf5.cell (HB.out j hj) rfl⟩
      · have b1 : ((c.toNat : Int) == 34) = false := by simp only [beq_eq_false_iff_ne, ne_eq]; omega
        have b2 : ((c.toNat : Int) == 92) = false := by simp only [beq_eq_false_iff_ne, ne_eq]; omega
        by_cases hlo : c.toNat < 32
        · have HQ := Lib.hid (show quoC c = [92, 117, 48, 48, hexS (c.toNat / 16), hexS (c.toNat % 16)] by rw [quoC, if_neg he, if_pos hlo])
          have b3 : (c.toNat : Int) < 32 := by omega
          clear he
          have ha15 : bits BinOp.and IntKind.u8 (c.toNat : Int) 15 = (c.toNat : Int) % 16 := by have := and15 ⟨c.toNat, hlo⟩; simpa using this
          have hx1 : ∀ W, (Instr.index 9 (.string ⟨#[48, 49, 50, 51, 52, 53, 54, 55, 56, 57, 97, 98, 99, 100, 101, 102]⟩) (.int .u8 ((c.toNat : Int) / 16))).run Tryd.prog W = .ok (.int .u8 (hexS (c.toNat / 16)).toNat) W := fun W => by
            have := hexIdx W (c.toNat / 16) (by omega); simpa using this
          have hx2 : ∀ W, (Instr.index 9 (.string ⟨#[48, 49, 50, 51, 52, 53, 54, 55, 56, 57, 97, 98, 99, 100, 101, 102]⟩) (.int .u8 ((c.toNat : Int) % 16))).run Tryd.prog W = .ok (.int .u8 (hexS (c.toNat % 16)).toNat) W := fun W => by
            have := hexIdx W (c.toNat % 16) (by omega); simpa using this
          go_wp2
          go_region_held3 (fun _ => True) (trivial) (first
            | (refine step_append_lies _ (by rfl) _ _ _ (by rfl) B 5 i0 _ 1 1 Tryd.underlying50 hi hz0 hz1 hz2 rfl (by decide) u3 _ _ (by rfl) (by first | exact har.1.alloc _ | exact (har.1.alloc _).drew) ⟨wr.heap.size, 0, none⟩ 6 6 [.int .u8 92, .int .u8 117, .int .u8 48, .int .u8 48, .int .u8 (hexS (c.toNat / 16)).toNat, .int .u8 (hexS (c.toNat % 16)).toNat] (by rfl) (by rfl) (World.news_of_block (cs := #[.int .u8 92, .int .u8 117, .int .u8 48, .int .u8 48, .int .u8 (hexS (c.toNat / 16)).toNat, .int .u8 (hexS (c.toNat % 16)).toNat]) (t := 5) (fr := (0, 0)) (heap_alloc_new wr _)) (by simp [Value.oneCell']) (by omega) (by unfold maxLen; omega) (by omega) (by have := har.2.2.2.1; simp; omega) (wr.heap.size + 1) (by simp) ?_; intro g5 cap5 w5 hown5 hg5 hb5 hlt5)
            | fail)
          all_goals
            obtain ⟨har5, hf5⟩ := har.app hltr (app_row (cs := [92, 117, 48, 48, hexS (c.toNat / 16), hexS (c.toNat % 16)]) hown5) ⟨hg5.os, hg5.tape, hg5.output, hg5.size, hg5.block⟩ (by
              rcases hb5 with e | e
              · exact .inl e.symm
              · exact .inr (by rw [e]; simp [Value.ownBlock]))
            clear hown5 hg5 hb5 ha15 hx1 hx2
            rw [show List.length (l ++ [34] ++ quoL (List.take k ts)) + 6 = List.length l + (List.length (quoL (List.take k ts)) + 1) + 6 by simp only [List.length_append, List.length_cons, List.length_nil]; omega] at har5
            go_wp2
            go_roundg (t.size - (k + 1))
            case measure => omega
            case rel => exact ⟨k + 1, by omega, by go_num, by rw [HTK.out, HQ.out, ← List.append_assoc]; exact har5, by have := hf5.size; omega, fun j hj => hf5.cell (HB.out j hj) rfl⟩
        · have HQ := Lib.hid (show quoC c = [c] by rw [quoC, if_neg he, if_neg hlo])
          have b3 : 32 ≤ (c.toNat : Int) := by omega
          clear he
          go_wp2_with (at_builtin; refine wpList_append_own_at _ rfl _ _ 50 rfl B 5 i0 _ 1 1 Tryd.underlying50 hi hz0 hz1 hz2 rfl (by decide) _ _ _ rfl (har.1.alloc _) ⟨wr.heap.size, 0, none⟩ 1 1 [.int .u8 c.toNat] rfl rfl (row_new _ _ _) (by simp [Value.oneCell']) (by unfold maxLen; omega) (by omega) (by have := har.2.2.2.1; simp; omega) ?_; intro v5 w5 hown5 hg5 _ hb5; obtain ⟨har5, hf5⟩ := har.app hltr (app_row (cs := [c]) hown5) hg5 hb5)
          go_roundg (t.size - (k + 1))
          case measure => omega
          case rel => exact ⟨k + 1, by omega, by go_num, by rw [HTK.out, HQ.out, ← List.append_assoc]; exact har5, by have := hf5.size; omega, fun j hj => hf5.cell (HB.out j hj) rfl⟩
    · have hall : ts.take k = ts := List.take_of_length_le (by have := HLn.out; omega)
      rw [hall] at har
      have hll : (l ++ [34] ++ quoL ts).length ≤ 8000000 := by have := HLn.out; have := (quoL_len ts).2; simp only [List.length_append, List.length_cons, List.length_nil]; omega
      have hbb : B ≤ wr.heap.size := har.2.2.2.1
      clear hall HB
      go_wp2_with (at_builtin; refine wpList_append_own_at _ rfl _ _ 50 rfl B 5 i0 _ 1 1 Tryd.underlying50 hi hz0 hz1 hz2 rfl (by decide) _ _ _ rfl (har.1.alloc _) ⟨wr.heap.size, 0, none⟩ 1 1 [.int .u8 34] rfl rfl (cell_one_new _ _ _) (by simp [Value.oneCell']) (by unfold maxLen; omega) (by omega) (by simp; omega) ?_; intro v5 w5 hown5 hg5 _ hb5; obtain ⟨har5, hf5⟩ := (har.app hltr (app_one (c := 34) hown5) hg5 hb5); have hcv5 := run_string_own har5.1)
      have hg5' := har5.2.1
      go_ret
      exact ⟨by show Ending.returned (.string (str (l ++ 34 :: (quoL ts ++ [34])))) = _; rw [HL0.out, HTS.out]; rfl, hg5'.os, hg5'.tape, hg5'.output, hg5'.size, fun k hk => hg5'.block k hk (by simp [Value.ownBlock])⟩
end Go.Proofs.YtjcnjaebmndeiaaDoor

namespace Go.Proofs.YtjcnjaebmndeiaaDoor
open Go.RowKit

theorem app_string_at {w : World} {B : Nat} {v : Value} {l : Bs} {s : ByteArray} {ty : TypeId} (i : TypeInfo) (hi : Tryd.prog.info? 5 = some i) (hz : i.zero = some (.int .u8 0)) (hsize : i.size = 1) (hby : i.bytes = 1) (hown : w.ownsRow B 5 1 v l.length (Lib.byteCells l)) (hb : l.length + s.size ≤ 200000000) (hB : B ≤ w.heap.size) :
    ∃ v' w', (Builtin.append_ #[50, 9] ty #[v, .string s]).run Tryd.prog w = .ok v' w' ∧ w'.ownsRow B 5 1 v' (l ++ s.data.toList).length (Lib.byteCells (l ++ s.data.toList)) ∧ w.grownBy w' v.ownBlock ∧ (v'.ownBlock = v.ownBlock ∨ ∃ g, v'.ownBlock = some g ∧ w.heap.size ≤ g) := by
  have hm : l.length + s.size ≤ maxLen := by unfold maxLen; omega
  obtain ⟨v', w', hr, h1, h2, h3⟩ := Lib.run_append_own_string (P := Tryd.prog) w B 50 9 ty 5 i Tryd.underlying50 Tryd.underlying9 hi hz hsize hby v _ _ hown s hm (by omega) hB
  refine ⟨v', w', hr, by rw [Lib.byteCells_append, List.length_append, ← size_len]; exact h1, h2, ?_⟩
  rcases hown.2 with ⟨rfl, h0⟩ | ⟨g, cap, cur, rfl, hb', hg, hn, hcm, hcs, htk⟩
  · obtain ⟨v2, w2, hr2, h12, _, _⟩ := Lib.run_append_own_string (P := Tryd.prog) w w.heap.size 50 9 ty 5 i Tryd.underlying50 Tryd.underlying9 hi hz hsize hby (.slice none 0 0) 0 [] (World.ownsRow_nil _ _ _ _) s (by omega) (by omega) (Nat.le_refl _)
    have e := hr.symm.trans hr2
    injection e with e1 e2
    subst e1
    cases hob : v'.ownBlock with
    | none => exact .inl rfl
    | some g => exact .inr ⟨g, rfl, (h12.lt g hob).1⟩
  · by_cases hroom : l.length + s.size ≤ cap
    · have hr2 := Lib.run_append_room_string (P := Tryd.prog) w 50 9 ty 5 i Tryd.underlying50 Tryd.underlying9 hi hsize g l.length cap cur hg s hroom (by omega)
      have e := hr.symm.trans hr2
      injection e with e1 e2
      subst e1
      exact .inl rfl
    · have holds : ∀ j u, (Lib.byteCells l)[j]? = some u → w.cell? ((⟨g, 0, none⟩ : Addr).add j) = some u := hown.cells (g := g) rfl
      have hr2 := Lib.run_append_grow_string (P := Tryd.prog) w 50 9 ty 5 i (.int .u8 0) Tryd.underlying50 Tryd.underlying9 hi hz ⟨g, 0, none⟩ l.length cap (Lib.byteCells l) (by rw [hsize, Lib.byteCells_length]; omega) holds s (by omega) (by omega) (by rw [hby]; exact growslice_fits (by omega) (by omega))
      have e := hr.symm.trans hr2
      injection e with e1 e2
      subst e1
      exact .inr ⟨w.heap.size, rfl, Nat.le_refl _⟩
theorem wp_app_string {w : World} {ops : Array Oper} {rest : List Oper} {o : Oper} {a : Act} {Q : Exit → Act → World → Prop} (hgd : o.guard = none) (sl x : Operand) (ho : o.op = .call { callee := .builtin .append, args := #[sl, x], argTypes := #[50, 9] })
    (i : TypeInfo) (hi : Tryd.prog.info? 5 = some i) (hz : i.zero = some (.int .u8 0)) (hsize : i.size = 1) (hby : i.bytes = 1) (B : Nat) (v : Value) (l : Bs) (hs : a.eval sl = v) (hown : w.ownsRow B 5 1 v l.length (Lib.byteCells l)) (s : ByteArray) (hx : a.eval x = .string s) (hb : l.length + s.size ≤ 200000000) (hB : B ≤ w.heap.size)
    (h : ∀ v' w', w'.ownsRow B 5 1 v' (l ++ s.data.toList).length (Lib.byteCells (l ++ s.data.toList)) → w.grownBy w' v.ownBlock → (v'.ownBlock = v.ownBlock ∨ ∃ g, v'.ownBlock = some g ∧ w.heap.size ≤ g) → wpList Tryd.prog ops Q rest (a.put o.dst v') w') : wpList Tryd.prog ops Q (o :: rest) a w := by
  refine wpList_plain hgd fun K hK => ?_
  obtain ⟨v', w', hr, h2, h3, h4⟩ := app_string_at (ty := o.type) i hi hz hsize hby hown hb hB
  unfold Oper.wp execOp
  simp only [ho, resolve, invoke, builtin, Sem.run_bind, Sem.run_pure, Result.andThen_ok, List.map_toArray, List.map_cons, List.map_nil, hs, hx, hr]
  exact hK _ _ (h v' w' h2 h3 h4)

set_option maxHeartbeats 1000000 in
set_option maxRecDepth 100000 in
theorem value_num (B : Nat) (v : Value) (l : Bs) (t : ByteArray) (A A' : Option Addr) (n1 c1 n2 c2 : Nat) (w : World) (hown : w.ownsRow B 5 1 v l.length (Lib.byteCells l)) (hB : B ≤ w.heap.size) (hl : l.length + t.size ≤ 200000000) :
    Calls Tryd.prog 46 #[v, jv 4 t A A' n1 c1 n2 c2] w (AppPost w B v (l ++ t.data.toList)) := by
  obtain ⟨i0, hi, hz0, hz1, hz2⟩ := info_parts Tryd.info5
  go_enter Tryd.func46, Tryd.ntmps46
  go_wp2_with (at_builtin; refine wp_app_string rfl _ _ rfl i0 hi hz0 hz1 hz2 B _ l rfl (hown.alloc _) t rfl hl (by simp; omega) ?_; intro v5 w5 ho5 hg5 hb5)
  go_ret
  refine ⟨v5, rfl, ho5, gtrans (World.grownBy_alloc w _ _) hg5, ?_⟩
  rcases hb5 with e | ⟨g, e, hg⟩
  · exact .inl e
  · exact .inr ⟨g, e, by simp at hg; omega⟩
set_option maxHeartbeats 1000000 in
set_option maxRecDepth 100000 in
theorem value_sq (B : Nat) (v : Value) (l : Bs) (t : ByteArray) (A A' : Option Addr) (n1 c1 n2 c2 : Nat) (w : World) (hown : w.ownsRow B 5 1 v l.length (Lib.byteCells l)) (hB : B ≤ w.heap.size) (hl : l.length ≤ 190000000) (ht : t.size ≤ 1100000) :
    Calls Tryd.prog 46 #[v, jv 5 t A A' n1 c1 n2 c2] w (AppPost w B v (l ++ (34 :: (quoL t.data.toList ++ [34])))) := by
  obtain ⟨i0, hi, hz0, hz1, hz2⟩ := info_parts Tryd.info5
  have hq := quote_text t (w.alloc (.cells #[.int .i64 5, .string t, .slice A n1 c1, .slice A' n2 c2] 26)) ht
  have hqs : (str (34 :: (quoL t.data.toList ++ [34]))).size ≤ 6700000 := by
    have := (quoL_len t.data.toList).2
    rw [← size_len] at this
    show (34 :: (quoL t.data.toList ++ [34])).length ≤ _
    simp only [List.length_cons, List.length_append, List.length_nil]; omega
  have hqd : (str (34 :: (quoL t.data.toList ++ [34]))).data.toList = 34 :: (quoL t.data.toList ++ [34]) := rfl
  rw [← hqd]
  generalize str (34 :: (quoL t.data.toList ++ [34])) = Q at *
  clear hqd
  have hvlt := hown.lt
  go_enter Tryd.func46, Tryd.ntmps46
  go_wp2_with fail
  refine hq.mono ?_
  rintro e w1 ⟨rfl, hb1⟩
  have hown1 := ownsRow_fr (hown.alloc (.cells #[.int .i64 5, .string t, .slice A n1 c1, .slice A' n2 c2] 26)) (below_fr hb1) (fun g e => by have := (hvlt g e).2; simp; omega)
  have hs1 := hb1.size
  simp at hs1
  go_wp2_with (at_builtin; refine wp_app_string rfl _ _ rfl i0 hi hz0 hz1 hz2 B _ l rfl hown1 Q rfl (by omega) (by omega) ?_; intro v5 w5 ho5 hg5 hb5)
  go_ret
  have hf : Fr w w1 (fun k => k < w.heap.size) := ((Fr.refl w _).alloc _).trans ((below_fr hb1).mono (fun k _ hk => by simp; omega))
  have hg1 : w.grownBy w1 v.ownBlock := ⟨hf.os, hf.tape, hf.output, hf.size, fun k hk _ => hf.block k hk hk⟩
  refine ⟨v5, rfl, ho5, gtrans hg1 hg5, ?_⟩
  rcases hb5 with e | ⟨g, e, hg⟩
  · exact .inl e
  · exact .inr ⟨g, e, by omega⟩
theorem quoL_plain8 : ∀ (l : Bs), Plain8 l → quoL l = l
  | [], _ => rfl
  | c :: r, h => by
    have h0 := h c (by simp)
    have e : quoL (c :: r) = quoC c ++ quoL r := by simp [quoL]
    rw [e, quoL_plain8 r (fun x hx => h x (by simp [hx])), quoC, if_neg (by omega), if_neg (by omega)]
    rfl
theorem value_st (B : Nat) (v : Value) (l : Bs) (t : ByteArray) (A A' : Option Addr) (n1 c1 n2 c2 : Nat) (w : World) (hown : w.ownsRow B 5 1 v l.length (Lib.byteCells l)) (hB : B ≤ w.heap.size) (hl : l.length ≤ 1000000) (ht : t.size ≤ 1000000) (hp : Plain8 t.data.toList) :
    Calls Tryd.prog 46 #[v, jv 5 t A A' n1 c1 n2 c2] w (AppPost w B v (l ++ ([34] ++ t.data.toList ++ [34]))) := by
  have h := value_sq B v l t A A' n1 c1 n2 c2 w hown hB (by omega) (by omega)
  rw [quoL_plain8 _ hp] at h
  exact h
end Go.Proofs.YtjcnjaebmndeiaaDoor

namespace Go.Proofs.YtjcnjaebmndeiaaDoor
open Go.RowKit

/-- The row that is written, and blocks beside it that stay as they are. -/
def RG (w : World) (B : Nat) (v : Value) (l : Bs) (v1 : Value) (w1 : World) (gs : List (Nat × Obj)) : Prop :=
  ARel w B w.heap.size v l v1 w1 ∧ w.heap.size < w1.heap.size ∧ ∀ p, p ∈ gs → w1.heap[p.1]? = some p.2 ∧ v1.ownBlock ≠ some p.1
theorem RG.alloc {w : World} {B : Nat} {v : Value} {l : Bs} {v1 : Value} {w1 : World} {gs : List (Nat × Obj)} (h : RG w B v l v1 w1 gs) (o : Obj) : RG w B v l v1 (w1.alloc o) ((w1.heap.size, o) :: gs) := by
  obtain ⟨h1, h2, h3⟩ := h
  refine ⟨h1.alloc o, by simp; omega, fun p hp => ?_⟩
  rcases List.mem_cons.mp hp with rfl | hp
  · exact ⟨heap_alloc_new w1 o, fun e => by have := (h1.1.lt _ e).2; simp at this⟩
  · have hlt : p.1 < w1.heap.size := by
      rcases Nat.lt_or_ge p.1 w1.heap.size with h | h
      · exact h
      · have := (h3 p hp).1; rw [Array.getElem?_eq_none h] at this; cases this
    refine ⟨((World.grownBy_alloc w1 o none).block p.1 hlt (by simp)).trans (h3 p hp).1, (h3 p hp).2⟩
theorem RG.drew {w : World} {B : Nat} {v : Value} {l : Bs} {v1 : Value} {w1 : World} {gs : List (Nat × Obj)} (h : RG w B v l v1 w1 gs) : RG w B v l v1 w1.drew gs := by
  obtain ⟨⟨h1, h2, h3, h4, h5⟩, h6, h7⟩ := h
  exact ⟨⟨h1.drew, gdrewN h2 1, h3, h4, h5⟩, h6, h7⟩
theorem RG.post {w : World} {B : Nat} {v : Value} {l l2 : Bs} {v1 v2 : Value} {w1 w2 : World} {gs : List (Nat × Obj)} (h : RG w B v l v1 w1 gs) (hown : w2.ownsRow B 5 1 v2 l2.length (Lib.byteCells l2)) (hg : w1.grownBy w2 v1.ownBlock) (hb : v2.ownBlock = v1.ownBlock ∨ ∃ g, v2.ownBlock = some g ∧ w1.heap.size ≤ g) : RG w B v l2 v2 w2 gs := by
  obtain ⟨h1, h2, h3⟩ := h
  refine ⟨(h1.post h2 hown hg hb).1, Nat.lt_of_lt_of_le h2 hg.size, fun p hp => ?_⟩
  have hlt : p.1 < w1.heap.size := by
    rcases Nat.lt_or_ge p.1 w1.heap.size with h | h
    · exact h
    · have := (h3 p hp).1; rw [Array.getElem?_eq_none h] at this; cases this
  refine ⟨(hg.block p.1 hlt (fun e => (h3 p hp).2 e.symm)).trans (h3 p hp).1, fun e => ?_⟩
  rcases hb with e2 | ⟨g, e2, hg2⟩
  · exact (h3 p hp).2 (e2.symm.trans e)
  · rw [e2] at e; injection e with e; omega
theorem RG.cell {w : World} {B : Nat} {v : Value} {l : Bs} {v1 : Value} {w1 : World} {gs : List (Nat × Obj)} (h : RG w B v l v1 w1 gs) {g : Nat} {cs : Array Value} {t : TypeId} {fr : Nat × Nat} (hm : (g, Obj.cells cs t fr) ∈ gs) (j : Nat) : w1.cell? ⟨g, j, none⟩ = cs[j]? := by
  have := (h.2.2 _ hm).1
  rw [cell_of_row w1 g j cs t fr this]
theorem step_app1 {w w1 : World} {ops : Array Oper} {o : Oper} {a : Act} {K : Act → World → Prop} {Q : Exit → Act → World → Prop} {E : Prop} (hgd : o.guard = none) (s x : Operand)
    (ho : o.op = .call { callee := .builtin .append, args := #[s, x], argTypes := #[50, 50] }) {B : Nat} {v : Value} {l : Bs} {v1 : Value} {gs : List (Nat × Obj)} (hs : a.eval s = v1) (h : RG w B v l v1 w1 gs)
    (c : UInt8) (g : Nat) (t : TypeId) (fr : Nat × Nat) (cp : Nat) (hx : a.eval x = .slice (some ⟨g, 0, none⟩) 1 cp) (hm : (g, Obj.cells #[.int .u8 c.toNat] t fr) ∈ gs) (hl : l.length ≤ 200000000)
    (hK : ∀ v2 w2, RG w B v (l ++ [c]) v2 w2 gs → K (a.put o.dst v2) w2) :
    if Region.wanted o (yielded ops a.tmps) = true then Oper.wp Tryd.prog o a w1 K Q else E := by
  obtain ⟨i0, hi, hz0, hz1, hz2⟩ := info_parts Tryd.info5
  refine step_append_lies w1 hgd s x 50 ho B 5 i0 _ 1 1 Tryd.underlying50 hi hz0 hz1 hz2 rfl (by omega) v1 l.length (Lib.byteCells l) hs h.1.1 ⟨g, 0, none⟩ 1 cp [.int .u8 c.toNat] hx (by rfl)
    (World.news_of_block (cs := #[.int .u8 c.toNat]) (h.2.2 _ hm).1) (by simp [Value.oneCell']) (by omega) (by unfold maxLen; omega) (by omega) h.1.2.2.2.1 w1.heap.size rfl ?_
  intro g2 cap w2 ho2 hg2 hat hlt
  refine hK _ _ (h.post (app_one ho2) hg2 ?_)
  rcases hat with e | e
  · exact .inl e.symm
  · exact .inr ⟨g2, rfl, by omega⟩
theorem call_mem {w w1 : World} {B : Nat} {v x v1 : Value} {l l2 : Bs} {gs : List (Nat × Obj)} {Q : Ending → World → Prop} (HM : Hid (∀ (w1 : World) (v1 : Value), ARel w B w.heap.size v l v1 w1 → Calls Tryd.prog 72 #[v1, x] w1 (AppPost w1 B v1 l2))) (h : RG w B v l v1 w1 gs)
    (hQ : ∀ v3 w3, RG w B v l2 v3 w3 gs → Q (.returned v3) w3) : Calls Tryd.prog 72 #[v1, x] w1 Q :=
  (HM w1 v1 h.1).mono fun e w3 ⟨v3, he, ho, hg, hb⟩ => by
    subst he; exact hQ _ _ (h.post ho hg hb)
set_option maxHeartbeats 1000000 in
set_option maxRecDepth 100000 in
theorem value_ar (B : Nat) (pr : VT → Bs) (l : Bs) (v : Value) (t : ByteArray) (A A' : Option Addr) (c1 n2 c2 : Nat) (kids : List VT) (w : World) (hG : Gl w) (hown : w.ownsRow B 5 1 v l.length (Lib.byteCells l)) (hB : B ≤ w.heap.size) (h4 : 4 ≤ B)
    (hll : (l ++ [91] ++ memL pr kids).length ≤ 300000) (hkl : kids.length ≤ 100000) (hsl : SlV w (fun k => k < B) (.slice A kids.length c1) kids) (hkv : ∀ x, x ∈ kids → VIn w (fun k => k < B) x) (hkc : ∀ x, x ∈ kids → KC B pr x) :
    Calls Tryd.prog 46 #[v, jv 6 t A A' kids.length c1 n2 c2] w (AppPost w B v (l ++ [91] ++ memL pr kids ++ [93])) := by
  have hvlt := hown.lt
  have hbx := heap_alloc_new w (.cells #[.int .i64 6, .string t, .slice A kids.length c1, .slice A' n2 c2] 26 (0, 0))
  have har0 : ARel w B w.heap.size v l v (w.alloc (.cells #[.int .i64 6, .string t, .slice A kids.length c1, .slice A' n2 c2] 26)) :=
    ⟨hown.alloc _, World.grownBy_alloc w _ _, .inl rfl, by simp; omega, fun e => by have := (hvlt _ e).2; omega⟩
  have hl1 : l.length ≤ 300000 := by simp at hll; omega
  have hmem : ∀ (w1 : World) (v1 : Value), ARel w B w.heap.size v (l ++ [91]) v1 w1 → Calls Tryd.prog 72 #[v1, jv 6 t A A' kids.length c1 n2 c2] w1 (AppPost w1 B v1 (l ++ [91] ++ memL pr kids)) := fun w1 v1 ha => by
    have hfr := ha.fr (fun g e => (hvlt g e).1)
    exact members_arr B pr v1 (l ++ [91]) t A A' c1 n2 c2 kids w1 (hG.kept ha.2.1 (fun k e => by have := (hvlt k e).1; omega)) ha.1 ha.2.2.2.1 h4 hll hkl (hsl.fr hfr (fun _ h => h)) (fun x hx => (hkv x hx).fr hfr (fun _ h => h)) hkc
  have hrg : RG w B v l v (w.alloc (.cells #[.int .i64 6, .string t, .slice A kids.length c1, .slice A' n2 c2] 26)) [(w.heap.size, .cells #[.int .i64 6, .string t, .slice A kids.length c1, .slice A' n2 c2] 26)] :=
    ⟨har0, by simp, fun p hp => by
      rw [List.mem_singleton] at hp; subst hp
      exact ⟨hbx, har0.2.2.2.2⟩⟩
  have HM := Lib.hid hmem
  have HLL := Lib.hid hll
  have hl2 : l.length ≤ 200000000 := by omega
  have hl3 : (l ++ [91] ++ memL pr kids).length ≤ 200000000 := by omega
  clear hmem hll hsl hkv hkc hG har0 hown hB hvlt hbx
  go_enter Tryd.func46, Tryd.ntmps46
  go_wp2
  go_region_law ((first
    | (apply step_app1 (B := B) (v := v) (w := w) (l := l ++ [91] ++ memL pr kids) (c := 93) (t := 5) (fr := (0, 0)) (hl := hl3)
       case hgd => rfl
       case ho => rfl
       case h => ((repeat (first | with_reducible assumption | with_reducible apply RG.drew | with_reducible apply RG.alloc)); done)
       case hs => rfl
       case hx => rfl
       case hm => (simp [UInt8.toNat]; done)
       intro v4 w4 hrg4)
    | (apply step_app1 (B := B) (v := v) (w := w) (l := l) (c := 91) (t := 5) (fr := (0, 0)) (hl := hl2)
       case hgd => rfl
       case ho => rfl
       case h => ((repeat (first | with_reducible assumption | with_reducible apply RG.drew | with_reducible apply RG.alloc)); done)
       case hs => rfl
       case hx => rfl
       case hm => (simp [UInt8.toNat]; done)
       intro v2 w2 hrg2
       have hc0 : w2.cell? ⟨w.heap.size, 0, none⟩ = some (.int .i64 6) := hrg2.cell (g := w.heap.size) (cs := #[.int .i64 6, .string t, .slice A kids.length c1, .slice A' n2 c2]) (t := 26) (fr := (0, 0)) (by simp) 0
       have hc1 : w2.cell? ⟨w.heap.size, 1, none⟩ = some (.string t) := hrg2.cell (g := w.heap.size) (cs := #[.int .i64 6, .string t, .slice A kids.length c1, .slice A' n2 c2]) (t := 26) (fr := (0, 0)) (by simp) 1
       have hc2 : w2.cell? ⟨w.heap.size, 2, none⟩ = some (.slice A kids.length c1) := hrg2.cell (g := w.heap.size) (cs := #[.int .i64 6, .string t, .slice A kids.length c1, .slice A' n2 c2]) (t := 26) (fr := (0, 0)) (by simp) 2
       have hc3 : w2.cell? ⟨w.heap.size, 3, none⟩ = some (.slice A' n2 c2) := hrg2.cell (g := w.heap.size) (cs := #[.int .i64 6, .string t, .slice A kids.length c1, .slice A' n2 c2]) (t := 26) (fr := (0, 0)) (by simp) 3
       have hlt2 : w.heap.size < w2.heap.size := hrg2.2.1)
    | (go_simp
       apply call_mem HM
       case h => ((repeat (first | with_reducible assumption | with_reducible apply RG.drew | with_reducible apply RG.alloc)); done)
       intro v3 w3 hrg3)
    | fail))
  all_goals go_wp2
  all_goals go_ret
  all_goals exact ⟨v4, rfl, hrg4.1.1, hrg4.1.2.1, hrg4.1.2.2.1⟩
end Go.Proofs.YtjcnjaebmndeiaaDoor
