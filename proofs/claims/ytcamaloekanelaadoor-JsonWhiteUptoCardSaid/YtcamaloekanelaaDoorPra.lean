/-
  'appendValue' of an array.
-/
import Derived.Test.YtcamaloekanelaaDoorPrt
import Derived.Deep.RegionLaw
import Derived.Deep.AppendLies
namespace Go.Proofs.YtcamaloekanelaaDoor
open Go.RowKit

/-- The row that is written, and blocks beside it that stay as they are. -/
def RG (w : World) (B : Nat) (v : Value) (l : Bs) (v1 : Value) (w1 : World) (gs : List (Nat × Obj)) : Prop :=
  ARel w B w.heap.size v l v1 w1 ∧ w.heap.size < w1.heap.size ∧ ∀ p, p ∈ gs → w1.heap[p.1]? = some p.2 ∧ v1.ownBlock ≠ some p.1
theorem RG.alloc {w : World} {B : Nat} {v : Value} {l : Bs} {v1 : Value} {w1 : World} {gs : List (Nat × Obj)} (h : RG w B v l v1 w1 gs) (o : Obj) : RG w B v l v1 (w1.alloc o) ((w1.heap.size, o) :: gs) := by
  obtain ⟨h1, h2, h3⟩ := h
  refine ⟨h1.alloc o, by simp; omega, fun p hp => ?_⟩
  rcases List.mem_cons.mp hp with rfl | hp
  · exact ⟨heap_alloc_new w1 o, fun e => by have := (h1.1.lt _ e).2; simp at this⟩
  · have hlt : p.1 < w1.heap.size := by
      rcases Nat.lt_or_ge p.1 w1.heap.size with h | h
      · exact h
      · have := (h3 p hp).1; rw [Array.getElem?_eq_none h] at this; cases this
    refine ⟨((World.grownBy_alloc w1 o none).block p.1 hlt (by simp)).trans (h3 p hp).1, (h3 p hp).2⟩
theorem RG.drew {w : World} {B : Nat} {v : Value} {l : Bs} {v1 : Value} {w1 : World} {gs : List (Nat × Obj)} (h : RG w B v l v1 w1 gs) : RG w B v l v1 w1.drew gs := by
  obtain ⟨⟨h1, h2, h3, h4, h5⟩, h6, h7⟩ := h
  exact ⟨⟨h1.drew, gdrewN h2 1, h3, h4, h5⟩, h6, h7⟩
theorem RG.post {w : World} {B : Nat} {v : Value} {l l2 : Bs} {v1 v2 : Value} {w1 w2 : World} {gs : List (Nat × Obj)} (h : RG w B v l v1 w1 gs) (hown : w2.ownsRow B 5 1 v2 l2.length (Lib.byteCells l2)) (hg : w1.grownBy w2 v1.ownBlock) (hb : v2.ownBlock = v1.ownBlock ∨ ∃ g, v2.ownBlock = some g ∧ w1.heap.size ≤ g) : RG w B v l2 v2 w2 gs := by
  obtain ⟨h1, h2, h3⟩ := h
  refine ⟨(h1.post h2 hown hg hb).1, Nat.lt_of_lt_of_le h2 hg.size, fun p hp => ?_⟩
  have hlt : p.1 < w1.heap.size := by
    rcases Nat.lt_or_ge p.1 w1.heap.size with h | h
    · exact h
    · have := (h3 p hp).1; rw [Array.getElem?_eq_none h] at this; cases this
  refine ⟨(hg.block p.1 hlt (fun e => (h3 p hp).2 e.symm)).trans (h3 p hp).1, fun e => ?_⟩
  rcases hb with e2 | ⟨g, e2, hg2⟩
  · exact (h3 p hp).2 (e2.symm.trans e)
  · rw [e2] at e; injection e with e; omega
theorem RG.cell {w : World} {B : Nat} {v : Value} {l : Bs} {v1 : Value} {w1 : World} {gs : List (Nat × Obj)} (h : RG w B v l v1 w1 gs) {g : Nat} {cs : Array Value} {t : TypeId} {fr : Nat × Nat} (hm : (g, Obj.cells cs t fr) ∈ gs) (j : Nat) : w1.cell? ⟨g, j, none⟩ = cs[j]? := by
  have := (h.2.2 _ hm).1
  rw [cell_of_row w1 g j cs t fr this]
theorem step_app1 {w w1 : World} {ops : Array Oper} {o : Oper} {a : Act} {K : Act → World → Prop} {Q : Exit → Act → World → Prop} {E : Prop} (hgd : o.guard = none) (s x : Operand)
    (ho : o.op = .call { callee := .builtin .append, args := #[s, x], argTypes := #[50, 50] }) {B : Nat} {v : Value} {l : Bs} {v1 : Value} {gs : List (Nat × Obj)} (hs : a.eval s = v1) (h : RG w B v l v1 w1 gs)
    (c : UInt8) (g : Nat) (t : TypeId) (fr : Nat × Nat) (cp : Nat) (hx : a.eval x = .slice (some ⟨g, 0, none⟩) 1 cp) (hm : (g, Obj.cells #[.int .u8 c.toNat] t fr) ∈ gs) (hl : l.length ≤ 10000000)
    (hK : ∀ v2 w2, RG w B v (l ++ [c]) v2 w2 gs → K (a.put o.dst v2) w2) :
    if Region.wanted o (yielded ops a.tmps) = true then Oper.wp Tryd.prog o a w1 K Q else E := by
  obtain ⟨i0, hi, hz0, hz1, hz2⟩ := info_parts Tryd.info5
  refine step_append_lies w1 hgd s x 50 ho B 5 i0 _ 1 1 Tryd.underlying50 hi hz0 hz1 hz2 rfl (by omega) v1 l.length (Lib.byteCells l) hs h.1.1 ⟨g, 0, none⟩ 1 cp [.int .u8 c.toNat] hx (by rfl)
    (World.news_of_block (cs := #[.int .u8 c.toNat]) (h.2.2 _ hm).1) (by simp [Value.oneCell']) (by omega) (by unfold maxLen; omega) (by omega) h.1.2.2.2.1 w1.heap.size rfl ?_
  intro g2 cap w2 ho2 hg2 hat hlt
  refine hK _ _ (h.post (app_one ho2) hg2 ?_)
  rcases hat with e | e
  · exact .inl e.symm
  · exact .inr ⟨g2, rfl, by omega⟩
theorem call_mem {w w1 : World} {B : Nat} {v x v1 : Value} {l l2 : Bs} {gs : List (Nat × Obj)} {Q : Ending → World → Prop} (HM : Hid (∀ (w1 : World) (v1 : Value), ARel w B w.heap.size v l v1 w1 → Calls Tryd.prog 72 #[v1, x] w1 (AppPost w1 B v1 l2))) (h : RG w B v l v1 w1 gs)
    (hQ : ∀ v3 w3, RG w B v l2 v3 w3 gs → Q (.returned v3) w3) : Calls Tryd.prog 72 #[v1, x] w1 Q :=
  (HM w1 v1 h.1).mono fun e w3 ⟨v3, he, ho, hg, hb⟩ => by
    subst he; exact hQ _ _ (h.post ho hg hb)
set_option maxHeartbeats 1000000 in
set_option maxRecDepth 100000 in
theorem value_ar (B : Nat) (pr : VT → Bs) (l : Bs) (v : Value) (t : ByteArray) (A A' : Option Addr) (c1 n2 c2 : Nat) (kids : List VT) (w : World) (hG : Gl w) (hown : w.ownsRow B 5 1 v l.length (Lib.byteCells l)) (hB : B ≤ w.heap.size) (h4 : 4 ≤ B)
    (hll : (l ++ [91] ++ memL pr kids).length ≤ 300000) (hkl : kids.length ≤ 100000) (hsl : SlV w (fun k => k < B) (.slice A kids.length c1) kids) (hkv : ∀ x, x ∈ kids → VIn w (fun k => k < B) x) (hkc : ∀ x, x ∈ kids → KC B pr x) :
    Calls Tryd.prog 46 #[v, jv 6 t A A' kids.length c1 n2 c2] w (AppPost w B v (l ++ [91] ++ memL pr kids ++ [93])) := by
  have hvlt := hown.lt
  have hbx := heap_alloc_new w (.cells #[.int .i64 6, .string t, .slice A kids.length c1, .slice A' n2 c2] 26 (0, 0))
  have har0 : ARel w B w.heap.size v l v (w.alloc (.cells #[.int .i64 6, .string t, .slice A kids.length c1, .slice A' n2 c2] 26)) :=
    ⟨hown.alloc _, World.grownBy_alloc w _ _, .inl rfl, by simp; omega, fun e => by have := (hvlt _ e).2; omega⟩
  have hl1 : l.length ≤ 300000 := by simp at hll; omega
  have hmem : ∀ (w1 : World) (v1 : Value), ARel w B w.heap.size v (l ++ [91]) v1 w1 → Calls Tryd.prog 72 #[v1, jv 6 t A A' kids.length c1 n2 c2] w1 (AppPost w1 B v1 (l ++ [91] ++ memL pr kids)) := fun w1 v1 ha => by
    have hfr := ha.fr (fun g e => (hvlt g e).1)
    exact members_arr B pr v1 (l ++ [91]) t A A' c1 n2 c2 kids w1 (hG.kept ha.2.1 (fun k e => by have := (hvlt k e).1; omega)) ha.1 ha.2.2.2.1 h4 hll hkl (hsl.fr hfr (fun _ h => h)) (fun x hx => (hkv x hx).fr hfr (fun _ h => h)) hkc
  have hrg : RG w B v l v (w.alloc (.cells #[.int .i64 6, .string t, .slice A kids.length c1, .slice A' n2 c2] 26)) [(w.heap.size, .cells #[.int .i64 6, .string t, .slice A kids.length c1, .slice A' n2 c2] 26)] :=
    ⟨har0, by simp, fun p hp => by
      rw [List.mem_singleton] at hp; subst hp
      exact ⟨hbx, har0.2.2.2.2⟩⟩
  have HM := Lib.hid hmem
  have HLL := Lib.hid hll
  have hl2 : l.length ≤ 10000000 := by omega
  have hl3 : (l ++ [91] ++ memL pr kids).length ≤ 10000000 := by omega
  clear hmem hll hsl hkv hkc hG har0 hown hB hvlt hbx
  go_enter Tryd.func46, Tryd.ntmps46
  go_wp2
  go_region_law ((first
    | (apply step_app1 (B := B) (v := v) (w := w) (l := l ++ [91] ++ memL pr kids) (c := 93) (t := 5) (fr := (0, 0)) (hl := hl3)
       case hgd => rfl
       case ho => rfl
       case h => ((repeat (first | with_reducible assumption | with_reducible apply RG.drew | with_reducible apply RG.alloc)); done)
       case hs => rfl
       case hx => rfl
       case hm => (simp [UInt8.toNat]; done)
       intro v4 w4 hrg4)
    | (apply step_app1 (B := B) (v := v) (w := w) (l := l) (c := 91) (t := 5) (fr := (0, 0)) (hl := hl2)
       case hgd => rfl
       case ho => rfl
       case h => ((repeat (first | with_reducible assumption | with_reducible apply RG.drew | with_reducible apply RG.alloc)); done)
       case hs => rfl
       case hx => rfl
       case hm => (simp [UInt8.toNat]; done)
       intro v2 w2 hrg2
       have hc0 : w2.cell? ⟨w.heap.size, 0, none⟩ = some (.int .i64 6) := hrg2.cell (g := w.heap.size) (cs := #[.int .i64 6, .string t, .slice A kids.length c1, .slice A' n2 c2]) (t := 26) (fr := (0, 0)) (by simp) 0
       have hc1 : w2.cell? ⟨w.heap.size, 1, none⟩ = some (.string t) := hrg2.cell (g := w.heap.size) (cs := #[.int .i64 6, .string t, .slice A kids.length c1, .slice A' n2 c2]) (t := 26) (fr := (0, 0)) (by simp) 1
       have hc2 : w2.cell? ⟨w.heap.size, 2, none⟩ = some (.slice A kids.length c1) := hrg2.cell (g := w.heap.size) (cs := #[.int .i64 6, .string t, .slice A kids.length c1, .slice A' n2 c2]) (t := 26) (fr := (0, 0)) (by simp) 2
       have hc3 : w2.cell? ⟨w.heap.size, 3, none⟩ = some (.slice A' n2 c2) := hrg2.cell (g := w.heap.size) (cs := #[.int .i64 6, .string t, .slice A kids.length c1, .slice A' n2 c2]) (t := 26) (fr := (0, 0)) (by simp) 3
       have hlt2 : w.heap.size < w2.heap.size := hrg2.2.1)
    | (go_simp
       apply call_mem HM
       case h => ((repeat (first | with_reducible assumption | with_reducible apply RG.drew | with_reducible apply RG.alloc)); done)
       intro v3 w3 hrg3)
    | fail))
  all_goals go_wp2
  all_goals go_ret
  all_goals exact ⟨v4, rfl, hrg4.1.1, hrg4.1.2.1, hrg4.1.2.2.1⟩
end Go.Proofs.YtcamaloekanelaaDoor
