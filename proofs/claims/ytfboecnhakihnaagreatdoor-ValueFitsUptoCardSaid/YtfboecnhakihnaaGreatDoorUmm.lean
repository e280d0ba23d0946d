/-
  'measure' of every value: how many values, bytes and keys it is.
  'measure' of every value, whole.
-/
import Derived.Test.YtfboecnhakihnaaGreatDoorUcd
namespace Go.Proofs.YtfboecnhakihnaaGreatDoor
open Go.RowKit Go.Shelf

/-- The three counters at block p. -/
def Msr (w : World) (p : Nat) (a b c : Nat) : Prop := w.heap[p]? = some (.cells #[.int .i64 a, .int .i64 b, .int .i64 c] 96 (0, 0))
theorem msr_cells {w : World} {p a b c : Nat} (h : Msr w p a b c) : w.cell? ⟨p, 0, none⟩ = some (.int .i64 a) ∧ w.cell? ⟨p, 1, none⟩ = some (.int .i64 b) ∧ w.cell? ⟨p, 2, none⟩ = some (.int .i64 c) ∧ w.frozen? ⟨p, 0, none⟩ = false ∧ w.frozen? ⟨p, 1, none⟩ = false ∧ w.frozen? ⟨p, 2, none⟩ = false :=
  ⟨cell_of_row w p 0 _ _ _ h, cell_of_row w p 1 _ _ _ h, cell_of_row w p 2 _ _ _ h, frozen_of_row w p 0 _ _ h, frozen_of_row w p 1 _ _ h, frozen_of_row w p 2 _ _ h⟩
theorem Msr.fr {w w' : World} {p a b c : Nat} {ok : Nat → Prop} (h : Msr w p a b c) (hf : Fr w w' ok) (hp : ok p) : Msr w' p a b c := hf.at h hp
set_option maxHeartbeats 4000000 in
set_option maxRecDepth 100000 in
theorem add_any (p a b c : Nat) (k m : Int) (B A A' : Option Addr) (n0 c0 n1 c1 n2 c2 : Nat) (w : World) (h : Msr w p a b c) (ha : a ≤ 1000000000) (hb : b + n0 ≤ 1000000000) (hc : c + n2 ≤ 1000000000) :
    Calls Tryz.prog 80 #[.pointer (some ⟨p, 0, none⟩), .agg #[.int .i64 k, .int .i64 m, .slice B n0 c0, .slice A n1 c1, .slice A' n2 c2]] w fun e w' => e = .returned (.tuple #[]) ∧ Msr w' p (a + 1) (b + n0) (c + n2) ∧ Fr w w' (fun k => k ≠ p) := by
  have hf0 : Fr w (w.alloc (.cells #[.int .i64 k, .int .i64 m, .slice B n0 c0, .slice A n1 c1, .slice A' n2 c2] 29)) (fun k => k ≠ p) := (Fr.refl w _).alloc _
  have h0 : Msr (w.alloc (.cells #[.int .i64 k, .int .i64 m, .slice B n0 c0, .slice A n1 c1, .slice A' n2 c2] 29)) p a b c := h.fr ((Fr.refl w (fun _ => True)).alloc _) trivial
  have hx0 := heap_alloc_new w (.cells #[.int .i64 k, .int .i64 m, .slice B n0 c0, .slice A n1 c1, .slice A' n2 c2] 29 (0, 0))
  have hpl := blk_lt h
  go_enter Tryz.func80, Tryz.ntmps80
  go_upto_region 1 with fail
  generalize w.alloc (.cells #[.int .i64 k, .int .i64 m, .slice B n0 c0, .slice A n1 c1, .slice A' n2 c2] 29) = W0 at *
  obtain ⟨q0, q1, q2, y0, y1, y2⟩ := msr_cells h0
  go_wp2
  have hf1 : Fr w (W0.setCell ⟨p, 0, none⟩ (.int .i64 ((a : Int) + 1))) (fun k => k ≠ p) := hf0.trans (Fr.of (gset W0 p 0 _) (fun b _ hb e => hb (by cases e; rfl)))
  have h1 : Msr (W0.setCell ⟨p, 0, none⟩ (.int .i64 ((a : Int) + 1))) p (a + 1) b c := by
    unfold Msr
    rw [heap_setCell_same W0 p 0 _ _ _ h0]
    rfl
  have hx1 := (Fr.of (gset W0 p 0 (.int .i64 ((a : Int) + 1))) (ok := fun k => k ≠ p) (fun b _ hb e => hb (by cases e; rfl))).at hx0 (show w.heap.size ≠ p by omega)
  clear q0 q1 q2 y0 y1 y2 h0 hx0 hf0
  generalize W0.setCell ⟨p, 0, none⟩ (.int .i64 ((a : Int) + 1)) = W1 at *
  obtain ⟨q0, q1, q2, y0, y1, y2⟩ := msr_cells h1
  obtain ⟨x0, x1, x2, x3, x4⟩ := cells_5 hx1
  go_still_tail 10, (by kernel_rfl)
  have hf2 : Fr w W1.drew (fun k => k ≠ p) := hf1.drewN 1
  have h2 : Msr W1.drew p (a + 1) b c := h1
  have hx2 : W1.drew.heap[w.heap.size]? = some (.cells #[.int .i64 k, .int .i64 m, .slice B n0 c0, .slice A n1 c1, .slice A' n2 c2] 29 (0, 0)) := hx1
  have e1 : IntKind.i64.wrap ((b : Int) + (n0 : Int)) = (b : Int) + (n0 : Int) := IntWalk.i64_in _ (by omega)
  try rw [e1]
  change wpList _ _ _ _ _ W1.drew
  clear q0 q1 q2 y0 y1 y2 x0 x1 x2 x3 x4 h1 hx1 hf1
  generalize W1.drew = W2 at *
  obtain ⟨q0, q1, q2, y0, y1, y2⟩ := msr_cells h2
  go_wp2
  have hf3 : Fr w (W2.setCell ⟨p, 1, none⟩ (.int .i64 ((b : Int) + (n0 : Int)))) (fun k => k ≠ p) := hf2.trans (Fr.of (gset W2 p 1 _) (fun b _ hb e => hb (by cases e; rfl)))
  have h3 : Msr (W2.setCell ⟨p, 1, none⟩ (.int .i64 ((b : Int) + (n0 : Int)))) p (a + 1) (b + n0) c := by
    unfold Msr
    rw [heap_setCell_same W2 p 1 _ _ _ h2]
    rfl
  have hx3 := (Fr.of (gset W2 p 1 (.int .i64 ((b : Int) + (n0 : Int)))) (ok := fun k => k ≠ p) (fun b _ hb e => hb (by cases e; rfl))).at hx2 (show w.heap.size ≠ p by omega)
  clear q0 q1 q2 y0 y1 y2 h2 hx2 hf2
  generalize W2.setCell ⟨p, 1, none⟩ (.int .i64 ((b : Int) + (n0 : Int))) = W3 at *
  obtain ⟨q0, q1, q2, y0, y1, y2⟩ := msr_cells h3
  obtain ⟨x0, x1, x2, x3, x4⟩ := cells_5 hx3
  go_still_tail 10, (by kernel_rfl)
  have hf4 : Fr w W3.drew (fun k => k ≠ p) := hf3.drewN 1
  have h4 : Msr W3.drew p (a + 1) (b + n0) c := h3
  have e1 : IntKind.i64.wrap ((c : Int) + (n2 : Int)) = (c : Int) + (n2 : Int) := IntWalk.i64_in _ (by omega)
  try rw [e1]
  change wpList _ _ _ _ _ W3.drew
  clear q0 q1 q2 y0 y1 y2 x0 x1 x2 x3 x4 h3 hx3 hf3
  generalize W3.drew = W4 at *
  have hf5 : Fr w (W4.setCell ⟨p, 2, none⟩ (.int .i64 ((c : Int) + (n2 : Int)))) (fun k => k ≠ p) := hf4.trans (Fr.of (gset W4 p 2 _) (fun b _ hb e => hb (by cases e; rfl)))
  have h5 : Msr (W4.setCell ⟨p, 2, none⟩ (.int .i64 ((c : Int) + (n2 : Int)))) p (a + 1) (b + n0) (c + n2) := by
    unfold Msr
    rw [heap_setCell_same W4 p 2 _ _ _ h4]
    rfl
  obtain ⟨q0, q1, q2, y0, y1, y2⟩ := msr_cells h4
  go_wp2
  go_end0
  exact ⟨rfl, h5, hf5⟩
end Go.Proofs.YtfboecnhakihnaaGreatDoor

namespace Go.Proofs.YtfboecnhakihnaaGreatDoor
open Go.RowKit Go.Shelf

def tcL (r : List UT) : Nat := ucL (r.map UT.t)
def toL (r : List UT) : Nat := uoL (r.map UT.t)
def tkL (r : List UT) : Nat := ukL (r.map UT.t)
/-- What is within the members. -/
def pnd : List UT → Nat
  | [] => 0
  | x :: r => ucL x.t.l + pnd r
theorem tcL_pnd : ∀ (r : List UT), tcL r = r.length + pnd r
  | [] => rfl
  | x :: r => by have := tcL_pnd r; unfold tcL at this ⊢; rw [List.map_cons, ucL, this, pnd, uc_l, List.length_cons]; omega
def tcS : List (List UT) → Nat
  | [] => 0
  | r :: s => tcL r + tcS s
def toS : List (List UT) → Nat
  | [] => 0
  | r :: s => toL r + toS s
def tkS : List (List UT) → Nat
  | [] => 0
  | r :: s => tkL r + tkS s
theorem tcS_len : ∀ (s : List (List UT)), (∀ r, r ∈ s → r ≠ []) → s.length ≤ tcS s
  | [], _ => Nat.le_refl _
  | r :: s, h => by
    have ih := tcS_len s (fun x hx => h x (by simp [hx]))
    have h1 := tcL_pnd r
    have h2 := List.length_pos_iff.2 (h r (by simp))
    rw [tcS]
    simp only [List.length_cons]
    omega
theorem UVIn.fm {w : World} {ok : Nat → Prop} {x : UT} (h : UVIn w ok x) : ∃ (k m : Int) (B A A' : Option Addr) (capb cap cap' : Nat), x.v0 = .int .i64 k ∧ x.v1 = .int .i64 m ∧ x.v2 = .slice B x.t.b.length capb ∧ x.v3 = .slice A x.kids.length cap ∧ x.v4 = .slice A' x.t.ks.length cap' ∧ x.kids.length ≤ maxLen ∧ x.t.ks.length ≤ maxLen ∧ x.t.b.length ≤ maxLen := by
  have hts := congrArg List.length h.ts
  rw [List.length_map] at hts
  match x, h.jin, hts with
  | .mk z a b c e f kids, hj, hts =>
    have hj' : UIn w ok z a b c e f := hj
    cases hj' with
    | mk k n y l ks B A A' capb cap cap' cc h1 h2 h3 h4 hcapb hcap hcap' _ _ _ _ =>
      have hts' : kids.length = l.length := hts
      refine ⟨k, n, B, A, A', capb, cap, cap', rfl, rfl, rfl, ?_, rfl, ?_, ?_, ?_⟩
      · show Value.slice A l.length cap = .slice A kids.length cap
        rw [hts']
      · show kids.length ≤ maxLen; omega
      · show ks.length ≤ maxLen; omega
      · show y.length ≤ maxLen; omega
theorem below_app {n : Nat} {w W W5 : World} {v : Value} (h : Below n w W) (hg : W.grownBy W5 v.ownBlock) (hv : ∀ g, v.ownBlock = some g → n ≤ g) (hn : n ≤ W.heap.size) : Below n w W5 :=
  ⟨hg.os.trans h.os, hg.tape.trans h.tape, hg.output.trans h.output, Nat.le_trans h.size hg.size, fun k hk => (hg.block k (by omega) (fun e => by have := hv k e.symm; omega)).trans (h.block k hk)⟩
theorem below_fr_ne {n p : Nat} {w W W5 : World} (h : Below n w W) (hf : Fr W W5 (fun k => k ≠ p)) (hp : n ≤ p) (hn : n ≤ W.heap.size) : Below n w W5 :=
  ⟨hf.os.trans h.os, hf.tape.trans h.tape, hf.output.trans h.output, Nat.le_trans h.size hf.size, fun k hk => (hf.block k (by omega) (by omega)).trans (h.block k hk)⟩
/-- What holds in the outer loop. -/
def MRel (w : World) (N O K : Nat) (g : Nat) (v4 : Value) (wr : World) : Prop :=
  ∃ (s : List (List UT)) (vs : List Value) (n o m : Nat), Msr wr (w.heap.size + 2) n o m ∧ n + tcS s = N ∧ o + toS s = O ∧ m + tkS s = K ∧ 2 * tcS s + s.length = g ∧ wr.ownsRow (w.heap.size + 3) 26 1 v4 s.length vs.reverse ∧ UStk w (fun b => b < w.heap.size) vs s ∧ ((∀ r, r ∈ s → r ≠ []) ∨ s.length ≤ 1) ∧ Below w.heap.size w wr ∧ w.heap.size + 3 ≤ wr.heap.size ∧ Msr wr (w.heap.size + 1) 0 0 0
/-- What holds in the inner one. -/
def NRel (w : World) (N O K nn : Nat) (r : List UT) (len0 : Nat) (g : Nat) (v4 i : Value) (wr : World) : Prop :=
  ∃ (q : Nat) (s : List (List UT)) (vs : List Value) (o m : Nat), q + g = r.length ∧ i = .int .i64 q ∧ Msr wr (w.heap.size + 2) (nn + q) o m ∧ nn + q + tcS s + tcL (r.drop q) = N ∧ o + toS s + toL (r.drop q) = O ∧ m + tkS s + tkL (r.drop q) = K ∧ wr.ownsRow (w.heap.size + 3) 26 1 v4 s.length vs.reverse ∧ UStk w (fun b => b < w.heap.size) vs s ∧ (∀ r, r ∈ s → r ≠ []) ∧ s.length ≤ len0 + q ∧ Below w.heap.size w wr ∧ w.heap.size + 3 ≤ wr.heap.size ∧ Msr wr (w.heap.size + 1) 0 0 0
set_option maxHeartbeats 8000000 in
set_option maxRecDepth 100000 in
theorem measure_any (x0 : UT) (w : World) (hv : UVIn w (fun b => b < w.heap.size) x0) (hN : uc x0.t ≤ 100000) (hOb : uo x0.t ≤ 1000000) (hKb : uk x0.t ≤ 100000) :
    Calls Tryz.prog 47 #[.agg #[x0.v0, x0.v1, x0.v2, x0.v3, x0.v4]] w fun e w' => e = .returned (.agg #[.int .i64 (uc x0.t : Nat), .int .i64 (uo x0.t : Nat), .int .i64 (uk x0.t : Nat)]) ∧ Below w.heap.size w w' := by
  obtain ⟨k, m, B, A, A', capb, cap, cap', e0, e1, e2, e3, e4, hl1, hl2, hl3⟩ := hv.fm
  have hsl := hv.sl
  have hkid := hv.kid
  have hzc : 1 + tcL x0.kids = uc x0.t := by unfold tcL; rw [hv.ts, uc_l]
  have hzo : x0.t.b.length + toL x0.kids = uo x0.t := by unfold toL; rw [hv.ts, uo_l]
  have hzk : x0.t.ks.length + tkL x0.kids = uk x0.t := by unfold tkL; rw [hv.ts, uk_l]
  rw [e3] at hsl
  rw [e0, e1, e2, e3, e4]
  generalize uc x0.t = N at *
  generalize uo x0.t = O at *
  generalize uk x0.t = K at *
  generalize x0.t.ks.length = nk at *
  generalize x0.t.b.length = nb at *
  generalize x0.kids = kids at *
  clear e0 e1 e2 e3 e4 hv
  obtain ⟨i0, hi, hz0, hz1, hz2⟩ := info_parts Tryz.info26
  generalize hnl : kids.length = nl at *
  have HSL := Lib.hid hsl
  have HNL := Lib.hid hnl
  have HKID := Lib.hid hkid
  clear hsl hnl hkid
  have hb0 : Below w.heap.size w (((w.alloc (.cells #[.int .i64 k, .int .i64 m, .slice B nb capb, .slice A nl cap, .slice A' nk cap'] 29)).alloc (.cells #[.int .i64 0, .int .i64 0, .int .i64 0] 96)).alloc (.cells #[.int .i64 0, .int .i64 0, .int .i64 0] 96)) := (((Below.refl _ w).alloc (Nat.le_refl _) _).alloc (by simp) _).alloc (by simp; omega) _
  have hvb : (((w.alloc (.cells #[.int .i64 k, .int .i64 m, .slice B nb capb, .slice A nl cap, .slice A' nk cap'] 29)).alloc (.cells #[.int .i64 0, .int .i64 0, .int .i64 0] 96)).alloc (.cells #[.int .i64 0, .int .i64 0, .int .i64 0] 96)).heap[w.heap.size]? = some (.cells #[.int .i64 k, .int .i64 m, .slice B nb capb, .slice A nl cap, .slice A' nk cap'] 29 (0, 0)) := old_at _ (old_at _ (new_at rfl _))
  have hmr : Msr (((w.alloc (.cells #[.int .i64 k, .int .i64 m, .slice B nb capb, .slice A nl cap, .slice A' nk cap'] 29)).alloc (.cells #[.int .i64 0, .int .i64 0, .int .i64 0] 96)).alloc (.cells #[.int .i64 0, .int .i64 0, .int .i64 0] 96)) (w.heap.size + 1) 0 0 0 := old_at _ (new_at (by simp) _)
  have hmp : Msr (((w.alloc (.cells #[.int .i64 k, .int .i64 m, .slice B nb capb, .slice A nl cap, .slice A' nk cap'] 29)).alloc (.cells #[.int .i64 0, .int .i64 0, .int .i64 0] 96)).alloc (.cells #[.int .i64 0, .int .i64 0, .int .i64 0] 96)) (w.heap.size + 2) 0 0 0 := new_at (by simp) _
  have hsz0 : (((w.alloc (.cells #[.int .i64 k, .int .i64 m, .slice B nb capb, .slice A nl cap, .slice A' nk cap'] 29)).alloc (.cells #[.int .i64 0, .int .i64 0, .int .i64 0] 96)).alloc (.cells #[.int .i64 0, .int .i64 0, .int .i64 0] 96)).heap.size = w.heap.size + 3 := by simp
  have HADD := Lib.hid (add_any (w.heap.size + 2) 0 0 0 k m B A A' nb capb nl cap nk cap' _ hmp (by omega) (by omega) (by omega))
  go_enter Tryz.func47, Tryz.ntmps47
  go_wp2_with fail
  refine HADD.out.mono ?_
  generalize (((w.alloc (.cells #[.int .i64 k, .int .i64 m, .slice B nb capb, .slice A nl cap, .slice A' nk cap'] 29)).alloc (.cells #[.int .i64 0, .int .i64 0, .int .i64 0] 96)).alloc (.cells #[.int .i64 0, .int .i64 0, .int .i64 0] 96)) = W0 at *
  rintro e w1 ⟨rfl, hm1, hf1⟩
  have hvb1 := hf1.at hvb (by omega)
  have hmr1 := hmr.fr hf1 (show w.heap.size + 1 ≠ w.heap.size + 2 by omega)
  have hb1 := below_fr_ne hb0 hf1 (by omega) hb0.size
  have hs1 : w.heap.size + 3 ≤ w1.heap.size := by have := hf1.size; omega
  clear HADD hvb hmr hmp hb0 hf1 hsz0
  obtain ⟨_, _, _, c3, _⟩ := cells_5 hvb1
  have hrow := heap_alloc_new w1 (.cells #[.slice A nl cap] 26 (0, 0))
  have hfa : Fr w1 (w1.alloc (.cells #[.slice A nl cap] 26)) (fun _ => True) := (Fr.refl w1 _).alloc _
  have hrel0 : MRel w N O K (2 * tcL kids + 1) (.slice (some ⟨w1.heap.size, 0, none⟩) 1 1) (w1.alloc (.cells #[.slice A nl cap] 26)) := by
    refine ⟨[kids], [.slice A nl cap], 1, nb, nk, by have := hm1.fr hfa trivial; simpa using this, by rw [tcS, tcS]; omega, by rw [toS, toS]; omega, by rw [tkS, tkS]; omega, by rw [tcS, tcS]; rfl, ⟨rfl, .inr ⟨_, 1, _, rfl, hs1, hrow, Nat.le_refl _, by unfold maxLen; omega, rfl, rfl⟩⟩, ⟨HSL.out, HKID.out, trivial⟩, .inr (Nat.le_refl _), hb1.alloc hb1.size _, by simp; omega, hmr1.fr hfa trivial⟩
  have HR0 := Lib.hid hrel0
  clear hrel0 hrow hb1 hzc hzo hzk HSL HNL HKID hl1 hl2 hl3 hm1 hmr1 hfa
  go_wp2
  clear c3
  go_loopg [4] (2 * tcL kids + 1) (fun g v4 wr => MRel w N O K g v4 wr)
  case atStart => exact HR0.out
  case round =>
    clear HR0
    obtain ⟨s, vs, n, o, m, hmm, hn, ho, hm, hg, hown, hstk, hgood, hbw, hsz, hres⟩ := hrel
    have HG := Lib.hid hg
    have HN := Lib.hid hn
    have HO := Lib.hid ho
    have HM := Lib.hid hm
    clear hg hn ho hm
    match s, vs, hstk with
    | [], [], _ =>
      obtain ⟨A0, cp0, rfl, _, _, _⟩ := own_open hown (by omega)
      have hnN : n = N := by have := HN.out; rw [tcS] at this; omega
      have hoO : o = O := by have := HO.out; rw [toS] at this; omega
      have hmK : m = K := by have := HM.out; rw [tkS] at this; omega
      subst hnN hoO hmK
      clear hown
      obtain ⟨q0, q1, q2, y0, y1, y2⟩ := msr_cells hmm
      obtain ⟨r0, r1, r2, z0, z1, z2⟩ := msr_cells hres
      have hset : (((wr.setCell ⟨w.heap.size + 1, 0, none⟩ (.int .i64 n)).setCell ⟨w.heap.size + 1, 1, none⟩ (.int .i64 o)).setCell ⟨w.heap.size + 1, 2, none⟩ (.int .i64 m)).heap[w.heap.size + 1]? = some (.cells #[.int .i64 n, .int .i64 o, .int .i64 m] 96 (0, 0)) :=
        heap_setCell_same _ _ 2 _ _ _ (heap_setCell_same _ _ 1 _ _ _ (heap_setCell_same _ _ 0 _ _ _ hres))
      have hbs : Below w.heap.size w (((wr.setCell ⟨w.heap.size + 1, 0, none⟩ (.int .i64 n)).setCell ⟨w.heap.size + 1, 1, none⟩ (.int .i64 o)).setCell ⟨w.heap.size + 1, 2, none⟩ (.int .i64 m)) :=
        ((hbw.setCell (by show w.heap.size ≤ w.heap.size + 1; omega) _).setCell (by show w.heap.size ≤ w.heap.size + 1; omega) _).setCell (by show w.heap.size ≤ w.heap.size + 1; omega) _
      have HSET := Lib.hid hset
      clear hset
      go_wp2
      exact bodyPost_ret (v := .agg #[.int .i64 n, .int .i64 o, .int .i64 m]) (results_cell_row rfl _ _ (w.heap.size + 1) 96 #[.int .i64 n, .int .i64 o, .int .i64 m] (0, 0) _ rfl HSET.out Tryz.underlying96 rfl (by kernel_rfl)) rfl ⟨rfl, hbs⟩
    | r :: s, v :: vs, ⟨hsl, hvin, hstk⟩ =>
      have hvl := hstk.len
      obtain ⟨g, cap, rfl⟩ := ownsRow_succ hown
      have hcap : s.length + 1 ≤ cap ∧ cap ≤ maxLen := by
        obtain ⟨A9, cp9, e9, a1, a2, _⟩ := own_open hown (by omega)
        cases e9; exact ⟨a1, a2⟩
      rw [List.reverse_cons] at hown
      have htop : wr.cell? ⟨g, s.length, none⟩ = some v := by
        have := hown.cells (g := g) rfl s.length v (by rw [List.getElem?_append_right (by simp; omega)]; simp [hvl])
        rw [addr_add, Nat.zero_add] at this
        exact this
      have hgs : ∀ x, x ∈ s → x ≠ [] := by
        rcases hgood with h | h
        · exact fun x hx => h x (by simp [hx])
        · intro x hx
          simp only [List.length_cons] at h
          have := List.length_pos_of_mem hx
          omega
      have hsc := tcS_len s hgs
      have hnr := HN.out
      rw [tcS] at hnr
      have hor := HO.out
      rw [toS] at hor
      have hmr := HM.out
      rw [tkS] at hmr
      have hpop := own_pop hown
      obtain ⟨A1, cp1, rfl, hr1, hr2, hr3⟩ := hsl
      have HGE := Lib.hid (show ∀ T L : Nat, T = tcS s + pnd r → L ≤ s.length + r.length → 2 * T + L < gk by have := HG.out; rw [tcS, tcL_pnd] at this; simp only [List.length_cons] at this; intro T L h1 h2; omega)
      have hrel1 : NRel w N O K n r s.length r.length (.slice (some ⟨g, 0, none⟩) s.length cap) (.int .i64 0) wr := ⟨0, s, vs, o, m, by omega, rfl, by simpa using hmm, by rw [List.drop_zero]; omega, by rw [List.drop_zero]; omega, by rw [List.drop_zero]; omega, hpop, hstk, hgs, by omega, hbw, hsz, hres⟩
      have HR1 := Lib.hid hrel1
      have HSUM := Lib.hid (show n + r.length + (tcS s + pnd r) = N by have := tcL_pnd r; omega)
      have hrc : r.length ≤ tcL r := by have := tcL_pnd r; omega
      have HSLC := Lib.hid hr3
      have HVIN := Lib.hid hvin
      obtain ⟨hcap1, hcap2⟩ := hcap
      unfold maxLen at hcap2 hr2
      have hrn : r.length ≤ 100000 := by omega
      have hnn : n ≤ 100000 := by omega
      have hsn : s.length ≤ 100000 := by omega
      clear hrel1 hr3 hvin hown hpop hstk hgs hgood hbw hsz hnr hor hmr hsc hvl HN HO HM HG hmm hres hrc
      generalize hrl : r.length = nr at *
      have HRL := Lib.hid hrl
      clear hrl
      go_wp2
      go_loopg [4, 29] nr (fun g2 u4 i wr2 => NRel w N O K n r s.length g2 u4 i wr2)
      case atStart => exact HR1.out
      case round =>
        clear HR1 htop
        obtain ⟨q, s2, vs2, o2, m2, hq, rfl, hmm2, hn2, ho2, hm2, hown2, hstk2, hgs2, hlen2, hbw2, hsz2, hres2⟩ := hrel
        rw [HRL.out] at hq
        by_cases hqr : q < nr
        · obtain ⟨x, hx⟩ : ∃ x, r[q]? = some x := ⟨_, List.getElem?_eq_getElem (by have := HRL.out; omega)⟩
          obtain ⟨g1, off, rfl, hg1, hc1⟩ := HSLC.out (by omega)
          obtain ⟨d0, d1, d2, d3, d4⟩ := hc1 q x hx
          have hxv := HVIN.out x (List.mem_of_getElem? hx)
          have hdrop : r.drop q = x :: r.drop (q + 1) := by
            have hlt := (List.getElem?_eq_some_iff.1 hx).1
            rw [List.drop_eq_getElem_cons hlt]
            rw [(List.getElem?_eq_some_iff.1 hx).2]
          rw [hdrop] at hn2 ho2 hm2
          unfold tcL at hn2
          unfold toL at ho2
          unfold tkL at hm2
          rw [List.map_cons, ucL, uc_l] at hn2
          rw [List.map_cons, uoL, uo_l] at ho2
          rw [List.map_cons, ukL, uk_l] at hm2
          obtain ⟨kx, nx, Bx, Ax, Ax', cbx, cx, cx', f0, f1, f2, f3, f4, hk1, hk2, hk3⟩ := hxv.fm
          have hxsl := hxv.sl
          have hxkid := hxv.kid
          have hxts := hxv.ts
          rw [f3] at hxsl
          have hf := below_fr hbw2
          have y0 := hf.cell d0 hg1
          have y1 := hf.cell d1 hg1
          have y2 := hf.cell d2 hg1
          have y3 := hf.cell d3 hg1
          have y4 := hf.cell d4 hg1
          rw [f0] at y0
          rw [f1] at y1
          rw [f2] at y2
          rw [f3] at y3
          rw [f4] at y4
          rw [Nat.mul_comm] at y0 y1 y2 y3 y4
          rw [← hxts] at hn2 ho2 hm2
          have hks : x.t.ks.length ≤ 100000 := by omega
          have hbs : x.t.b.length ≤ 1000000 := by omega
          have hm2n : m2 ≤ 100000 := by omega
          have ho2n : o2 ≤ 1000000 := by omega
          have hkl : x.kids.length ≤ 100000 := by have := ucL_len (x.kids.map UT.t); rw [List.length_map] at this; omega
          have hs2c := tcS_len s2 hgs2
          have hs2n : s2.length ≤ 100000 := by omega
          have hqn2 : n + q ≤ 100000 := by omega
          generalize x.t.ks.length = nkx at *
          generalize x.t.b.length = nbx at *
          generalize hkd : x.kids = kd at *
          have HN2 := Lib.hid hn2
          have HO2 := Lib.hid ho2
          have HM2 := Lib.hid hm2
          have HXSL := Lib.hid hxsl
          have HXK := Lib.hid hxkid
          have HGS2 := Lib.hid hgs2
          have HSTK := Lib.hid hstk2
          have hgl := hown2.lt
          have HGL := Lib.hid hgl
          have hXb : Fr wr (wr.alloc (.cells #[.int .i64 kx, .int .i64 nx, .slice Bx nbx cbx, .slice Ax kd.length cx, .slice Ax' nkx cx'] 29)) (fun _ => True) := (Fr.refl wr _).alloc _
          have hbox := heap_alloc_new wr (.cells #[.int .i64 kx, .int .i64 nx, .slice Bx nbx cbx, .slice Ax kd.length cx, .slice Ax' nkx cx'] 29 (0, 0))
          have HAD := Lib.hid (add_any (w.heap.size + 2) (n + q) o2 m2 kx nx Bx Ax Ax' nbx cbx kd.length cx nkx cx' _ (hmm2.fr hXb trivial) (by omega) (by omega) (by omega))
          have hbaX := hbw2.alloc hbw2.size (.cells #[.int .i64 kx, .int .i64 nx, .slice Bx nbx cbx, .slice Ax kd.length cx, .slice Ax' nkx cx'] 29)
          have hoX := hown2.alloc (.cells #[.int .i64 kx, .int .i64 nx, .slice Bx nbx cbx, .slice Ax kd.length cx, .slice Ax' nkx cx'] 29)
          have hrX := hres2.fr hXb trivial
          have hsX : (wr.alloc (.cells #[.int .i64 kx, .int .i64 nx, .slice Bx nbx cbx, .slice Ax kd.length cx, .slice Ax' nkx cx'] 29)).heap.size = wr.heap.size + 1 := by simp
          clear hn2 ho2 hm2 hxsl hxkid hxts hxv hx hc1 d0 d1 d2 d3 d4 f0 f1 f2 f3 f4 hdrop hkd hgs2 hstk2 hs2c hf hgl hXb hmm2
          unfold maxLen at hk1 hk2 hk3
          go_wp2_with fail
          refine HAD.out.mono ?_
          generalize wr.alloc (.cells #[.int .i64 kx, .int .i64 nx, .slice Bx nbx cbx, .slice Ax kd.length cx, .slice Ax' nkx cx'] 29) = WX at *
          rintro e w3 ⟨rfl, hm3, hf3⟩
          have hb3 := below_fr_ne hbaX hf3 (by omega) hbaX.size
          have ho3 := ownsRow_fr hoX hf3 (fun g e => by have := (hoX.lt g e).1; show g ≠ w.heap.size + 2; omega)
          have hr3 := hrX.fr hf3 (show w.heap.size + 1 ≠ w.heap.size + 2 by omega)
          have hbx3 := hf3.at hbox (show wr.heap.size ≠ w.heap.size + 2 by omega)
          have hs3 : wr.heap.size + 1 ≤ w3.heap.size := by have := hf3.size; omega
          obtain ⟨_, _, _, x3, _⟩ := cells_5 hbx3
          clear HAD y0 y1 y2 y3 y4 hbox hbaX hoX hrX hsX hf3 hbx3
          by_cases hkz : kd.length = 0
          · have hkdn : kd = [] := List.length_eq_zero_iff.1 hkz
            have hfinal : NRel w N O K n r s.length (nr - (q + 1)) u4 (.int .i64 ((q + 1 : Nat) : Int)) w3 := by
              have h1 := HN2.out
              have h2 := HM2.out
              have h3 := HO2.out
              rw [hkdn, List.map_nil, ucL] at h1
              rw [hkdn, List.map_nil, ukL] at h2
              rw [hkdn, List.map_nil, uoL] at h3
              refine ⟨q + 1, s2, vs2, o2 + nbx, m2 + nkx, by have := HRL.out; omega, rfl, by rw [← Nat.add_assoc]; exact hm3, by unfold tcL; omega, by unfold toL; omega, by unfold tkL; omega, ho3, HSTK.out, HGS2.out, by omega, hb3, by omega, hr3⟩
            have HF := Lib.hid hfinal
            clear hfinal hb3 ho3 hr3 hm3 hkdn
            generalize kd.length = nkd at *
            subst hkz
            go_wp2
            go_roundg (nr - (q + 1))
            case measure => omega
            case rel => have h := HF.out; simpa using h
          · have hkp : 0 < kd.length := by omega
            have hafter : ∀ (v5 : Value) (w5 : World) (o5 : Obj), w5.ownsRow (w.heap.size + 3) 26 1 v5 (s2.length + 1) (vs2.reverse ++ [.slice Ax kd.length cx]) → (w3.alloc o5).grownBy w5 u4.ownBlock →
                NRel w N O K n r s.length (nr - (q + 1)) v5 (.int .i64 ((q + 1 : Nat) : Int)) w5 := by
              intro v5 w5 o5 ho5 hg5
              have h1 := HN2.out
              have h2 := HM2.out
              have h3 := HO2.out
              have hba2 := hb3.alloc hb3.size o5
              have hb5 := below_app hba2 hg5 (fun g e => by have := (HGL.out g e).1; omega) hba2.size
              have hgf : Fr w3 w5 (fun k => k < w.heap.size + 3) := ((Fr.refl w3 _).alloc o5).trans (Fr.of hg5 (fun b _ hb e => by have := (HGL.out b e.symm).1; omega))
              refine ⟨q + 1, kd :: s2, .slice Ax kd.length cx :: vs2, o2 + nbx, m2 + nkx, by have := HRL.out; omega, rfl, by rw [← Nat.add_assoc]; exact hm3.fr hgf (by omega), by rw [tcS]; unfold tcL; omega, by rw [toS]; unfold toL; omega, by rw [tkS]; unfold tkL; omega, by simpa using ho5, ⟨HXSL.out, HXK.out, HSTK.out⟩, fun y hy => ?_, by simp only [List.length_cons]; omega, hb5, by have := hg5.size; simp at this; omega, hr3.fr hgf (by omega)⟩
              rcases List.mem_cons.1 hy with rfl | hy
              · exact List.length_pos_iff.1 hkp
              · exact HGS2.out y hy
            have HAf := Lib.hid hafter
            clear hafter hb3 hm3 hr3
            generalize kd.length = nkd at *
            go_wp2_with (at_builtin; refine wpList_append_own_at _ rfl _ _ 105 rfl (w.heap.size + 3) 26 i0 _ 1 24 Tryz.underlying105 hi hz0 hz1 hz2 rfl (by decide) _ _ _ rfl (ho3.alloc _) ⟨w3.heap.size, 0, none⟩ 1 1 [.slice Ax nkd cx] rfl rfl (cell_one_new _ _ _) (by simp [Value.oneCell']) (by unfold maxLen; omega) (by omega) (by simp; omega) ?_; intro v5 w5 hown5 hg5 _ hb5; have HF := (Lib.hid (HAf.out v5 w5 _ hown5 hg5)); clear hown5 hg5 hb5)
            go_roundg (nr - (q + 1))
            case measure => omega
            case rel => have h := HF.out; simpa using h
        · have hqn : q = nr := by omega
          subst hqn
          have hdr : r.drop q = [] := List.drop_eq_nil_iff.2 (by have := HRL.out; omega)
          rw [hdr] at hn2 ho2 hm2
          have hn2' : n + q + tcS s2 = N := by unfold tcL at hn2; rw [List.map_nil, ucL] at hn2; omega
          have ho2' : o2 + toS s2 = O := by unfold toL at ho2; rw [List.map_nil, uoL] at ho2; omega
          have hm2' : m2 + tkS s2 = K := by unfold tkL at hm2; rw [List.map_nil, ukL] at hm2; omega
          have hfin : MRel w N O K (2 * tcS s2 + s2.length) u4 wr := ⟨s2, vs2, n + q, o2, m2, hmm2, hn2', ho2', hm2', rfl, hown2, hstk2, .inl hgs2, hbw2, hsz2, hres2⟩
          have HF := Lib.hid hfin
          have HGF := Lib.hid (HGE.out (tcS s2) s2.length (by have := HSUM.out; omega) hlen2)
          clear hfin hdr hn2 hm2 ho2 hn2' ho2' hm2' hown2 hstk2 hgs2 hmm2 hres2
          go_wp2
          go_roundg (2 * tcS s2 + s2.length)
          case measure => exact HGF.out
          case rel => have h := HF.out; simpa using h
end Go.Proofs.YtfboecnhakihnaaGreatDoor
