/-
  'each': the function that tells a value and all within it.
-/
import Derived.Test.YtfboecnhakihnaaGreatDoorJVt
import Derived.Test.YtfboecnhakihnaaGreatDoorJNsv
import Derived.Sort.LoopGhostIn
namespace Go.Proofs.YtfboecnhakihnaaGreatDoor.js
open Go.RowKit Go.Shelf
attribute [local go_sem] Oper.semAt_some

def encN (x : Nat × VT) : Array Value := #[.int .i64 x.1, x.2.val]
theorem Tryz.info35 : (Tryz.prog.info? 35).map (fun i => (i.zero, i.size, i.bytes)) = some (some (.slice none 0 0), 1, 24) := by kernel_rfl
/-- The lists on the way, as slices. -/
def Stk (w : World) (ok : Nat → Prop) : List Value → List (List VT) → Prop
  | [], [] => True
  | v :: vs, r :: s => SlV w ok v r ∧ (∀ x, x ∈ r → VIn w ok x) ∧ Stk w ok vs s
  | _, _ => False
theorem VIn.mono {w : World} {ok ok' : Nat → Prop} {x : VT} (h : VIn w ok x) (hk : ∀ b, ok b → ok' b) : VIn w ok' x := by
  induction h with
  | mk t v0 v1 v2 v3 kids hs hj ht _ ih =>
    refine .mk t v0 v1 v2 v3 kids ?_ (hj.mono (fun b _ => hk b)) ht ih
    obtain ⟨A, cap, e, h1, h2, h3⟩ := hs
    exact ⟨A, cap, e, h1, h2, fun hp => by obtain ⟨g, off, ea, ho, hc⟩ := h3 hp; exact ⟨g, off, ea, hk g ho, hc⟩⟩
theorem Stk.fr {w w' : World} {ok ok' : Nat → Prop} (hf : Fr w w' ok') (hk : ∀ b, ok b → ok' b) : ∀ {vs : List Value} {s : List (List VT)}, Stk w ok vs s → Stk w' ok vs s
  | [], [], _ => trivial
  | _ :: _, _ :: _, ⟨h1, h2, h3⟩ => ⟨h1.fr hf hk, fun x hx => (h2 x hx).fr hf hk, h3.fr hf hk⟩
theorem Stk.len {w : World} {ok : Nat → Prop} : ∀ {vs : List Value} {s : List (List VT)}, Stk w ok vs s → vs.length = s.length
  | [], [], _ => rfl
  | _ :: _, _ :: _, ⟨_, _, h3⟩ => by simp [h3.len]
/-- What holds in the function's loop. -/
def ERel (xs : List (Nat × VT)) (J : List (Nat × VT) → World → Prop) (N b1 : Nat) (g : Nat) (v : Value) (wr : World) : Prop :=
  ∃ (pr : List (Nat × VT)) (s : List (List VT)) (vs : List Value), xs = pr ++ rem s ∧ 2 * (rem s).length + s.length = g ∧ wr.ownsRow (b1 + 1) 35 1 v s.length vs.reverse ∧ Stk wr (fun k => k < N ∨ k = b1) vs s ∧ J pr wr ∧ b1 + 1 ≤ wr.heap.size ∧ s.length ≤ pr.length + 1
/-- The row without its last cell. -/
theorem own_pop {w : World} {b g n cap : Nat} {e : TypeId} {x : Value} {xs : List Value} (h : w.ownsRow b e 1 (.slice (some ⟨g, 0, none⟩) (n + 1) cap) (n + 1) (xs ++ [x])) : w.ownsRow b e 1 (.slice (some ⟨g, 0, none⟩) n cap) n xs := by
  obtain ⟨h1, h2⟩ := h
  simp only [List.length_append, List.length_cons, List.length_nil] at h1
  refine ⟨by omega, ?_⟩
  rcases h2 with ⟨h2, _⟩ | ⟨g', cap', cur, e1, hb, hg, hn, hm, hs, ht⟩
  · simp at h2
  · cases e1
    refine .inr ⟨g, cap, cur, rfl, hb, hg, by omega, hm, hs, ?_⟩
    have hl : xs.length = n := by omega
    have := congrArg (List.take n) ht
    rw [List.take_take, show min n ((n + 1) * 1) = n by omega] at this
    rw [Nat.mul_one, this, List.take_append_of_le_length (by omega), List.take_of_length_le (by omega)]
/-- The row with its last cell another one. -/
theorem own_last {w : World} {b g n cap : Nat} {e : TypeId} {x y : Value} {xs : List Value} (h : w.ownsRow b e 1 (.slice (some ⟨g, 0, none⟩) (n + 1) cap) (n + 1) (xs ++ [x])) : (w.setCell ⟨g, n, none⟩ y).ownsRow b e 1 (.slice (some ⟨g, 0, none⟩) (n + 1) cap) (n + 1) (xs ++ [y]) := by
  obtain ⟨h1, h2⟩ := h
  simp only [List.length_append, List.length_cons, List.length_nil] at h1
  refine ⟨by simp; omega, ?_⟩
  rcases h2 with ⟨h2, _⟩ | ⟨g', cap', cur, e1, hb, hg, hn, hm, hs, ht⟩
  · simp at h2
  · cases e1
    have hl : xs.length = n := by omega
    refine .inr ⟨g, cap, cur.setIfInBounds n y, rfl, hb, ?_, hn, hm, by simpa using hs, ?_⟩
    · rw [heap_setCell_same w g n _ e y hg]
    · rw [Nat.mul_one] at ht ⊢
      rw [Array.toList_setIfInBounds, List.take_set, ht, List.set_append_right _ _ (by omega), hl, Nat.sub_self]
      rfl

set_option maxRecDepth 100000 in
set_option maxHeartbeats 4000000 in
theorem each_it (F : Fence) (n : Nat) (h67 : F.fn 84) (hro : F.round = none) (hn : 1 ≤ n) (Bv : Nat) (x0 : VT) (w : World) (hB : Bv < w.heap.size) (hbox : w.heap[Bv]? = some (.cells #[x0.v0, x0.v1, x0.v2, x0.v3] 37 (0, 0))) (hv : VIn w (fun k => k < w.heap.size) x0) (hsmall : (pre 0 x0).length ≤ 100000) :
    ItC F n Tryz.prog 84 #[.pointer (some ⟨Bv, 0, none⟩)] encN (pre 0 x0) w := by
  intro l J Jx W hW hl hwl hJ hJx hY h0
  have hbx : W.heap[Bv]? = some (.cells #[x0.v0, x0.v1, x0.v2, x0.v3] 37 (0, 0)) := (hW.block Bv hB).trans hbox
  have hfW : Fr w W (fun k => k < w.heap.size) := ⟨hW.os, hW.tape, hW.output, hW.size, fun k _ hk => hW.block k hk⟩
  have hv' : VIn W (fun k => k < w.heap.size) x0 := hv.fr hfW (fun _ h => h)
  have hxs : pre 0 x0 = rem [[x0]] := by rw [rem, preL, preL]; simp [rem]
  have HSm := Lib.hid hsmall
  rw [hxs] at HSm hY ⊢
  clear hxs hsmall
  obtain ⟨kk, tt, A, A', n1, cap1, n2, cap2, e0, e1, e2, e3⟩ := hv'.jin.forms
  have c0 : W.cell? ⟨Bv, 0, none⟩ = some (.int .i64 kk) := by rw [cell_of_row _ _ _ _ _ _ hbx, ← e0]; rfl
  have c1 : W.cell? ⟨Bv, 1, none⟩ = some (.string tt) := by rw [cell_of_row _ _ _ _ _ _ hbx, ← e1]; rfl
  have c2 : W.cell? ⟨Bv, 2, none⟩ = some (.slice A n1 cap1) := by rw [cell_of_row _ _ _ _ _ _ hbx, ← e2]; rfl
  have c3 : W.cell? ⟨Bv, 3, none⟩ = some (.slice A' n2 cap2) := by rw [cell_of_row _ _ _ _ _ _ hbx, ← e3]; rfl
  have hBW : Bv < W.heap.size := Nat.lt_of_lt_of_le hB hW.size
  have hrel0 : ERel (rem [[x0]]) J w.heap.size W.heap.size (2 * (rem [[x0]]).length + 1) (.slice (some ⟨W.heap.size + 1, 0, none⟩) 1 1) ((W.alloc (.cells #[.int .i64 kk, .string tt, .slice A n1 cap1, .slice A' n2 cap2] 37)).alloc (.cells #[.slice (some ⟨W.heap.size, 0, none⟩) 1 1] 35)) := by
    have hfa : Fr W ((W.alloc (.cells #[.int .i64 kk, .string tt, .slice A n1 cap1, .slice A' n2 cap2] 37)).alloc (.cells #[.slice (some ⟨W.heap.size, 0, none⟩) 1 1] 35)) (fun _ => True) := ((Fr.refl W _).alloc _).alloc _
    have hb1 : ((W.alloc (.cells #[.int .i64 kk, .string tt, .slice A n1 cap1, .slice A' n2 cap2] 37)).alloc (.cells #[.slice (some ⟨W.heap.size, 0, none⟩) 1 1] 35)).heap[W.heap.size]? = some (.cells #[.int .i64 kk, .string tt, .slice A n1 cap1, .slice A' n2 cap2] 37 (0, 0)) := (Below.heap_alloc _ _ _ (by simp)).trans (heap_alloc_new W _)
    have hb2 : ((W.alloc (.cells #[.int .i64 kk, .string tt, .slice A n1 cap1, .slice A' n2 cap2] 37)).alloc (.cells #[.slice (some ⟨W.heap.size, 0, none⟩) 1 1] 35)).heap[W.heap.size + 1]? = some (.cells #[.slice (some ⟨W.heap.size, 0, none⟩) 1 1] 35 (0, 0)) := by
      have := heap_alloc_new (W.alloc (.cells #[.int .i64 kk, .string tt, .slice A n1 cap1, .slice A' n2 cap2] 37)) (.cells #[.slice (some ⟨W.heap.size, 0, none⟩) 1 1] 35 (0, 0))
      simpa using this
    refine ⟨[], [[x0]], [.slice (some ⟨W.heap.size, 0, none⟩) 1 1], rfl, rfl, ⟨rfl, .inr ⟨_, 1, _, rfl, Nat.le_refl _, hb2, Nat.le_refl _, by unfold maxLen; omega, rfl, rfl⟩⟩, ⟨⟨_, 1, rfl, Nat.le_refl _, by unfold maxLen; omega, fun _ => ⟨W.heap.size, 0, rfl, .inr rfl, fun i x hx => ?_⟩⟩, fun x hx => ?_, trivial⟩, ?_, by simp, by simp⟩
    · match i, hx with
      | 0, hx =>
        cases hx
        rw [e0, e1, e2, e3]
        exact ⟨by rw [cell_of_row _ _ _ _ _ _ hb1]; rfl, by rw [cell_of_row _ _ _ _ _ _ hb1]; rfl, by rw [cell_of_row _ _ _ _ _ _ hb1]; rfl, by rw [cell_of_row _ _ _ _ _ _ hb1]; rfl⟩
    · rw [List.mem_singleton] at hx
      subst hx
      exact (hv'.mono (fun k hk => .inl hk)).fr hfa (fun _ _ => trivial)
    · exact hJ _ _ _ none (hJ _ _ _ none h0 (World.grownBy_alloc _ _ _) (fun r e => by cases e)) (World.grownBy_alloc _ _ _) (fun r e => by cases e)
  refine callsIn_of_wp Tryz.func84 rfl h67 ?_ hro
  simp only [Tryz.ntmps84, List.size_toArray, List.length_cons, List.length_nil, Nat.reduceAdd, Nat.reduceSub, Array.replicate_succ, Array.replicate_zero, List.push_toArray, List.append_toArray, List.nil_append, List.cons_append]
  have HY := Lib.hid hY
  have HJ := Lib.hid hJ
  have HJx := Lib.hid hJx
  clear hY hJ hJx e0 e1 e2 e3 hbx hv'
  gi_wp2
  clear c0 c1 c2 c3
  gi_loopg [3] (2 * (rem [[x0]]).length + 1) (fun g v wr => ERel (rem [[x0]]) J w.heap.size W.heap.size g v wr)
  case atStart => exact hrel0
  case round =>
    obtain ⟨pr, s, vs, hx, hg, hown, hstk, hjj, hsz, hpl⟩ := hrel
    clear hrel0
    have HG := Lib.hid hg
    have HX := Lib.hid hx
    clear hg hx
    match s, vs, hstk with
    | [], [], _ =>
      obtain ⟨A0, cp0, rfl, _, _, _⟩ := own_open hown (by omega)
      have hfin : rem [[x0]] = pr := by rw [HX.out, rem, List.append_nil]
      have HF := Lib.hid hfin
      clear hfin hown
      gi_wp2
      go_end0
      exact ⟨⟨_, rfl⟩, .inl (by rw [HF.out]; exact hjj)⟩
    | r :: s, v :: vs, ⟨hsl, hvin, hstk⟩ =>
      have hvl := hstk.len
      obtain ⟨g, cap, rfl⟩ := ownsRow_succ hown
      have hcap : s.length + 1 ≤ cap ∧ cap ≤ maxLen := by
        obtain ⟨A9, cp9, e9, a1, a2, _⟩ := own_open hown (by omega)
        cases e9; exact ⟨a1, a2⟩
      have hglt := hown.lt g rfl
      rw [List.reverse_cons] at hown
      have htop : wr.cell? ⟨g, s.length, none⟩ = some v := by
        have := hown.cells (g := g) rfl s.length v (by rw [List.getElem?_append_right (by simp; omega)]; simp [hvl])
        rw [addr_add, Nat.zero_add] at this
        exact this
      have hfz : wr.frozen? ⟨g, s.length, none⟩ = false := by
        rcases hown.2 with ⟨e, _⟩ | ⟨g', cp', cur, e, _, hgg, _⟩
        · cases e
        · cases e; exact frozen_of_row wr g s.length _ 35 hgg
      have hsml : s.length ≤ 100000 := by
        have h1 := HSm.out
        have h2 := congrArg List.length HX.out
        rw [List.length_append] at h2
        simp only [List.length_cons] at hpl
        omega
      obtain ⟨hcap1, hcap2⟩ := hcap
      unfold maxLen at hcap2
      cases r with
      | nil =>
        obtain ⟨A1, cp1, rfl, hr1, hr2, hr3⟩ := hsl
        have hpop := own_pop hown
        have HP : Hid (ERel (rem [[x0]]) J w.heap.size W.heap.size (2 * (rem s).length + s.length) (.slice (some ⟨g, 0, none⟩) s.length cap) wr) := ⟨pr, s, vs, by rw [HX.out, rem_nil], rfl, hpop, hstk, hjj, hsz, by simp at hpl; omega⟩
        have HG2 : Hid (2 * (rem s).length + s.length < gk) := by
          show _ < _
          have := HG.out
          rw [rem_nil] at this
          simp only [List.length_cons] at this
          omega
        clear hpop hown
        gi_wp2
        gi_roundg (2 * (rem s).length + s.length)
        case measure => exact HG2.out
        case rel => exact HP.out
      | cons x r =>
        obtain ⟨A1, cp1, rfl, hr1, hr2, hr3⟩ := hsl
        obtain ⟨_, hcp, hcpm, g1, off, rfl, hok1, d0, d1, d2, d3, htl⟩ := SlV.tail (x := x) (r := r) ⟨A1, cp1, rfl, hr1, hr2, hr3⟩
        have hxv := hvin x (by simp)
        obtain ⟨kx, tx, Ax, Ax', m1, cx1, m2, cx2, e0, e1, e2, e3⟩ := hxv.jin.forms
        rw [e0] at d0
        rw [e1] at d1
        rw [e2] at d2
        rw [e3] at d3
        have hg1 : g1 < wr.heap.size := World.block_lt_of_cell? wr ⟨g1, off, none⟩ d0
        have hgg1 : g1 ≠ g := by
          have h2 := hW.size
          rcases hok1 with h | h
          · omega
          · omega
        unfold maxLen at hcpm
        simp only [List.length_cons] at hr1
        clear hr3
        obtain ⟨vt, hvt⟩ : ∃ vt : Value, vt = .slice (if cp1 = 1 then some ⟨g1, off, none⟩ else some ⟨g1, off + 4, none⟩) r.length (cp1 - 1) := ⟨_, rfl⟩
        rw [← hvt] at htl
        have HVT := Lib.hid hvt
        clear hvt
        -- the world in which the round is asked for
        have hlast := own_last (y := vt) hown
        have hf1 : Fr wr (wr.setCell ⟨g, s.length, none⟩ vt) (fun k => k ≠ g) := Fr.of (gset wr g s.length vt) (fun b _ hb e => hb (by cases e; rfl))
        have hfa : Fr wr ((wr.setCell ⟨g, s.length, none⟩ vt).alloc (.cells #[.int .i64 kx, .string tx, .slice Ax m1 cx1, .slice Ax' m2 cx2] 37)) (fun k => k ≠ g) := hf1.alloc _
        have hokg : ∀ k, (k < w.heap.size ∨ k = W.heap.size) → k ≠ g := fun k hk => by have := hW.size; omega
        have hokl : ∀ k, (k < w.heap.size ∨ k = W.heap.size) → k ≠ l := fun k hk => by have := hW.size; omega
        have hgc : ∃ o : Obj, wr.heap[g]? = some o ∧ o.isCells = true := by
          rcases hown.2 with ⟨e, _⟩ | ⟨g', cp', cur, e, _, hgg, _⟩
          · cases e
          · cases e; exact ⟨_, hgg, rfl⟩
        have hj1 : J pr ((wr.setCell ⟨g, s.length, none⟩ vt).alloc (.cells #[.int .i64 kx, .string tx, .slice Ax m1 cx1, .slice Ax' m2 cx2] 37)) :=
          HJ.out _ _ _ none (HJ.out _ _ _ (some g) hjj (gset wr g s.length vt) (fun r e => by cases e; exact ⟨by omega, hgc⟩)) (World.grownBy_alloc _ _ _) (fun r e => by cases e)
        have hrem : rem [[x0]] = pr ++ (s.length, x) :: rem (x.kids :: r :: s) := HX.out.trans (by rw [rem_cons])
        obtain ⟨fn, tmps, assign, body, hy, hR⟩ := HY.out pr (s.length, x) _ _ hj1 hrem
        have hsize1 : ((wr.setCell ⟨g, s.length, none⟩ vt).alloc (.cells #[.int .i64 kx, .string tx, .slice Ax m1 cx1, .slice Ax' m2 cx2] 37)).heap.size = wr.heap.size + 1 := by simp
        have hown1 : ((wr.setCell ⟨g, s.length, none⟩ vt).alloc (.cells #[.int .i64 kx, .string tx, .slice Ax m1 cx1, .slice Ax' m2 cx2] 37)).ownsRow (W.heap.size + 1) 35 1 (.slice (some ⟨g, 0, none⟩) (s.length + 1) cap) (s.length + 1) (vs.reverse ++ [vt]) := hlast.alloc _
        have hstk1 := hstk.fr hfa hokg
        have hsl1 := htl.fr hfa hokg
        have hvin1 : ∀ y, y ∈ r → VIn ((wr.setCell ⟨g, s.length, none⟩ vt).alloc (.cells #[.int .i64 kx, .string tx, .slice Ax m1 cx1, .slice Ax' m2 cx2] 37)) (fun k => k < w.heap.size ∨ k = W.heap.size) y := fun y hy' => (hvin y (by simp [hy'])).fr hfa hokg
        have hxv1 := hxv.fr hfa hokg
        have hbox1 : ((wr.setCell ⟨g, s.length, none⟩ vt).alloc (.cells #[.int .i64 kx, .string tx, .slice Ax m1 cx1, .slice Ax' m2 cx2] 37)).heap[wr.heap.size]? = some (.cells #[.int .i64 kx, .string tx, .slice Ax m1 cx1, .slice Ax' m2 cx2] 37 (0, 0)) := by
          have := heap_alloc_new (wr.setCell ⟨g, s.length, none⟩ vt) (.cells #[.int .i64 kx, .string tx, .slice Ax m1 cx1, .slice Ax' m2 cx2] 37 (0, 0))
          simpa using this
        simp only [encN, VT.val, e0, e1, e2, e3] at hy
        -- behind the round
        have hafter : ∀ W3, J (pr ++ [(s.length, x)]) W3 → Fr ((wr.setCell ⟨g, s.length, none⟩ vt).alloc (.cells #[.int .i64 kx, .string tx, .slice Ax m1 cx1, .slice Ax' m2 cx2] 37)) W3 (fun k => k ≠ l) →
            W3.cell? ⟨wr.heap.size, 2, none⟩ = some (.slice Ax m1 cx1) ∧ wr.heap.size < W3.heap.size ∧ W3.ownsRow (W.heap.size + 1) 35 1 (.slice (some ⟨g, 0, none⟩) (s.length + 1) cap) (s.length + 1) (vs.reverse ++ [vt]) ∧
            (∀ v5 w5 o5, w5.ownsRow (W.heap.size + 1) 35 1 v5 (s.length + 1 + 1) ((vs.reverse ++ [vt]) ++ [.slice Ax m1 cx1]) → (W3.alloc o5).grownBy w5 (some g) →
              ERel (rem [[x0]]) J w.heap.size W.heap.size (2 * (rem (x.kids :: r :: s)).length + (x.kids :: r :: s).length) v5 w5) := by
          intro W3 hj3 hk3
          have hb3 := hk3.at hbox1 (show wr.heap.size ≠ l by have := hW.size; omega)
          have hown3 := ownsRow_fr hown1 hk3 (fun g' e => by cases e; show g ≠ l; omega)
          refine ⟨by rw [cell_of_row _ _ _ _ _ _ hb3]; rfl, blk_lt hb3, hown3, fun v5 w5 o5 h5 hg5 => ?_⟩
          have hf5 : Fr W3 w5 (fun k => k ≠ g) := ((Fr.refl W3 _).alloc o5).trans (Fr.of hg5 (fun b _ hb e => hb (by cases e; rfl)))
          have hgc3 : ∃ o : Obj, (W3.alloc o5).heap[g]? = some o ∧ o.isCells = true := by
            rcases (hown3.alloc o5).2 with ⟨e, _⟩ | ⟨g', cp', cur, e, _, hgg, _⟩
            · cases e
            · cases e; exact ⟨_, hgg, rfl⟩
          refine ⟨pr ++ [(s.length, x)], x.kids :: r :: s, .slice Ax m1 cx1 :: vt :: vs, by rw [hrem]; simp, rfl, by simpa using h5, ⟨?_, fun y hy' => ?_, ?_, fun y hy' => ?_, ?_⟩, ?_, ?_, ?_⟩
          · rw [← e2]; exact ((hxv1.sl).fr hk3 hokl).fr hf5 hokg
          · exact ((hxv1.kid y hy').fr hk3 hokl).fr hf5 hokg
          · exact (hsl1.fr hk3 hokl).fr hf5 hokg
          · exact ((hvin1 y hy').fr hk3 hokl).fr hf5 hokg
          · exact (hstk1.fr hk3 hokl).fr hf5 hokg
          · exact HJ.out _ _ _ (some g) (HJ.out _ _ _ none hj3 (World.grownBy_alloc _ _ _) (fun r e => by cases e)) hg5 (fun r e => by cases e; exact ⟨by omega, hgc3⟩)
          · have := hf5.size; have := hk3.size; rw [hsize1] at this; omega
          · simp only [List.length_cons, List.length_append, List.length_nil] at hpl ⊢; omega
        have HAf := Lib.hid hafter
        have HG2 : Hid (2 * (rem (x.kids :: r :: s)).length + (x.kids :: r :: s).length < gk) := by
          show _ < _
          have := HG.out
          rw [rem_cons] at this
          simp only [List.length_cons] at this ⊢
          omega
        have HJx2 : ∀ W3, Jx (pr ++ [(s.length, x)]) W3 → ∃ pre rest, rem [[x0]] = pre ++ rest ∧ Jx pre W3 := fun W3 h3 => ⟨pr ++ [(s.length, x)], rem (x.kids :: r :: s), by rw [hrem]; simp, h3⟩
        have HJ3 := Lib.hid HJx2
        have HRd := Lib.hid hR
        clear hafter HJx2 hR hrem hj1 hown1 hstk1 hsl1 hvin1 hxv1 hbox1 hlast hf1 hfa hgc hsize1 htl hstk hvin hxv hown hjj hokg hokl
        obtain ⟨i0, hi, hz0, hz1, hz2⟩ := info_parts Tryz.info35
        clear e0 e1 e2 e3
        by_cases hc1 : cp1 = 1
        · obtain rfl : r = [] := List.eq_nil_of_length_eq_zero (by omega)
          subst hc1
          obtain rfl : vt = .slice (some ⟨g1, off, none⟩) 0 0 := by rw [HVT.out]; rfl
          gi_wp2
          refine HRd.out.mono ?_
          rintro e W3 (⟨rfl, hJ3, hk3⟩ | ⟨rfl, hJx3⟩)
          · obtain ⟨b2, hlt3, hown3, hfin⟩ := HAf.out W3 hJ3 hk3
            have HFin := Lib.hid hfin
            clear hfin hJ3 hk3 HAf
            gi_wp2_with (gi_at_builtin; refine wpListIn_append_own _ rfl _ _ 144 rfl (W.heap.size + 1) 35 i0 _ 1 24 Tryz.underlying144 hi hz0 hz1 hz2 rfl (by decide) _ _ _ rfl (hown3.alloc _) ⟨W3.heap.size, 0, none⟩ 1 1 [.slice Ax m1 cx1] rfl rfl (cell_one_new _ _ _) (by simp [Value.oneCell']) (by unfold maxLen; omega) (by omega) (by simp; omega) ?_; intro v5 w5 hown5 hgrow5 _)
            gi_roundg (2 * (rem (x.kids :: [] :: s)).length + (x.kids :: [] :: s).length)
            case measure => exact HG2.out
            case rel => exact HFin.out v5 w5 _ hown5 hgrow5
          · gi_wp2
            refine bodyPost_ret (results_none rfl _ _ _) rfl ?_
            exact ⟨⟨_, rfl⟩, .inr (HJ3.out W3 hJx3)⟩
        · have hc2 : (cp1 : Int) ≠ 1 := by omega
          obtain rfl : vt = .slice (some ⟨g1, off + 4, none⟩) r.length (cp1 - 1) := by rw [HVT.out, if_neg hc1]
          gi_wp2
          refine HRd.out.mono ?_
          rintro e W3 (⟨rfl, hJ3, hk3⟩ | ⟨rfl, hJx3⟩)
          · obtain ⟨b2, hlt3, hown3, hfin⟩ := HAf.out W3 hJ3 hk3
            have HFin := Lib.hid hfin
            clear hfin hJ3 hk3 HAf
            gi_wp2_with (gi_at_builtin; refine wpListIn_append_own _ rfl _ _ 144 rfl (W.heap.size + 1) 35 i0 _ 1 24 Tryz.underlying144 hi hz0 hz1 hz2 rfl (by decide) _ _ _ rfl (hown3.alloc _) ⟨W3.heap.size, 0, none⟩ 1 1 [.slice Ax m1 cx1] rfl rfl (cell_one_new _ _ _) (by simp [Value.oneCell']) (by unfold maxLen; omega) (by omega) (by simp; omega) ?_; intro v5 w5 hown5 hgrow5 _)
            gi_roundg (2 * (rem (x.kids :: r :: s)).length + (x.kids :: r :: s).length)
            case measure => exact HG2.out
            case rel => exact HFin.out v5 w5 _ hown5 hgrow5
          · gi_wp2
            refine bodyPost_ret (results_none rfl _ _ _) rfl ?_
            exact ⟨⟨_, rfl⟩, .inr (HJ3.out W3 hJx3)⟩
end Go.Proofs.YtfboecnhakihnaaGreatDoor.js
