/-
  'node': the node at a place, if it is there; 'lists': two arrays, or two maps.
-/
import Derived.Test.YtcmillbjpplfjaaGreatDoorNmd
import Derived.StillTailTactics
namespace Go.Proofs.YtcmillbjpplfjaaGreatDoor
open Go.RowKit

theorem set10 {W : World} {b : Nat} {e : TypeId} {a0 a1 a2 a3 a4 a5 a6 a7 a8 a9 : Value} (v0 v1 v2 v3 v4 v5 v6 v7 v8 v9 : Value) (h : W.heap[b]? = some (.cells #[a0, a1, a2, a3, a4, a5, a6, a7, a8, a9] e (0, 0))) :
    ((((((((((W.setCell ⟨b, 0, none⟩ v0).setCell ⟨b, 1, none⟩ v1).setCell ⟨b, 2, none⟩ v2).setCell ⟨b, 3, none⟩ v3).setCell ⟨b, 4, none⟩ v4).setCell ⟨b, 5, none⟩ v5).setCell ⟨b, 6, none⟩ v6).setCell ⟨b, 7, none⟩ v7).setCell ⟨b, 8, none⟩ v8).setCell ⟨b, 9, none⟩ v9).heap[b]? =
      some (.cells #[v0, v1, v2, v3, v4, v5, v6, v7, v8, v9] e (0, 0)) := by
  have h1 := heap_setCell_same W b 0 _ e v0 h
  have h2 := heap_setCell_same _ b 1 _ e v1 h1
  have h3 := heap_setCell_same _ b 2 _ e v2 h2
  have h4 := heap_setCell_same _ b 3 _ e v3 h3
  have h5 := heap_setCell_same _ b 4 _ e v4 h4
  have h6 := heap_setCell_same _ b 5 _ e v5 h5
  have h7 := heap_setCell_same _ b 6 _ e v6 h6
  have h8 := heap_setCell_same _ b 7 _ e v7 h7
  have h9 := heap_setCell_same _ b 8 _ e v8 h8
  have h10 := heap_setCell_same _ b 9 _ e v9 h9
  simpa using h10
theorem below10 {B : Nat} {w W : World} {b : Nat} {v0 v1 v2 v3 v4 v5 v6 v7 v8 v9 : Value} (h : Below B w W) (hb : B ≤ b) :
    Below B w ((((((((((W.setCell ⟨b, 0, none⟩ v0).setCell ⟨b, 1, none⟩ v1).setCell ⟨b, 2, none⟩ v2).setCell ⟨b, 3, none⟩ v3).setCell ⟨b, 4, none⟩ v4).setCell ⟨b, 5, none⟩ v5).setCell ⟨b, 6, none⟩ v6).setCell ⟨b, 7, none⟩ v7).setCell ⟨b, 8, none⟩ v8).setCell ⟨b, 9, none⟩ v9) :=
  (((((((((h.setCell hb _).setCell hb _).setCell hb _).setCell hb _).setCell hb _).setCell hb _).setCell hb _).setCell hb _).setCell hb _).setCell hb _
theorem frozen_10 {w : World} {b : Nat} {e : TypeId} {a : Array Value} (h : w.heap[b]? = some (.cells a e (0, 0))) : w.frozen? ⟨b, 0, none⟩ = false ∧ w.frozen? ⟨b, 1, none⟩ = false ∧ w.frozen? ⟨b, 2, none⟩ = false ∧ w.frozen? ⟨b, 3, none⟩ = false ∧ w.frozen? ⟨b, 4, none⟩ = false ∧
    w.frozen? ⟨b, 5, none⟩ = false ∧ w.frozen? ⟨b, 6, none⟩ = false ∧ w.frozen? ⟨b, 7, none⟩ = false ∧ w.frozen? ⟨b, 8, none⟩ = false ∧ w.frozen? ⟨b, 9, none⟩ = false :=
  ⟨frozen_of_row w b 0 _ _ h, frozen_of_row w b 1 _ _ h, frozen_of_row w b 2 _ _ h, frozen_of_row w b 3 _ _ h, frozen_of_row w b 4 _ _ h, frozen_of_row w b 5 _ _ h, frozen_of_row w b 6 _ _ h, frozen_of_row w b 7 _ _ h, frozen_of_row w b 8 _ _ h, frozen_of_row w b 9 _ _ h⟩
/-- What shapes a node's cells have. -/
theorem NdIn.shape {w : World} {ok : Nat → Prop} {n : Nd} {c : Nat → Value} (h : NdIn w ok n c) : ∃ A2 n2 c2 A3 n3 c3 A4 n4 c4 A8 n8 c8, c 2 = .slice A2 n2 c2 ∧ c 3 = .slice A3 n3 c3 ∧ c 4 = .slice A4 n4 c4 ∧ c 8 = .slice A8 n8 c8 := by
  obtain ⟨A2, c2, h2, _⟩ := h.al
  obtain ⟨A3, c3, _, h3, _⟩ := h.fs
  obtain ⟨A4, c4, h4, _⟩ := h.sy
  obtain ⟨A8, c8, h8, _⟩ := h.br
  exact ⟨A2, _, c2, A3, _, c3, A4, _, c4, A8, _, c8, h2, h3, h4, h8⟩
/-- The node at a place; what has nothing, if it is not there. -/
def thereB (ns : List Nd) (i : Int) : Bool := decide (0 ≤ i) && decide (i < ns.length)
def ndAt (ns : List Nd) (i : Int) : Nd := if thereB ns i = true then (ns[i.toNat]?).getD default else default
def NodeP (w : World) (ok : Nat → Prop) (n : Nd) (b : Bool) (e : Ending) (w' : World) : Prop := ∃ c, e = .returned (.tuple #[ndv c, .bool b]) ∧ NdIn w ok n c ∧ Below w.heap.size w w'
def zeroC (j : Nat) : Value := if j = 0 then .int .i64 0 else if j = 1 then .string ⟨#[]⟩ else if j = 2 then .slice none 0 0 else if j = 3 then .slice none 0 0 else if j = 4 then .slice none 0 0 else if j = 5 then .bool false else if j = 6 then .string ⟨#[]⟩ else if j = 7 then .int .i64 0 else if j = 8 then .slice none 0 0 else .int .i64 0
theorem strs_nil (w : World) (ok : Nat → Prop) : StrsAt w ok [] (.slice none 0 0) := ⟨none, 0, rfl, Nat.le_refl _, by unfold maxLen; omega, by simp, fun h => by simp at h⟩
theorem ints_nil (w : World) (ok : Nat → Prop) : IntsAt w ok [] (.slice none 0 0) := ⟨none, 0, rfl, Nat.le_refl _, by unfold maxLen; omega, by simp, fun h => by simp at h⟩
theorem rows_nil {α : Type} {k : Nat} {one : α → (Nat → Value) → Prop} (w : World) (ok : Nat → Prop) : RowsAt k one w ok [] (.slice none 0 0) := ⟨none, 0, fun _ _ => undef, rfl, Nat.le_refl _, by unfold maxLen; omega, fun h => by simp at h, fun i x h => by simp at h⟩
theorem zero_in (w : World) (ok : Nat → Prop) : NdIn w ok default zeroC :=
  ⟨rfl, rfl, strs_nil w ok, rows_nil w ok, strs_nil w ok, rfl, rfl, rfl, ints_nil w ok, rfl, by decide, by decide, by decide, by decide, by decide⟩
theorem node_ret {a : Act} {W : World} {b : Nat} {v0 v1 v2 v3 v4 v5 v6 v7 v8 v9 : Value} {is : Bool} {Q : Ending → World → Prop} (h9 : W.heap[b]? = some (.cells #[v0, v1, v2, v3, v4, v5, v6, v7, v8, v9] 50 (0, 0))) (h4 : a.tmps.getD 4 undef = .pointer (some ⟨b, 0, none⟩)) (h5 : a.tmps.getD 5 undef = .bool is) (hd : a.defers = [])
    (hq : Q (.returned (.tuple #[.agg #[v0, v1, v2, v3, v4, v5, v6, v7, v8, v9], .bool is])) W) : bodyPost Tryz.prog Tryz.f123 Q Exit.ret a W := by
  have q0 := cell_of_row _ _ 0 _ _ _ h9
  have q1 := cell_of_row _ _ 1 _ _ _ h9
  have q2 := cell_of_row _ _ 2 _ _ _ h9
  have q3 := cell_of_row _ _ 3 _ _ _ h9
  have q4 := cell_of_row _ _ 4 _ _ _ h9
  have q5 := cell_of_row _ _ 5 _ _ _ h9
  have q6 := cell_of_row _ _ 6 _ _ _ h9
  have q7 := cell_of_row _ _ 7 _ _ _ h9
  have q8 := cell_of_row _ _ 8 _ _ _ h9
  have q9 := cell_of_row _ _ 9 _ _ _ h9
  refine bodyPost_ret (v := .tuple #[.agg #[v0, v1, v2, v3, v4, v5, v6, v7, v8, v9], .bool is]) ?_ hd hq
  rw [results_cell_tmp (fn := Tryz.f123) (p := 4) (u := 5) (ty := 50) rfl, h4, h5]
  simp [go_sem, q0, q1, q2, q3, q4, q5, q6, q7, q8, q9]
/-- A schema boxed, and a node laid beside it. -/
abbrev boxed (w : World) (vs : Value) : World := (w.alloc (.cells #[vs] 29)).alloc (.cells #[.int .i64 0, .string ⟨#[]⟩, .slice none 0 0, .slice none 0 0, .slice none 0 0, .bool false, .string ⟨#[]⟩, .int .i64 0, .slice none 0 0, .int .i64 0] 50)
set_option maxRecDepth 100000 in
set_option maxHeartbeats 4000000 in
theorem node_any (ns : List Nd) (vs : Value) (w : World) (ok : Nat → Prop) (h : NdsAt w ok ns vs) (i : Int) :
    Calls Tryz.prog 123 #[.agg #[vs], .int .i64 i] w (NodeP w ok (ndAt ns i) (thereB ns i)) := by
  have hb0 : Below w.heap.size w (boxed w vs) := ((Below.refl _ w).alloc (Nat.le_refl _) _).alloc (by simp) _
  have h0 : (boxed w vs).heap[w.heap.size]? = some (.cells #[vs] 29 (0, 0)) := old_at _ (new_at rfl _)
  have h1 : (boxed w vs).heap[w.heap.size + 1]? = some (.cells #[.int .i64 0, .string ⟨#[]⟩, .slice none 0 0, .slice none 0 0, .slice none 0 0, .bool false, .string ⟨#[]⟩, .int .i64 0, .slice none 0 0, .int .i64 0] 50 (0, 0)) := new_at (by simp) _
  have p0 := cell_of_row _ _ 0 _ _ _ h0
  obtain ⟨A, cap, c, rfl, hl, hm, hcc, hone⟩ := h
  unfold maxLen at hm
  obtain ⟨f0, f1, f2, f3, f4, f5, f6, f7, f8, f9⟩ := frozen_10 h1
  have q0 := cell_of_row _ _ 0 _ _ _ h1
  have q1 := cell_of_row _ _ 1 _ _ _ h1
  have q2 := cell_of_row _ _ 2 _ _ _ h1
  have q3 := cell_of_row _ _ 3 _ _ _ h1
  have q4 := cell_of_row _ _ 4 _ _ _ h1
  have q5 := cell_of_row _ _ 5 _ _ _ h1
  have q6 := cell_of_row _ _ 6 _ _ _ h1
  have q7 := cell_of_row _ _ 7 _ _ _ h1
  have q8 := cell_of_row _ _ 8 _ _ _ h1
  have q9 := cell_of_row _ _ 9 _ _ _ h1
  have HB0 := Lib.hid hb0
  have H1 := Lib.hid h1
  have HC := Lib.hid hcc
  have HO := Lib.hid hone
  clear hcc hone hb0 h1 h0
  by_cases hlo : 0 ≤ i
  · by_cases hhi : i < (ns.length : Int)
    · obtain ⟨k, rfl⟩ : ∃ k : Nat, i = (k : Int) := ⟨i.toNat, by omega⟩
      have hk : k < ns.length := by omega
      obtain ⟨n, hn⟩ : ∃ n, ns[k]? = some n := ⟨_, List.getElem?_eq_getElem hk⟩
      have HT : Hid (thereB ns (k : Int) = true ∧ ndAt ns (k : Int) = n) := by
        have ht : thereB ns (k : Int) = true := by unfold thereB; simp; omega
        exact ⟨ht, by unfold ndAt; rw [if_pos ht, Int.toNat_natCast, hn]; rfl⟩
      have hi := HO.out k n hn
      obtain ⟨A2, n2, c2, A3, n3, c3, A4, n4, c4, A8, n8, c8, e2, e3, e4, e8⟩ := hi.shape
      obtain ⟨g, off, rfl, _, hcell⟩ := HC.out (by omega)
      have z0 := (below_fr0 HB0.out).cell (hcell k 0 hk (by omega)) trivial
      have z1 := (below_fr0 HB0.out).cell (hcell k 1 hk (by omega)) trivial
      have z2 := (below_fr0 HB0.out).cell (hcell k 2 hk (by omega)) trivial
      have z3 := (below_fr0 HB0.out).cell (hcell k 3 hk (by omega)) trivial
      have z4 := (below_fr0 HB0.out).cell (hcell k 4 hk (by omega)) trivial
      have z5 := (below_fr0 HB0.out).cell (hcell k 5 hk (by omega)) trivial
      have z6 := (below_fr0 HB0.out).cell (hcell k 6 hk (by omega)) trivial
      have z7 := (below_fr0 HB0.out).cell (hcell k 7 hk (by omega)) trivial
      have z8 := (below_fr0 HB0.out).cell (hcell k 8 hk (by omega)) trivial
      have z9 := (below_fr0 HB0.out).cell (hcell k 9 hk (by omega)) trivial
      rw [hi.kind, show off + (10 * k + 0) = off + k * 10 by omega] at z0
      rw [hi.name, show off + (10 * k + 1) = off + k * 10 + 1 by omega] at z1
      rw [e2, show off + (10 * k + 2) = off + k * 10 + 2 by omega] at z2
      rw [e3, show off + (10 * k + 3) = off + k * 10 + 3 by omega] at z3
      rw [e4, show off + (10 * k + 4) = off + k * 10 + 4 by omega] at z4
      rw [hi.has, show off + (10 * k + 5) = off + k * 10 + 5 by omega] at z5
      rw [hi.dflt, show off + (10 * k + 6) = off + k * 10 + 6 by omega] at z6
      rw [hi.items, show off + (10 * k + 7) = off + k * 10 + 7 by omega] at z7
      rw [e8, show off + (10 * k + 8) = off + k * 10 + 8 by omega] at z8
      rw [hi.size, show off + (10 * k + 9) = off + k * 10 + 9 by omega] at z9
      have HCV : Hid (ndv (c k) = .agg #[.int .i64 n.kind, .string n.name, .slice A2 n2 c2, .slice A3 n3 c3, .slice A4 n4 c4, .bool n.has, .string n.dflt, .int .i64 n.items, .slice A8 n8 c8, .int .i64 n.size]) := by
        show _ = _
        rw [ndv, hi.kind, hi.name, e2, e3, e4, hi.has, hi.dflt, hi.items, e8, hi.size]
      have HI := Lib.hid hi
      clear hcell hn hi e2 e3 e4 e8
      go_enter Tryz.func123, Tryz.ntmps123
      go_upto_region 1 with fail
      change Code.wp _ _ _ _ (boxed w _)
      generalize boxed w (.slice (some ⟨g, off, none⟩) ns.length cap) = W0 at *
      go_wp2
      refine node_ret (set10 _ _ _ _ _ _ _ _ _ _ H1.out) rfl rfl rfl ⟨c k, ?_, ?_, below10 HB0.out (by omega)⟩
      · rw [HT.out.1, HCV.out]
      · rw [HT.out.2]; exact HI.out
    · have HT : Hid (thereB ns i = false ∧ ndAt ns i = default) := by
        have ht : thereB ns i = false := by unfold thereB; simp; omega
        exact ⟨ht, by unfold ndAt; rw [if_neg (by rw [ht]; simp)]⟩
      go_enter Tryz.func123, Tryz.ntmps123
      go_upto_region 1 with fail
      change Code.wp _ _ _ _ (boxed w _)
      generalize boxed w (.slice A ns.length cap) = W0 at *
      go_wp2
      refine node_ret (set10 _ _ _ _ _ _ _ _ _ _ H1.out) rfl rfl rfl ⟨zeroC, ?_, ?_, below10 HB0.out (by omega)⟩
      · rw [HT.out.1]; rfl
      · rw [HT.out.2]; exact zero_in w ok
  · have HT : Hid (thereB ns i = false ∧ ndAt ns i = default) := by
      have ht : thereB ns i = false := by unfold thereB; simp; omega
      exact ⟨ht, by unfold ndAt; rw [if_neg (by rw [ht]; simp)]⟩
    go_enter Tryz.func123, Tryz.ntmps123
    go_upto_region 1 with fail
    change Code.wp _ _ _ _ (boxed w _)
    generalize boxed w (.slice A ns.length cap) = W0 at *
    go_wp2
    refine node_ret (set10 _ _ _ _ _ _ _ _ _ _ H1.out) rfl rfl rfl ⟨zeroC, ?_, ?_, below10 HB0.out (by omega)⟩
    · rw [HT.out.1]; rfl
    · rw [HT.out.2]; exact zero_in w ok
/-- Two arrays, or two maps. -/
def listsB (n m : Nd) : Bool := n.kind == m.kind && (n.kind == 11 || n.kind == 12)
set_option maxRecDepth 100000 in
set_option maxHeartbeats 2000000 in
theorem lists_any (n m : Nd) (c d : Nat → Value) (w : World) (ok ok' : Nat → Prop) (hn : NdIn w ok n c) (hm : NdIn w ok' m d) :
    Calls Tryz.prog 148 #[ndv c, ndv d] w fun e w' => e = .returned (.bool (listsB n m)) ∧ Below w.heap.size w w' := by
  have hb0 := two_below w c d
  have p0 : (two w c d).cell? ⟨w.heap.size, 0, none⟩ = some (.int .i64 n.kind) := by rw [← hn.kind]; exact (cells_10 (two_fst w c d)).1
  have q0 : (two w c d).cell? ⟨w.heap.size + 1, 0, none⟩ = some (.int .i64 m.kind) := by rw [← hm.kind]; exact (cells_10 (two_snd w c d)).1
  have HM : Hid (listsB n m = (n.kind == m.kind && (n.kind == 11 || n.kind == 12))) := rfl
  generalize listsB n m = N at *
  have HB0 := Lib.hid hb0
  clear hn hm hb0
  go_enter Tryz.func148, Tryz.ntmps148
  go_upto_region 1 with fail
  change Code.wp _ _ _ _ (two w c d)
  generalize two w c d = W0 at *
  generalize n.kind = nk at *
  generalize m.kind = mk at *
  go_wp2
  all_goals
    go_ret
    refine ⟨?_, HB0.out⟩
    rw [HM.out]
    simp [*]
end Go.Proofs.YtcmillbjpplfjaaGreatDoor
