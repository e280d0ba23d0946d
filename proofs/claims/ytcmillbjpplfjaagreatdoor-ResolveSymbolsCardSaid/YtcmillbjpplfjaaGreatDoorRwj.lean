/-
  'within' of a leaf: nothing.
-/
import Derived.Test.YtcmillbjpplfjaaGreatDoorRal
import Derived.Test.YtcmillbjpplfjaaGreatDoorFl3
namespace Go.Proofs.YtcmillbjpplfjaaGreatDoor
open Go.RowKit Go.Maps

set_option maxRecDepth 100000 in
set_option maxHeartbeats 8000000 in
theorem list_nil (p : Nat) (a b : Int) (w : World) : Calls Tryz.prog 91 #[.pointer (some ⟨p, 0, none⟩), pairV a b, .slice none 0 0] w fun e w' => e = .returned (.tuple #[.slice none 0 0, .int .i64 0]) ∧ Below w.heap.size w w' := by
  have hb0 : Below w.heap.size w (w.alloc (.cells #[.int .i64 a, .int .i64 b] 73)) := (Below.refl _ w).alloc (Nat.le_refl _) _
  go_enter Tryz.func91, Tryz.ntmps91
  go_wp2
  go_loopg [8, 15] 0 (fun g o i wr => o = .slice none 0 0 ∧ i = .int .i64 0 ∧ wr = w.alloc (.cells #[.int .i64 a, .int .i64 b] 73))
  case atStart => exact ⟨rfl, rfl, rfl⟩
  case round =>
    obtain ⟨rfl, rfl, rfl⟩ := hrel
    go_wp2
    go_ret2
    exact ⟨rfl, hb0⟩
/-- Ten cells of a node. -/
def Ten (w : World) (b : Nat) (a : Nat → Value) : Prop := w.heap[b]? = some (.cells #[a 0, a 1, a 2, a 3, a 4, a 5, a 6, a 7, a 8, a 9] 50 (0, 0))
def wi1J : List (Option Nat) := [none, none, none, none, none, none, none, none, none, none, some 18, some 19, some 0, some 1, some 2, some 3, some 4, some 5, some 6, some 7, some 8, some 9, some 10, some 11, some 12, some 13, some 14, some 15, some 16, some 17, none, none, none, none, none, none, none, none, none, none, none, none, none, none, none, none, none, none, none, none, none, none, none, none, none, none, none, none, none, none, none, none, none, none, none, none, none, none, none, none, none]
def wi1D : List (List Nat) := [[], [0], [1], [2], [3], [], [5], [4, 6], [7], [], [9], [10], [11], [12], [], [14], [13, 15], [16], [], [], [18, 8], [19, 17]]
def wi1I (p P n g g' oS oT : Nat) (SS TT : Value) (i k : Int) (md nd : Nd) (s2 s3 s4 s8 t2 t3 t4 t8 : Value) : Nat → (Nat → Value) → World → Prop
  | 0, x, _ => x 0 = .pointer (some ⟨p, 0, none⟩)
  | 1, x, _ => x 1 = .pointer (some ⟨p, 0, none⟩)
  | 2, x, _ => x 2 = .pointer (some ⟨p, 0, none⟩)
  | 3, x, _ => x 3 = .pointer (some ⟨p, 0, none⟩)
  | 4, x, _ => x 4 = SS
  | 5, x, _ => x 5 = .pointer (some ⟨P, 0, none⟩)
  | 6, x, _ => x 6 = .int .i64 i
  | 7, x, _ => x 7 = .pointer (some ⟨g', oS, none⟩)
  | 8, x, _ => x 8 = .agg #[.int .i64 md.kind, .string md.name, s2, s3, s4, .bool md.has, .string md.dflt, .int .i64 md.items, s8, .int .i64 md.size]
  | 9, x, _ => x 9 = .pointer (some ⟨p, 0, none⟩)
  | 10, x, _ => x 10 = .pointer (some ⟨p, 0, none⟩)
  | 11, x, _ => x 11 = .pointer (some ⟨p, 1, none⟩)
  | 12, x, _ => x 12 = .pointer (some ⟨p, 1, none⟩)
  | 13, x, _ => x 13 = TT
  | 14, x, _ => x 14 = .pointer (some ⟨P, 1, none⟩)
  | 15, x, _ => x 15 = .int .i64 k
  | 16, x, _ => x 16 = .pointer (some ⟨g, oT, none⟩)
  | 17, x, _ => x 17 = .agg #[.int .i64 nd.kind, .string nd.name, t2, t3, t4, .bool nd.has, .string nd.dflt, .int .i64 nd.items, t8, .int .i64 nd.size]
  | 18, x, w => ∃ (b : Nat) (a : Nat → Value), x 18 = .pointer (some ⟨b, 0, none⟩) ∧ n ≤ b ∧ Ten w b a
  | 19, x, w => ∃ (b : Nat) (a : Nat → Value), x 19 = .pointer (some ⟨b, 0, none⟩) ∧ n ≤ b ∧ Ten w b a
  | 20, x, w => ∃ (b : Nat), x 18 = .pointer (some ⟨b, 0, none⟩) ∧ n ≤ b ∧ w.heap[b]? = some (.cells (nda md s2 s3 s4 s8) 50 (0, 0))
  | 21, x, w => ∃ (b : Nat), x 19 = .pointer (some ⟨b, 0, none⟩) ∧ n ≤ b ∧ w.heap[b]? = some (.cells (nda nd t2 t3 t4 t8) 50 (0, 0))
  | _, _, _ => True

def ten_of (b : Nat) (w w' : World) : Prop := Fr w w' (fun g => g ≠ b) ∧ ∀ (c : Nat) (a : Nat → Value), Ten w c a → ∃ a' : Nat → Value, Ten w' c a'
def wi1R : Nat → (Nat → Value) → World → World → Prop
  | 20, x, w, w' => ∃ b, x 18 = .pointer (some ⟨b, 0, none⟩) ∧ ten_of b w w'
  | 21, x, w, w' => ∃ b, x 19 = .pointer (some ⟨b, 0, none⟩) ∧ ten_of b w w'
  | _, _, w, w' => Fr w w' (fun _ => True)
theorem wi1R_ten {j : Nat} {x : Nat → Value} {w w' : World} (h : wi1R j x w w') {c : Nat} {a : Nat → Value} (hc : Ten w c a) : ∃ a' : Nat → Value, Ten w' c a' := by
  unfold wi1R at h
  split at h
  · obtain ⟨_, _, h⟩ := h; exact h.2 c a hc
  · obtain ⟨_, _, h⟩ := h; exact h.2 c a hc
  · exact ⟨a, h.at hc trivial⟩
theorem wi1R_fr {j : Nat} {x : Nat → Value} {w w' : World} (h : wi1R j x w w') (h1 : j ≠ 20) (h2 : j ≠ 21) : Fr w w' (fun _ => True) := by
  unfold wi1R at h
  split at h
  · exact absurd rfl h1
  · exact absurd rfl h2
  · exact h
/-- Two blocks that are made are two. -/
def wi1E (dn : Nat → Prop) (x : Nat → Value) (w : World) : Prop :=
  (dn 18 → ∃ b, x 18 = .pointer (some ⟨b, 0, none⟩) ∧ b < w.heap.size) ∧ (dn 19 → ∃ b, x 19 = .pointer (some ⟨b, 0, none⟩) ∧ b < w.heap.size) ∧ (dn 18 → dn 19 → x 18 ≠ x 19)
theorem wi1E_quiet {dn : Nat → Prop} {x : Nat → Value} {w w' : World} {i : Nat} {v : Value} (h1 : i ≠ 18) (h2 : i ≠ 19) (hs : w.heap.size ≤ w'.heap.size) (h : wi1E dn x w) : wi1E (fun j => j = i ∨ dn j) (upd x i v) w' := by
  obtain ⟨a, b, c⟩ := h
  have e1 : upd x i v 18 = x 18 := if_neg (Ne.symm h1)
  have e2 : upd x i v 19 = x 19 := if_neg (Ne.symm h2)
  refine ⟨fun h => ?_, fun h => ?_, fun h k => ?_⟩
  · obtain ⟨b, e, hb⟩ := a (h.resolve_left (Ne.symm h1)); exact ⟨b, e1.trans e, by omega⟩
  · obtain ⟨b, e, hb⟩ := b (h.resolve_left (Ne.symm h2)); exact ⟨b, e2.trans e, by omega⟩
  · rw [e1, e2]; exact c (h.resolve_left (Ne.symm h1)) (k.resolve_left (Ne.symm h2))
theorem wi1E_18 {dn : Nat → Prop} {x : Nat → Value} {w : World} (o : Obj) (h : wi1E dn x w) : wi1E (fun j => j = 18 ∨ dn j) (upd x 18 (.pointer (some ⟨w.heap.size, 0, none⟩))) (w.alloc o) := by
  obtain ⟨a, b, c⟩ := h
  have e1 : upd x 18 (.pointer (some ⟨w.heap.size, 0, none⟩)) 18 = .pointer (some ⟨w.heap.size, 0, none⟩) := if_pos rfl
  have e2 : upd x 18 (.pointer (some ⟨w.heap.size, 0, none⟩)) 19 = x 19 := if_neg (by decide)
  refine ⟨fun _ => ⟨_, e1, by simp⟩, fun h => ?_, fun _ k => ?_⟩
  · obtain ⟨b, e, hb⟩ := b (h.resolve_left (by decide)); exact ⟨b, e2.trans e, by simp; omega⟩
  · obtain ⟨b, e, hb⟩ := b (k.resolve_left (by decide))
    rw [e1, e2, e]
    intro q
    simp only [Value.pointer.injEq, Option.some.injEq, Addr.mk.injEq] at q
    omega
theorem wi1E_19 {dn : Nat → Prop} {x : Nat → Value} {w : World} (o : Obj) (h : wi1E dn x w) : wi1E (fun j => j = 19 ∨ dn j) (upd x 19 (.pointer (some ⟨w.heap.size, 0, none⟩))) (w.alloc o) := by
  obtain ⟨a, b, c⟩ := h
  have e1 : upd x 19 (.pointer (some ⟨w.heap.size, 0, none⟩)) 19 = .pointer (some ⟨w.heap.size, 0, none⟩) := if_pos rfl
  have e2 : upd x 19 (.pointer (some ⟨w.heap.size, 0, none⟩)) 18 = x 18 := if_neg (by decide)
  refine ⟨fun h => ?_, fun _ => ⟨_, e1, by simp⟩, fun k _ => ?_⟩
  · obtain ⟨b, e, hb⟩ := a (h.resolve_left (by decide)); exact ⟨b, e2.trans e, by simp; omega⟩
  · obtain ⟨b, e, hb⟩ := a (k.resolve_left (by decide))
    rw [e1, e2, e]
    intro q
    simp only [Value.pointer.injEq, Option.some.injEq, Addr.mk.injEq] at q
    omega
theorem set10_ten {w : World} {b : Nat} {a : Nat → Value} (h : Ten w b a) (v0 v1 v2 v3 v4 v5 v6 v7 v8 v9 : Value) :
    ten_of b w ((((((((((w.setCell ⟨b, 0, none⟩ v0).setCell ⟨b, 1, none⟩ v1).setCell ⟨b, 2, none⟩ v2).setCell ⟨b, 3, none⟩ v3).setCell ⟨b, 4, none⟩ v4).setCell ⟨b, 5, none⟩ v5).setCell ⟨b, 6, none⟩ v6).setCell ⟨b, 7, none⟩ v7).setCell ⟨b, 8, none⟩ v8).setCell ⟨b, 9, none⟩ v9) := by
  have hf := (((((((((set_fr w b 0 v0).trans (set_fr _ b 1 v1)).trans (set_fr _ b 2 v2)).trans (set_fr _ b 3 v3)).trans (set_fr _ b 4 v4)).trans (set_fr _ b 5 v5)).trans (set_fr _ b 6 v6)).trans (set_fr _ b 7 v7)).trans (set_fr _ b 8 v8)).trans (set_fr _ b 9 v9)
  refine ⟨hf, fun c f hc => ?_⟩
  by_cases e : c = b
  · subst e
    exact ⟨fun j => [v0, v1, v2, v3, v4, v5, v6, v7, v8, v9].getD j undef, set10 v0 v1 v2 v3 v4 v5 v6 v7 v8 v9 h⟩
  · exact ⟨f, hf.at hc e⟩
abbrev wiW (w : World) (i k : Int) (p0 p1 p2 v0 v1 v2 v3 v4 : Value) : World := ((w.alloc (.cells #[.int .i64 i, .int .i64 k] 73)).alloc (.cells #[p0, p1, p2] 109)).alloc (.cells #[v0, v1, v2, v3, v4] 26)
set_option maxRecDepth 100000 in
set_option maxHeartbeats 8000000 in
theorem within_leaf (S T : List Nd) (w : World) (p pm qm : Nat) (As Ar : Option Addr) (cs cr : Nat) (cnt : Int) (okS okT : Nat → Prop) (hT : Tn w p pm qm (.slice As S.length cs) (.slice Ar T.length cr) cnt) (hS : NdsAt w okS S (.slice As S.length cs)) (hR : NdsAt w okT T (.slice Ar T.length cr))
    (i k : Nat) (md nd : Nd) (hi : S[i]? = some md) (hk : T[k]? = some nd) (hnk : nd.kind ≠ 13 ∧ nd.kind ≠ 9) (p0 p1 p2 : Value) (kv vn : Int) (B A' : Option Addr) (nb cb nk ck : Nat) :
    Calls Tryz.prog 53 #[.pointer (some ⟨p, 0, none⟩), pairV i k, .agg #[p0, p1, p2], .agg #[.int .i64 kv, .int .i64 vn, .slice B nb cb, .slice none 0 0, .slice A' nk ck]] w fun e w' => e = .returned (.tuple #[.slice none 0 0, .int .i64 0]) ∧ Below w.heap.size w w' := by
  have hb0 : Below w.heap.size w (wiW w i k p0 p1 p2 (.int .i64 kv) (.int .i64 vn) (.slice B nb cb) (.slice none 0 0) (.slice A' nk ck)) := (((Below.refl _ w).alloc (Nat.le_refl _) _).alloc (by simp) _).alloc (by simp; omega) _
  have hf0 := below_fr0 hb0
  have h0 : (wiW w i k p0 p1 p2 (.int .i64 kv) (.int .i64 vn) (.slice B nb cb) (.slice none 0 0) (.slice A' nk ck)).heap[w.heap.size]? = some (.cells #[.int .i64 i, .int .i64 k] 73 (0, 0)) := old_at _ (old_at _ (new_at rfl _))
  have h2 : (wiW w i k p0 p1 p2 (.int .i64 kv) (.int .i64 vn) (.slice B nb cb) (.slice none 0 0) (.slice A' nk ck)).heap[w.heap.size + 1 + 1]? = some (.cells #[.int .i64 kv, .int .i64 vn, .slice B nb cb, .slice none 0 0, .slice A' nk ck] 26 (0, 0)) := new_at (by simp) _
  have hc := (hT.fr hf0 trivial).box
  obtain ⟨g, off, A2, n2, c2, A3, n3, c3, A4, n4, c4, A8, n8, c8, rfl, _, hgl, _, hNC⟩ := node_at hR hk
  have hlk := (List.getElem?_eq_some_iff.1 hk).1
  obtain ⟨_, _, _, hsl, hlcr, hmcr, _⟩ := id hR
  cases hsl
  obtain ⟨g', off', B2, m2, d2, B3, m3, d3, B4, m4, d4, B8, m8, d8, rfl, _, hgl', _, hNC'⟩ := node_at hS hi
  have hli := (List.getElem?_eq_some_iff.1 hi).1
  obtain ⟨_, _, _, hsl, hlcs, hmcs, _⟩ := id hS
  cases hsl
  unfold maxLen at hmcr hmcs
  obtain ⟨z0, z1, z2, z3, z4, z5, z6, z7, z8, z9⟩ := hNC.fr hf0 trivial
  obtain ⟨y0, y1, y2, y3, y4, y5, y6, y7, y8, y9⟩ := hNC'.fr hf0 trivial
  have H2 := Lib.hid h2
  have HF0 := Lib.hid hf0
  have HB0 := Lib.hid hb0
  clear hT hR hS hk hi hgl hgl' hNC hNC' hb0 h2
  obtain ⟨hn13, hn9⟩ := hnk
  go_enter Tryz.func53, Tryz.ntmps53
  go_upto_region 1 with fail
  change Code.wp _ _ _ _ (wiW w i k p0 p1 p2 (.int .i64 kv) (.int .i64 vn) (.slice B nb cb) (.slice none 0 0) (.slice A' nk ck))
  generalize wiW w i k p0 p1 p2 (.int .i64 kv) (.int .i64 vn) (.slice B nb cb) (.slice none 0 0) (.slice A' nk ck) = W0 at *
  have HG := Lib.hid (show ∀ W, Fr W0 W (fun b => b < W0.heap.size) → W.cell? ⟨p, 0, none⟩ = some (.slice (some ⟨g', off', none⟩) S.length cs) ∧ W.cell? ⟨p, 1, none⟩ = some (.slice (some ⟨g, off, none⟩) T.length cr) ∧ W.cell? ⟨w.heap.size, 0, none⟩ = some (.int .i64 i) ∧ W.cell? ⟨w.heap.size, 1, none⟩ = some (.int .i64 k) ∧
      NodeC W g (off + k * 10) nd (.slice A2 n2 c2) (.slice A3 n3 c3) (.slice A4 n4 c4) (.slice A8 n8 c8) ∧ NodeC W g' (off' + i * 10) md (.slice B2 m2 d2) (.slice B3 m3 d3) (.slice B4 m4 d4) (.slice B8 m8 d8) from fun W h => by
    have x := h.at hc (blk_lt hc)
    have y := h.at h0 (blk_lt h0)
    exact ⟨cell_of_row _ _ 0 _ _ _ x, cell_of_row _ _ 1 _ _ _ x, cell_of_row _ _ 0 _ _ _ y, cell_of_row _ _ 1 _ _ _ y, NodeC.fr ⟨z0, z1, z2, z3, z4, z5, z6, z7, z8, z9⟩ h (cell_lt z0), NodeC.fr ⟨y0, y1, y2, y3, y4, y5, y6, y7, y8, y9⟩ h (cell_lt y0)⟩)
  clear hc h0 z0 z1 z2 z3 z4 z5 z6 z7 z8 z9 y0 y1 y2 y3 y4 y5 y6 y7 y8 y9
  refine reg_flow3 (J := wi1J) (fun W => Fr W0 W (fun b => b < W0.heap.size)) wi1R wi1E wi1D (wi1I p w.heap.size W0.heap.size g g' (off' + i * 10) (off + k * 10) (.slice (some ⟨g', off', none⟩) S.length cs) (.slice (some ⟨g, off, none⟩) T.length cr) i k md nd (.slice B2 m2 d2) (.slice B3 m3 d3) (.slice B4 m4 d4) (.slice B8 m8 d8) (.slice A2 n2 c2) (.slice A3 n3 c3) (.slice A4 n4 c4) (.slice A8 n8 c8)) (by kernel_rfl) (by kernel_rfl) rfl ?_ ?_ ((Fr.refl _ _).drewN 1) (fun x => ⟨fun h => h.elim, fun h => h.elim, fun h => h.elim⟩) ?_ ?_
  · intro i j dn x v wy wz hij hnd hdi hdD hdJ hE hi hr
    match i, hij, hnd, hdi, hdD, hi with
    | 0, hij, _, _, _, hi => show upd x j v 0 = _; unfold upd; rw [if_neg hij]; exact hi
    | 1, hij, _, _, _, hi => show upd x j v 1 = _; unfold upd; rw [if_neg hij]; exact hi
    | 2, hij, _, _, _, hi => show upd x j v 2 = _; unfold upd; rw [if_neg hij]; exact hi
    | 3, hij, _, _, _, hi => show upd x j v 3 = _; unfold upd; rw [if_neg hij]; exact hi
    | 4, hij, _, _, _, hi => show upd x j v 4 = _; unfold upd; rw [if_neg hij]; exact hi
    | 5, hij, _, _, _, hi => show upd x j v 5 = _; unfold upd; rw [if_neg hij]; exact hi
    | 6, hij, _, _, _, hi => show upd x j v 6 = _; unfold upd; rw [if_neg hij]; exact hi
    | 7, hij, _, _, _, hi => show upd x j v 7 = _; unfold upd; rw [if_neg hij]; exact hi
    | 8, hij, _, _, _, hi => show upd x j v 8 = _; unfold upd; rw [if_neg hij]; exact hi
    | 9, hij, _, _, _, hi => show upd x j v 9 = _; unfold upd; rw [if_neg hij]; exact hi
    | 10, hij, _, _, _, hi => show upd x j v 10 = _; unfold upd; rw [if_neg hij]; exact hi
    | 11, hij, _, _, _, hi => show upd x j v 11 = _; unfold upd; rw [if_neg hij]; exact hi
    | 12, hij, _, _, _, hi => show upd x j v 12 = _; unfold upd; rw [if_neg hij]; exact hi
    | 13, hij, _, _, _, hi => show upd x j v 13 = _; unfold upd; rw [if_neg hij]; exact hi
    | 14, hij, _, _, _, hi => show upd x j v 14 = _; unfold upd; rw [if_neg hij]; exact hi
    | 15, hij, _, _, _, hi => show upd x j v 15 = _; unfold upd; rw [if_neg hij]; exact hi
    | 16, hij, _, _, _, hi => show upd x j v 16 = _; unfold upd; rw [if_neg hij]; exact hi
    | 17, hij, _, _, _, hi => show upd x j v 17 = _; unfold upd; rw [if_neg hij]; exact hi
    | 18, hij, hnd, hdi, hdD, hi =>
      obtain ⟨b, a, e, hb, hl⟩ := hi
      obtain ⟨a', hl'⟩ := wi1R_ten hr hl
      exact ⟨b, a', by unfold upd; rw [if_neg hij]; exact e, hb, hl'⟩
    | 19, hij, hnd, hdi, hdD, hi =>
      obtain ⟨b, a, e, hb, hl⟩ := hi
      obtain ⟨a', hl'⟩ := wi1R_ten hr hl
      exact ⟨b, a', by unfold upd; rw [if_neg hij]; exact e, hb, hl'⟩
    | 20, hij, hnd, hdi, hdD, hi =>
      obtain ⟨b, e, hb, hl⟩ := hi
      by_cases hj : j = 21
      · subst hj
        obtain ⟨b', e', hf, _⟩ := hr
        have hne := hE.2.2 (.inr (hdD 18 (by decide))) (.inr (hdJ 19 (by decide)))
        have hbb : b ≠ b' := fun q => hne (by rw [show upd x 21 v 18 = x 18 from if_neg (by decide), show upd x 21 v 19 = x 19 from if_neg (by decide), e, e', q])
        exact ⟨b, by unfold upd; rw [if_neg (by decide)]; exact e, hb, hf.at hl hbb⟩
      · have hja : j ≠ 18 := fun q => hnd (by subst q; decide)
        exact ⟨b, by unfold upd; rw [if_neg (Ne.symm hja)]; exact e, hb, (wi1R_fr hr (Ne.symm hij) (hj)).at hl trivial⟩
    | 21, hij, hnd, hdi, hdD, hi =>
      obtain ⟨b, e, hb, hl⟩ := hi
      by_cases hj : j = 20
      · subst hj
        obtain ⟨b', e', hf, _⟩ := hr
        have hne := hE.2.2 (.inr (hdJ 18 (by decide))) (.inr (hdD 19 (by decide)))
        have hbb : b ≠ b' := fun q => hne (by rw [show upd x 20 v 18 = x 18 from if_neg (by decide), show upd x 20 v 19 = x 19 from if_neg (by decide), e, e', q])
        exact ⟨b, by unfold upd; rw [if_neg (by decide)]; exact e, hb, hf.at hl hbb⟩
      · have hja : j ≠ 19 := fun q => hnd (by subst q; decide)
        exact ⟨b, by unfold upd; rw [if_neg (Ne.symm hja)]; exact e, hb, (wi1R_fr hr (hj) (Ne.symm hij)).at hl trivial⟩
    | m + 22, _, _, _, _, _ => trivial
  · intro d d' x w h he
    exact ⟨fun k => he.1 ((h 18).2 k), fun k => he.2.1 ((h 19).2 k), fun k l => he.2.2 ((h 18).2 k) ((h 19).2 l)⟩
  · refine And.intro ?_ (And.intro ?_ (And.intro ?_ (And.intro ?_ (And.intro ?_ (And.intro ?_ (And.intro ?_ (And.intro ?_ (And.intro ?_ (And.intro ?_ (And.intro ?_ (And.intro ?_ (And.intro ?_ (And.intro ?_ (And.intro ?_ (And.intro ?_ (And.intro ?_ (And.intro ?_ (And.intro ?_ (And.intro ?_ (And.intro ?_ (And.intro ?_ (trivial))))))))))))))))))))))
    · intro dn x wx hG hE hnd hdd hd K hK
      clear hd
      obtain ⟨g0, g1, g2, g3, ⟨x0, x1, x2, x3, x4, x5, x6, x7, x8, x9⟩, ⟨y0, y1, y2, y3, y4, y5, y6, y7, y8, y9⟩⟩ := HG.out wx hG
      have HE := Lib.hid hE
      clear hE hdd hnd
      simp only [wi1J, fillZ] at hK ⊢
      go_simp
      exact hK _ _ (Fr.refl _ _) hG (by first | rfl | simp [wi1I, upd]) (wi1E_quiet (by decide) (by decide) (Nat.le_refl _) HE.out)
    · intro dn x wx hG hE hnd hdd hd K hK
      have d0 : x 0 = .pointer (some ⟨p, 0, none⟩) := hd 0 (by decide)
      clear hd
      obtain ⟨g0, g1, g2, g3, ⟨x0, x1, x2, x3, x4, x5, x6, x7, x8, x9⟩, ⟨y0, y1, y2, y3, y4, y5, y6, y7, y8, y9⟩⟩ := HG.out wx hG
      have HE := Lib.hid hE
      clear hE hdd hnd
      simp only [wi1J, fillZ, d0] at hK ⊢
      go_simp
      exact hK _ _ (Fr.refl _ _) hG (by first | rfl | simp [wi1I, upd]) (wi1E_quiet (by decide) (by decide) (Nat.le_refl _) HE.out)
    · intro dn x wx hG hE hnd hdd hd K hK
      have d1 : x 1 = .pointer (some ⟨p, 0, none⟩) := hd 1 (by decide)
      clear hd
      obtain ⟨g0, g1, g2, g3, ⟨x0, x1, x2, x3, x4, x5, x6, x7, x8, x9⟩, ⟨y0, y1, y2, y3, y4, y5, y6, y7, y8, y9⟩⟩ := HG.out wx hG
      have HE := Lib.hid hE
      clear hE hdd hnd
      simp only [wi1J, fillZ, d1] at hK ⊢
      go_simp
      exact hK _ _ (Fr.refl _ _) hG (by first | rfl | simp [wi1I, upd]) (wi1E_quiet (by decide) (by decide) (Nat.le_refl _) HE.out)
    · intro dn x wx hG hE hnd hdd hd K hK
      have d2 : x 2 = .pointer (some ⟨p, 0, none⟩) := hd 2 (by decide)
      clear hd
      obtain ⟨g0, g1, g2, g3, ⟨x0, x1, x2, x3, x4, x5, x6, x7, x8, x9⟩, ⟨y0, y1, y2, y3, y4, y5, y6, y7, y8, y9⟩⟩ := HG.out wx hG
      have HE := Lib.hid hE
      clear hE hdd hnd
      simp only [wi1J, fillZ, d2] at hK ⊢
      go_simp
      exact hK _ _ (Fr.refl _ _) hG (by first | rfl | simp [wi1I, upd]) (wi1E_quiet (by decide) (by decide) (Nat.le_refl _) HE.out)
    · intro dn x wx hG hE hnd hdd hd K hK
      have d3 : x 3 = .pointer (some ⟨p, 0, none⟩) := hd 3 (by decide)
      clear hd
      obtain ⟨g0, g1, g2, g3, ⟨x0, x1, x2, x3, x4, x5, x6, x7, x8, x9⟩, ⟨y0, y1, y2, y3, y4, y5, y6, y7, y8, y9⟩⟩ := HG.out wx hG
      have HE := Lib.hid hE
      clear hE hdd hnd
      simp only [wi1J, fillZ, d3] at hK ⊢
      go_simp
      exact hK _ _ (Fr.refl _ _) hG (by first | rfl | simp [wi1I, upd]) (wi1E_quiet (by decide) (by decide) (Nat.le_refl _) HE.out)
    · intro dn x wx hG hE hnd hdd hd K hK
      clear hd
      obtain ⟨g0, g1, g2, g3, ⟨x0, x1, x2, x3, x4, x5, x6, x7, x8, x9⟩, ⟨y0, y1, y2, y3, y4, y5, y6, y7, y8, y9⟩⟩ := HG.out wx hG
      have HE := Lib.hid hE
      clear hE hdd hnd
      simp only [wi1J, fillZ] at hK ⊢
      go_simp
      exact hK _ _ (Fr.refl _ _) hG (by first | rfl | simp [wi1I, upd]) (wi1E_quiet (by decide) (by decide) (Nat.le_refl _) HE.out)
    · intro dn x wx hG hE hnd hdd hd K hK
      have d5 : x 5 = .pointer (some ⟨w.heap.size, 0, none⟩) := hd 5 (by decide)
      clear hd
      obtain ⟨g0, g1, g2, g3, ⟨x0, x1, x2, x3, x4, x5, x6, x7, x8, x9⟩, ⟨y0, y1, y2, y3, y4, y5, y6, y7, y8, y9⟩⟩ := HG.out wx hG
      have HE := Lib.hid hE
      clear hE hdd hnd
      simp only [wi1J, fillZ, d5] at hK ⊢
      go_simp
      exact hK _ _ (Fr.refl _ _) hG (by first | rfl | simp [wi1I, upd]) (wi1E_quiet (by decide) (by decide) (Nat.le_refl _) HE.out)
    · intro dn x wx hG hE hnd hdd hd K hK
      have d4 : x 4 = .slice (some ⟨g', off', none⟩) S.length cs := hd 4 (by decide)
      have d6 : x 6 = .int .i64 i := hd 6 (by decide)
      clear hd
      obtain ⟨g0, g1, g2, g3, ⟨x0, x1, x2, x3, x4, x5, x6, x7, x8, x9⟩, ⟨y0, y1, y2, y3, y4, y5, y6, y7, y8, y9⟩⟩ := HG.out wx hG
      have HE := Lib.hid hE
      clear hE hdd hnd
      simp only [wi1J, fillZ, d4, d6] at hK ⊢
      go_simp
      exact hK _ _ (Fr.refl _ _) hG (by first | rfl | simp [wi1I, upd]) (wi1E_quiet (by decide) (by decide) (Nat.le_refl _) HE.out)
    · intro dn x wx hG hE hnd hdd hd K hK
      have d7 : x 7 = .pointer (some ⟨g', off' + i * 10, none⟩) := hd 7 (by decide)
      clear hd
      obtain ⟨g0, g1, g2, g3, ⟨x0, x1, x2, x3, x4, x5, x6, x7, x8, x9⟩, ⟨y0, y1, y2, y3, y4, y5, y6, y7, y8, y9⟩⟩ := HG.out wx hG
      have HE := Lib.hid hE
      clear hE hdd hnd
      simp only [wi1J, fillZ, d7] at hK ⊢
      go_simp
      exact hK _ _ (Fr.refl _ _) hG (by first | rfl | simp [wi1I, upd]) (wi1E_quiet (by decide) (by decide) (Nat.le_refl _) HE.out)
    · intro dn x wx hG hE hnd hdd hd K hK
      clear hd
      obtain ⟨g0, g1, g2, g3, ⟨x0, x1, x2, x3, x4, x5, x6, x7, x8, x9⟩, ⟨y0, y1, y2, y3, y4, y5, y6, y7, y8, y9⟩⟩ := HG.out wx hG
      have HE := Lib.hid hE
      clear hE hdd hnd
      simp only [wi1J, fillZ] at hK ⊢
      go_simp
      exact hK _ _ (Fr.refl _ _) hG (by first | rfl | simp [wi1I, upd]) (wi1E_quiet (by decide) (by decide) (Nat.le_refl _) HE.out)
    · intro dn x wx hG hE hnd hdd hd K hK
      have d9 : x 9 = .pointer (some ⟨p, 0, none⟩) := hd 9 (by decide)
      clear hd
      obtain ⟨g0, g1, g2, g3, ⟨x0, x1, x2, x3, x4, x5, x6, x7, x8, x9⟩, ⟨y0, y1, y2, y3, y4, y5, y6, y7, y8, y9⟩⟩ := HG.out wx hG
      have HE := Lib.hid hE
      clear hE hdd hnd
      simp only [wi1J, fillZ, d9] at hK ⊢
      go_simp
      exact hK _ _ (Fr.refl _ _) hG (by first | rfl | simp [wi1I, upd]) (wi1E_quiet (by decide) (by decide) (Nat.le_refl _) HE.out)
    · intro dn x wx hG hE hnd hdd hd K hK
      have d10 : x 10 = .pointer (some ⟨p, 0, none⟩) := hd 10 (by decide)
      clear hd
      obtain ⟨g0, g1, g2, g3, ⟨x0, x1, x2, x3, x4, x5, x6, x7, x8, x9⟩, ⟨y0, y1, y2, y3, y4, y5, y6, y7, y8, y9⟩⟩ := HG.out wx hG
      have HE := Lib.hid hE
      clear hE hdd hnd
      simp only [wi1J, fillZ, d10] at hK ⊢
      go_simp
      exact hK _ _ (Fr.refl _ _) hG (by first | rfl | simp [wi1I, upd]) (wi1E_quiet (by decide) (by decide) (Nat.le_refl _) HE.out)
    · intro dn x wx hG hE hnd hdd hd K hK
      have d11 : x 11 = .pointer (some ⟨p, 1, none⟩) := hd 11 (by decide)
      clear hd
      obtain ⟨g0, g1, g2, g3, ⟨x0, x1, x2, x3, x4, x5, x6, x7, x8, x9⟩, ⟨y0, y1, y2, y3, y4, y5, y6, y7, y8, y9⟩⟩ := HG.out wx hG
      have HE := Lib.hid hE
      clear hE hdd hnd
      simp only [wi1J, fillZ, d11] at hK ⊢
      go_simp
      exact hK _ _ (Fr.refl _ _) hG (by first | rfl | simp [wi1I, upd]) (wi1E_quiet (by decide) (by decide) (Nat.le_refl _) HE.out)
    · intro dn x wx hG hE hnd hdd hd K hK
      have d12 : x 12 = .pointer (some ⟨p, 1, none⟩) := hd 12 (by decide)
      clear hd
      obtain ⟨g0, g1, g2, g3, ⟨x0, x1, x2, x3, x4, x5, x6, x7, x8, x9⟩, ⟨y0, y1, y2, y3, y4, y5, y6, y7, y8, y9⟩⟩ := HG.out wx hG
      have HE := Lib.hid hE
      clear hE hdd hnd
      simp only [wi1J, fillZ, d12] at hK ⊢
      go_simp
      exact hK _ _ (Fr.refl _ _) hG (by first | rfl | simp [wi1I, upd]) (wi1E_quiet (by decide) (by decide) (Nat.le_refl _) HE.out)
    · intro dn x wx hG hE hnd hdd hd K hK
      clear hd
      obtain ⟨g0, g1, g2, g3, ⟨x0, x1, x2, x3, x4, x5, x6, x7, x8, x9⟩, ⟨y0, y1, y2, y3, y4, y5, y6, y7, y8, y9⟩⟩ := HG.out wx hG
      have HE := Lib.hid hE
      clear hE hdd hnd
      simp only [wi1J, fillZ] at hK ⊢
      go_simp
      exact hK _ _ (Fr.refl _ _) hG (by first | rfl | simp [wi1I, upd]) (wi1E_quiet (by decide) (by decide) (Nat.le_refl _) HE.out)
    · intro dn x wx hG hE hnd hdd hd K hK
      have d14 : x 14 = .pointer (some ⟨w.heap.size, 1, none⟩) := hd 14 (by decide)
      clear hd
      obtain ⟨g0, g1, g2, g3, ⟨x0, x1, x2, x3, x4, x5, x6, x7, x8, x9⟩, ⟨y0, y1, y2, y3, y4, y5, y6, y7, y8, y9⟩⟩ := HG.out wx hG
      have HE := Lib.hid hE
      clear hE hdd hnd
      simp only [wi1J, fillZ, d14] at hK ⊢
      go_simp
      exact hK _ _ (Fr.refl _ _) hG (by first | rfl | simp [wi1I, upd]) (wi1E_quiet (by decide) (by decide) (Nat.le_refl _) HE.out)
    · intro dn x wx hG hE hnd hdd hd K hK
      have d13 : x 13 = .slice (some ⟨g, off, none⟩) T.length cr := hd 13 (by decide)
      have d15 : x 15 = .int .i64 k := hd 15 (by decide)
      clear hd
      obtain ⟨g0, g1, g2, g3, ⟨x0, x1, x2, x3, x4, x5, x6, x7, x8, x9⟩, ⟨y0, y1, y2, y3, y4, y5, y6, y7, y8, y9⟩⟩ := HG.out wx hG
      have HE := Lib.hid hE
      clear hE hdd hnd
      simp only [wi1J, fillZ, d13, d15] at hK ⊢
      go_simp
      exact hK _ _ (Fr.refl _ _) hG (by first | rfl | simp [wi1I, upd]) (wi1E_quiet (by decide) (by decide) (Nat.le_refl _) HE.out)
    · intro dn x wx hG hE hnd hdd hd K hK
      have d16 : x 16 = .pointer (some ⟨g, off + k * 10, none⟩) := hd 16 (by decide)
      clear hd
      obtain ⟨g0, g1, g2, g3, ⟨x0, x1, x2, x3, x4, x5, x6, x7, x8, x9⟩, ⟨y0, y1, y2, y3, y4, y5, y6, y7, y8, y9⟩⟩ := HG.out wx hG
      have HE := Lib.hid hE
      clear hE hdd hnd
      simp only [wi1J, fillZ, d16] at hK ⊢
      go_simp
      exact hK _ _ (Fr.refl _ _) hG (by first | rfl | simp [wi1I, upd]) (wi1E_quiet (by decide) (by decide) (Nat.le_refl _) HE.out)
    · intro dn x wx hG hE hnd hdd hd K hK
      clear hd
      obtain ⟨g0, g1, g2, g3, ⟨x0, x1, x2, x3, x4, x5, x6, x7, x8, x9⟩, ⟨y0, y1, y2, y3, y4, y5, y6, y7, y8, y9⟩⟩ := HG.out wx hG
      have HE := Lib.hid hE
      clear hE hdd hnd
      simp only [wi1J, fillZ] at hK ⊢
      go_simp
      exact hK _ _ (fr_all wx _) (hG.trans ((fr_all wx _).mono (fun _ _ _ => trivial))) ⟨wx.heap.size, fun j => zeroC j, rfl, hG.size, new_at rfl _⟩ (wi1E_18 _ HE.out)
    · intro dn x wx hG hE hnd hdd hd K hK
      clear hd
      obtain ⟨g0, g1, g2, g3, ⟨x0, x1, x2, x3, x4, x5, x6, x7, x8, x9⟩, ⟨y0, y1, y2, y3, y4, y5, y6, y7, y8, y9⟩⟩ := HG.out wx hG
      have HE := Lib.hid hE
      clear hE hdd hnd
      simp only [wi1J, fillZ] at hK ⊢
      go_simp
      exact hK _ _ (fr_all wx _) (hG.trans ((fr_all wx _).mono (fun _ _ _ => trivial))) ⟨wx.heap.size, fun j => zeroC j, rfl, hG.size, new_at rfl _⟩ (wi1E_19 _ HE.out)
    · intro dn x wx hG hE hnd hdd hd K hK
      have s18 := hd 18 (by decide)
      have d8 : x 8 = .agg #[.int .i64 md.kind, .string md.name, .slice B2 m2 d2, .slice B3 m3 d3, .slice B4 m4 d4, .bool md.has, .string md.dflt, .int .i64 md.items, .slice B8 m8 d8, .int .i64 md.size] := hd 8 (by decide)
      clear hd
      obtain ⟨g0, g1, g2, g3, ⟨x0, x1, x2, x3, x4, x5, x6, x7, x8, x9⟩, ⟨y0, y1, y2, y3, y4, y5, y6, y7, y8, y9⟩⟩ := HG.out wx hG
      obtain ⟨b, a, e18, hnb, hbl⟩ := s18
      obtain ⟨f0, f1, f2, f3, f4, f5, f6, f7, f8, f9⟩ := frozen_10 hbl
      have r0 := cell_of_row _ _ 0 _ _ _ hbl
      have r1 := cell_of_row _ _ 1 _ _ _ hbl
      have r2 := cell_of_row _ _ 2 _ _ _ hbl
      have r3 := cell_of_row _ _ 3 _ _ _ hbl
      have r4 := cell_of_row _ _ 4 _ _ _ hbl
      have r5 := cell_of_row _ _ 5 _ _ _ hbl
      have r6 := cell_of_row _ _ 6 _ _ _ hbl
      have r7 := cell_of_row _ _ 7 _ _ _ hbl
      have r8 := cell_of_row _ _ 8 _ _ _ hbl
      have r9 := cell_of_row _ _ 9 _ _ _ hbl
      have HBL := Lib.hid hbl
      have E18 := Lib.hid e18
      have HE := Lib.hid hE
      clear hE hdd hnd
      simp only [wi1J, fillZ, d8, e18] at hK ⊢
      go_simp
      exact hK undef _ ⟨b, E18.out, set10_ten HBL.out _ _ _ _ _ _ _ _ _ _⟩ (hG.trans ((set10_ten HBL.out _ _ _ _ _ _ _ _ _ _).1.mono (fun q _ hq => by omega))) ⟨b, by show upd x 20 undef 18 = _; unfold upd; rw [if_neg (by decide)]; exact E18.out, hnb, set10 _ _ _ _ _ _ _ _ _ _ HBL.out⟩ (wi1E_quiet (by decide) (by decide) (set10_ten HBL.out _ _ _ _ _ _ _ _ _ _).1.size HE.out)
    · intro dn x wx hG hE hnd hdd hd K hK
      have s19 := hd 19 (by decide)
      have d17 : x 17 = .agg #[.int .i64 nd.kind, .string nd.name, .slice A2 n2 c2, .slice A3 n3 c3, .slice A4 n4 c4, .bool nd.has, .string nd.dflt, .int .i64 nd.items, .slice A8 n8 c8, .int .i64 nd.size] := hd 17 (by decide)
      clear hd
      obtain ⟨g0, g1, g2, g3, ⟨x0, x1, x2, x3, x4, x5, x6, x7, x8, x9⟩, ⟨y0, y1, y2, y3, y4, y5, y6, y7, y8, y9⟩⟩ := HG.out wx hG
      obtain ⟨b, a, e19, hnb, hbl⟩ := s19
      obtain ⟨f0, f1, f2, f3, f4, f5, f6, f7, f8, f9⟩ := frozen_10 hbl
      have r0 := cell_of_row _ _ 0 _ _ _ hbl
      have r1 := cell_of_row _ _ 1 _ _ _ hbl
      have r2 := cell_of_row _ _ 2 _ _ _ hbl
      have r3 := cell_of_row _ _ 3 _ _ _ hbl
      have r4 := cell_of_row _ _ 4 _ _ _ hbl
      have r5 := cell_of_row _ _ 5 _ _ _ hbl
      have r6 := cell_of_row _ _ 6 _ _ _ hbl
      have r7 := cell_of_row _ _ 7 _ _ _ hbl
      have r8 := cell_of_row _ _ 8 _ _ _ hbl
      have r9 := cell_of_row _ _ 9 _ _ _ hbl
      have HBL := Lib.hid hbl
      have E19 := Lib.hid e19
      have HE := Lib.hid hE
      clear hE hdd hnd
      simp only [wi1J, fillZ, d17, e19] at hK ⊢
      go_simp
      exact hK undef _ ⟨b, E19.out, set10_ten HBL.out _ _ _ _ _ _ _ _ _ _⟩ (hG.trans ((set10_ten HBL.out _ _ _ _ _ _ _ _ _ _).1.mono (fun q _ hq => by omega))) ⟨b, by show upd x 21 undef 19 = _; unfold upd; rw [if_neg (by decide)]; exact E19.out, hnb, set10 _ _ _ _ _ _ _ _ _ _ HBL.out⟩ (wi1E_quiet (by decide) (by decide) (set10_ten HBL.out _ _ _ _ _ _ _ _ _ _).1.size HE.out)
  · intro x wx hG hI
    obtain ⟨b, e18, hb, hbl⟩ := hI 20 (by decide)
    obtain ⟨b', e19, hb', hbl'⟩ := hI 21 (by decide)
    clear hI
    simp only [wi1J, fillZ, e18, e19]
    show Exit.then _ _ Exit.normal _ wx
    have k0 : wx.cell? ⟨b', 0, none⟩ = some (.int .i64 nd.kind) := cell_of_row _ _ 0 _ _ _ hbl'
    have k7 : wx.cell? ⟨b', 7, none⟩ = some (.int .i64 nd.items) := cell_of_row _ _ 7 _ _ _ hbl'
    have j7 : wx.cell? ⟨b, 7, none⟩ = some (.int .i64 md.items) := cell_of_row _ _ 7 _ _ _ hbl
    have hv := hG.at H2.out (blk_lt H2.out)
    have v3 := cell_of_row _ _ 3 _ _ _ hv
    have pp0 := (HG.out wx hG).2.2.1
    have hbw : Below w.heap.size w wx := HB0.out.trans (fr_below (hG.mono (fun b hb _ => hb)) |>.mono HB0.out.size)
    have HBW := Lib.hid hbw
    have HNIL := Lib.hid (list_nil p md.items nd.items wx)
    generalize nd.kind = kd at *
    generalize nd.items = ni at *
    generalize md.items = mi at *
    have e13 : (kd == 13) = false := by simp [hn13]
    have e9 : (kd == 9) = false := by simp [hn9]
    clear hbl hbl' hv hbw HG
    clear pp0 e13 e9
    go_upto_region 7 with fail
    go_wp2_with fail
    refine HNIL.out.mono ?_
    rintro e w2 ⟨rfl, hb2⟩
    go_wp2
    go_ret2
    exact ⟨rfl, HBW.out.trans (hb2.mono HBW.out.size)⟩
end Go.Proofs.YtcmillbjpplfjaaGreatDoor
