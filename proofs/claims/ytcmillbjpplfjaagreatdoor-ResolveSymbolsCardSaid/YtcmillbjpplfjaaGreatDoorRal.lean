/-
  'alone' of a leaf: the number, the bytes and the keys, in memory of their own.
-/
import Derived.Test.YtcmillbjpplfjaaGreatDoorRpm
namespace Go.Proofs.YtcmillbjpplfjaaGreatDoor
open Go.RowKit Go.Maps

def al4J : List (Option Nat) := [none, none, none, none, none, none, none, none, none, none, none, none, none, none, none, none, none, none, none, none, none, none, none, none, none, none, none, some 0, some 1, some 2, some 3, some 4, some 5, some 6, some 7, some 8, some 10, some 12, none, none, none, none, none, none, none, none, none, none, none, none, none, none, none, none, none, none, none, none, none, none, none, none, none, none, none, none, none]
def al4D : List (List Nat) := [[], [0], [], [2], [3], [], [5], [6], [], [8, 1], [], [10, 4], [], [12, 7]]
def al4I (V O n0 nb cb nk ck : Nat) (B A : Option Addr) (vn : Int) (ys zs : List Value) : Nat → (Nat → Value) → World → Prop
  | 0, x, _ => x 0 = .pointer (some ⟨V, 1, none⟩)
  | 1, x, _ => x 1 = .int .i64 vn
  | 2, x, _ => x 2 = .pointer (some ⟨V, 2, none⟩)
  | 3, x, _ => x 3 = .slice B nb cb
  | 4, x, w => ∃ (A0 : Option Addr) (c : Nat), x 4 = .slice A0 nb c ∧ w.ownsRow n0 5 1 (x 4) nb ys
  | 5, x, _ => x 5 = .pointer (some ⟨V, 4, none⟩)
  | 6, x, _ => x 6 = .slice A nk ck
  | 7, x, w => ∃ (A0 : Option Addr) (c : Nat), x 7 = .slice A0 nk c ∧ w.ownsRow n0 9 1 (x 7) nk zs
  | 8, x, _ => x 8 = .pointer (some ⟨O, 1, none⟩)
  | 9, x, w => ∃ (c0 c2 c3 c4 : Value), w.heap[O]? = some (.cells #[c0, .int .i64 vn, c2, c3, c4] 26 (0, 0))
  | 10, x, _ => x 10 = .pointer (some ⟨O, 2, none⟩)
  | 11, x, w => ∃ (c0 c1 c3 c4 : Value), w.heap[O]? = some (.cells #[c0, c1, x 4, c3, c4] 26 (0, 0))
  | 12, x, _ => x 12 = .pointer (some ⟨O, 4, none⟩)
  | 13, x, w => ∃ (c0 c1 c2 c3 : Value), w.heap[O]? = some (.cells #[c0, c1, c2, c3, x 7] 26 (0, 0))
  | _, _, _ => True

def al4R (O : Nat) : Nat → World → World → Prop
  | 9, w, w' => ∃ v, w' = w.setCell ⟨O, 1, none⟩ v
  | 11, w, w' => ∃ v, w' = w.setCell ⟨O, 2, none⟩ v
  | 13, w, w' => ∃ v, w' = w.setCell ⟨O, 4, none⟩ v
  | _, w, w' => Fr w w' (fun _ => True)
theorem five_1 {w : World} {b : Nat} {e : TypeId} {a0 a1 a2 a3 a4 : Value} (v : Value) (h : w.heap[b]? = some (.cells #[a0, a1, a2, a3, a4] e (0, 0))) : (w.setCell ⟨b, 1, none⟩ v).heap[b]? = some (.cells #[a0, v, a2, a3, a4] e (0, 0)) := by rw [heap_setCell_same w b 1 _ e v h]; rfl
theorem five_2 {w : World} {b : Nat} {e : TypeId} {a0 a1 a2 a3 a4 : Value} (v : Value) (h : w.heap[b]? = some (.cells #[a0, a1, a2, a3, a4] e (0, 0))) : (w.setCell ⟨b, 2, none⟩ v).heap[b]? = some (.cells #[a0, a1, v, a3, a4] e (0, 0)) := by rw [heap_setCell_same w b 2 _ e v h]; rfl
theorem five_4 {w : World} {b : Nat} {e : TypeId} {a0 a1 a2 a3 a4 : Value} (v : Value) (h : w.heap[b]? = some (.cells #[a0, a1, a2, a3, a4] e (0, 0))) : (w.setCell ⟨b, 4, none⟩ v).heap[b]? = some (.cells #[a0, a1, a2, a3, v] e (0, 0)) := by rw [heap_setCell_same w b 4 _ e v h]; rfl
theorem al4R_fr {O j : Nat} {w w' : World} (h : al4R O j w w') : Fr w w' (fun b => b ≠ O) := by
  unfold al4R at h
  split at h
  · obtain ⟨v, rfl⟩ := h; exact set_fr _ _ _ _
  · obtain ⟨v, rfl⟩ := h; exact set_fr _ _ _ _
  · obtain ⟨v, rfl⟩ := h; exact set_fr _ _ _ _
  · exact h.mono (fun _ _ _ => trivial)
/-- What an operation leaves of five cells: all but the one that it writes. -/
theorem al4R_five {O j : Nat} {w w' : World} (h : al4R O j w w') {a0 a1 a2 a3 a4 : Value} (hO : w.heap[O]? = some (.cells #[a0, a1, a2, a3, a4] 26 (0, 0))) :
    ∃ b1 b2 b4, w'.heap[O]? = some (.cells #[a0, b1, b2, a3, b4] 26 (0, 0)) ∧ (j ≠ 9 → b1 = a1) ∧ (j ≠ 11 → b2 = a2) ∧ (j ≠ 13 → b4 = a4) := by
  unfold al4R at h
  split at h
  · obtain ⟨v, rfl⟩ := h; exact ⟨_, _, _, five_1 v hO, fun h => absurd rfl h, fun _ => rfl, fun _ => rfl⟩
  · obtain ⟨v, rfl⟩ := h; exact ⟨_, _, _, five_2 v hO, fun _ => rfl, fun h => absurd rfl h, fun _ => rfl⟩
  · obtain ⟨v, rfl⟩ := h; exact ⟨_, _, _, five_4 v hO, fun _ => rfl, fun _ => rfl, fun h => absurd rfl h⟩
  · exact ⟨_, _, _, h.at hO trivial, fun _ => rfl, fun _ => rfl, fun _ => rfl⟩
theorem own_low {w : World} {b b' e size n : Nat} {v : Value} {xs : List Value} (h : w.ownsRow b e size v n xs) (hb : b' ≤ b) : w.ownsRow b' e size v n xs := by
  refine ⟨h.1, ?_⟩
  rcases h.2 with h | ⟨g, cap, cur, e, hg, hr⟩
  · exact .inl h
  · exact .inr ⟨g, cap, cur, e, by omega, hr⟩
theorem set5_new' {W : World} {b : Nat} {e : TypeId} {a0 a1 a2 a3 a4 : Value} (v0 v1 v2 v3 v4 : Value) (h : W.heap[b]? = some (.cells #[a0, a1, a2, a3, a4] e (0, 0))) :
    (((((W.setCell ⟨b, 0, none⟩ v0).setCell ⟨b, 1, none⟩ v1).setCell ⟨b, 2, none⟩ v2).setCell ⟨b, 3, none⟩ v3).setCell ⟨b, 4, none⟩ v4).heap[b]? = some (.cells #[v0, v1, v2, v3, v4] e (0, 0)) := by
  have h1 := heap_setCell_same W b 0 _ e v0 h
  have h2 := heap_setCell_same _ b 1 _ e v1 h1
  have h3 := heap_setCell_same _ b 2 _ e v2 h2
  have h4 := heap_setCell_same _ b 3 _ e v3 h3
  have h5 := heap_setCell_same _ b 4 _ e v4 h4
  rw [h5]; rfl
theorem set5_fr0' (w : World) (g : Nat) (v0 v1 v2 v3 v4 : Value) : Fr w (((((w.setCell ⟨g, 0, none⟩ v0).setCell ⟨g, 1, none⟩ v1).setCell ⟨g, 2, none⟩ v2).setCell ⟨g, 3, none⟩ v3).setCell ⟨g, 4, none⟩ v4) (fun k => k ≠ g) :=
  ((((set_fr w g 0 v0).trans (set_fr _ g 1 v1)).trans (set_fr _ g 2 v2)).trans (set_fr _ g 3 v3)).trans (set_fr _ g 4 v4)
theorem fr_belowT' {w w1 w2 : World} {g : Nat} (h : Fr w w1 (fun b => b < w.heap.size)) (k : Fr w1 w2 (fun b => b ≠ g)) (hg : w.heap.size ≤ g) : Below w.heap.size w w2 :=
  fr_below ((h.trans (k.mono (fun b _ (hb : b < w.heap.size) => by omega))).mono (fun b hb _ => hb))
/-- What 'alone' answers of a leaf. -/
def AloneP (w : World) (kd vn : Int) (nb nk : Nat) (ys zs : List Value) (e : Ending) (w' : World) : Prop :=
  ∃ B c A c', e = .returned (.tuple #[.agg #[.int .i64 kd, .int .i64 vn, .slice B nb c, .slice none 0 0, .slice A nk c'], .bool true]) ∧ w'.ownsRow w.heap.size 5 1 (.slice B nb c) nb ys ∧ w'.ownsRow w.heap.size 9 1 (.slice A nk c') nk zs ∧ Below w.heap.size w w'
theorem alone_ret {a : Act} {W : World} {b : Nat} {v0 v1 v2 v3 v4 v5 : Value} {Q : Ending → World → Prop} (h9 : W.heap[b]? = some (.cells #[v0, v1, v2, v3, v4] 26 (0, 0))) (h4 : a.tmps.getD 8 undef = .pointer (some ⟨b, 0, none⟩)) (h5 : a.tmps.getD 9 undef = v5) (hd : a.defers = [])
    (hq : Q (.returned (.tuple #[.agg #[v0, v1, v2, v3, v4], v5])) W) : bodyPost Tryz.prog Tryz.f51 Q Exit.ret a W := by
  have q0 := cell_of_row _ _ 0 _ _ _ h9
  have q1 := cell_of_row _ _ 1 _ _ _ h9
  have q2 := cell_of_row _ _ 2 _ _ _ h9
  have q3 := cell_of_row _ _ 3 _ _ _ h9
  have q4 := cell_of_row _ _ 4 _ _ _ h9
  refine bodyPost_ret (v := .tuple #[.agg #[v0, v1, v2, v3, v4], v5]) ?_ hd hq
  rw [results_cell_tmp (fn := Tryz.f51) (p := 8) (u := 9) (ty := 26) rfl, h4, h5]
  simp [go_sem, q0, q1, q2, q3, q4]
abbrev alW (w : World) (i k : Int) (p0 p1 p2 v0 v1 v2 v3 v4 : Value) : World := (((w.alloc (.cells #[.int .i64 i, .int .i64 k] 73)).alloc (.cells #[p0, p1, p2] 109)).alloc (.cells #[v0, v1, v2, v3, v4] 26)).alloc (.cells #[.int .i64 0, .int .i64 0, .slice none 0 0, .slice none 0 0, .slice none 0 0] 26)
set_option maxRecDepth 100000 in
set_option maxHeartbeats 8000000 in
theorem alone_leaf (T : List Nd) (w : World) (p pm qm : Nat) (vw : Value) (Ar : Option Addr) (cr : Nat) (cnt : Int) (okT : Nat → Prop) (hT : Tn w p pm qm vw (.slice Ar T.length cr) cnt) (hR : NdsAt w okT T (.slice Ar T.length cr))
    (i : Int) (k : Nat) (nd : Nd) (hk : T[k]? = some nd) (hnk : nd.kind ≠ 13 ∧ nd.kind ≠ 10) (p0 p1 p2 : Value) (kv vn : Int) (B A A' : Option Addr) (nb cb nl cl nk ck : Nat) (ys zs : List Value)
    (hy : ys.length = nb) (hyb : nb ≤ 140737488355328) (hyc : 0 < nb → ∃ b off, B = some ⟨b, off, none⟩ ∧ ∀ j u, ys[j]? = some u → w.cell? ⟨b, off + j, none⟩ = some u) (hy1 : ∀ u ∈ ys, u.oneCell' = true)
    (hz : zs.length = nk) (hzb : nk ≤ 1000000) (hzc : 0 < nk → ∃ b off, A' = some ⟨b, off, none⟩ ∧ ∀ j u, zs[j]? = some u → w.cell? ⟨b, off + j, none⟩ = some u) (hz1 : ∀ u ∈ zs, u.oneCell' = true) :
    Calls Tryz.prog 51 #[.pointer (some ⟨p, 0, none⟩), pairV i k, .agg #[p0, p1, p2], .agg #[.int .i64 kv, .int .i64 vn, .slice B nb cb, .slice A nl cl, .slice A' nk ck]] w (AloneP w nd.kind vn nb nk ys zs) := by
  have hb0 : Below w.heap.size w (alW w i k p0 p1 p2 (.int .i64 kv) (.int .i64 vn) (.slice B nb cb) (.slice A nl cl) (.slice A' nk ck)) := ((((Below.refl _ w).alloc (Nat.le_refl _) _).alloc (by simp) _).alloc (by simp; omega) _).alloc (by simp; omega) _
  have hf0 := below_fr0 hb0
  have h0 : (alW w i k p0 p1 p2 (.int .i64 kv) (.int .i64 vn) (.slice B nb cb) (.slice A nl cl) (.slice A' nk ck)).heap[w.heap.size]? = some (.cells #[.int .i64 i, .int .i64 k] 73 (0, 0)) := old_at _ (old_at _ (old_at _ (new_at rfl _)))
  have h2 : (alW w i k p0 p1 p2 (.int .i64 kv) (.int .i64 vn) (.slice B nb cb) (.slice A nl cl) (.slice A' nk ck)).heap[w.heap.size + 2]? = some (.cells #[.int .i64 kv, .int .i64 vn, .slice B nb cb, .slice A nl cl, .slice A' nk ck] 26 (0, 0)) := old_at _ (new_at (by simp) _)
  have h3 : (alW w i k p0 p1 p2 (.int .i64 kv) (.int .i64 vn) (.slice B nb cb) (.slice A nl cl) (.slice A' nk ck)).heap[w.heap.size + 3]? = some (.cells #[.int .i64 0, .int .i64 0, .slice none 0 0, .slice none 0 0, .slice none 0 0] 26 (0, 0)) := new_at (by simp) _
  have hc := (hT.fr hf0 trivial).box
  obtain ⟨g, off, A2, n2, c2, A3, n3, c3, A4, n4, c4, A8, n8, c8, rfl, hokg, hgl, hND, hNC⟩ := node_at hR hk
  have hlk := (List.getElem?_eq_some_iff.1 hk).1
  obtain ⟨_, _, _, hsl, hlcr, hmcr, _⟩ := id hR
  cases hsl
  unfold maxLen at hmcr
  obtain ⟨z0, z1, z2, z3, z4, z5, z6, z7, z8, z9⟩ := hNC.fr hf0 trivial
  have HB4 := Lib.hid (show ∀ W, Fr w W (fun b => b < w.heap.size) → Calls Tryz.prog 89 #[.slice B nb cb] W (CloP W 5 nb ys) from fun W h => cloneB_any B nb cb ys W hy hyb (fun h0 => by obtain ⟨b, off, e, hc⟩ := hyc h0; exact ⟨b, off, e, fun j u hu => h.cell (hc j u hu) (cell_lt (hc j u hu))⟩) hy1)
  have HK4 := Lib.hid (show ∀ W, Fr w W (fun b => b < w.heap.size) → Calls Tryz.prog 90 #[.slice A' nk ck] W (CloP W 9 nk zs) from fun W h => cloneS_any A' nk ck zs W hz hzb (fun h0 => by obtain ⟨b, off, e, hc⟩ := hzc h0; exact ⟨b, off, e, fun j u hu => h.cell (hc j u hu) (cell_lt (hc j u hu))⟩) hz1)
  have H2 := Lib.hid h2
  have H3 := Lib.hid h3
  have HF0 := Lib.hid hf0
  have HB0 := Lib.hid hb0
  clear hT hR hk hy hyb hyc hy1 hz hzb hzc hz1 hokg hgl hND hNC hb0 h2 h3
  obtain ⟨hn13, hn10⟩ := hnk
  go_enter Tryz.func51, Tryz.ntmps51
  go_upto_region 1 with fail
  change Code.wp _ _ _ _ (alW w i k p0 p1 p2 (.int .i64 kv) (.int .i64 vn) (.slice B nb cb) (.slice A nl cl) (.slice A' nk ck))
  have hsz : (alW w i k p0 p1 p2 (.int .i64 kv) (.int .i64 vn) (.slice B nb cb) (.slice A nl cl) (.slice A' nk ck)).heap.size = w.heap.size + 4 := by simp
  generalize alW w i k p0 p1 p2 (.int .i64 kv) (.int .i64 vn) (.slice B nb cb) (.slice A nl cl) (.slice A' nk ck) = W0 at *
  have c1 := cell_of_row _ _ 1 _ _ _ hc
  have a1 := cell_of_row _ _ 1 _ _ _ h0
  have c1o := fun o => (fr_all W0 o).cell c1 trivial
  have a1o := fun o => (fr_all W0 o).cell a1 trivial
  have y0 := fun o => (fr_all W0 o).cell z0 trivial
  have y1 := fun o => (fr_all W0 o).cell z1 trivial
  have y2 := fun o => (fr_all W0 o).cell z2 trivial
  have y3 := fun o => (fr_all W0 o).cell z3 trivial
  have y4 := fun o => (fr_all W0 o).cell z4 trivial
  have y5 := fun o => (fr_all W0 o).cell z5 trivial
  have y6 := fun o => (fr_all W0 o).cell z6 trivial
  have y7 := fun o => (fr_all W0 o).cell z7 trivial
  have y8 := fun o => (fr_all W0 o).cell z8 trivial
  have y9 := fun o => (fr_all W0 o).cell z9 trivial
  have HSZ := Lib.hid hsz
  clear hc h0 hf0 hsz
  generalize nd.kind = kd at *
  go_cut [10] (fun a wx => a = .pointer (some ⟨W0.heap.size, 0, none⟩) ∧ ∃ d1 d2 d3 d4 d5 d6 d7 d8 d9, wx.heap[W0.heap.size]? = some (.cells #[.int .i64 kd, d1, d2, d3, d4, d5, d6, d7, d8, d9] 50 (0, 0)) ∧ Fr W0 wx (fun _ => True))
  case first =>
    go_region_law (fail)
    all_goals
      go_wp2_with fail
      go_meet
      exact ⟨rfl, _, _, _, _, _, _, _, _, _, new_at rfl _, (fr_all W0 _).drewN 1⟩
  case rest =>
    obtain ⟨rfl, d1, d2, d3, d4, d5, d6, d7, d8, d9, hN, hfc⟩ := hcut
    clear c1 a1 c1o a1o y0 y1 y2 y3 y4 y5 y6 y7 y8 y9 z0 z1 z2 z3 z4 z5 z6 z7 z8 z9
    have k0 := cell_of_row _ _ 0 _ _ _ hN
    have k0o := fun o => (fr_all wc o).cell k0 trivial
    have HFC := Lib.hid hfc
    have HWS : Hid (w.heap.size + 4 ≤ wc.heap.size) := Lib.hid (by have := hfc.size; have := HSZ.out; omega)
    clear hN hfc
    go_upto_region 4 with fail
    have hV := (HF0.out.trans HFC.out)
    have hO : (wc.alloc (.cells #[.int .i64 kd, .int .i64 0, .slice none 0 0, .slice none 0 0, .slice none 0 0] 26)).heap[wc.heap.size]? = some (.cells #[.int .i64 kd, .int .i64 0, .slice none 0 0, .slice none 0 0, .slice none 0 0] 26 (0, 0)) := new_at rfl _
    have hR := (fr_all wc (.cells #[.int .i64 kd, .int .i64 0, .slice none 0 0, .slice none 0 0, .slice none 0 0] 26)).at (HFC.out.at H3.out trivial) trivial
    have h2 := (fr_all wc (.cells #[.int .i64 kd, .int .i64 0, .slice none 0 0, .slice none 0 0, .slice none 0 0] 26)).at (HFC.out.at H2.out trivial) trivial
    have hfw := hV.trans (fr_all wc (.cells #[.int .i64 kd, .int .i64 0, .slice none 0 0, .slice none 0 0, .slice none 0 0] 26))
    have hn0 : (wc.alloc (.cells #[.int .i64 kd, .int .i64 0, .slice none 0 0, .slice none 0 0, .slice none 0 0] 26)).heap.size = wc.heap.size + 1 := by simp
    generalize (wc.alloc (.cells #[.int .i64 kd, .int .i64 0, .slice none 0 0, .slice none 0 0, .slice none 0 0] 26)) = W1 at *
    have hn1 : wc.heap.size < W1.heap.size := by omega
    have hws := HWS.out
    have HG := Lib.hid (show ∀ W, Fr W1 W (fun b => b ≠ wc.heap.size) → W.cell? ⟨w.heap.size + 1 + 1, 1, none⟩ = some (.int .i64 vn) ∧ W.cell? ⟨w.heap.size + 1 + 1, 2, none⟩ = some (.slice B nb cb) ∧ W.cell? ⟨w.heap.size + 1 + 1, 4, none⟩ = some (.slice A' nk ck) from
      fun W h => by
        have x := h.at h2 (by omega)
        exact ⟨cell_of_row _ _ 1 _ _ _ x, cell_of_row _ _ 2 _ _ _ x, cell_of_row _ _ 4 _ _ _ x⟩)
    have HWW := Lib.hid (show ∀ W, Fr W1 W (fun b => b ≠ wc.heap.size) → Fr w W (fun b => b < w.heap.size) from fun W h => (hfw.mono (fun _ _ _ => trivial)).trans (h.mono (fun b _ hb => by omega)))
    have hB4 := fun W (h : Fr W1 W (fun b => b ≠ wc.heap.size)) => HB4.out W (HWW.out W h)
    have hK4 := fun W (h : Fr W1 W (fun b => b ≠ wc.heap.size)) => HK4.out W (HWW.out W h)
    clear HB4 HK4
    have HB4 := Lib.hid hB4
    have HK4 := Lib.hid hK4
    have HR := Lib.hid hR
    clear hB4 hK4 h2 hV hfw hR
    have hstep : ∀ (wx wy : World) (j : Nat), (Fr W1 wx (fun b => b ≠ wc.heap.size) ∧ ∃ c1 c2 c4, wx.heap[wc.heap.size]? = some (.cells #[.int .i64 kd, c1, c2, .slice none 0 0, c4] 26 (0, 0))) → al4R wc.heap.size j wx wy →
        (Fr W1 wy (fun b => b ≠ wc.heap.size) ∧ ∃ c1 c2 c4, wy.heap[wc.heap.size]? = some (.cells #[.int .i64 kd, c1, c2, .slice none 0 0, c4] 26 (0, 0))) := fun wx wy j h hr => by
      obtain ⟨c1, c2, c4, hO⟩ := h.2
      obtain ⟨b1, b2, b4, h', _⟩ := al4R_five hr hO
      exact ⟨h.1.trans (al4R_fr hr), b1, b2, b4, h'⟩
    have hG0 : Fr W1 (W1.drewN 1) (fun b => b ≠ wc.heap.size) ∧ ∃ c1 c2 c4, (W1.drewN 1).heap[wc.heap.size]? = some (.cells #[.int .i64 kd, c1, c2, .slice none 0 0, c4] 26 (0, 0)) := ⟨(Fr.refl _ _).drewN 1, _, _, _, hO⟩
    clear hO
    have e13 : (kd == 13) = false := by simp [hn13]
    have e10 : (kd == 10) = false := by simp [hn10]
    simp only [e13, e10]
    clear hn13 hn10 e13 e10
    refine reg_flow (J := al4J) (fun W => Fr W1 W (fun b => b ≠ wc.heap.size) ∧ ∃ c1 c2 c4, W.heap[wc.heap.size]? = some (.cells #[.int .i64 kd, c1, c2, .slice none 0 0, c4] 26 (0, 0))) (al4R wc.heap.size) al4D (al4I (w.heap.size + 1 + 1) wc.heap.size W1.heap.size nb cb nk ck B A' vn ys zs) (by kernel_rfl) (by kernel_rfl) rfl ?_ hG0 ?_ ?_
    · intro i j x v wy wz hij hnd hi hr
      match i, hij, hnd, hi with
      | 0, hij, _, hi => show upd x j v 0 = _; unfold upd; rw [if_neg hij]; exact hi
      | 1, hij, _, hi => show upd x j v 1 = _; unfold upd; rw [if_neg hij]; exact hi
      | 2, hij, _, hi => show upd x j v 2 = _; unfold upd; rw [if_neg hij]; exact hi
      | 3, hij, _, hi => show upd x j v 3 = _; unfold upd; rw [if_neg hij]; exact hi
      | 4, hij, hnd, hi =>
        obtain ⟨A0, c, e, ho⟩ := hi
        exact ⟨A0, c, by unfold upd; rw [if_neg hij]; exact e, by show _root_.Go.World.ownsRow _ _ _ _ (upd x j v 4) _ _; unfold upd; rw [if_neg hij]; exact ownsRow_fr ho (al4R_fr hr) (fun g hg => by have := (ho.lt g hg).1; omega)⟩
      | 5, hij, _, hi => show upd x j v 5 = _; unfold upd; rw [if_neg hij]; exact hi
      | 6, hij, _, hi => show upd x j v 6 = _; unfold upd; rw [if_neg hij]; exact hi
      | 7, hij, hnd, hi =>
        obtain ⟨A0, c, e, ho⟩ := hi
        exact ⟨A0, c, by unfold upd; rw [if_neg hij]; exact e, by show _root_.Go.World.ownsRow _ _ _ _ (upd x j v 7) _ _; unfold upd; rw [if_neg hij]; exact ownsRow_fr ho (al4R_fr hr) (fun g hg => by have := (ho.lt g hg).1; omega)⟩
      | 8, hij, _, hi => show upd x j v 8 = _; unfold upd; rw [if_neg hij]; exact hi
      | 9, hij, hnd, hi =>
        obtain ⟨c0, c2, c3, c4, h⟩ := hi
        obtain ⟨b1, b2, b4, h', e1, _, _⟩ := al4R_five hr h
        exact ⟨c0, b2, c3, b4, by rw [h', e1 (Ne.symm hij)]⟩
      | 10, hij, _, hi => show upd x j v 10 = _; unfold upd; rw [if_neg hij]; exact hi
      | 11, hij, hnd, hi =>
        obtain ⟨c0, c1, c3, c4, h⟩ := hi
        obtain ⟨b1, b2, b4, h', _, e2, _⟩ := al4R_five hr h
        exact ⟨c0, b1, c3, b4, by rw [h', e2 (Ne.symm hij)]; unfold upd; rw [if_neg (fun e => hnd (by subst e; decide))]⟩
      | 12, hij, _, hi => show upd x j v 12 = _; unfold upd; rw [if_neg hij]; exact hi
      | 13, hij, hnd, hi =>
        obtain ⟨c0, c1, c2, c3, h⟩ := hi
        obtain ⟨b1, b2, b4, h', _, _, e4⟩ := al4R_five hr h
        exact ⟨c0, b1, b2, c3, by rw [h', e4 (Ne.symm hij)]; unfold upd; rw [if_neg (fun e => hnd (by subst e; decide))]⟩
      | m + 14, _, _, _ => trivial
    · refine And.intro ?_ (And.intro ?_ (And.intro ?_ (And.intro ?_ (And.intro ?_ (And.intro ?_ (And.intro ?_ (And.intro ?_ (And.intro ?_ (And.intro ?_ (And.intro ?_ (And.intro ?_ (And.intro ?_ (And.intro ?_ (trivial))))))))))))))
      · intro x wx hG hd K hK
        clear hd
        obtain ⟨g1, g2, g4⟩ := HG.out wx hG.1
        simp only [al4J, fillZ] at hK ⊢
        go_simp
        exact hK _ _ (Fr.refl _ _) hG (by first | rfl | simp [al4I, upd])
      · intro x wx hG hd K hK
        have d0 : x 0 = .pointer (some ⟨w.heap.size + 1 + 1, 1, none⟩) := hd 0 (by decide)
        clear hd
        obtain ⟨g1, g2, g4⟩ := HG.out wx hG.1
        simp only [al4J, fillZ, d0] at hK ⊢
        go_simp
        exact hK _ _ (Fr.refl _ _) hG (by first | rfl | simp [al4I, upd])
      · intro x wx hG hd K hK
        clear hd
        obtain ⟨g1, g2, g4⟩ := HG.out wx hG.1
        simp only [al4J, fillZ] at hK ⊢
        go_simp
        exact hK _ _ (Fr.refl _ _) hG (by first | rfl | simp [al4I, upd])
      · intro x wx hG hd K hK
        have d2 : x 2 = .pointer (some ⟨w.heap.size + 1 + 1, 2, none⟩) := hd 2 (by decide)
        clear hd
        obtain ⟨g1, g2, g4⟩ := HG.out wx hG.1
        simp only [al4J, fillZ, d2] at hK ⊢
        go_simp
        exact hK _ _ (Fr.refl _ _) hG (by first | rfl | simp [al4I, upd])
      · intro x wx hG hd K hK
        have d3 : x 3 = .slice B nb cb := hd 3 (by decide)
        clear hd
        obtain ⟨g1, g2, g4⟩ := HG.out wx hG.1
        simp only [al4J, fillZ, d3] at hK ⊢
        go_simp
        refine (HB4.out wx hG.1).mono ?_
        rintro e w1 ⟨v, rfl, hown, hb⟩
        obtain ⟨A0, c0, rfl, _⟩ := own_open1 hown
        exact hK _ _ (below_fr0 hb) (hstep _ _ 4 hG (below_fr0 hb)) ⟨A0, c0, rfl, own_low hown hG.1.size⟩
      · intro x wx hG hd K hK
        clear hd
        obtain ⟨g1, g2, g4⟩ := HG.out wx hG.1
        simp only [al4J, fillZ] at hK ⊢
        go_simp
        exact hK _ _ (Fr.refl _ _) hG (by first | rfl | simp [al4I, upd])
      · intro x wx hG hd K hK
        have d5 : x 5 = .pointer (some ⟨w.heap.size + 1 + 1, 4, none⟩) := hd 5 (by decide)
        clear hd
        obtain ⟨g1, g2, g4⟩ := HG.out wx hG.1
        simp only [al4J, fillZ, d5] at hK ⊢
        go_simp
        exact hK _ _ (Fr.refl _ _) hG (by first | rfl | simp [al4I, upd])
      · intro x wx hG hd K hK
        have d6 : x 6 = .slice A' nk ck := hd 6 (by decide)
        clear hd
        obtain ⟨g1, g2, g4⟩ := HG.out wx hG.1
        simp only [al4J, fillZ, d6] at hK ⊢
        go_simp
        refine (HK4.out wx hG.1).mono ?_
        rintro e w1 ⟨v, rfl, hown, hb⟩
        obtain ⟨A0, c0, rfl, _⟩ := own_open1 hown
        exact hK _ _ (below_fr0 hb) (hstep _ _ 7 hG (below_fr0 hb)) ⟨A0, c0, rfl, own_low hown hG.1.size⟩
      · intro x wx hG hd K hK
        clear hd
        obtain ⟨g1, g2, g4⟩ := HG.out wx hG.1
        simp only [al4J, fillZ] at hK ⊢
        go_simp
        exact hK _ _ (Fr.refl _ _) hG (by first | rfl | simp [al4I, upd])
      · intro x wx hG hd K hK
        have d8 : x 8 = .pointer (some ⟨wc.heap.size, 1, none⟩) := hd 8 (by decide)
        have d1 : x 1 = .int .i64 vn := hd 1 (by decide)
        clear hd
        obtain ⟨g1, g2, g4⟩ := HG.out wx hG.1
        obtain ⟨c1, c2, c4, hO⟩ := hG.2
        obtain ⟨f0, f1, f2, f3, f4, _⟩ := frozen_10 hO
        have r1 := cell_of_row _ _ 1 _ _ _ hO
        have HO := Lib.hid hO
        simp only [al4J, fillZ, d8, d1] at hK ⊢
        go_simp
        exact hK undef _ ⟨_, rfl⟩ (hstep _ _ 9 hG ⟨_, rfl⟩) ⟨_, _, _, _, five_1 _ HO.out⟩
      · intro x wx hG hd K hK
        clear hd
        obtain ⟨g1, g2, g4⟩ := HG.out wx hG.1
        simp only [al4J, fillZ] at hK ⊢
        go_simp
        exact hK _ _ (Fr.refl _ _) hG (by first | rfl | simp [al4I, upd])
      · intro x wx hG hd K hK
        have d10 : x 10 = .pointer (some ⟨wc.heap.size, 2, none⟩) := hd 10 (by decide)
        have s4 := hd 4 (by decide)
        clear hd
        obtain ⟨g1, g2, g4⟩ := HG.out wx hG.1
        obtain ⟨c1, c2, c4, hO⟩ := hG.2
        obtain ⟨f0, f1, f2, f3, f4, _⟩ := frozen_10 hO
        have r2 := cell_of_row _ _ 2 _ _ _ hO
        have HO := Lib.hid hO
        obtain ⟨A0, c0, e4, _⟩ := s4
        simp only [al4J, fillZ, d10, e4] at hK ⊢
        go_simp
        exact hK undef _ ⟨_, rfl⟩ (hstep _ _ 11 hG ⟨_, rfl⟩) ⟨_, _, _, _, by show _ = some (Obj.cells #[_, _, upd x 11 undef 4, _, _] _ _); unfold upd; rw [if_neg (by decide), e4]; exact five_2 _ HO.out⟩
      · intro x wx hG hd K hK
        clear hd
        obtain ⟨g1, g2, g4⟩ := HG.out wx hG.1
        simp only [al4J, fillZ] at hK ⊢
        go_simp
        exact hK _ _ (Fr.refl _ _) hG (by first | rfl | simp [al4I, upd])
      · intro x wx hG hd K hK
        have d12 : x 12 = .pointer (some ⟨wc.heap.size, 4, none⟩) := hd 12 (by decide)
        have s7 := hd 7 (by decide)
        clear hd
        obtain ⟨g1, g2, g4⟩ := HG.out wx hG.1
        obtain ⟨c1, c2, c4, hO⟩ := hG.2
        obtain ⟨f0, f1, f2, f3, f4, _⟩ := frozen_10 hO
        have r4 := cell_of_row _ _ 4 _ _ _ hO
        have HO := Lib.hid hO
        obtain ⟨A0, c0, e7, _⟩ := s7
        simp only [al4J, fillZ, d12, e7] at hK ⊢
        go_simp
        exact hK undef _ ⟨_, rfl⟩ (hstep _ _ 13 hG ⟨_, rfl⟩) ⟨_, _, _, _, by show _ = some (Obj.cells #[_, _, _, _, upd x 13 undef 7] _ _); unfold upd; rw [if_neg (by decide), e7]; exact five_4 _ HO.out⟩
    · intro x wx hG hI
      obtain ⟨A0, c0, e4, o4⟩ := hI 4 (by decide)
      obtain ⟨A1, c1, e7, o7⟩ := hI 7 (by decide)
      obtain ⟨q0, q2, q3, q4, i9⟩ := hI 9 (by decide)
      obtain ⟨r0, r1, r3, r4, i11⟩ := hI 11 (by decide)
      obtain ⟨t0, t1, t2, t3, i13⟩ := hI 13 (by decide)
      obtain ⟨hGf, s1, s2, s4, hGO⟩ := hG
      rw [e4] at o4 i11
      rw [e7] at o7 i13
      have hO : wx.heap[wc.heap.size]? = some (.cells #[.int .i64 kd, .int .i64 vn, .slice A0 nb c0, .slice none 0 0, .slice A1 nk c1] 26 (0, 0)) := by
        have x1 := i9.symm.trans hGO
        have x2 := i11.symm.trans hGO
        have x3 := i13.symm.trans hGO
        simp only [Option.some.injEq, Obj.cells.injEq, Array.mk.injEq, List.cons.injEq, and_true] at x1 x2 x3
        rw [hGO, ← x1.2.1, ← x2.2.2.1, ← x3.2.2.2.2]
      clear i9 i11 i13 hGO hI
      simp only [al4J, fillZ]
      have hRx := hGf.at HR.out (by omega)
      obtain ⟨f0, f1, f2, f3, f4, _⟩ := frozen_10 hRx
      have r0' := cell_of_row _ _ 0 _ _ _ hRx
      have r1' := cell_of_row _ _ 1 _ _ _ hRx
      have r2' := cell_of_row _ _ 2 _ _ _ hRx
      have r3' := cell_of_row _ _ 3 _ _ _ hRx
      have r4' := cell_of_row _ _ 4 _ _ _ hRx
      have m0 := cell_of_row _ _ 0 _ _ _ hO
      have m1 := cell_of_row _ _ 1 _ _ _ hO
      have m2 := cell_of_row _ _ 2 _ _ _ hO
      have m3 := cell_of_row _ _ 3 _ _ _ hO
      have m4 := cell_of_row _ _ 4 _ _ _ hO
      have HRX := Lib.hid hRx
      have O4 := Lib.hid o4
      have O7 := Lib.hid o7
      have HGF := Lib.hid hGf
      clear o4 o7 hO hRx hGf
      go_wp2
      refine alone_ret (set5_new' _ _ _ _ _ HRX.out) rfl rfl rfl ⟨A0, _, A1, _, rfl, ?_, ?_, ?_⟩
      · exact own_low (ownsRow_fr O4.out (set5_fr0' _ _ _ _ _ _ _) (fun g hg => by have := (O4.out.lt g hg).1; omega)) (by omega)
      · exact own_low (ownsRow_fr O7.out (set5_fr0' _ _ _ _ _ _ _) (fun g hg => by have := (O7.out.lt g hg).1; omega)) (by omega)
      · exact fr_belowT' (HWW.out _ HGF.out) (set5_fr0' _ _ _ _ _ _ _) (by omega)
end Go.Proofs.YtcmillbjpplfjaaGreatDoor
