/-
  'Get', the program's and the reference's, of every value and key.
-/
import Derived.Test.YtjcnjaebmndeiaaDoorCpy
import Derived.Test.YtjcnjaebmndeiaaDoorGtl
namespace Go.Proofs.YtjcnjaebmndeiaaDoor
open Go.RowKit

/-- The value that a key has. -/
def getF : List ByteArray → List Z → ByteArray → Option Z
  | k :: ks, x :: l, key => if k = key then some x else getF ks l key
  | _, _, _ => none
def getZ (z : Z) (key : ByteArray) : Option Z := if z.k = 7 then getF z.ks z.l key else none
theorem getF_hit : ∀ (ks : List ByteArray) (l : List Z) (key : ByteArray) (i : Nat), ks[i]? = some key → (∀ j, j < i → ks[j]? ≠ some key) → getF ks l key = l[i]?
  | [], _, _, _, h, _ => by simp at h
  | k :: ks, [], key, i, _, _ => by simp [getF]
  | k :: ks, x :: l, key, 0, h, _ => by
    simp only [List.getElem?_cons_zero, Option.some.injEq] at h
    rw [getF, if_pos h]; rfl
  | k :: ks, x :: l, key, i + 1, h, hj => by
    have h0 := hj 0 (by omega)
    simp only [List.getElem?_cons_zero, ne_eq, Option.some.injEq] at h0
    rw [getF, if_neg h0, getF_hit ks l key i (by simpa using h) (fun j hlt => by have := hj (j + 1) (by omega); simpa using this)]
    simp
theorem getF_miss : ∀ (ks : List ByteArray) (l : List Z) (key : ByteArray), key ∉ ks → getF ks l key = none
  | [], _, _, _ => by simp [getF]
  | k :: ks, [], key, _ => by simp [getF]
  | k :: ks, x :: l, key, h => by
    simp only [List.mem_cons, not_or] at h
    rw [getF, if_neg (fun e => h.1 e.symm), getF_miss ks l key h.2]
theorem first_at : ∀ (ks : List ByteArray) (key : ByteArray), key ∉ ks ∨ ∃ i : Nat, ks[i]? = some key ∧ ∀ j : Nat, j < i → ks[j]? ≠ some key
  | [], _ => .inl (by simp)
  | k :: ks, key => by
    by_cases h : k = key
    · exact .inr ⟨0, by simp [h], fun j hj => by omega⟩
    · rcases first_at ks key with h1 | ⟨i, h1, h2⟩
      · exact .inl (by simp only [List.mem_cons, not_or]; exact ⟨fun e => h e.symm, h1⟩)
      · refine .inr ⟨i + 1, by simpa using h1, fun j hj => ?_⟩
        cases j with
        | zero => simpa using h
        | succ j => have := h2 j (by omega); simpa using this
theorem idx_miss {ks : List ByteArray} {key : ByteArray} (h : key ∉ ks) : Lib.idxOfS (ks.take ks.length) key = -1 := by
  refine Lib.idxOfS_miss ks ks.length key (fun j hj e => h ?_)
  rw [List.getD_eq_getElem?_getD, List.getElem?_eq_getElem hj] at e
  simp only [Option.getD_some] at e
  rw [← e]; exact List.getElem_mem hj
theorem idx_hit {ks : List ByteArray} {key : ByteArray} {i : Nat} (h : ks[i]? = some key) (hj : ∀ j, j < i → ks[j]? ≠ some key) : Lib.idxOfS (ks.take ks.length) key = (i : Int) := by
  obtain ⟨hlt, he⟩ := List.getElem?_eq_some_iff.1 h
  refine Lib.idxOfS_hit ks ks.length i key hlt (Nat.le_refl _) (by rw [List.getD_eq_getElem?_getD, h]; rfl) (fun j hji e => ?_)
  have hjl : j < ks.length := by omega
  rw [List.getD_eq_getElem?_getD, List.getElem?_eq_getElem hjl] at e
  simp only [Option.getD_some] at e
  exact hj j hji (by rw [List.getElem?_eq_getElem hjl, e])
def zeroZ : Z := .mk 0 ⟨#[]⟩ [] []
theorem zin_zero (w : World) (ok : Nat → Prop) : ZIn w ok zeroZ (.int .i64 0) (.string ⟨#[]⟩) (.slice none 0 0) (.slice none 0 0) :=
  .mk 0 ⟨#[]⟩ [] [] none none 0 0 (fun _ _ => undef) rfl (by unfold maxLen; decide) (fun s hs => by cases hs) ⟨Nat.le_refl _, by unfold maxLen; omega⟩ ⟨Nat.le_refl _, by unfold maxLen; omega⟩ (fun h => absurd h (by simp)) (fun h => absurd h (by simp)) (fun i z hz => by simp at hz)
/-- What 'Get' tells. -/
def GetP (w : World) (o : Option Z) (e : Ending) (w' : World) : Prop := ∃ d0 d1 d2 d3, e = .returned (.tuple #[.agg #[d0, d1, d2, d3], .bool o.isSome]) ∧ ZIn w' (fun _ => True) (o.getD zeroZ) d0 d1 d2 d3 ∧ Below w.heap.size w w'

set_option maxHeartbeats 2000000 in
set_option maxRecDepth 100000 in
theorem jget_any (z : Z) (key : ByteArray) (w : World) (v0 v1 v2 v3 : Value) (h : ZIn w (fun b => b < w.heap.size) z v0 v1 v2 v3) (hsz : z.l.length ≤ 100000 ∧ z.ks.length ≤ 100000) (hc : zc z ≤ 100000) (hkc : zk z ≤ 100000) :
    Calls Tryd.prog 16 #[.agg #[v0, v1, v2, v3], .string key] w (GetP w (getZ z key)) := by
  have HH := Lib.hid h
  obtain ⟨A, A', cap, cap', cc, rfl, rfl, rfl, rfl, _, _, _, hl1, hl2, hL, hK, hE⟩ := h.full
  generalize hkk : z.k = kk at *
  generalize htt : z.tx = tt at *
  have hnl0 : z.l.length ≤ 100000 ∧ z.ks.length ≤ 100000 := hsz
  generalize hnl : z.l.length = nl at *
  generalize hnk : z.ks.length = nk at *
  have hfr : Fr w ((w.alloc (.cells #[.int .i64 kk, .string tt, .slice A nl cap, .slice A' nk cap'] 26)).alloc (.cells #[.int .i64 0, .string ⟨#[]⟩, .slice none 0 0, .slice none 0 0] 26)) (fun _ => True) := ((Fr.refl w _).alloc _).alloc _
  have hb0 : Below w.heap.size w ((w.alloc (.cells #[.int .i64 kk, .string tt, .slice A nl cap, .slice A' nk cap'] 26)).alloc (.cells #[.int .i64 0, .string ⟨#[]⟩, .slice none 0 0, .slice none 0 0] 26)) := ⟨hfr.os, hfr.tape, hfr.output, hfr.size, fun i hi => hfr.block i hi trivial⟩
  have hB0 : ((w.alloc (.cells #[.int .i64 kk, .string tt, .slice A nl cap, .slice A' nk cap'] 26)).alloc (.cells #[.int .i64 0, .string ⟨#[]⟩, .slice none 0 0, .slice none 0 0] 26)).heap[w.heap.size]? = some (.cells #[.int .i64 kk, .string tt, .slice A nl cap, .slice A' nk cap'] 26 (0, 0)) := old_at _ (new_at rfl _)
  have hR0 : ((w.alloc (.cells #[.int .i64 kk, .string tt, .slice A nl cap, .slice A' nk cap'] 26)).alloc (.cells #[.int .i64 0, .string ⟨#[]⟩, .slice none 0 0, .slice none 0 0] 26)).heap[w.heap.size + 1]? = some (.cells #[.int .i64 0, .string ⟨#[]⟩, .slice none 0 0, .slice none 0 0] 26 (0, 0)) := new_at (by simp) _
  obtain ⟨p0, p1, p2, p3⟩ := cells_4 hB0
  obtain ⟨r0, r1, r2, r3⟩ := cells_4 hR0
  obtain ⟨f0, f1, f2, f3⟩ := frozen_4 hR0
  have hsz0 : w.heap.size + 1 < ((w.alloc (.cells #[.int .i64 kk, .string tt, .slice A nl cap, .slice A' nk cap'] 26)).alloc (.cells #[.int .i64 0, .string ⟨#[]⟩, .slice none 0 0, .slice none 0 0] 26)).heap.size := by simp
  have hixW : ∀ W, Fr w W (fun _ => True) → Calls Tryd.prog 41 #[.slice A' nk cap', .string key] W fun e w' => e = .returned (.int .i64 (Lib.idxOfS (z.ks.take z.ks.length) key)) ∧ w' = W := fun W hW => by
    by_cases hz : nk = 0
    · have hks : z.ks = [] := List.length_eq_zero_iff.1 (by omega)
      rw [hks, hz]
      exact Tryd.slices_Index_string_empty A' cap' key _
    · obtain ⟨g, off, hA, _, hcell⟩ := hK (by omega)
      have := Tryd.slices_Index_string g off nk cap' z.ks key W (by omega) (by omega) (fun j hj => by
        have := hW.cell (hcell j _ (List.getElem?_eq_getElem hj)) trivial
        rw [this, List.getD_eq_getElem?_getD, List.getElem?_eq_getElem hj]; rfl)
      rw [hnk, hA]; exact this
  have hix := hixW ((w.alloc (.cells #[.int .i64 kk, .string tt, .slice A nl cap, .slice A' nk cap'] 26)).alloc (.cells #[.int .i64 0, .string ⟨#[]⟩, .slice none 0 0, .slice none 0 0] 26)) hfr
  clear hixW
  by_cases hk7 : kk = 7
  · have hgz : getZ z key = getF z.ks z.l key := by unfold getZ; rw [if_pos (by rw [hkk]; exact hk7)]
    have hk7b : (kk == 7) = true := by rw [hk7]; rfl
    have hk7c : (kk != 7) = false := by rw [hk7]; rfl
    rcases first_at z.ks key with hmiss | ⟨i, hi1, hi2⟩
    · rw [idx_miss hmiss] at hix
      rw [hgz, getF_miss _ _ _ hmiss]
      clear hL hK hE hgz hmiss HH hkk htt hnl hnk hl1 hl2 hk7
      go_enter Tryd.func16, Tryd.ntmps16
      go_wp2_with fail
      generalize ((w.alloc (.cells #[.int .i64 kk, .string tt, .slice A nl cap, .slice A' nk cap'] 26)).alloc (.cells #[.int .i64 0, .string ⟨#[]⟩, .slice none 0 0, .slice none 0 0] 26)) = W0 at *
      refine hix.mono ?_
      rintro e w1 ⟨rfl, rfl⟩
      clear hix
      go_wp2
      refine bodyPost_ret (v := .tuple #[.agg #[.int .i64 0, .string ⟨#[]⟩, .slice none 0 0, .slice none 0 0], .bool false]) (by simp [results, Tryd.results16, go_sem, r0, r1, r2, r3]) rfl ?_
      exact ⟨_, _, _, _, rfl, zin_zero _ _, by refine Below.setCell (Below.setCell (Below.setCell (Below.setCell hb0 ?_ _) ?_ _) ?_ _) ?_ _ <;> simp⟩
    · rw [idx_hit hi1 hi2] at hix
      rw [hgz, getF_hit _ z.l _ _ hi1 hi2]
      have hik := (List.getElem?_eq_some_iff.1 hi1).1
      by_cases hil : i < nl
      · obtain ⟨x, hx⟩ : ∃ x, z.l[i]? = some x := ⟨_, List.getElem?_eq_getElem (by omega)⟩
        rw [hx]
        obtain ⟨g, off, rfl, hgw, hcell⟩ := hL (by omega)
        obtain ⟨y0, y1, y2, y3⟩ := elc4 hcell hil
        have x0 := hfr.cell y0 trivial
        have x1 := hfr.cell y1 trivial
        have x2 := hfr.cell y2 trivial
        have x3 := hfr.cell y3 trivial
        have hxz := ((hE i x hx).fr (below_fr hb0) (fun _ h => h)).mono (fun b _ hb => Nat.lt_of_lt_of_le hb hb0.size)
        have hcx : zc x ≤ 100000 ∧ zk x ≤ 100000 := by
          have h1 := zc_l z
          have h2 := zk_l z
          have h3 := zcL_mem (List.mem_of_getElem? hx)
          have h4 := zkL_mem (List.mem_of_getElem? hx)
          omega
        have hcl := clone_any x ((w.alloc (.cells #[.int .i64 kk, .string tt, .slice (some ⟨g, off, none⟩) nl cap, .slice A' nk cap'] 26)).alloc (.cells #[.int .i64 0, .string ⟨#[]⟩, .slice none 0 0, .slice none 0 0] 26)) _ _ _ _ hxz hcx.1 hcx.2
        have hii : (i : Int) < (nl : Int) := by omega
        clear hL hK hE hgz HH hkk htt hnl hnk hl1 hl2 hcell y0 y1 y2 y3 hxz hcx hi1 hi2 hx hik hk7
        generalize cc i 0 = a0 at *
        generalize cc i 1 = a1 at *
        generalize cc i 2 = a2 at *
        generalize cc i 3 = a3 at *
        go_enter Tryd.func16, Tryd.ntmps16
        go_wp2_with fail
        generalize ((w.alloc (.cells #[.int .i64 kk, .string tt, .slice (some ⟨g, off, none⟩) nl cap, .slice A' nk cap'] 26)).alloc (.cells #[.int .i64 0, .string ⟨#[]⟩, .slice none 0 0, .slice none 0 0] 26)) = W0 at *
        refine hix.mono ?_
        rintro e w1 ⟨rfl, rfl⟩
        clear hix
        go_wp2_with fail
        refine hcl.mono ?_
        rintro e w2 ⟨d0, d1, d2, d3, rfl, hd, hb2⟩
        have hR2 := (below_fr0 hb2).at hR0 trivial
        have hbb2 : Below w.heap.size w w2 := hb0.trans (hb2.mono hb0.size)
        obtain ⟨q0, q1, q2, q3⟩ := cells_4 hR2
        obtain ⟨e0, e1, e2, e3⟩ := frozen_4 hR2
        have hd3 : ZIn ((((w2.setCell ⟨w.heap.size + 1, 0, none⟩ d0).setCell ⟨w.heap.size + 1, 1, none⟩ d1).setCell ⟨w.heap.size + 1, 2, none⟩ d2).setCell ⟨w.heap.size + 1, 3, none⟩ d3) (fun _ => True) x d0 d1 d2 d3 :=
          ((hd.fr (ok' := fun b => b ≠ w.heap.size + 1) (fr_set4 w2 (w.heap.size + 1) d0 d1 d2 d3) (fun b hb => by omega)).mono (fun _ _ _ => trivial))
        have HD := Lib.hid hd3
        obtain ⟨k9, t9, A9, n9, c9, B9, m9, s9, rfl, rfl, rfl, rfl⟩ := zin_agg hd
        clear hB0 hR0 hR2 p0 p1 p2 p3 r0 r1 r2 r3 f0 f1 f2 f3 hb2 x0 x1 x2 x3 hd hd3 hcl hfr
        go_wp2
        refine bodyPost_ret (v := .tuple #[.agg #[.int .i64 k9, .string t9, .slice A9 n9 c9, .slice B9 m9 s9], .bool true]) (by simp [results, Tryd.results16, go_sem, q0, q1, q2, q3]) rfl ?_
        exact ⟨_, _, _, _, rfl, HD.out, by refine Below.setCell (Below.setCell (Below.setCell (Below.setCell hbb2 ?_ _) ?_ _) ?_ _) ?_ _ <;> simp⟩
      · have hno : z.l[i]? = none := List.getElem?_eq_none (by omega)
        rw [hno]
        have hii : ¬ (i : Int) < (nl : Int) := by omega
        have hi0 : ¬ (i : Int) < 0 := by omega
        clear hL hK hE hgz HH hkk htt hnl hnk hl1 hl2 hi1 hi2 hik hno hk7
        go_enter Tryd.func16, Tryd.ntmps16
        go_wp2_with fail
        generalize ((w.alloc (.cells #[.int .i64 kk, .string tt, .slice A nl cap, .slice A' nk cap'] 26)).alloc (.cells #[.int .i64 0, .string ⟨#[]⟩, .slice none 0 0, .slice none 0 0] 26)) = W0 at *
        refine hix.mono ?_
        rintro e w1 ⟨rfl, rfl⟩
        clear hix
        go_wp2
        refine bodyPost_ret (v := .tuple #[.agg #[.int .i64 0, .string ⟨#[]⟩, .slice none 0 0, .slice none 0 0], .bool false]) (by simp [results, Tryd.results16, go_sem, r0, r1, r2, r3]) rfl ?_
        exact ⟨_, _, _, _, rfl, zin_zero _ _, by refine Below.setCell (Below.setCell (Below.setCell (Below.setCell hb0 ?_ _) ?_ _) ?_ _) ?_ _ <;> simp⟩
  · have hgz : getZ z key = none := by unfold getZ; rw [if_neg (by rw [hkk]; exact hk7)]
    rw [hgz]
    have hk7b : (kk == 7) = false := by simp only [beq_eq_false_iff_ne, ne_eq]; exact hk7
    have hk7c : (kk != 7) = true := by simp only [bne, hk7b]; rfl
    generalize Lib.idxOfS (z.ks.take z.ks.length) key = I at *
    clear hL hK hE hgz HH hkk htt hnl hnk hl1 hl2 hk7
    go_enter Tryd.func16, Tryd.ntmps16
    go_wp2_with fail
    generalize ((w.alloc (.cells #[.int .i64 kk, .string tt, .slice A nl cap, .slice A' nk cap'] 26)).alloc (.cells #[.int .i64 0, .string ⟨#[]⟩, .slice none 0 0, .slice none 0 0] 26)) = W0 at *
    refine hix.mono ?_
    rintro e w1 ⟨rfl, rfl⟩
    clear hix
    go_wp2
    refine bodyPost_ret (v := .tuple #[.agg #[.int .i64 0, .string ⟨#[]⟩, .slice none 0 0, .slice none 0 0], .bool false]) (by simp [results, Tryd.results16, go_sem, r0, r1, r2, r3]) rfl ?_
    exact ⟨_, _, _, _, rfl, zin_zero _ _, by refine Below.setCell (Below.setCell (Below.setCell (Below.setCell hb0 ?_ _) ?_ _) ?_ _) ?_ _ <;> simp⟩
set_option maxHeartbeats 2000000 in
set_option maxRecDepth 100000 in
theorem rget_any (z : Z) (key : ByteArray) (w : World) (v0 v1 v2 v3 : Value) (h : ZIn w (fun b => b < w.heap.size) z v0 v1 v2 v3) (hsz : z.l.length ≤ 100000 ∧ z.ks.length ≤ 100000) :
    Calls Tryd.prog 17 #[.agg #[v0, v1, v2, v3], .string key] w (GetP w (getZ z key)) := by
  obtain ⟨A, A', cap, cap', cc, rfl, rfl, rfl, rfl, _, _, _, hl1, hl2, hL, hK, hE⟩ := h.full
  generalize hkk : z.k = kk at *
  generalize htt : z.tx = tt at *
  have hnl0 : z.l.length ≤ 100000 ∧ z.ks.length ≤ 100000 := hsz
  generalize hnl : z.l.length = nl at *
  generalize hnk : z.ks.length = nk at *
  have hfr : Fr w ((w.alloc (.cells #[.int .i64 kk, .string tt, .slice A nl cap, .slice A' nk cap'] 26)).alloc (.cells #[.int .i64 0, .string ⟨#[]⟩, .slice none 0 0, .slice none 0 0] 26)) (fun _ => True) := ((Fr.refl w _).alloc _).alloc _
  have hb0 : Below w.heap.size w ((w.alloc (.cells #[.int .i64 kk, .string tt, .slice A nl cap, .slice A' nk cap'] 26)).alloc (.cells #[.int .i64 0, .string ⟨#[]⟩, .slice none 0 0, .slice none 0 0] 26)) := ⟨hfr.os, hfr.tape, hfr.output, hfr.size, fun i hi => hfr.block i hi trivial⟩
  have hB0 : ((w.alloc (.cells #[.int .i64 kk, .string tt, .slice A nl cap, .slice A' nk cap'] 26)).alloc (.cells #[.int .i64 0, .string ⟨#[]⟩, .slice none 0 0, .slice none 0 0] 26)).heap[w.heap.size]? = some (.cells #[.int .i64 kk, .string tt, .slice A nl cap, .slice A' nk cap'] 26 (0, 0)) := old_at _ (new_at rfl _)
  have hR0 : ((w.alloc (.cells #[.int .i64 kk, .string tt, .slice A nl cap, .slice A' nk cap'] 26)).alloc (.cells #[.int .i64 0, .string ⟨#[]⟩, .slice none 0 0, .slice none 0 0] 26)).heap[w.heap.size + 1]? = some (.cells #[.int .i64 0, .string ⟨#[]⟩, .slice none 0 0, .slice none 0 0] 26 (0, 0)) := new_at (by simp) _
  obtain ⟨p0, p1, p2, p3⟩ := cells_4 hB0
  obtain ⟨r0, r1, r2, r3⟩ := cells_4 hR0
  obtain ⟨f0, f1, f2, f3⟩ := frozen_4 hR0
  have hsz0 : w.heap.size + 1 < ((w.alloc (.cells #[.int .i64 kk, .string tt, .slice A nl cap, .slice A' nk cap'] 26)).alloc (.cells #[.int .i64 0, .string ⟨#[]⟩, .slice none 0 0, .slice none 0 0] 26)).heap.size := by simp
  by_cases hk7 : kk = 7
  · have hgz : getZ z key = getF z.ks z.l key := by unfold getZ; rw [if_pos (by rw [hkk]; exact hk7)]
    have hk7b : (kk == 7) = true := by rw [hk7]; rfl
    rw [hgz]
    have HL := Lib.hid hL
    have HK := Lib.hid hK
    have HE := Lib.hid hE
    have HNL := Lib.hid hnl
    have HNK := Lib.hid hnk
    have HFR := Lib.hid hfr
    clear hL hK hE hgz hkk htt hnl hnk hl1 hl2 hfr hB0 hR0 hk7
    go_enter Tryd.func17, Tryd.ntmps17
    go_wp2
    generalize ((w.alloc (.cells #[.int .i64 kk, .string tt, .slice A nl cap, .slice A' nk cap'] 26)).alloc (.cells #[.int .i64 0, .string ⟨#[]⟩, .slice none 0 0, .slice none 0 0] 26)) = W0 at *
    go_loopg [6] (nk + 1) (fun g i wr => ∃ q : Nat, q + g = nk + 1 ∧ i = .int .i64 q ∧ getF z.ks z.l key = getF (z.ks.drop q) (z.l.drop q) key ∧ W0 = wr)
    case atStart => exact ⟨0, by omega, rfl, by rw [List.drop_zero, List.drop_zero], rfl⟩
    case round =>
      obtain ⟨q, hq, rfl, hgf, rfl⟩ := hrel
      have hend : ¬ (q < nk ∧ q < nl) → getF (z.ks.drop q) (z.l.drop q) key = none := fun hn => by
        by_cases h1 : q < nk
        · have : z.l.drop q = [] := List.drop_eq_nil_iff.2 (by have := HNL.out; omega)
          rw [this]
          cases z.ks.drop q <;> simp [getF]
        · have : z.ks.drop q = [] := List.drop_eq_nil_iff.2 (by have := HNK.out; omega)
          rw [this]
          simp [getF]
      by_cases hqk : q < nk
      · by_cases hql : q < nl
        · obtain ⟨s, hs⟩ : ∃ s, z.ks[q]? = some s := ⟨_, List.getElem?_eq_getElem (by have := HNK.out; omega)⟩
          obtain ⟨x, hx⟩ : ∃ x, z.l[q]? = some x := ⟨_, List.getElem?_eq_getElem (by have := HNL.out; omega)⟩
          obtain ⟨g, off, rfl, hgw, hcell⟩ := HL.out (by omega)
          obtain ⟨kg, ko, rfl, hkw, hkc⟩ := HK.out (by omega)
          obtain ⟨y0, y1, y2, y3⟩ := elc4 hcell hql
          have x0 := HFR.out.cell y0 trivial
          have x1 := HFR.out.cell y1 trivial
          have x2 := HFR.out.cell y2 trivial
          have x3 := HFR.out.cell y3 trivial
          have k0 := HFR.out.cell (hkc q s hs) trivial
          have hxz := HE.out q x hx
          have hdk : z.ks.drop q = s :: z.ks.drop (q + 1) := by
            have hlt := (List.getElem?_eq_some_iff.1 hs).1
            rw [List.drop_eq_getElem_cons hlt, (List.getElem?_eq_some_iff.1 hs).2]
          have hdl : z.l.drop q = x :: z.l.drop (q + 1) := by
            have hlt := (List.getElem?_eq_some_iff.1 hx).1
            rw [List.drop_eq_getElem_cons hlt, (List.getElem?_eq_some_iff.1 hx).2]
          rw [hdk, hdl, getF] at hgf
          have hqki : (q : Int) < (nk : Int) := by omega
          have hqli : (q : Int) < (nl : Int) := by omega
          clear hend hcell hkc y0 y1 y2 y3 hdk hdl hs hx HL HK HE
          obtain ⟨k9, t9, A9, n9, c9, B9, m9, s9, e0, e1, e2, e3⟩ := zin_agg hxz
          rw [e0] at x0 hxz
          rw [e1] at x1 hxz
          rw [e2] at x2 hxz
          rw [e3] at x3 hxz
          clear e0 e1 e2 e3
          by_cases he : s = key
          · rw [if_pos he] at hgf
            have HGO := Lib.hid hgf
            have hd3 : ZIn ((((W0.setCell ⟨w.heap.size + 1, 0, none⟩ (.int .i64 k9)).setCell ⟨w.heap.size + 1, 1, none⟩ (.string t9)).setCell ⟨w.heap.size + 1, 2, none⟩ (.slice A9 n9 c9)).setCell ⟨w.heap.size + 1, 3, none⟩ (.slice B9 m9 s9)) (fun _ => True) x (.int .i64 k9) (.string t9) (.slice A9 n9 c9) (.slice B9 m9 s9) :=
              (((hxz.fr (below_fr hb0) (fun _ h => h)).fr (ok' := fun b => b ≠ w.heap.size + 1) (fr_set4 W0 (w.heap.size + 1) _ _ _ _) (fun b hb => by omega)).mono (fun _ _ _ => trivial))
            have HD := Lib.hid hd3
            clear hgf hxz hd3
            subst he
            go_wp2
            refine bodyPost_ret (v := .tuple #[.agg #[.int .i64 k9, .string t9, .slice A9 n9 c9, .slice B9 m9 s9], .bool true]) (by simp [results, Tryd.results17, go_sem, r0, r1, r2, r3]) rfl ?_
            rw [HGO.out]
            exact ⟨_, _, _, _, rfl, HD.out, by refine Below.setCell (Below.setCell (Below.setCell (Below.setCell hb0 ?_ _) ?_ _) ?_ _) ?_ _ <;> simp⟩
          · rw [if_neg he] at hgf
            have hne : (s.toList == key.toList) = false := by
              rw [beq_eq_false_iff_ne]; exact fun h => he (ba_ext (by rw [← Lib.toList_data, ← Lib.toList_data, h]))
            have HGF := Lib.hid hgf
            clear hgf hxz he
            go_wp2
            go_roundg (nk + 1 - (q + 1))
            case measure => omega
            case rel => exact ⟨q + 1, by omega, by go_num, HGF.out, rfl⟩
        · have HGO := Lib.hid (hgf.trans (hend (fun h => hql h.2)))
          have hqki : (q : Int) < (nk : Int) := by omega
          have hqli : ¬ (q : Int) < (nl : Int) := by omega
          clear hgf hend HL HK HE
          go_wp2
          refine bodyPost_ret (v := .tuple #[.agg #[.int .i64 0, .string ⟨#[]⟩, .slice none 0 0, .slice none 0 0], .bool false]) (by simp [results, Tryd.results17, go_sem, r0, r1, r2, r3]) rfl ?_
          rw [HGO.out]
          exact ⟨_, _, _, _, rfl, zin_zero _ _, by refine Below.setCell (Below.setCell (Below.setCell (Below.setCell hb0 ?_ _) ?_ _) ?_ _) ?_ _ <;> simp⟩
      · have HGO := Lib.hid (hgf.trans (hend (fun h => hqk h.1)))
        have hqki : ¬ (q : Int) < (nk : Int) := by omega
        clear hgf hend HL HK HE
        go_wp2
        refine bodyPost_ret (v := .tuple #[.agg #[.int .i64 0, .string ⟨#[]⟩, .slice none 0 0, .slice none 0 0], .bool false]) (by simp [results, Tryd.results17, go_sem, r0, r1, r2, r3]) rfl ?_
        rw [HGO.out]
        exact ⟨_, _, _, _, rfl, zin_zero _ _, by refine Below.setCell (Below.setCell (Below.setCell (Below.setCell hb0 ?_ _) ?_ _) ?_ _) ?_ _ <;> simp⟩
  · have hgz : getZ z key = none := by unfold getZ; rw [if_neg (by rw [hkk]; exact hk7)]
    rw [hgz]
    have hk7b : (kk == 7) = false := by simp only [beq_eq_false_iff_ne, ne_eq]; exact hk7
    clear hL hK hE hgz hkk htt hnl hnk hl1 hl2 hk7 hfr hB0 hR0
    go_enter Tryd.func17, Tryd.ntmps17
    go_wp2
    generalize ((w.alloc (.cells #[.int .i64 kk, .string tt, .slice A nl cap, .slice A' nk cap'] 26)).alloc (.cells #[.int .i64 0, .string ⟨#[]⟩, .slice none 0 0, .slice none 0 0] 26)) = W0 at *
    go_loopg [6] 0 (fun g i wr => i = .int .i64 0 ∧ W0 = wr)
    case atStart => exact ⟨rfl, rfl⟩
    case round =>
      obtain ⟨rfl, rfl⟩ := hrel
      go_wp2
      refine bodyPost_ret (v := .tuple #[.agg #[.int .i64 0, .string ⟨#[]⟩, .slice none 0 0, .slice none 0 0], .bool false]) (by simp [results, Tryd.results17, go_sem, r0, r1, r2, r3]) rfl ?_
      exact ⟨_, _, _, _, rfl, zin_zero _ _, by refine Below.setCell (Below.setCell (Below.setCell (Below.setCell hb0 ?_ _) ?_ _) ?_ _) ?_ _ <;> simp⟩
end Go.Proofs.YtjcnjaebmndeiaaDoor
