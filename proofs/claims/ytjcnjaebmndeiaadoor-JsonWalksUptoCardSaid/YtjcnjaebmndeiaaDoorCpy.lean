/-
  'copied' and 'clone' of every value.
-/
import Derived.Test.YtjcnjaebmndeiaaDoorExt
import Derived.Test.YtjcnjaebmndeiaaDoorCnt
namespace Go.Proofs.YtjcnjaebmndeiaaDoor
open Go.RowKit

def Z.k : Z → Int | .mk k _ _ _ => k
def Z.tx : Z → ByteArray | .mk _ t _ _ => t
/-- What 'extend' tells of what it has laid. -/
def extL (sz m g k : Nat) : Value := if m = 0 then .slice none 0 0 else .slice (some ⟨g, k * sz, none⟩) m m
theorem extL_form (sz m g k : Nat) (hm : m ≤ maxLen) : ∃ (A : Option Addr) (cap : Nat), extL sz m g k = .slice A m cap ∧ m ≤ cap ∧ cap ≤ maxLen ∧ (0 < m → A = some ⟨g, k * sz, none⟩) := by
  unfold extL
  by_cases h : m = 0
  · rw [if_pos h, h]; exact ⟨none, 0, rfl, Nat.le_refl _, by unfold maxLen; omega, fun h => absurd h (by omega)⟩
  · rw [if_neg h]; exact ⟨_, m, rfl, Nat.le_refl _, hm, fun _ => rfl⟩
def ExtP (w : World) (base : Nat) (e : TypeId) (sz g k m cap : Nat) (xs : List Value) (en : Ending) (w' : World) : Prop :=
  en = .returned (.tuple #[.slice (some ⟨g, 0, none⟩) (k + m) cap, extL sz m g k]) ∧ w'.ownsRow base e sz (.slice (some ⟨g, 0, none⟩) (k + m) cap) (k + m) xs ∧ w.grownBy w' (some g)
theorem ext_z_any (base g k cap : Nat) (xs : List Value) (A : Option Addr) (m c : Nat) (news : List Value) (w : World) (hown : w.ownsRow base 26 4 (.slice (some ⟨g, 0, none⟩) k cap) k xs) (hn : news.length = m * 4)
    (hsrc : 0 < m → ∃ b off, A = some ⟨b, off, none⟩ ∧ ∀ j u, news[j]? = some u → w.cell? ⟨b, off + j, none⟩ = some u) (h1c : ∀ u ∈ news, u.oneCell' = true) (hfit : k + m ≤ cap) (hcap : cap ≤ 1000000) :
    Calls Tryd.prog 82 #[.slice (some ⟨g, 0, none⟩) k cap, .slice A m c] w (ExtP w base 26 4 g k m cap (xs ++ news)) := by
  by_cases hm : m = 0
  · subst hm
    obtain rfl : news = [] := List.eq_nil_of_length_eq_zero (by omega)
    refine (extend_none _ k cap _ A c w rfl).mono ?_
    rintro e w' ⟨rfl, rfl⟩
    exact ⟨rfl, by simpa using hown, World.grownBy.refl _ _⟩
  · obtain ⟨b, off, rfl, hc⟩ := hsrc (by omega)
    refine (extend_z base g k cap xs b off m c news w hown hn (by omega) hc h1c hfit hcap).mono ?_
    rintro e w' ⟨rfl, h1, h2⟩
    exact ⟨by unfold extL; rw [if_neg hm], h1, h2⟩
theorem ext_s_any (base g k cap : Nat) (xs : List Value) (A : Option Addr) (m c : Nat) (news : List Value) (w : World) (hown : w.ownsRow base 9 1 (.slice (some ⟨g, 0, none⟩) k cap) k xs) (hn : news.length = m * 1)
    (hsrc : 0 < m → ∃ b off, A = some ⟨b, off, none⟩ ∧ ∀ j u, news[j]? = some u → w.cell? ⟨b, off + j, none⟩ = some u) (h1c : ∀ u ∈ news, u.oneCell' = true) (hfit : k + m ≤ cap) (hcap : cap ≤ 1000000) :
    Calls Tryd.prog 83 #[.slice (some ⟨g, 0, none⟩) k cap, .slice A m c] w (ExtP w base 9 1 g k m cap (xs ++ news)) := by
  by_cases hm : m = 0
  · subst hm
    obtain rfl : news = [] := List.eq_nil_of_length_eq_zero (by omega)
    refine (extend_noneS _ k cap _ A c w rfl).mono ?_
    rintro e w' ⟨rfl, rfl⟩
    exact ⟨rfl, by simpa using hown, World.grownBy.refl _ _⟩
  · obtain ⟨b, off, rfl, hc⟩ := hsrc (by omega)
    refine (extend_s base g k cap xs b off m c news w hown hn (by omega) hc h1c hfit hcap).mono ?_
    rintro e w' ⟨rfl, h1, h2⟩
    exact ⟨by unfold extL; rw [if_neg hm], h1, h2⟩
/-- What a value in memory is, in parts. -/
theorem ZIn.full {w : World} {ok : Nat → Prop} {z : Z} {v0 v1 v2 v3 : Value} (h : ZIn w ok z v0 v1 v2 v3) : ∃ (A A' : Option Addr) (cap cap' : Nat) (cc : Nat → Nat → Value),
    v0 = .int .i64 z.k ∧ v1 = .string z.tx ∧ v2 = .slice A z.l.length cap ∧ v3 = .slice A' z.ks.length cap' ∧ (Lit.int .i64 z.k).wf = true ∧ z.tx.size ≤ maxLen ∧ (∀ s, s ∈ z.ks → s.size ≤ maxLen) ∧ z.l.length ≤ maxLen ∧ z.ks.length ≤ maxLen ∧
    (0 < z.l.length → ∃ g off, A = some ⟨g, off, none⟩ ∧ ok g ∧ ∀ i j, i < z.l.length → j < 4 → w.cell? ⟨g, off + (4 * i + j), none⟩ = some (cc i j)) ∧
    (0 < z.ks.length → ∃ g off, A' = some ⟨g, off, none⟩ ∧ ok g ∧ ∀ i s, z.ks[i]? = some s → w.cell? ⟨g, off + i, none⟩ = some (.string s)) ∧
    (∀ i x, z.l[i]? = some x → ZIn w ok x (cc i 0) (cc i 1) (cc i 2) (cc i 3)) := by
  cases h with
  | mk k t l ks A A' cap cap' cc h1 h2 h3 hcap hcap' hL hK hE => exact ⟨A, A', cap, cap', cc, rfl, rfl, rfl, rfl, h1, h2, h3, Nat.le_trans hcap.1 hcap.2, Nat.le_trans hcap'.1 hcap'.2, hL, hK, hE⟩
/-- The cells of so many values. -/
def newsL (n : Nat) (cc : Nat → Nat → Value) : List Value := (List.range (n * 4)).map fun j => cc (j / 4) (j % 4)
theorem newsL_len (n : Nat) (cc : Nat → Nat → Value) : (newsL n cc).length = n * 4 := by simp [newsL]
theorem newsL_get {n : Nat} {cc : Nat → Nat → Value} {i j : Nat} (hi : i < n) (hj : j < 4) : (newsL n cc)[4 * i + j]? = some (cc i j) := by
  unfold newsL
  rw [List.getElem?_map, List.getElem?_range (by omega)]
  have h1 : (4 * i + j) / 4 = i := by omega
  have h2 : (4 * i + j) % 4 = j := by omega
  simp only [Option.map_some, h1, h2]
theorem newsL_inv {n : Nat} {cc : Nat → Nat → Value} {j : Nat} {u : Value} (h : (newsL n cc)[j]? = some u) : j / 4 < n ∧ u = cc (j / 4) (j % 4) := by
  have hl := (List.getElem?_eq_some_iff.1 h).1
  rw [newsL_len] at hl
  unfold newsL at h
  rw [List.getElem?_map, List.getElem?_range hl] at h
  simp only [Option.map_some, Option.some.injEq] at h
  exact ⟨by omega, h.symm⟩
theorem own_frozen {w : World} {b g n cap sz : Nat} {e : TypeId} {xs : List Value} (h : w.ownsRow b e sz (.slice (some ⟨g, 0, none⟩) n cap) n xs) (j : Nat) : w.frozen? ⟨g, j, none⟩ = false := by
  rcases h.2 with ⟨e, _⟩ | ⟨g', cp', cur, e, _, hgg, _⟩
  · cases e
  · cases e; exact frozen_of_row w g j _ _ hgg
theorem own_cell {w : World} {b g n cap sz : Nat} {e : TypeId} {xs : List Value} (h : w.ownsRow b e sz (.slice (some ⟨g, 0, none⟩) n cap) n xs) {j : Nat} {u : Value} (hu : xs[j]? = some u) : w.cell? ⟨g, j, none⟩ = some u := by
  have := h.cells (g := g) rfl j u hu
  rwa [addr_add, Nat.zero_add] at this
/-- A value that has been laid. -/
def Laid (lb kb : Nat) (Q : List Z) (KS : List ByteArray) (x : Z) (d : Nat → Value) : Prop :=
  ∃ (o u : Nat), d 0 = .int .i64 x.k ∧ d 1 = .string x.tx ∧ d 2 = extL 4 x.l.length lb o ∧ d 3 = extL 1 x.ks.length kb u ∧ (∀ p y, x.l[p]? = some y → Q[o + p]? = some y) ∧ (∀ p s, x.ks[p]? = some s → KS[u + p]? = some s)
theorem Laid.more {lb kb : Nat} {Q Q' : List Z} {KS KS' : List ByteArray} {x : Z} {d : Nat → Value} (h : Laid lb kb Q KS x d) : Laid lb kb (Q ++ Q') (KS ++ KS') x d := by
  obtain ⟨o, u, h0, h1, h2, h3, h4, h5⟩ := h
  refine ⟨o, u, h0, h1, h2, h3, fun p y hy => ?_, fun p s hs => ?_⟩
  · have := h4 p y hy
    rw [List.getElem?_append_left (List.getElem?_eq_some_iff.1 this).1]; exact this
  · have := h5 p s hs
    rw [List.getElem?_append_left (List.getElem?_eq_some_iff.1 this).1]; exact this
/-- What holds while the copy is laid. -/
def KRel (w : World) (lb kb N K : Nat) (z : Z) (g : Nat) (v7 v8 v9 : Value) (wr : World) : Prop :=
  ∃ (q : Nat) (Q : List Z) (KS : List ByteArray) (xs : List Value) (c : Nat → Nat → Value), q + g = N ∧ v7 = .slice (some ⟨lb, 0, none⟩) Q.length N ∧ v8 = .slice (some ⟨kb, 0, none⟩) KS.length K ∧ v9 = .int .i64 q ∧
    wr.ownsRow (w.heap.size + 2) 26 4 (.slice (some ⟨lb, 0, none⟩) Q.length N) Q.length xs ∧ wr.ownsRow (w.heap.size + 2) 9 1 (.slice (some ⟨kb, 0, none⟩) KS.length K) KS.length (KS.map Value.string) ∧
    (∀ (i j : Nat), i < Q.length → j < 4 → xs[4 * i + j]? = some (c i j)) ∧ Q[0]? = some z ∧ q ≤ Q.length ∧ q + zcL (Q.drop q) = N ∧ KS.length + zkL (Q.drop q) = K ∧
    (∀ (p : Nat) (y : Z), Q[p]? = some y → ∃ u0 u1 u2 u3, ZIn w (fun b => b < w.heap.size) y u0 u1 u2 u3) ∧ (∀ (p : Nat) (y : Z), Q[p]? = some y → q ≤ p → ZIn w (fun b => b < w.heap.size) y (c p 0) (c p 1) (c p 2) (c p 3)) ∧
    (∀ (p : Nat) (y : Z), Q[p]? = some y → p < q → Laid lb kb Q KS y (c p)) ∧ wr.heap[w.heap.size + 1]? = some (.cells #[.int .i64 0, .string ⟨#[]⟩, .slice none 0 0, .slice none 0 0] 26 (0, 0)) ∧ Below w.heap.size w wr
/-- All laid: a value in memory of its own. -/
theorem zin_laid {W : World} {lb kb B nq nk N K : Nat} {Q : List Z} {KS : List ByteArray} {xs : List Value} {c : Nat → Nat → Value} (hlb : B ≤ lb) (hkb : B ≤ kb) (hnq : nq = Q.length) (hnk : nk = KS.length) (h1 : W.ownsRow B 26 4 (.slice (some ⟨lb, 0, none⟩) nq N) nq xs)
    (h2 : W.ownsRow B 9 1 (.slice (some ⟨kb, 0, none⟩) nk K) nk (KS.map Value.string)) (hx : ∀ (i j : Nat), i < Q.length → j < 4 → xs[4 * i + j]? = some (c i j)) {w : World} {ok : Nat → Prop} (hz : ∀ (p : Nat) (y : Z), Q[p]? = some y → ∃ u0 u1 u2 u3, ZIn w ok y u0 u1 u2 u3)
    (hd : ∀ (p : Nat) (y : Z), Q[p]? = some y → Laid lb kb Q KS y (c p)) : ∀ (n : Nat) (y : Z), SizeOf.sizeOf y < n → ∀ p, Q[p]? = some y → ZIn W (fun b => B ≤ b) y (c p 0) (c p 1) (c p 2) (c p 3)
  | 0, _, h => by omega
  | n + 1, .mk k t l ks, hsz => fun p hp => by
    obtain ⟨ou, uu, e0, e1, e2, e3, hl, hk⟩ := hd p _ hp
    obtain ⟨u0, u1, u2, u3, hu⟩ := hz p _ hp
    obtain ⟨_, _, _, _, _, _, _, _, _, w1, w2, w3, w4, w5, _, _, _⟩ := hu.full
    obtain ⟨A, cap, f1, f2, f3, f4⟩ := extL_form 4 l.length lb ou w4
    obtain ⟨A', cap', g1, g2, g3, g4⟩ := extL_form 1 ks.length kb uu w5
    have e0' : c p 0 = .int .i64 k := e0
    have e1' : c p 1 = .string t := e1
    have e2' : c p 2 = .slice A l.length cap := e2.trans f1
    have e3' : c p 3 = .slice A' ks.length cap' := e3.trans g1
    rw [e0', e1', e2', e3']
    refine ZIn.mk k t l ks A A' cap cap' (fun i j => c (ou + i) j) w1 w2 w3 ⟨f2, f3⟩ ⟨g2, g3⟩ (fun h => ⟨lb, ou * 4, f4 h, hlb, fun i j hi hj => ?_⟩) (fun h => ⟨kb, uu * 1, g4 h, hkb, fun i s hs => ?_⟩) (fun i x hi => ?_)
    · have hq := hl i (l[i]) (List.getElem?_eq_getElem hi)
      have hlt := (List.getElem?_eq_some_iff.1 hq).1
      have := own_cell h1 (hx (ou + i) j hlt hj)
      rwa [show 4 * (ou + i) + j = ou * 4 + (4 * i + j) by omega] at this
    · have hq := hk i s hs
      have := own_cell h2 (j := uu * 1 + i) (u := .string s) (by rw [Nat.mul_one, List.getElem?_map, hq]; rfl)
      exact this
    · refine zin_laid hlb hkb hnq hnk h1 h2 hx hz hd n x ?_ (ou + i) (hl i x hi)
      have hm := List.sizeOf_lt_of_mem (List.mem_of_getElem? hi)
      simp only [Z.mk.sizeOf_spec] at hsz
      omega
theorem madeZ (W : World) (n : Nat) (hn : n ≤ 100000) : (Instr.makeSlice 23 (.int .i64 0) (.int .i64 (n : Int))).run Tryd.prog W = .ok (.slice (some ⟨W.heap.size, 0, none⟩) 0 n) (W.alloc (.cells (madeCells #[.int .i64 0, .string ⟨#[]⟩, .slice none 0 0, .slice none 0 0] (n * 4)) 26)) := by
  obtain ⟨i0, hi, hz0, hz1, hz2⟩ := info_parts Tryd.info26
  have := run_makeSlice (P := Tryd.prog) W 23 26 i0 _ Tryd.underlying23 hi hz0 .i64 .i64 0 (n : Int) (by omega) (by omega) (by rw [hz1]; omega) (by rw [hz2]; omega) (by omega)
  rw [hz1] at this
  exact this
theorem madeS (W : World) (n : Nat) (hn : n ≤ 100000) : (Instr.makeSlice 24 (.int .i64 0) (.int .i64 (n : Int))).run Tryd.prog W = .ok (.slice (some ⟨W.heap.size, 0, none⟩) 0 n) (W.alloc (.cells (madeCells #[.string ⟨#[]⟩] n) 9)) := by
  obtain ⟨i0, hi, hz0, hz1, hz2⟩ := info_parts Tryd.info9
  have := run_makeSlice (P := Tryd.prog) W 24 9 i0 _ Tryd.underlying24 hi hz0 .i64 .i64 0 (n : Int) (by omega) (by omega) (by rw [hz1]; omega) (by rw [hz2]; omega) (by omega)
  rw [hz1, Int.toNat_natCast, Nat.mul_one] at this
  exact this
theorem fr_set4 (W : World) (g : Nat) (a b c d : Value) : Fr W ((((W.setCell ⟨g, 0, none⟩ a).setCell ⟨g, 1, none⟩ b).setCell ⟨g, 2, none⟩ c).setCell ⟨g, 3, none⟩ d) (fun k => k ≠ g) :=
  (Fr.of (gset W g 0 a) (fun b _ hb e => hb (by cases e; rfl))).trans ((Fr.of (gset _ g 1 b) (fun b _ hb e => hb (by cases e; rfl))).trans ((Fr.of (gset _ g 2 c) (fun b _ hb e => hb (by cases e; rfl))).trans (Fr.of (gset _ g 3 d) (fun b _ hb e => hb (by cases e; rfl)))))

/-- What 'copied' and 'clone' tell of a value. -/
def CopyP (w : World) (z : Z) (e : Ending) (w' : World) : Prop := ∃ d0 d1 d2 d3, e = .returned (.agg #[d0, d1, d2, d3]) ∧ ZIn w' (fun b => w.heap.size ≤ b) z d0 d1 d2 d3 ∧ Below w.heap.size w w'
set_option maxHeartbeats 8000000 in
set_option maxRecDepth 100000 in
theorem copied_any (z : Z) (w : World) (v0 v1 v2 v3 : Value) (hz : ZIn w (fun b => b < w.heap.size) z v0 v1 v2 v3) (N K : Nat) (hN : zc z = N) (hK : zk z = K) (hNb : N ≤ 100000) (hKb : K ≤ 100000) :
    Calls Tryd.prog 67 #[.agg #[v0, v1, v2, v3], .int .i64 (N : Int), .int .i64 (K : Int)] w (CopyP w z) := by
  obtain ⟨kk, tt, A0, n1, c1, A1, n2, c2, rfl, rfl, rfl, rfl⟩ := zin_agg hz
  have m1 := fun W => madeZ W N hNb
  have m0 := fun W => madeS W K hKb
  have hN1 : 1 ≤ N := by cases z; rw [zc] at hN; omega
  have HZ := Lib.hid hz
  have HN := Lib.hid hN
  have HK := Lib.hid hK
  obtain ⟨i0, hi, hz0, hz1, hz2⟩ := info_parts Tryd.info26
  clear hz hN hK
  go_enter Tryd.func67, Tryd.ntmps67
  go_wp2
  go_region
  · have hownZ : ∀ o5 : Obj, ((((((w.alloc (.cells #[.int .i64 kk, .string tt, .slice A0 n1 c1, .slice A1 n2 c2] 26)).alloc (.cells #[.int .i64 0, .string ⟨#[]⟩, .slice none 0 0, .slice none 0 0] 26)).alloc (.cells (madeCells #[.int .i64 0, .string ⟨#[]⟩, .slice none 0 0, .slice none 0 0] (N * 4)) 26)).alloc (.cells (madeCells #[.string ⟨#[]⟩] K) 9)).alloc o5).drew).ownsRow (w.heap.size + 2) 26 4 (.slice (some ⟨w.heap.size + 1 + 1, 0, none⟩) 0 N) 0 [] := fun o5 => by
        have h := World.ownsRow_made (base := w.heap.size + 2) (e := 26) (size := 4) ((w.alloc (.cells #[.int .i64 kk, .string tt, .slice A0 n1 c1, .slice A1 n2 c2] 26)).alloc (.cells #[.int .i64 0, .string ⟨#[]⟩, .slice none 0 0, .slice none 0 0] 26)) (madeCells #[.int .i64 0, .string ⟨#[]⟩, .slice none 0 0, .slice none 0 0] (N * 4)) N (by simp) (by unfold maxLen; omega) (by rw [size_madeCells])
        rw [show (((w.alloc (.cells #[.int .i64 kk, .string tt, .slice A0 n1 c1, .slice A1 n2 c2] 26)).alloc (.cells #[.int .i64 0, .string ⟨#[]⟩, .slice none 0 0, .slice none 0 0] 26))).heap.size = w.heap.size + 1 + 1 by simp] at h
        exact ((h.alloc _).alloc o5).drew
    have hownS : ∀ o5 : Obj, ((((((w.alloc (.cells #[.int .i64 kk, .string tt, .slice A0 n1 c1, .slice A1 n2 c2] 26)).alloc (.cells #[.int .i64 0, .string ⟨#[]⟩, .slice none 0 0, .slice none 0 0] 26)).alloc (.cells (madeCells #[.int .i64 0, .string ⟨#[]⟩, .slice none 0 0, .slice none 0 0] (N * 4)) 26)).alloc (.cells (madeCells #[.string ⟨#[]⟩] K) 9)).alloc o5).drew).ownsRow (w.heap.size + 2) 9 1 (.slice (some ⟨w.heap.size + 1 + 1 + 1, 0, none⟩) 0 K) 0 [] := fun o5 => by
        have h := World.ownsRow_made (base := w.heap.size + 2) (e := 9) (size := 1) (((w.alloc (.cells #[.int .i64 kk, .string tt, .slice A0 n1 c1, .slice A1 n2 c2] 26)).alloc (.cells #[.int .i64 0, .string ⟨#[]⟩, .slice none 0 0, .slice none 0 0] 26)).alloc (.cells (madeCells #[.int .i64 0, .string ⟨#[]⟩, .slice none 0 0, .slice none 0 0] (N * 4)) 26)) (madeCells #[.string ⟨#[]⟩] K) K (by simp) (by unfold maxLen; omega) (by rw [size_madeCells]; omega)
        rw [show ((((w.alloc (.cells #[.int .i64 kk, .string tt, .slice A0 n1 c1, .slice A1 n2 c2] 26)).alloc (.cells #[.int .i64 0, .string ⟨#[]⟩, .slice none 0 0, .slice none 0 0] 26)).alloc (.cells (madeCells #[.int .i64 0, .string ⟨#[]⟩, .slice none 0 0, .slice none 0 0] (N * 4)) 26))).heap.size = w.heap.size + 1 + 1 + 1 by simp] at h
        exact (h.alloc o5).drew
    have hfr : ∀ o5 : Obj, Fr w ((((((w.alloc (.cells #[.int .i64 kk, .string tt, .slice A0 n1 c1, .slice A1 n2 c2] 26)).alloc (.cells #[.int .i64 0, .string ⟨#[]⟩, .slice none 0 0, .slice none 0 0] 26)).alloc (.cells (madeCells #[.int .i64 0, .string ⟨#[]⟩, .slice none 0 0, .slice none 0 0] (N * 4)) 26)).alloc (.cells (madeCells #[.string ⟨#[]⟩] K) 9)).alloc o5).drew) (fun _ => True) := fun o5 => ((((((Fr.refl w _).alloc _).alloc _).alloc _).alloc _).alloc _).drewN 1
    have hR : ∀ o5 : Obj, ((((((w.alloc (.cells #[.int .i64 kk, .string tt, .slice A0 n1 c1, .slice A1 n2 c2] 26)).alloc (.cells #[.int .i64 0, .string ⟨#[]⟩, .slice none 0 0, .slice none 0 0] 26)).alloc (.cells (madeCells #[.int .i64 0, .string ⟨#[]⟩, .slice none 0 0, .slice none 0 0] (N * 4)) 26)).alloc (.cells (madeCells #[.string ⟨#[]⟩] K) 9)).alloc o5).drew).heap[w.heap.size + 1]? = some (.cells #[.int .i64 0, .string ⟨#[]⟩, .slice none 0 0, .slice none 0 0] 26 (0, 0)) := fun o5 => old_at _ (old_at _ (old_at _ (new_at (by simp) _)))
    have hrow : ((((((w.alloc (.cells #[.int .i64 kk, .string tt, .slice A0 n1 c1, .slice A1 n2 c2] 26)).alloc (.cells #[.int .i64 0, .string ⟨#[]⟩, .slice none 0 0, .slice none 0 0] 26)).alloc (.cells (madeCells #[.int .i64 0, .string ⟨#[]⟩, .slice none 0 0, .slice none 0 0] (N * 4)) 26)).alloc (.cells (madeCells #[.string ⟨#[]⟩] K) 9)).alloc (.cells #[.int .i64 kk, .string tt, .slice A0 n1 c1, .slice A1 n2 c2] 26)).drew).heap[w.heap.size + 1 + 1 + 1 + 1]? = some (.cells #[.int .i64 kk, .string tt, .slice A0 n1 c1, .slice A1 n2 c2] 26 (0, 0)) := new_at (by simp) _
    have hc4 : ∀ (j : Nat) (u : Value), [Value.int .i64 kk, .string tt, .slice A0 n1 c1, .slice A1 n2 c2][j]? = some u → ((((((w.alloc (.cells #[.int .i64 kk, .string tt, .slice A0 n1 c1, .slice A1 n2 c2] 26)).alloc (.cells #[.int .i64 0, .string ⟨#[]⟩, .slice none 0 0, .slice none 0 0] 26)).alloc (.cells (madeCells #[.int .i64 0, .string ⟨#[]⟩, .slice none 0 0, .slice none 0 0] (N * 4)) 26)).alloc (.cells (madeCells #[.string ⟨#[]⟩] K) 9)).alloc (.cells #[.int .i64 kk, .string tt, .slice A0 n1 c1, .slice A1 n2 c2] 26)).drew).cell? ((⟨w.heap.size + 1 + 1 + 1 + 1, 0, none⟩ : Addr).add j) = some u := fun j u hu => by
      rw [addr_add, Nat.zero_add, cell_of_row _ _ j _ _ _ hrow]
      simpa using hu
    clear m1 m0
    go_wp2_with (at_builtin; refine wpList_append_fits _ rfl _ _ 23 rfl (w.heap.size + 2) 26 i0 4 Tryd.underlying23 hi hz1 (w.heap.size + 1 + 1) 0 N [] rfl (hownZ _) ⟨w.heap.size + 1 + 1 + 1 + 1, 0, none⟩ 1 1 [.int .i64 kk, .string tt, .slice A0 n1 c1, .slice A1 n2 c2] rfl rfl hc4 (by simp [Value.oneCell']) (by omega) ?_; intro w1 hown1 hg1)
    have hfr1 : Fr ((((((w.alloc (.cells #[.int .i64 kk, .string tt, .slice A0 n1 c1, .slice A1 n2 c2] 26)).alloc (.cells #[.int .i64 0, .string ⟨#[]⟩, .slice none 0 0, .slice none 0 0] 26)).alloc (.cells (madeCells #[.int .i64 0, .string ⟨#[]⟩, .slice none 0 0, .slice none 0 0] (N * 4)) 26)).alloc (.cells (madeCells #[.string ⟨#[]⟩] K) 9)).alloc (.cells #[.int .i64 kk, .string tt, .slice A0 n1 c1, .slice A1 n2 c2] 26)).drew) w1 (fun b => b ≠ w.heap.size + 1 + 1) := Fr.of hg1 (fun b _ hb e => hb (by cases e; rfl))
    have hrel0 : KRel w (w.heap.size + 1 + 1) (w.heap.size + 1 + 1 + 1) N K z N (.slice (some ⟨w.heap.size + 1 + 1, 0, none⟩) 1 N) (.slice (some ⟨w.heap.size + 1 + 1 + 1, 0, none⟩) 0 K) (.int .i64 0) w1 := by
      refine ⟨0, [z], [], [.int .i64 kk, .string tt, .slice A0 n1 c1, .slice A1 n2 c2], fun _ j => if j = 0 then .int .i64 kk else if j = 1 then .string tt else if j = 2 then .slice A0 n1 c1 else .slice A1 n2 c2, by omega, rfl, rfl, rfl, hown1, ownsRow_fr (hownS _) hfr1 (fun g e => by cases e; show w.heap.size + 1 + 1 + 1 ≠ w.heap.size + 1 + 1; omega), fun i j hi hj => ?_, rfl, by simp, ?_, ?_, fun p y hy => ?_, fun p y hy _ => ?_, fun p y hy h => by omega, hfr1.at (hR _) (by omega), ?_⟩
      · have hi0 : i = 0 := by simpa using hi
        subst hi0
        match j, hj with
        | 0, _ => rfl
        | 1, _ => rfl
        | 2, _ => rfl
        | 3, _ => rfl
      · rw [List.drop_zero, zcL, zcL, HN.out]; omega
      · rw [List.drop_zero, zkL, zkL, HK.out, List.length_nil]; omega
      · have hp0 : p = 0 := by have := (List.getElem?_eq_some_iff.1 hy).1; simpa using this
        subst hp0
        cases hy
        exact ⟨_, _, _, _, HZ.out⟩
      · have hp0 : p = 0 := by have := (List.getElem?_eq_some_iff.1 hy).1; simpa using this
        subst hp0
        cases hy
        exact HZ.out
      · have h1 := hfr (.cells #[.int .i64 kk, .string tt, .slice A0 n1 c1, .slice A1 n2 c2] 26)
        have h2 : Fr w w1 (fun b => b < w.heap.size) := (h1.mono (fun _ _ _ => trivial)).trans (hfr1.mono (fun b _ hb => by omega))
        exact ⟨h2.os, h2.tape, h2.output, h2.size, fun i hi => h2.block i hi hi⟩
    have HR0 := Lib.hid hrel0
    clear hrel0 hfr1 hown1 hg1 hownZ hownS hfr hR hrow hc4
    go_loopg [7, 8, 9] N (fun g v7 v8 v9 wr => KRel w (w.heap.size + 1 + 1) (w.heap.size + 1 + 1 + 1) N K z g v7 v8 v9 wr)
    case atStart => exact HR0.out
    case round =>
      clear HR0
      obtain ⟨q, Q, KS, xs, c, hq, rfl, rfl, rfl, ho1, ho2, hx, hQ0, hqQ, hsN, hsK, hokz, hpend, hdone, hbx, hbw⟩ := hrel
      by_cases hqlt : q < Q.length
      · obtain ⟨y, hy⟩ : ∃ y, Q[q]? = some y := ⟨_, List.getElem?_eq_getElem hqlt⟩
        have hdr : Q.drop q = y :: Q.drop (q + 1) := by rw [List.drop_eq_getElem_cons hqlt, (List.getElem?_eq_some_iff.1 hy).2]
        have hyz := hpend q y hy (Nat.le_refl _)
        obtain ⟨A, A', cap, cap', cc, e0, e1, e2, e3, w1', w2', w3', hl1, hl2, hL, hKK, hE⟩ := hyz.full
        rw [hdr, zcL, zc_l] at hsN
        rw [hdr, zkL, zk_l] at hsK
        have hzl := zcL_len y.l
        have hdl := zcL_len (Q.drop (q + 1))
        rw [List.length_drop] at hdl
        have hqN : q < N := by omega
        have hbf := below_fr hbw
        -- the cells of the entry
        have x2 := own_cell ho1 (hx q 2 hqlt (by omega))
        have x3 := own_cell ho1 (hx q 3 hqlt (by omega))
        rw [e2, show 4 * q + 2 = q * 4 + 2 by omega] at x2
        rw [e3, show 4 * q + 3 = q * 4 + 3 by omega] at x3
        have f2 := own_frozen ho1 (q * 4 + 2)
        have f3 := own_frozen ho1 (q * 4 + 3)
        -- what the two calls do
        have hone : ∀ u ∈ newsL y.l.length cc, u.oneCell' = true := fun u hu => by
          obtain ⟨j, hj⟩ := List.getElem?_of_mem hu
          obtain ⟨h1, rfl⟩ := newsL_inv hj
          obtain ⟨k9, t9, A9, n9, c9, B9, m9, s9, r0, r1, r2, r3⟩ := zin_agg (hE (j / 4) _ (List.getElem?_eq_getElem h1))
          have hj4 : j % 4 = 0 ∨ j % 4 = 1 ∨ j % 4 = 2 ∨ j % 4 = 3 := by omega
          rcases hj4 with h | h | h | h
          · rw [h, r0]; rfl
          · rw [h, r1]; rfl
          · rw [h, r2]; rfl
          · rw [h, r3]; rfl
        have hc1 := ext_z_any (w.heap.size + 2) (w.heap.size + 1 + 1) Q.length N xs A y.l.length cap (newsL y.l.length cc) wr ho1 (newsL_len _ _) (fun hp => by
          obtain ⟨g, off, rfl, hg, hcell⟩ := hL hp
          refine ⟨g, off, rfl, fun j u hu => ?_⟩
          obtain ⟨h1, rfl⟩ := newsL_inv hu
          have := hbf.cell (hcell (j / 4) (j % 4) h1 (by omega)) hg
          rwa [show off + (4 * (j / 4) + j % 4) = off + j by omega] at this) hone (by omega) (by omega)
        have hc2 : ∀ (W : World), W.ownsRow (w.heap.size + 2) 9 1 (.slice (some ⟨w.heap.size + 1 + 1 + 1, 0, none⟩) KS.length K) KS.length (KS.map Value.string) → Fr w W (fun b => b < w.heap.size) → Calls Tryd.prog 83 #[.slice (some ⟨w.heap.size + 1 + 1 + 1, 0, none⟩) KS.length K, .slice A' y.ks.length cap'] W (ExtP W (w.heap.size + 2) 9 1 (w.heap.size + 1 + 1 + 1) KS.length y.ks.length K (KS.map Value.string ++ y.ks.map Value.string)) := fun W hW hfW =>
          ext_s_any (w.heap.size + 2) (w.heap.size + 1 + 1 + 1) KS.length K _ A' y.ks.length cap' (y.ks.map Value.string) W hW (by simp) (fun hp => by
            obtain ⟨g, off, rfl, hg, hcell⟩ := hKK hp
            refine ⟨g, off, rfl, fun j u hu => ?_⟩
            rw [List.getElem?_map] at hu
            obtain ⟨s, hs, rfl⟩ := Option.map_eq_some_iff.1 hu
            exact hfW.cell (hcell j s hs) hg) (fun u hu => by obtain ⟨s, _, rfl⟩ := List.mem_map.1 hu; rfl) (by omega) (by omega)
        obtain ⟨R1, hR1⟩ : ∃ R1, R1 = extL 4 y.l.length (w.heap.size + 1 + 1) Q.length := ⟨_, rfl⟩
        obtain ⟨R2, hR2⟩ : ∃ R2, R2 = extL 1 y.ks.length (w.heap.size + 1 + 1 + 1) KS.length := ⟨_, rfl⟩
        have hR1f : ∃ (A : Option Addr) (n c : Nat), R1 = .slice A n c := by obtain ⟨A, cap, h, _⟩ := extL_form 4 y.l.length (w.heap.size + 1 + 1) Q.length hl1; exact ⟨A, _, cap, by rw [hR1, h]⟩
        have hR2f : ∃ (A : Option Addr) (n c : Nat), R2 = .slice A n c := by obtain ⟨A, cap, h, _⟩ := extL_form 1 y.ks.length (w.heap.size + 1 + 1 + 1) KS.length hl2; exact ⟨A, _, cap, by rw [hR2, h]⟩
        -- what holds at the round's end
        have hfin : ∀ (w1 w2 : World), w1.ownsRow (w.heap.size + 2) 26 4 (.slice (some ⟨w.heap.size + 1 + 1, 0, none⟩) (Q.length + y.l.length) N) (Q.length + y.l.length) (xs ++ newsL y.l.length cc) → wr.grownBy w1 (some (w.heap.size + 1 + 1)) →
            w2.ownsRow (w.heap.size + 2) 9 1 (.slice (some ⟨w.heap.size + 1 + 1 + 1, 0, none⟩) (KS.length + y.ks.length) K) (KS.length + y.ks.length) (KS.map Value.string ++ y.ks.map Value.string) → (w1.setCell ⟨w.heap.size + 1 + 1, q * 4 + 2, none⟩ R1).grownBy w2 (some (w.heap.size + 1 + 1 + 1)) →
            KRel w (w.heap.size + 1 + 1) (w.heap.size + 1 + 1 + 1) N K z (N - (q + 1)) (.slice (some ⟨w.heap.size + 1 + 1, 0, none⟩) (Q.length + y.l.length) N) (.slice (some ⟨w.heap.size + 1 + 1 + 1, 0, none⟩) (KS.length + y.ks.length) K) (.int .i64 ((q + 1 : Nat) : Int)) (w2.setCell ⟨w.heap.size + 1 + 1, q * 4 + 3, none⟩ R2) := by
          intro w1 w2 h1 hg1 h2 hg2
          have hf1 : Fr wr w1 (fun b => b ≠ w.heap.size + 1 + 1) := Fr.of hg1 (fun b _ hb e => hb (by cases e; rfl))
          have hf1s : Fr w1 (w1.setCell ⟨w.heap.size + 1 + 1, q * 4 + 2, none⟩ R1) (fun b => b ≠ w.heap.size + 1 + 1) := Fr.of (gset w1 _ _ R1) (fun b _ hb e => hb (by cases e; rfl))
          have hf2 : Fr (w1.setCell ⟨w.heap.size + 1 + 1, q * 4 + 2, none⟩ R1) w2 (fun b => b ≠ w.heap.size + 1 + 1 + 1) := Fr.of hg2 (fun b _ hb e => hb (by cases e; rfl))
          have hf2s : Fr w2 (w2.setCell ⟨w.heap.size + 1 + 1, q * 4 + 3, none⟩ R2) (fun b => b ≠ w.heap.size + 1 + 1) := Fr.of (gset w2 _ _ R2) (fun b _ hb e => hb (by cases e; rfl))
          have h1a := own_set h1 (q * 4 + 2) R1
          have h1b := ownsRow_fr h1a hf2 (fun g e => by cases e; show w.heap.size + 1 + 1 ≠ w.heap.size + 1 + 1 + 1; omega)
          have h1c := own_set h1b (q * 4 + 3) R2
          have h2c := ownsRow_fr h2 hf2s (fun g e => by cases e; show w.heap.size + 1 + 1 + 1 ≠ w.heap.size + 1 + 1; omega)
          have hxl : xs.length = Q.length * 4 := ho1.1
          have hall : Fr wr (w2.setCell ⟨w.heap.size + 1 + 1, q * 4 + 3, none⟩ R2) (fun b => b < w.heap.size + 2) := (hf1.mono (fun b _ hb => by omega)).trans ((hf1s.mono (fun b _ hb => by omega)).trans ((hf2.mono (fun b _ hb => by omega)).trans (hf2s.mono (fun b _ hb => by omega))))
          refine ⟨q + 1, Q ++ y.l, KS ++ y.ks, ((xs ++ newsL y.l.length cc).set (q * 4 + 2) R1).set (q * 4 + 3) R2, fun i j => if i = q then (if j = 2 then R1 else if j = 3 then R2 else c i j) else if i < Q.length then c i j else cc (i - Q.length) j, by omega, by rw [List.length_append], by rw [List.length_append], rfl, by rw [List.length_append]; exact h1c, by rw [List.length_append, List.map_append]; exact h2c, fun i j hi hj => ?_, ?_, by rw [List.length_append]; omega, ?_, ?_, fun p x hp => ?_, fun p x hp hpq => ?_, fun p x hp hpq => ?_, hall.at hbx (by omega), ?_⟩
          · show _ = some (if i = q then (if j = 2 then R1 else if j = 3 then R2 else c i j) else if i < Q.length then c i j else cc (i - Q.length) j)
            rw [List.length_append] at hi
            have hbase : (xs ++ newsL y.l.length cc)[4 * i + j]? = some (if i < Q.length then c i j else cc (i - Q.length) j) := by
              by_cases hiq : i < Q.length
              · rw [if_pos hiq, List.getElem?_append_left (by omega)]
                exact hx i j hiq hj
              · rw [if_neg hiq, List.getElem?_append_right (by omega), show 4 * i + j - xs.length = 4 * (i - Q.length) + j by omega]
                exact newsL_get (by omega) hj
            have hlen : 4 * i + j < (xs ++ newsL y.l.length cc).length := (List.getElem?_eq_some_iff.1 hbase).1
            by_cases hiq : i = q
            · subst hiq
              rw [if_pos rfl]
              by_cases h3 : j = 3
              · subst h3
                rw [if_neg (by decide), if_pos rfl, show 4 * i + 3 = i * 4 + 3 by omega, List.getElem?_set_self (by rw [List.length_set]; omega)]
              · rw [List.getElem?_set_ne (by omega)]
                by_cases h2 : j = 2
                · subst h2
                  rw [if_pos rfl, show 4 * i + 2 = i * 4 + 2 by omega, List.getElem?_set_self (by omega)]
                · rw [if_neg h2, if_neg h3, List.getElem?_set_ne (by omega), hbase, if_pos hqlt]
            · rw [if_neg hiq, List.getElem?_set_ne (by omega), List.getElem?_set_ne (by omega), hbase]
          · rw [List.getElem?_append_left (by omega)]; exact hQ0
          · rw [List.drop_append_of_le_length (by omega), zcL_app]; omega
          · rw [List.drop_append_of_le_length (by omega), zkL_app, List.length_append]; omega
          · by_cases hpl : p < Q.length
            · rw [List.getElem?_append_left hpl] at hp; exact hokz p x hp
            · rw [List.getElem?_append_right (by omega)] at hp
              exact ⟨_, _, _, _, hE _ x hp⟩
          · have hpq' : p ≠ q := by omega
            by_cases hpl : p < Q.length
            · rw [List.getElem?_append_left hpl] at hp
              have := hpend p x hp (by omega)
              simp only [if_neg hpq', if_pos hpl]
              exact this
            · rw [List.getElem?_append_right (by omega)] at hp
              simp only [if_neg hpq', if_neg hpl]
              exact hE _ x hp
          · have hpl : p < Q.length := by omega
            rw [List.getElem?_append_left hpl] at hp
            by_cases hpq' : p = q
            · subst hpq'
              rw [hy] at hp
              cases hp
              refine ⟨Q.length, KS.length, ?_, ?_, ?_, ?_, fun p' x' hx' => ?_, fun p' s' hs' => ?_⟩
              · simp only [if_pos]
                exact e0
              · simp only [if_pos]
                exact e1
              · simp only [if_pos]
                exact hR1
              · simp only [if_pos]
                exact hR2
              · rw [List.getElem?_append_right (by omega), show Q.length + p' - Q.length = p' by omega]; exact hx'
              · rw [List.getElem?_append_right (by omega), show KS.length + p' - KS.length = p' by omega]; exact hs'
            · have hd := (hdone p x hp (by omega)).more (Q' := y.l) (KS' := y.ks)
              simp only [if_neg hpq', if_pos hpl]
              exact hd
          · exact hbw.trans ⟨hall.os, hall.tape, hall.output, hall.size, fun i hi => hall.block i (by have := hbw.size; omega) (by omega)⟩
        have hmid : ∀ w1 : World, w1.ownsRow (w.heap.size + 2) 26 4 (.slice (some ⟨w.heap.size + 1 + 1, 0, none⟩) (Q.length + y.l.length) N) (Q.length + y.l.length) (xs ++ newsL y.l.length cc) → wr.grownBy w1 (some (w.heap.size + 1 + 1)) →
            w1.cell? ⟨w.heap.size + 1 + 1, q * 4 + 2, none⟩ = some (.slice A y.l.length cap) ∧ w1.frozen? ⟨w.heap.size + 1 + 1, q * 4 + 2, none⟩ = false ∧ (w1.setCell ⟨w.heap.size + 1 + 1, q * 4 + 2, none⟩ R1).cell? ⟨w.heap.size + 1 + 1, q * 4 + 3, none⟩ = some (.slice A' y.ks.length cap') ∧
            (w1.setCell ⟨w.heap.size + 1 + 1, q * 4 + 2, none⟩ R1).ownsRow (w.heap.size + 2) 9 1 (.slice (some ⟨w.heap.size + 1 + 1 + 1, 0, none⟩) KS.length K) KS.length (KS.map Value.string) ∧ Fr w (w1.setCell ⟨w.heap.size + 1 + 1, q * 4 + 2, none⟩ R1) (fun b => b < w.heap.size) ∧
            ∀ w2, (w1.setCell ⟨w.heap.size + 1 + 1, q * 4 + 2, none⟩ R1).grownBy w2 (some (w.heap.size + 1 + 1 + 1)) → w2.cell? ⟨w.heap.size + 1 + 1, q * 4 + 3, none⟩ = some (.slice A' y.ks.length cap') ∧ w2.frozen? ⟨w.heap.size + 1 + 1, q * 4 + 3, none⟩ = false := by
          intro w1 h1 hg1
          have hf1 : Fr wr w1 (fun b => b ≠ w.heap.size + 1 + 1) := Fr.of hg1 (fun b _ hb e => hb (by cases e; rfl))
          have hf1s : Fr w1 (w1.setCell ⟨w.heap.size + 1 + 1, q * 4 + 2, none⟩ R1) (fun b => b ≠ w.heap.size + 1 + 1) := Fr.of (gset w1 _ _ R1) (fun b _ hb e => hb (by cases e; rfl))
          have hxl : xs.length = Q.length * 4 := ho1.1
          have hx2 := hx q 2 hqlt (by omega)
          have hx3 := hx q 3 hqlt (by omega)
          rw [e2] at hx2
          rw [e3] at hx3
          have a2 : (xs ++ newsL y.l.length cc)[q * 4 + 2]? = some (.slice A y.l.length cap) := by rw [List.getElem?_append_left (by omega), show q * 4 + 2 = 4 * q + 2 by omega]; exact hx2
          have a3 : (xs ++ newsL y.l.length cc)[q * 4 + 3]? = some (.slice A' y.ks.length cap') := by rw [List.getElem?_append_left (by omega), show q * 4 + 3 = 4 * q + 3 by omega]; exact hx3
          have h1a := own_set h1 (q * 4 + 2) R1
          have a3' : ((xs ++ newsL y.l.length cc).set (q * 4 + 2) R1)[q * 4 + 3]? = some (.slice A' y.ks.length cap') := by rw [List.getElem?_set_ne (by omega)]; exact a3
          refine ⟨own_cell h1 a2, own_frozen h1 _, own_cell h1a a3', ownsRow_fr (ownsRow_fr ho2 hf1 (fun g e => by cases e; show w.heap.size + 1 + 1 + 1 ≠ w.heap.size + 1 + 1; omega)) hf1s (fun g e => by cases e; show w.heap.size + 1 + 1 + 1 ≠ w.heap.size + 1 + 1; omega), hbf.trans ((hf1.mono (fun b _ hb => by omega)).trans (hf1s.mono (fun b _ hb => by omega))), fun w2 hg2 => ?_⟩
          have hf2 : Fr (w1.setCell ⟨w.heap.size + 1 + 1, q * 4 + 2, none⟩ R1) w2 (fun b => b ≠ w.heap.size + 1 + 1 + 1) := Fr.of hg2 (fun b _ hb e => hb (by cases e; rfl))
          have h1b := ownsRow_fr h1a hf2 (fun g e => by cases e; show w.heap.size + 1 + 1 ≠ w.heap.size + 1 + 1 + 1; omega)
          exact ⟨own_cell h1b a3', own_frozen h1b _⟩
        have HF := Lib.hid hfin
        have HM := Lib.hid hmid
        have HC2 := Lib.hid hc2
        unfold ExtP at hc1
        rw [← hR1] at hc1
        have HR2 := Lib.hid hR2
        have hqi : (q : Int) < (Q.length : Int) := by omega
        have hQn : Q.length ≤ 100000 := by omega
        have hq0 : (0 : Int) ≤ (q : Int) := by omega
        clear hfin hmid hc2 hR1 hR2 hx hQ0 hsN hsK hokz hpend hdone hbx hbw ho1 ho2 hdr hyz hL hKK hE hone hzl hdl hbf e0 e1 e2 e3 w1' w2' w3' hy hl1 hl2
        obtain ⟨RA1, Rn1, Rc1, rfl⟩ := hR1f
        obtain ⟨RA2, Rn2, Rc2, rfl⟩ := hR2f
        generalize y.l.length = nl at *
        generalize y.ks.length = nk at *
        generalize hQl : Q.length = nQ at *
        generalize KS.length = nK at *
        clear hQl
        go_wp2_with fail
        refine hc1.mono ?_
        rintro e w1 ⟨rfl, h1, hg1⟩
        obtain ⟨b2, b2f, b3, hs1, hfw, hnext⟩ := HM.out w1 h1 hg1
        have HNX := Lib.hid hnext
        have hcc := HC2.out _ hs1 hfw
        unfold ExtP at hcc
        rw [← HR2.out] at hcc
        clear hnext hc1 x2 x3 f2 f3 hs1 hfw
        go_wp2_with fail
        refine hcc.mono ?_
        rintro e w2 ⟨rfl, h2, hg2⟩
        obtain ⟨b4, b4f⟩ := HNX.out w2 hg2
        have hend := HF.out w1 w2 h1 hg1 h2 hg2
        have HEND := Lib.hid hend
        clear hend h1 h2 hg1 hg2 b2 b2f b3 hcc
        go_wp2
        go_roundg (N - (q + 1))
        case measure => omega
        case rel => have h := HEND.out; simpa using h
      · have hqn : q = Q.length := by omega
        subst hqn
        have hall := fun p y (h : Q[p]? = some y) => hdone p y h (List.getElem?_eq_some_iff.1 h).1
        have hfinal := zin_laid (W := wr) (B := w.heap.size + 2) (by omega) (by omega) rfl rfl ho1 ho2 hx hokz hall (SizeOf.sizeOf z + 1) z (by omega) 0 hQ0
        have hpos : 0 < Q.length := (List.getElem?_eq_some_iff.1 hQ0).1
        have x0 := own_cell ho1 (hx 0 0 hpos (by omega))
        have x1 := own_cell ho1 (hx 0 1 hpos (by omega))
        have x2 := own_cell ho1 (hx 0 2 hpos (by omega))
        have x3 := own_cell ho1 (hx 0 3 hpos (by omega))
        simp only [Nat.mul_zero, Nat.zero_add] at x0 x1 x2 x3
        obtain ⟨r0, r1, r2, r3⟩ := cells_4 hbx
        obtain ⟨f0, f1, f2, f3⟩ := frozen_4 hbx
        generalize c 0 0 = d0 at *
        generalize c 0 1 = d1 at *
        generalize c 0 2 = d2 at *
        generalize c 0 3 = d3 at *
        obtain ⟨k9, t9, A9, n9, c9, B9, m9, s9, rfl, rfl, rfl, rfl⟩ := zin_agg hfinal
        have hout := (hfinal.fr (ok' := fun b => b ≠ w.heap.size + 1) (fr_set4 wr (w.heap.size + 1) (.int .i64 k9) (.string t9) (.slice A9 n9 c9) (.slice B9 m9 s9)) (fun b hb => by omega))
        have hout2 : ZIn ((((wr.setCell ⟨w.heap.size + 1, 0, none⟩ (.int .i64 k9)).setCell ⟨w.heap.size + 1, 1, none⟩ (.string t9)).setCell ⟨w.heap.size + 1, 2, none⟩ (.slice A9 n9 c9)).setCell ⟨w.heap.size + 1, 3, none⟩ (.slice B9 m9 s9)) (fun b => w.heap.size ≤ b) z (.int .i64 k9) (.string t9) (.slice A9 n9 c9) (.slice B9 m9 s9) := hout.mono (fun b _ hb => by omega)
        have HO := Lib.hid hout2
        have hposi : (0 : Int) < (Q.length : Int) := by omega
        have hQn : Q.length ≤ 100000 := by omega
        clear hout hout2 hfinal hall hdone hpend hokz hx ho1 ho2 hQ0 hsN hsK hbx hqlt
        generalize Q.length = nQ at *
        go_wp2
        refine bodyPost_ret (v := .agg #[.int .i64 k9, .string t9, .slice A9 n9 c9, .slice B9 m9 s9]) (by simp [results, Tryd.results67, go_sem, r0, r1, r2, r3]) rfl ?_
        exact ⟨_, _, _, _, rfl, HO.out, by refine Below.setCell (Below.setCell (Below.setCell (Below.setCell hbw ?_ _) ?_ _) ?_ _) ?_ _ <;> simp⟩
  · have hownZ : ∀ o5 : Obj, ((((((w.alloc (.cells #[.int .i64 kk, .string tt, .slice A0 n1 c1, .slice A1 n2 c2] 26)).alloc (.cells #[.int .i64 0, .string ⟨#[]⟩, .slice none 0 0, .slice none 0 0] 26)).alloc (.cells (madeCells #[.string ⟨#[]⟩] K) 9)).alloc (.cells (madeCells #[.int .i64 0, .string ⟨#[]⟩, .slice none 0 0, .slice none 0 0] (N * 4)) 26)).alloc o5).drew).ownsRow (w.heap.size + 2) 26 4 (.slice (some ⟨w.heap.size + 1 + 1 + 1, 0, none⟩) 0 N) 0 [] := fun o5 => by
        have h := World.ownsRow_made (base := w.heap.size + 2) (e := 26) (size := 4) (((w.alloc (.cells #[.int .i64 kk, .string tt, .slice A0 n1 c1, .slice A1 n2 c2] 26)).alloc (.cells #[.int .i64 0, .string ⟨#[]⟩, .slice none 0 0, .slice none 0 0] 26)).alloc (.cells (madeCells #[.string ⟨#[]⟩] K) 9)) (madeCells #[.int .i64 0, .string ⟨#[]⟩, .slice none 0 0, .slice none 0 0] (N * 4)) N (by simp) (by unfold maxLen; omega) (by rw [size_madeCells])
        rw [show ((((w.alloc (.cells #[.int .i64 kk, .string tt, .slice A0 n1 c1, .slice A1 n2 c2] 26)).alloc (.cells #[.int .i64 0, .string ⟨#[]⟩, .slice none 0 0, .slice none 0 0] 26)).alloc (.cells (madeCells #[.string ⟨#[]⟩] K) 9))).heap.size = w.heap.size + 1 + 1 + 1 by simp] at h
        exact (h.alloc o5).drew
    have hownS : ∀ o5 : Obj, ((((((w.alloc (.cells #[.int .i64 kk, .string tt, .slice A0 n1 c1, .slice A1 n2 c2] 26)).alloc (.cells #[.int .i64 0, .string ⟨#[]⟩, .slice none 0 0, .slice none 0 0] 26)).alloc (.cells (madeCells #[.string ⟨#[]⟩] K) 9)).alloc (.cells (madeCells #[.int .i64 0, .string ⟨#[]⟩, .slice none 0 0, .slice none 0 0] (N * 4)) 26)).alloc o5).drew).ownsRow (w.heap.size + 2) 9 1 (.slice (some ⟨w.heap.size + 1 + 1, 0, none⟩) 0 K) 0 [] := fun o5 => by
        have h := World.ownsRow_made (base := w.heap.size + 2) (e := 9) (size := 1) ((w.alloc (.cells #[.int .i64 kk, .string tt, .slice A0 n1 c1, .slice A1 n2 c2] 26)).alloc (.cells #[.int .i64 0, .string ⟨#[]⟩, .slice none 0 0, .slice none 0 0] 26)) (madeCells #[.string ⟨#[]⟩] K) K (by simp) (by unfold maxLen; omega) (by rw [size_madeCells]; omega)
        rw [show (((w.alloc (.cells #[.int .i64 kk, .string tt, .slice A0 n1 c1, .slice A1 n2 c2] 26)).alloc (.cells #[.int .i64 0, .string ⟨#[]⟩, .slice none 0 0, .slice none 0 0] 26))).heap.size = w.heap.size + 1 + 1 by simp] at h
        exact ((h.alloc _).alloc o5).drew
    have hfr : ∀ o5 : Obj, Fr w ((((((w.alloc (.cells #[.int .i64 kk, .string tt, .slice A0 n1 c1, .slice A1 n2 c2] 26)).alloc (.cells #[.int .i64 0, .string ⟨#[]⟩, .slice none 0 0, .slice none 0 0] 26)).alloc (.cells (madeCells #[.string ⟨#[]⟩] K) 9)).alloc (.cells (madeCells #[.int .i64 0, .string ⟨#[]⟩, .slice none 0 0, .slice none 0 0] (N * 4)) 26)).alloc o5).drew) (fun _ => True) := fun o5 => ((((((Fr.refl w _).alloc _).alloc _).alloc _).alloc _).alloc _).drewN 1
    have hR : ∀ o5 : Obj, ((((((w.alloc (.cells #[.int .i64 kk, .string tt, .slice A0 n1 c1, .slice A1 n2 c2] 26)).alloc (.cells #[.int .i64 0, .string ⟨#[]⟩, .slice none 0 0, .slice none 0 0] 26)).alloc (.cells (madeCells #[.string ⟨#[]⟩] K) 9)).alloc (.cells (madeCells #[.int .i64 0, .string ⟨#[]⟩, .slice none 0 0, .slice none 0 0] (N * 4)) 26)).alloc o5).drew).heap[w.heap.size + 1]? = some (.cells #[.int .i64 0, .string ⟨#[]⟩, .slice none 0 0, .slice none 0 0] 26 (0, 0)) := fun o5 => old_at _ (old_at _ (old_at _ (new_at (by simp) _)))
    have hrow : ((((((w.alloc (.cells #[.int .i64 kk, .string tt, .slice A0 n1 c1, .slice A1 n2 c2] 26)).alloc (.cells #[.int .i64 0, .string ⟨#[]⟩, .slice none 0 0, .slice none 0 0] 26)).alloc (.cells (madeCells #[.string ⟨#[]⟩] K) 9)).alloc (.cells (madeCells #[.int .i64 0, .string ⟨#[]⟩, .slice none 0 0, .slice none 0 0] (N * 4)) 26)).alloc (.cells #[.int .i64 kk, .string tt, .slice A0 n1 c1, .slice A1 n2 c2] 26)).drew).heap[w.heap.size + 1 + 1 + 1 + 1]? = some (.cells #[.int .i64 kk, .string tt, .slice A0 n1 c1, .slice A1 n2 c2] 26 (0, 0)) := new_at (by simp) _
    have hc4 : ∀ (j : Nat) (u : Value), [Value.int .i64 kk, .string tt, .slice A0 n1 c1, .slice A1 n2 c2][j]? = some u → ((((((w.alloc (.cells #[.int .i64 kk, .string tt, .slice A0 n1 c1, .slice A1 n2 c2] 26)).alloc (.cells #[.int .i64 0, .string ⟨#[]⟩, .slice none 0 0, .slice none 0 0] 26)).alloc (.cells (madeCells #[.string ⟨#[]⟩] K) 9)).alloc (.cells (madeCells #[.int .i64 0, .string ⟨#[]⟩, .slice none 0 0, .slice none 0 0] (N * 4)) 26)).alloc (.cells #[.int .i64 kk, .string tt, .slice A0 n1 c1, .slice A1 n2 c2] 26)).drew).cell? ((⟨w.heap.size + 1 + 1 + 1 + 1, 0, none⟩ : Addr).add j) = some u := fun j u hu => by
      rw [addr_add, Nat.zero_add, cell_of_row _ _ j _ _ _ hrow]
      simpa using hu
    clear m1 m0
    go_wp2_with (at_builtin; refine wpList_append_fits _ rfl _ _ 23 rfl (w.heap.size + 2) 26 i0 4 Tryd.underlying23 hi hz1 (w.heap.size + 1 + 1 + 1) 0 N [] rfl (hownZ _) ⟨w.heap.size + 1 + 1 + 1 + 1, 0, none⟩ 1 1 [.int .i64 kk, .string tt, .slice A0 n1 c1, .slice A1 n2 c2] rfl rfl hc4 (by simp [Value.oneCell']) (by omega) ?_; intro w1 hown1 hg1)
    have hfr1 : Fr ((((((w.alloc (.cells #[.int .i64 kk, .string tt, .slice A0 n1 c1, .slice A1 n2 c2] 26)).alloc (.cells #[.int .i64 0, .string ⟨#[]⟩, .slice none 0 0, .slice none 0 0] 26)).alloc (.cells (madeCells #[.string ⟨#[]⟩] K) 9)).alloc (.cells (madeCells #[.int .i64 0, .string ⟨#[]⟩, .slice none 0 0, .slice none 0 0] (N * 4)) 26)).alloc (.cells #[.int .i64 kk, .string tt, .slice A0 n1 c1, .slice A1 n2 c2] 26)).drew) w1 (fun b => b ≠ w.heap.size + 1 + 1 + 1) := Fr.of hg1 (fun b _ hb e => hb (by cases e; rfl))
    have hrel0 : KRel w (w.heap.size + 1 + 1 + 1) (w.heap.size + 1 + 1) N K z N (.slice (some ⟨w.heap.size + 1 + 1 + 1, 0, none⟩) 1 N) (.slice (some ⟨w.heap.size + 1 + 1, 0, none⟩) 0 K) (.int .i64 0) w1 := by
      refine ⟨0, [z], [], [.int .i64 kk, .string tt, .slice A0 n1 c1, .slice A1 n2 c2], fun _ j => if j = 0 then .int .i64 kk else if j = 1 then .string tt else if j = 2 then .slice A0 n1 c1 else .slice A1 n2 c2, by omega, rfl, rfl, rfl, hown1, ownsRow_fr (hownS _) hfr1 (fun g e => by cases e; show w.heap.size + 1 + 1 ≠ w.heap.size + 1 + 1 + 1; omega), fun i j hi hj => ?_, rfl, by simp, ?_, ?_, fun p y hy => ?_, fun p y hy _ => ?_, fun p y hy h => by omega, hfr1.at (hR _) (by omega), ?_⟩
      · have hi0 : i = 0 := by simpa using hi
        subst hi0
        match j, hj with
        | 0, _ => rfl
        | 1, _ => rfl
        | 2, _ => rfl
        | 3, _ => rfl
      · rw [List.drop_zero, zcL, zcL, HN.out]; omega
      · rw [List.drop_zero, zkL, zkL, HK.out, List.length_nil]; omega
      · have hp0 : p = 0 := by have := (List.getElem?_eq_some_iff.1 hy).1; simpa using this
        subst hp0
        cases hy
        exact ⟨_, _, _, _, HZ.out⟩
      · have hp0 : p = 0 := by have := (List.getElem?_eq_some_iff.1 hy).1; simpa using this
        subst hp0
        cases hy
        exact HZ.out
      · have h1 := hfr (.cells #[.int .i64 kk, .string tt, .slice A0 n1 c1, .slice A1 n2 c2] 26)
        have h2 : Fr w w1 (fun b => b < w.heap.size) := (h1.mono (fun _ _ _ => trivial)).trans (hfr1.mono (fun b _ hb => by omega))
        exact ⟨h2.os, h2.tape, h2.output, h2.size, fun i hi => h2.block i hi hi⟩
    have HR0 := Lib.hid hrel0
    clear hrel0 hfr1 hown1 hg1 hownZ hownS hfr hR hrow hc4
    go_loopg [7, 8, 9] N (fun g v7 v8 v9 wr => KRel w (w.heap.size + 1 + 1 + 1) (w.heap.size + 1 + 1) N K z g v7 v8 v9 wr)
    case atStart => exact HR0.out
    case round =>
      clear HR0
      obtain ⟨q, Q, KS, xs, c, hq, rfl, rfl, rfl, ho1, ho2, hx, hQ0, hqQ, hsN, hsK, hokz, hpend, hdone, hbx, hbw⟩ := hrel
      by_cases hqlt : q < Q.length
      · obtain ⟨y, hy⟩ : ∃ y, Q[q]? = some y := ⟨_, List.getElem?_eq_getElem hqlt⟩
        have hdr : Q.drop q = y :: Q.drop (q + 1) := by rw [List.drop_eq_getElem_cons hqlt, (List.getElem?_eq_some_iff.1 hy).2]
        have hyz := hpend q y hy (Nat.le_refl _)
        obtain ⟨A, A', cap, cap', cc, e0, e1, e2, e3, w1', w2', w3', hl1, hl2, hL, hKK, hE⟩ := hyz.full
        rw [hdr, zcL, zc_l] at hsN
        rw [hdr, zkL, zk_l] at hsK
        have hzl := zcL_len y.l
        have hdl := zcL_len (Q.drop (q + 1))
        rw [List.length_drop] at hdl
        have hqN : q < N := by omega
        have hbf := below_fr hbw
        -- the cells of the entry
        have x2 := own_cell ho1 (hx q 2 hqlt (by omega))
        have x3 := own_cell ho1 (hx q 3 hqlt (by omega))
        rw [e2, show 4 * q + 2 = q * 4 + 2 by omega] at x2
        rw [e3, show 4 * q + 3 = q * 4 + 3 by omega] at x3
        have f2 := own_frozen ho1 (q * 4 + 2)
        have f3 := own_frozen ho1 (q * 4 + 3)
        -- what the two calls do
        have hone : ∀ u ∈ newsL y.l.length cc, u.oneCell' = true := fun u hu => by
          obtain ⟨j, hj⟩ := List.getElem?_of_mem hu
          obtain ⟨h1, rfl⟩ := newsL_inv hj
          obtain ⟨k9, t9, A9, n9, c9, B9, m9, s9, r0, r1, r2, r3⟩ := zin_agg (hE (j / 4) _ (List.getElem?_eq_getElem h1))
          have hj4 : j % 4 = 0 ∨ j % 4 = 1 ∨ j % 4 = 2 ∨ j % 4 = 3 := by omega
          rcases hj4 with h | h | h | h
          · rw [h, r0]; rfl
          · rw [h, r1]; rfl
          · rw [h, r2]; rfl
          · rw [h, r3]; rfl
        have hc1 := ext_z_any (w.heap.size + 2) (w.heap.size + 1 + 1 + 1) Q.length N xs A y.l.length cap (newsL y.l.length cc) wr ho1 (newsL_len _ _) (fun hp => by
          obtain ⟨g, off, rfl, hg, hcell⟩ := hL hp
          refine ⟨g, off, rfl, fun j u hu => ?_⟩
          obtain ⟨h1, rfl⟩ := newsL_inv hu
          have := hbf.cell (hcell (j / 4) (j % 4) h1 (by omega)) hg
          rwa [show off + (4 * (j / 4) + j % 4) = off + j by omega] at this) hone (by omega) (by omega)
        have hc2 : ∀ (W : World), W.ownsRow (w.heap.size + 2) 9 1 (.slice (some ⟨w.heap.size + 1 + 1, 0, none⟩) KS.length K) KS.length (KS.map Value.string) → Fr w W (fun b => b < w.heap.size) → Calls Tryd.prog 83 #[.slice (some ⟨w.heap.size + 1 + 1, 0, none⟩) KS.length K, .slice A' y.ks.length cap'] W (ExtP W (w.heap.size + 2) 9 1 (w.heap.size + 1 + 1) KS.length y.ks.length K (KS.map Value.string ++ y.ks.map Value.string)) := fun W hW hfW =>
          ext_s_any (w.heap.size + 2) (w.heap.size + 1 + 1) KS.length K _ A' y.ks.length cap' (y.ks.map Value.string) W hW (by simp) (fun hp => by
            obtain ⟨g, off, rfl, hg, hcell⟩ := hKK hp
            refine ⟨g, off, rfl, fun j u hu => ?_⟩
            rw [List.getElem?_map] at hu
            obtain ⟨s, hs, rfl⟩ := Option.map_eq_some_iff.1 hu
            exact hfW.cell (hcell j s hs) hg) (fun u hu => by obtain ⟨s, _, rfl⟩ := List.mem_map.1 hu; rfl) (by omega) (by omega)
        obtain ⟨R1, hR1⟩ : ∃ R1, R1 = extL 4 y.l.length (w.heap.size + 1 + 1 + 1) Q.length := ⟨_, rfl⟩
        obtain ⟨R2, hR2⟩ : ∃ R2, R2 = extL 1 y.ks.length (w.heap.size + 1 + 1) KS.length := ⟨_, rfl⟩
        have hR1f : ∃ (A : Option Addr) (n c : Nat), R1 = .slice A n c := by obtain ⟨A, cap, h, _⟩ := extL_form 4 y.l.length (w.heap.size + 1 + 1 + 1) Q.length hl1; exact ⟨A, _, cap, by rw [hR1, h]⟩
        have hR2f : ∃ (A : Option Addr) (n c : Nat), R2 = .slice A n c := by obtain ⟨A, cap, h, _⟩ := extL_form 1 y.ks.length (w.heap.size + 1 + 1) KS.length hl2; exact ⟨A, _, cap, by rw [hR2, h]⟩
        -- what holds at the round's end
        have hfin : ∀ (w1 w2 : World), w1.ownsRow (w.heap.size + 2) 26 4 (.slice (some ⟨w.heap.size + 1 + 1 + 1, 0, none⟩) (Q.length + y.l.length) N) (Q.length + y.l.length) (xs ++ newsL y.l.length cc) → wr.grownBy w1 (some (w.heap.size + 1 + 1 + 1)) →
            w2.ownsRow (w.heap.size + 2) 9 1 (.slice (some ⟨w.heap.size + 1 + 1, 0, none⟩) (KS.length + y.ks.length) K) (KS.length + y.ks.length) (KS.map Value.string ++ y.ks.map Value.string) → (w1.setCell ⟨w.heap.size + 1 + 1 + 1, q * 4 + 2, none⟩ R1).grownBy w2 (some (w.heap.size + 1 + 1)) →
            KRel w (w.heap.size + 1 + 1 + 1) (w.heap.size + 1 + 1) N K z (N - (q + 1)) (.slice (some ⟨w.heap.size + 1 + 1 + 1, 0, none⟩) (Q.length + y.l.length) N) (.slice (some ⟨w.heap.size + 1 + 1, 0, none⟩) (KS.length + y.ks.length) K) (.int .i64 ((q + 1 : Nat) : Int)) (w2.setCell ⟨w.heap.size + 1 + 1 + 1, q * 4 + 3, none⟩ R2) := by
          intro w1 w2 h1 hg1 h2 hg2
          have hf1 : Fr wr w1 (fun b => b ≠ w.heap.size + 1 + 1 + 1) := Fr.of hg1 (fun b _ hb e => hb (by cases e; rfl))
          have hf1s : Fr w1 (w1.setCell ⟨w.heap.size + 1 + 1 + 1, q * 4 + 2, none⟩ R1) (fun b => b ≠ w.heap.size + 1 + 1 + 1) := Fr.of (gset w1 _ _ R1) (fun b _ hb e => hb (by cases e; rfl))
          have hf2 : Fr (w1.setCell ⟨w.heap.size + 1 + 1 + 1, q * 4 + 2, none⟩ R1) w2 (fun b => b ≠ w.heap.size + 1 + 1) := Fr.of hg2 (fun b _ hb e => hb (by cases e; rfl))
          have hf2s : Fr w2 (w2.setCell ⟨w.heap.size + 1 + 1 + 1, q * 4 + 3, none⟩ R2) (fun b => b ≠ w.heap.size + 1 + 1 + 1) := Fr.of (gset w2 _ _ R2) (fun b _ hb e => hb (by cases e; rfl))
          have h1a := own_set h1 (q * 4 + 2) R1
          have h1b := ownsRow_fr h1a hf2 (fun g e => by cases e; show w.heap.size + 1 + 1 + 1 ≠ w.heap.size + 1 + 1; omega)
          have h1c := own_set h1b (q * 4 + 3) R2
          have h2c := ownsRow_fr h2 hf2s (fun g e => by cases e; show w.heap.size + 1 + 1 ≠ w.heap.size + 1 + 1 + 1; omega)
          have hxl : xs.length = Q.length * 4 := ho1.1
          have hall : Fr wr (w2.setCell ⟨w.heap.size + 1 + 1 + 1, q * 4 + 3, none⟩ R2) (fun b => b < w.heap.size + 2) := (hf1.mono (fun b _ hb => by omega)).trans ((hf1s.mono (fun b _ hb => by omega)).trans ((hf2.mono (fun b _ hb => by omega)).trans (hf2s.mono (fun b _ hb => by omega))))
          refine ⟨q + 1, Q ++ y.l, KS ++ y.ks, ((xs ++ newsL y.l.length cc).set (q * 4 + 2) R1).set (q * 4 + 3) R2, fun i j => if i = q then (if j = 2 then R1 else if j = 3 then R2 else c i j) else if i < Q.length then c i j else cc (i - Q.length) j, by omega, by rw [List.length_append], by rw [List.length_append], rfl, by rw [List.length_append]; exact h1c, by rw [List.length_append, List.map_append]; exact h2c, fun i j hi hj => ?_, ?_, by rw [List.length_append]; omega, ?_, ?_, fun p x hp => ?_, fun p x hp hpq => ?_, fun p x hp hpq => ?_, hall.at hbx (by omega), ?_⟩
          · show _ = some (if i = q then (if j = 2 then R1 else if j = 3 then R2 else c i j) else if i < Q.length then c i j else cc (i - Q.length) j)
            rw [List.length_append] at hi
            have hbase : (xs ++ newsL y.l.length cc)[4 * i + j]? = some (if i < Q.length then c i j else cc (i - Q.length) j) := by
              by_cases hiq : i < Q.length
              · rw [if_pos hiq, List.getElem?_append_left (by omega)]
                exact hx i j hiq hj
              · rw [if_neg hiq, List.getElem?_append_right (by omega), show 4 * i + j - xs.length = 4 * (i - Q.length) + j by omega]
                exact newsL_get (by omega) hj
            have hlen : 4 * i + j < (xs ++ newsL y.l.length cc).length := (List.getElem?_eq_some_iff.1 hbase).1
            by_cases hiq : i = q
            · subst hiq
              rw [if_pos rfl]
              by_cases h3 : j = 3
              · subst h3
                rw [if_neg (by decide), if_pos rfl, show 4 * i + 3 = i * 4 + 3 by omega, List.getElem?_set_self (by rw [List.length_set]; omega)]
              · rw [List.getElem?_set_ne (by omega)]
                by_cases h2 : j = 2
                · subst h2
                  rw [if_pos rfl, show 4 * i + 2 = i * 4 + 2 by omega, List.getElem?_set_self (by omega)]
                · rw [if_neg h2, if_neg h3, List.getElem?_set_ne (by omega), hbase, if_pos hqlt]
            · rw [if_neg hiq, List.getElem?_set_ne (by omega), List.getElem?_set_ne (by omega), hbase]
          · rw [List.getElem?_append_left (by omega)]; exact hQ0
          · rw [List.drop_append_of_le_length (by omega), zcL_app]; omega
          · rw [List.drop_append_of_le_length (by omega), zkL_app, List.length_append]; omega
          · by_cases hpl : p < Q.length
            · rw [List.getElem?_append_left hpl] at hp; exact hokz p x hp
            · rw [List.getElem?_append_right (by omega)] at hp
              exact ⟨_, _, _, _, hE _ x hp⟩
          · have hpq' : p ≠ q := by omega
            by_cases hpl : p < Q.length
            · rw [List.getElem?_append_left hpl] at hp
              have := hpend p x hp (by omega)
              simp only [if_neg hpq', if_pos hpl]
              exact this
            · rw [List.getElem?_append_right (by omega)] at hp
              simp only [if_neg hpq', if_neg hpl]
              exact hE _ x hp
          · have hpl : p < Q.length := by omega
            rw [List.getElem?_append_left hpl] at hp
            by_cases hpq' : p = q
            · subst hpq'
              rw [hy] at hp
              cases hp
              refine ⟨Q.length, KS.length, ?_, ?_, ?_, ?_, fun p' x' hx' => ?_, fun p' s' hs' => ?_⟩
              · simp only [if_pos]
                exact e0
              · simp only [if_pos]
                exact e1
              · simp only [if_pos]
                exact hR1
              · simp only [if_pos]
                exact hR2
              · rw [List.getElem?_append_right (by omega), show Q.length + p' - Q.length = p' by omega]; exact hx'
              · rw [List.getElem?_append_right (by omega), show KS.length + p' - KS.length = p' by omega]; exact hs'
            · have hd := (hdone p x hp (by omega)).more (Q' := y.l) (KS' := y.ks)
              simp only [if_neg hpq', if_pos hpl]
              exact hd
          · exact hbw.trans ⟨hall.os, hall.tape, hall.output, hall.size, fun i hi => hall.block i (by have := hbw.size; omega) (by omega)⟩
        have hmid : ∀ w1 : World, w1.ownsRow (w.heap.size + 2) 26 4 (.slice (some ⟨w.heap.size + 1 + 1 + 1, 0, none⟩) (Q.length + y.l.length) N) (Q.length + y.l.length) (xs ++ newsL y.l.length cc) → wr.grownBy w1 (some (w.heap.size + 1 + 1 + 1)) →
            w1.cell? ⟨w.heap.size + 1 + 1 + 1, q * 4 + 2, none⟩ = some (.slice A y.l.length cap) ∧ w1.frozen? ⟨w.heap.size + 1 + 1 + 1, q * 4 + 2, none⟩ = false ∧ (w1.setCell ⟨w.heap.size + 1 + 1 + 1, q * 4 + 2, none⟩ R1).cell? ⟨w.heap.size + 1 + 1 + 1, q * 4 + 3, none⟩ = some (.slice A' y.ks.length cap') ∧
            (w1.setCell ⟨w.heap.size + 1 + 1 + 1, q * 4 + 2, none⟩ R1).ownsRow (w.heap.size + 2) 9 1 (.slice (some ⟨w.heap.size + 1 + 1, 0, none⟩) KS.length K) KS.length (KS.map Value.string) ∧ Fr w (w1.setCell ⟨w.heap.size + 1 + 1 + 1, q * 4 + 2, none⟩ R1) (fun b => b < w.heap.size) ∧
            ∀ w2, (w1.setCell ⟨w.heap.size + 1 + 1 + 1, q * 4 + 2, none⟩ R1).grownBy w2 (some (w.heap.size + 1 + 1)) → w2.cell? ⟨w.heap.size + 1 + 1 + 1, q * 4 + 3, none⟩ = some (.slice A' y.ks.length cap') ∧ w2.frozen? ⟨w.heap.size + 1 + 1 + 1, q * 4 + 3, none⟩ = false := by
          intro w1 h1 hg1
          have hf1 : Fr wr w1 (fun b => b ≠ w.heap.size + 1 + 1 + 1) := Fr.of hg1 (fun b _ hb e => hb (by cases e; rfl))
          have hf1s : Fr w1 (w1.setCell ⟨w.heap.size + 1 + 1 + 1, q * 4 + 2, none⟩ R1) (fun b => b ≠ w.heap.size + 1 + 1 + 1) := Fr.of (gset w1 _ _ R1) (fun b _ hb e => hb (by cases e; rfl))
          have hxl : xs.length = Q.length * 4 := ho1.1
          have hx2 := hx q 2 hqlt (by omega)
          have hx3 := hx q 3 hqlt (by omega)
          rw [e2] at hx2
          rw [e3] at hx3
          have a2 : (xs ++ newsL y.l.length cc)[q * 4 + 2]? = some (.slice A y.l.length cap) := by rw [List.getElem?_append_left (by omega), show q * 4 + 2 = 4 * q + 2 by omega]; exact hx2
          have a3 : (xs ++ newsL y.l.length cc)[q * 4 + 3]? = some (.slice A' y.ks.length cap') := by rw [List.getElem?_append_left (by omega), show q * 4 + 3 = 4 * q + 3 by omega]; exact hx3
          have h1a := own_set h1 (q * 4 + 2) R1
          have a3' : ((xs ++ newsL y.l.length cc).set (q * 4 + 2) R1)[q * 4 + 3]? = some (.slice A' y.ks.length cap') := by rw [List.getElem?_set_ne (by omega)]; exact a3
          refine ⟨own_cell h1 a2, own_frozen h1 _, own_cell h1a a3', ownsRow_fr (ownsRow_fr ho2 hf1 (fun g e => by cases e; show w.heap.size + 1 + 1 ≠ w.heap.size + 1 + 1 + 1; omega)) hf1s (fun g e => by cases e; show w.heap.size + 1 + 1 ≠ w.heap.size + 1 + 1 + 1; omega), hbf.trans ((hf1.mono (fun b _ hb => by omega)).trans (hf1s.mono (fun b _ hb => by omega))), fun w2 hg2 => ?_⟩
          have hf2 : Fr (w1.setCell ⟨w.heap.size + 1 + 1 + 1, q * 4 + 2, none⟩ R1) w2 (fun b => b ≠ w.heap.size + 1 + 1) := Fr.of hg2 (fun b _ hb e => hb (by cases e; rfl))
          have h1b := ownsRow_fr h1a hf2 (fun g e => by cases e; show w.heap.size + 1 + 1 + 1 ≠ w.heap.size + 1 + 1; omega)
          exact ⟨own_cell h1b a3', own_frozen h1b _⟩
        have HF := Lib.hid hfin
        have HM := Lib.hid hmid
        have HC2 := Lib.hid hc2
        unfold ExtP at hc1
        rw [← hR1] at hc1
        have HR2 := Lib.hid hR2
        have hqi : (q : Int) < (Q.length : Int) := by omega
        have hQn : Q.length ≤ 100000 := by omega
        have hq0 : (0 : Int) ≤ (q : Int) := by omega
        clear hfin hmid hc2 hR1 hR2 hx hQ0 hsN hsK hokz hpend hdone hbx hbw ho1 ho2 hdr hyz hL hKK hE hone hzl hdl hbf e0 e1 e2 e3 w1' w2' w3' hy hl1 hl2
        obtain ⟨RA1, Rn1, Rc1, rfl⟩ := hR1f
        obtain ⟨RA2, Rn2, Rc2, rfl⟩ := hR2f
        generalize y.l.length = nl at *
        generalize y.ks.length = nk at *
        generalize hQl : Q.length = nQ at *
        generalize KS.length = nK at *
        clear hQl
        go_wp2_with fail
        refine hc1.mono ?_
        rintro e w1 ⟨rfl, h1, hg1⟩
        obtain ⟨b2, b2f, b3, hs1, hfw, hnext⟩ := HM.out w1 h1 hg1
        have HNX := Lib.hid hnext
        have hcc := HC2.out _ hs1 hfw
        unfold ExtP at hcc
        rw [← HR2.out] at hcc
        clear hnext hc1 x2 x3 f2 f3 hs1 hfw
        go_wp2_with fail
        refine hcc.mono ?_
        rintro e w2 ⟨rfl, h2, hg2⟩
        obtain ⟨b4, b4f⟩ := HNX.out w2 hg2
        have hend := HF.out w1 w2 h1 hg1 h2 hg2
        have HEND := Lib.hid hend
        clear hend h1 h2 hg1 hg2 b2 b2f b3 hcc
        go_wp2
        go_roundg (N - (q + 1))
        case measure => omega
        case rel => have h := HEND.out; simpa using h
      · have hqn : q = Q.length := by omega
        subst hqn
        have hall := fun p y (h : Q[p]? = some y) => hdone p y h (List.getElem?_eq_some_iff.1 h).1
        have hfinal := zin_laid (W := wr) (B := w.heap.size + 2) (by omega) (by omega) rfl rfl ho1 ho2 hx hokz hall (SizeOf.sizeOf z + 1) z (by omega) 0 hQ0
        have hpos : 0 < Q.length := (List.getElem?_eq_some_iff.1 hQ0).1
        have x0 := own_cell ho1 (hx 0 0 hpos (by omega))
        have x1 := own_cell ho1 (hx 0 1 hpos (by omega))
        have x2 := own_cell ho1 (hx 0 2 hpos (by omega))
        have x3 := own_cell ho1 (hx 0 3 hpos (by omega))
        simp only [Nat.mul_zero, Nat.zero_add] at x0 x1 x2 x3
        obtain ⟨r0, r1, r2, r3⟩ := cells_4 hbx
        obtain ⟨f0, f1, f2, f3⟩ := frozen_4 hbx
        generalize c 0 0 = d0 at *
        generalize c 0 1 = d1 at *
        generalize c 0 2 = d2 at *
        generalize c 0 3 = d3 at *
        obtain ⟨k9, t9, A9, n9, c9, B9, m9, s9, rfl, rfl, rfl, rfl⟩ := zin_agg hfinal
        have hout := (hfinal.fr (ok' := fun b => b ≠ w.heap.size + 1) (fr_set4 wr (w.heap.size + 1) (.int .i64 k9) (.string t9) (.slice A9 n9 c9) (.slice B9 m9 s9)) (fun b hb => by omega))
        have hout2 : ZIn ((((wr.setCell ⟨w.heap.size + 1, 0, none⟩ (.int .i64 k9)).setCell ⟨w.heap.size + 1, 1, none⟩ (.string t9)).setCell ⟨w.heap.size + 1, 2, none⟩ (.slice A9 n9 c9)).setCell ⟨w.heap.size + 1, 3, none⟩ (.slice B9 m9 s9)) (fun b => w.heap.size ≤ b) z (.int .i64 k9) (.string t9) (.slice A9 n9 c9) (.slice B9 m9 s9) := hout.mono (fun b _ hb => by omega)
        have HO := Lib.hid hout2
        have hposi : (0 : Int) < (Q.length : Int) := by omega
        have hQn : Q.length ≤ 100000 := by omega
        clear hout hout2 hfinal hall hdone hpend hokz hx ho1 ho2 hQ0 hsN hsK hbx hqlt
        generalize Q.length = nQ at *
        go_wp2
        refine bodyPost_ret (v := .agg #[.int .i64 k9, .string t9, .slice A9 n9 c9, .slice B9 m9 s9]) (by simp [results, Tryd.results67, go_sem, r0, r1, r2, r3]) rfl ?_
        exact ⟨_, _, _, _, rfl, HO.out, by refine Below.setCell (Below.setCell (Below.setCell (Below.setCell hbw ?_ _) ?_ _) ?_ _) ?_ _ <;> simp⟩
theorem zcL_mem : ∀ {l : List Z} {z : Z}, z ∈ l → zc z ≤ zcL l
  | x :: r, z, h => by
    rw [zcL]
    rcases List.mem_cons.1 h with rfl | h
    · omega
    · have := zcL_mem h; omega
theorem zkL_mem : ∀ {l : List Z} {z : Z}, z ∈ l → zk z ≤ zkL l
  | x :: r, z, h => by
    rw [zkL]
    rcases List.mem_cons.1 h with rfl | h
    · omega
    · have := zkL_mem h; omega
set_option maxHeartbeats 2000000 in
set_option maxRecDepth 100000 in
theorem clone_any (z : Z) (w : World) (v0 v1 v2 v3 : Value) (hz : ZIn w (fun b => b < w.heap.size) z v0 v1 v2 v3) (hc : zc z ≤ 100000) (hk : zk z ≤ 100000) :
    Calls Tryd.prog 42 #[.agg #[v0, v1, v2, v3]] w (CopyP w z) := by
  obtain ⟨kk, tt, A0, n1, c1, A1, n2, c2, rfl, rfl, rfl, rfl⟩ := zin_agg hz
  have hfr : Fr w ((w.alloc (.cells #[.int .i64 kk, .string tt, .slice A0 n1 c1, .slice A1 n2 c2] 26)).alloc (.cells #[.int .i64 0, .string ⟨#[]⟩, .slice none 0 0, .slice none 0 0] 26)) (fun _ => True) := ((Fr.refl w _).alloc _).alloc _
  have hb0 : Below w.heap.size w ((w.alloc (.cells #[.int .i64 kk, .string tt, .slice A0 n1 c1, .slice A1 n2 c2] 26)).alloc (.cells #[.int .i64 0, .string ⟨#[]⟩, .slice none 0 0, .slice none 0 0] 26)) := ⟨hfr.os, hfr.tape, hfr.output, hfr.size, fun i hi => hfr.block i hi trivial⟩
  have hB0 : ((w.alloc (.cells #[.int .i64 kk, .string tt, .slice A0 n1 c1, .slice A1 n2 c2] 26)).alloc (.cells #[.int .i64 0, .string ⟨#[]⟩, .slice none 0 0, .slice none 0 0] 26)).heap[w.heap.size]? = some (.cells #[.int .i64 kk, .string tt, .slice A0 n1 c1, .slice A1 n2 c2] 26 (0, 0)) := old_at _ (new_at rfl _)
  have hR0 : ((w.alloc (.cells #[.int .i64 kk, .string tt, .slice A0 n1 c1, .slice A1 n2 c2] 26)).alloc (.cells #[.int .i64 0, .string ⟨#[]⟩, .slice none 0 0, .slice none 0 0] 26)).heap[w.heap.size + 1]? = some (.cells #[.int .i64 0, .string ⟨#[]⟩, .slice none 0 0, .slice none 0 0] 26 (0, 0)) := new_at (by simp) _
  have hs0 : w.heap.size + 1 < ((w.alloc (.cells #[.int .i64 kk, .string tt, .slice A0 n1 c1, .slice A1 n2 c2] 26)).alloc (.cells #[.int .i64 0, .string ⟨#[]⟩, .slice none 0 0, .slice none 0 0] 26)).heap.size := by simp
  have hzat : ∀ W, Below w.heap.size w W → ZIn W (fun b => b < W.heap.size) z (.int .i64 kk) (.string tt) (.slice A0 n1 c1) (.slice A1 n2 c2) := fun W hW => (hz.fr (below_fr hW) (fun _ h => h)).mono (fun b _ hb => Nat.lt_of_lt_of_le hb hW.size)
  have hcount : ∀ W, Below w.heap.size w W → Calls Tryd.prog 66 #[.agg #[.int .i64 kk, .string tt, .slice A0 n1 c1, .slice A1 n2 c2]] W fun e w' => e = .returned (.tuple #[.int .i64 (zc z), .int .i64 (zk z)]) ∧ Below W.heap.size W w' := fun W hW => by
    obtain ⟨kids, hv⟩ := (hzat W hW).vt
    exact count_any (.mk z (.int .i64 kk) (.string tt) (.slice A0 n1 c1) (.slice A1 n2 c2) kids) W hv hc hk
  have hcopy : ∀ W, Below w.heap.size w W → Calls Tryd.prog 67 #[.agg #[.int .i64 kk, .string tt, .slice A0 n1 c1, .slice A1 n2 c2], .int .i64 (zc z : Int), .int .i64 (zk z : Int)] W (CopyP W z) := fun W hW => copied_any z W _ _ _ _ (hzat W hW) (zc z) (zk z) rfl rfl hc hk
  have HC := Lib.hid hcount
  have HD := Lib.hid hcopy
  obtain ⟨p0, p1, p2, p3⟩ := cells_4 hB0
  clear hcount hcopy hz hzat hfr
  generalize zc z = N at *
  generalize zk z = K at *
  go_enter Tryd.func42, Tryd.ntmps42
  go_wp2_with fail
  generalize ((w.alloc (.cells #[.int .i64 kk, .string tt, .slice A0 n1 c1, .slice A1 n2 c2] 26)).alloc (.cells #[.int .i64 0, .string ⟨#[]⟩, .slice none 0 0, .slice none 0 0] 26)) = W0 at *
  refine (HC.out _ hb0).mono ?_
  rintro e w1 ⟨rfl, hb1⟩
  have hB1 := (below_fr0 hb1).at hB0 trivial
  have hR1 := (below_fr0 hb1).at hR0 trivial
  have hbb1 : Below w.heap.size w w1 := hb0.trans (hb1.mono hb0.size)
  have hs1 : w.heap.size + 1 < w1.heap.size := by have := hb1.size; omega
  clear p0 p1 p2 p3 hB0 hR0 hb1 hs0 HC
  obtain ⟨p0, p1, p2, p3⟩ := cells_4 hB1
  go_wp2_with fail
  refine (HD.out _ hbb1).mono ?_
  rintro e w2 ⟨d0, d1, d2, d3, rfl, hd, hb2⟩
  have hR2 := (below_fr0 hb2).at hR1 trivial
  have hbb2 : Below w.heap.size w w2 := hbb1.trans (hb2.mono hbb1.size)
  obtain ⟨r0, r1, r2, r3⟩ := cells_4 hR2
  obtain ⟨f0, f1, f2, f3⟩ := frozen_4 hR2
  have hd3 : ZIn ((((w2.setCell ⟨w.heap.size + 1, 0, none⟩ d0).setCell ⟨w.heap.size + 1, 1, none⟩ d1).setCell ⟨w.heap.size + 1, 2, none⟩ d2).setCell ⟨w.heap.size + 1, 3, none⟩ d3) (fun b => w.heap.size ≤ b) z d0 d1 d2 d3 :=
    ((hd.fr (ok' := fun b => b ≠ w.heap.size + 1) (fr_set4 w2 (w.heap.size + 1) d0 d1 d2 d3) (fun b hb => by omega)).mono (fun _ _ _ => by omega))
  · have HDD := Lib.hid hd3
    obtain ⟨k9, t9, A9, n9, c9, B9, m9, s9, rfl, rfl, rfl, rfl⟩ := zin_agg hd
    clear hB1 hR1 hR2 p0 p1 p2 p3 hb2 hd hd3 HD
    go_wp2
    refine bodyPost_ret (v := .agg #[.int .i64 k9, .string t9, .slice A9 n9 c9, .slice B9 m9 s9]) (by simp [results, Tryd.results42, go_sem, r0, r1, r2, r3]) rfl ?_
    exact ⟨_, _, _, _, rfl, HDD.out, by refine Below.setCell (Below.setCell (Below.setCell (Below.setCell hbb2 ?_ _) ?_ _) ?_ _) ?_ _ <;> simp⟩
end Go.Proofs.YtjcnjaebmndeiaaDoor
