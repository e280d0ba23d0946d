/-
  'extend' of a row with room: what comes behind it, and where it lies. A row with one cell another one.
  A region that draws, by what holds of each set of operations that are done (outside a round). Rows that are made.
  'copied' of every value.
-/
import Derived.Test.YtfboecnhakihnaaGreatDoorUmm
namespace Go.Proofs.YtfboecnhakihnaaGreatDoor
open Go.RowKit Go.Shelf

theorem Tryz.info9 : (Tryz.prog.info? 9).map (fun i => (i.zero, i.size, i.bytes)) = some (some (.string ⟨#[]⟩), 1, 16) := by kernel_rfl
theorem Tryz.info5 : (Tryz.prog.info? 5).map (fun i => (i.zero, i.size, i.bytes)) = some (some (.int .u8 0), 1, 1) := by kernel_rfl
theorem Tryz.info29 : (Tryz.prog.info? 29).map (fun i => (i.zero, i.size, i.bytes)) = some (some (.agg #[.int .i64 0, .int .i64 0, .slice none 0 0, .slice none 0 0, .slice none 0 0]), 5, 88) := by kernel_rfl
theorem own_set {w : World} {b g n cap sz : Nat} {e : TypeId} {xs : List Value} (h : w.ownsRow b e sz (.slice (some ⟨g, 0, none⟩) n cap) n xs) (j : Nat) (y : Value) : (w.setCell ⟨g, j, none⟩ y).ownsRow b e sz (.slice (some ⟨g, 0, none⟩) n cap) n (xs.set j y) := by
  obtain ⟨h1, h2⟩ := h
  refine ⟨by rw [List.length_set]; exact h1, ?_⟩
  rcases h2 with ⟨h2, _⟩ | ⟨g', cap', cur, e1, hb, hg, hn, hm, hs, ht⟩
  · simp at h2
  · cases e1
    refine .inr ⟨g, cap, cur.setIfInBounds j y, rfl, hb, ?_, hn, hm, by simpa using hs, ?_⟩
    · rw [heap_setCell_same w g j _ e y hg]
    · rw [Array.toList_setIfInBounds, List.take_set, ht]
/-- What 'extend' leaves. -/
def ExtPost (w : World) (base : Nat) (e : TypeId) (sz g k m cap : Nat) (xs : List Value) (en : Ending) (w' : World) : Prop :=
  en = .returned (.tuple #[.slice (some ⟨g, 0, none⟩) (k + m) cap, .slice (some ⟨g, k * sz, none⟩) m m]) ∧ w'.ownsRow base e sz (.slice (some ⟨g, 0, none⟩) (k + m) cap) (k + m) xs ∧ w.grownBy w' (some g)
set_option maxHeartbeats 1000000 in
set_option maxRecDepth 100000 in
theorem extend_z (base g k cap : Nat) (xs : List Value) (b off m c : Nat) (news : List Value) (w : World) (hown : w.ownsRow base 29 5 (.slice (some ⟨g, 0, none⟩) k cap) k xs) (hn : news.length = m * 5) (hm : 0 < m)
    (hc : ∀ j u, news[j]? = some u → w.cell? ⟨b, off + j, none⟩ = some u) (h1c : ∀ u ∈ news, u.oneCell' = true) (hfit : k + m ≤ cap) (_hcap : cap ≤ 1000000) :
    Calls Tryz.prog 77 #[.slice (some ⟨g, 0, none⟩) k cap, .slice (some ⟨b, off, none⟩) m c] w (ExtPost w base 29 5 g k m cap (xs ++ news)) := by
  obtain ⟨i0, hi, hz0, hz1, hz2⟩ := info_parts Tryz.info29
  have hc' : ∀ j u, news[j]? = some u → w.cell? ((⟨b, off, none⟩ : Addr).add j) = some u := fun j u h => by rw [addr_add]; exact hc j u h
  have hm0 : ((m : Int) == 0) = false := by simp only [beq_eq_false_iff_ne, ne_eq]; omega
  have hk1 : (k : Int) ≤ ((k + m : Nat) : Int) := by omega
  clear hc
  go_enter Tryz.func77, Tryz.ntmps77
  go_wp2_with (at_builtin; refine wpList_append_fits _ rfl _ _ 26 rfl base 29 i0 5 Tryz.underlying26 hi hz1 g k cap xs rfl hown ⟨b, off, none⟩ m c news rfl hn hc' h1c hfit ?_; intro w1 hown1 hg1)
  go_quiet (fail)
  go_wp2
  go_ret2
  refine ⟨?_, hown1, hg1.os, hg1.tape, hg1.output, hg1.size, hg1.block⟩
  show Ending.returned (.tuple #[.slice (some ⟨g, 0, none⟩) (k + m) cap, .slice (some ⟨g, k * 5, none⟩) (k + m - k) (k + m - k)]) = _
  rw [Nat.add_sub_cancel_left]
set_option maxHeartbeats 1000000 in
set_option maxRecDepth 100000 in
theorem extend_s (base g k cap : Nat) (xs : List Value) (b off m c : Nat) (news : List Value) (w : World) (hown : w.ownsRow base 9 1 (.slice (some ⟨g, 0, none⟩) k cap) k xs) (hn : news.length = m * 1) (hm : 0 < m)
    (hc : ∀ j u, news[j]? = some u → w.cell? ⟨b, off + j, none⟩ = some u) (h1c : ∀ u ∈ news, u.oneCell' = true) (hfit : k + m ≤ cap) (_hcap : cap ≤ 1000000) :
    Calls Tryz.prog 79 #[.slice (some ⟨g, 0, none⟩) k cap, .slice (some ⟨b, off, none⟩) m c] w (ExtPost w base 9 1 g k m cap (xs ++ news)) := by
  obtain ⟨i0, hi, hz0, hz1, hz2⟩ := info_parts Tryz.info9
  have hc' : ∀ j u, news[j]? = some u → w.cell? ((⟨b, off, none⟩ : Addr).add j) = some u := fun j u h => by rw [addr_add]; exact hc j u h
  have hm0 : ((m : Int) == 0) = false := by simp only [beq_eq_false_iff_ne, ne_eq]; omega
  have hk1 : (k : Int) ≤ ((k + m : Nat) : Int) := by omega
  clear hc
  go_enter Tryz.func79, Tryz.ntmps79
  go_wp2_with (at_builtin; refine wpList_append_fits _ rfl _ _ 27 rfl base 9 i0 1 Tryz.underlying27 hi hz1 g k cap xs rfl hown ⟨b, off, none⟩ m c news rfl hn hc' h1c hfit ?_; intro w1 hown1 hg1)
  go_quiet (fail)
  go_wp2
  go_ret2
  refine ⟨?_, hown1, hg1.os, hg1.tape, hg1.output, hg1.size, hg1.block⟩
  show Ending.returned (.tuple #[.slice (some ⟨g, 0, none⟩) (k + m) cap, .slice (some ⟨g, k, none⟩) (k + m - k) (k + m - k)]) = _
  rw [Nat.add_sub_cancel_left, Nat.mul_one]
set_option maxHeartbeats 1000000 in
set_option maxRecDepth 100000 in
theorem extend_b (base g k cap : Nat) (xs : List Value) (b off m c : Nat) (news : List Value) (w : World) (hown : w.ownsRow base 5 1 (.slice (some ⟨g, 0, none⟩) k cap) k xs) (hn : news.length = m * 1) (hm : 0 < m)
    (hc : ∀ j u, news[j]? = some u → w.cell? ⟨b, off + j, none⟩ = some u) (h1c : ∀ u ∈ news, u.oneCell' = true) (hfit : k + m ≤ cap) (_hcap : cap ≤ 1000000) :
    Calls Tryz.prog 78 #[.slice (some ⟨g, 0, none⟩) k cap, .slice (some ⟨b, off, none⟩) m c] w (ExtPost w base 5 1 g k m cap (xs ++ news)) := by
  obtain ⟨i0, hi, hz0, hz1, hz2⟩ := info_parts Tryz.info5
  have hc' : ∀ j u, news[j]? = some u → w.cell? ((⟨b, off, none⟩ : Addr).add j) = some u := fun j u h => by rw [addr_add]; exact hc j u h
  have hm0 : ((m : Int) == 0) = false := by simp only [beq_eq_false_iff_ne, ne_eq]; omega
  have hk1 : (k : Int) ≤ ((k + m : Nat) : Int) := by omega
  clear hc
  go_enter Tryz.func78, Tryz.ntmps78
  go_wp2_with (at_builtin; refine wpList_append_fits _ rfl _ _ 25 rfl base 5 i0 1 Tryz.underlying25 hi hz1 g k cap xs rfl hown ⟨b, off, none⟩ m c news rfl hn hc' h1c hfit ?_; intro w1 hown1 hg1)
  go_quiet (fail)
  go_wp2
  go_ret2
  refine ⟨?_, hown1, hg1.os, hg1.tape, hg1.output, hg1.size, hg1.block⟩
  show Ending.returned (.tuple #[.slice (some ⟨g, 0, none⟩) (k + m) cap, .slice (some ⟨g, k, none⟩) (k + m - k) (k + m - k)]) = _
  rw [Nat.add_sub_cancel_left, Nat.mul_one]
set_option maxHeartbeats 1000000 in
theorem extend_noneZ (v : Value) (n c : Nat) (A A' : Option Addr) (c' : Nat) (w : World) (hv : v = .slice A n c) :
    Calls Tryz.prog 77 #[v, .slice A' 0 c'] w fun e w' => e = .returned (.tuple #[v, .slice none 0 0]) ∧ w' = w := by
  subst hv
  go_enter Tryz.func77, Tryz.ntmps77
  go_wp2
  go_ret2
  exact ⟨rfl, rfl⟩
set_option maxHeartbeats 1000000 in
theorem extend_noneS (v : Value) (n c : Nat) (A A' : Option Addr) (c' : Nat) (w : World) (hv : v = .slice A n c) :
    Calls Tryz.prog 79 #[v, .slice A' 0 c'] w fun e w' => e = .returned (.tuple #[v, .slice none 0 0]) ∧ w' = w := by
  subst hv
  go_enter Tryz.func79, Tryz.ntmps79
  go_wp2
  go_ret2
  exact ⟨rfl, rfl⟩
set_option maxHeartbeats 1000000 in
theorem extend_noneB (v : Value) (n c : Nat) (A A' : Option Addr) (c' : Nat) (w : World) (hv : v = .slice A n c) :
    Calls Tryz.prog 78 #[v, .slice A' 0 c'] w fun e w' => e = .returned (.tuple #[v, .slice none 0 0]) ∧ w' = w := by
  subst hv
  go_enter Tryz.func78, Tryz.ntmps78
  go_wp2
  go_ret2
  exact ⟨rfl, rfl⟩
/-- What 'extend' tells of what it has laid. -/
def extL (sz m g k : Nat) : Value := if m = 0 then .slice none 0 0 else .slice (some ⟨g, k * sz, none⟩) m m
theorem extL_form (sz m g k : Nat) (hm : m ≤ maxLen) : ∃ (A : Option Addr) (cap : Nat), extL sz m g k = .slice A m cap ∧ m ≤ cap ∧ cap ≤ maxLen ∧ (0 < m → A = some ⟨g, k * sz, none⟩) := by
  unfold extL
  by_cases h : m = 0
  · rw [if_pos h, h]; exact ⟨none, 0, rfl, Nat.le_refl _, by unfold maxLen; omega, fun h => absurd h (by omega)⟩
  · rw [if_neg h]; exact ⟨_, m, rfl, Nat.le_refl _, hm, fun _ => rfl⟩
def ExtP (w : World) (base : Nat) (e : TypeId) (sz g k m cap : Nat) (xs : List Value) (en : Ending) (w' : World) : Prop :=
  en = .returned (.tuple #[.slice (some ⟨g, 0, none⟩) (k + m) cap, extL sz m g k]) ∧ w'.ownsRow base e sz (.slice (some ⟨g, 0, none⟩) (k + m) cap) (k + m) xs ∧ w.grownBy w' (some g)
theorem ext_z_any (base g k cap : Nat) (xs : List Value) (A : Option Addr) (m c : Nat) (news : List Value) (w : World) (hown : w.ownsRow base 29 5 (.slice (some ⟨g, 0, none⟩) k cap) k xs) (hn : news.length = m * 5)
    (hsrc : 0 < m → ∃ b off, A = some ⟨b, off, none⟩ ∧ ∀ j u, news[j]? = some u → w.cell? ⟨b, off + j, none⟩ = some u) (h1c : ∀ u ∈ news, u.oneCell' = true) (hfit : k + m ≤ cap) (hcap : cap ≤ 1000000) :
    Calls Tryz.prog 77 #[.slice (some ⟨g, 0, none⟩) k cap, .slice A m c] w (ExtP w base 29 5 g k m cap (xs ++ news)) := by
  by_cases hm : m = 0
  · subst hm
    obtain rfl : news = [] := List.eq_nil_of_length_eq_zero (by omega)
    refine (extend_noneZ _ k cap _ A c w rfl).mono ?_
    rintro e w' ⟨rfl, rfl⟩
    exact ⟨rfl, by simpa using hown, World.grownBy.refl _ _⟩
  · obtain ⟨b, off, rfl, hc⟩ := hsrc (by omega)
    refine (extend_z base g k cap xs b off m c news w hown hn (by omega) hc h1c hfit hcap).mono ?_
    rintro e w' ⟨rfl, h1, h2⟩
    exact ⟨by unfold extL; rw [if_neg hm], h1, h2⟩
theorem ext_s_any (base g k cap : Nat) (xs : List Value) (A : Option Addr) (m c : Nat) (news : List Value) (w : World) (hown : w.ownsRow base 9 1 (.slice (some ⟨g, 0, none⟩) k cap) k xs) (hn : news.length = m * 1)
    (hsrc : 0 < m → ∃ b off, A = some ⟨b, off, none⟩ ∧ ∀ j u, news[j]? = some u → w.cell? ⟨b, off + j, none⟩ = some u) (h1c : ∀ u ∈ news, u.oneCell' = true) (hfit : k + m ≤ cap) (hcap : cap ≤ 1000000) :
    Calls Tryz.prog 79 #[.slice (some ⟨g, 0, none⟩) k cap, .slice A m c] w (ExtP w base 9 1 g k m cap (xs ++ news)) := by
  by_cases hm : m = 0
  · subst hm
    obtain rfl : news = [] := List.eq_nil_of_length_eq_zero (by omega)
    refine (extend_noneS _ k cap _ A c w rfl).mono ?_
    rintro e w' ⟨rfl, rfl⟩
    exact ⟨rfl, by simpa using hown, World.grownBy.refl _ _⟩
  · obtain ⟨b, off, rfl, hc⟩ := hsrc (by omega)
    refine (extend_s base g k cap xs b off m c news w hown hn (by omega) hc h1c hfit hcap).mono ?_
    rintro e w' ⟨rfl, h1, h2⟩
    exact ⟨by unfold extL; rw [if_neg hm], h1, h2⟩
theorem ext_b_any (base g k cap : Nat) (xs : List Value) (A : Option Addr) (m c : Nat) (news : List Value) (w : World) (hown : w.ownsRow base 5 1 (.slice (some ⟨g, 0, none⟩) k cap) k xs) (hn : news.length = m * 1)
    (hsrc : 0 < m → ∃ b off, A = some ⟨b, off, none⟩ ∧ ∀ j u, news[j]? = some u → w.cell? ⟨b, off + j, none⟩ = some u) (h1c : ∀ u ∈ news, u.oneCell' = true) (hfit : k + m ≤ cap) (hcap : cap ≤ 1000000) :
    Calls Tryz.prog 78 #[.slice (some ⟨g, 0, none⟩) k cap, .slice A m c] w (ExtP w base 5 1 g k m cap (xs ++ news)) := by
  by_cases hm : m = 0
  · subst hm
    obtain rfl : news = [] := List.eq_nil_of_length_eq_zero (by omega)
    refine (extend_noneB _ k cap _ A c w rfl).mono ?_
    rintro e w' ⟨rfl, rfl⟩
    exact ⟨rfl, by simpa using hown, World.grownBy.refl _ _⟩
  · obtain ⟨b, off, rfl, hc⟩ := hsrc (by omega)
    refine (extend_b base g k cap xs b off m c news w hown hn (by omega) hc h1c hfit hcap).mono ?_
    rintro e w' ⟨rfl, h1, h2⟩
    exact ⟨by unfold extL; rw [if_neg hm], h1, h2⟩
end Go.Proofs.YtfboecnhakihnaaGreatDoor

namespace Go.Proofs.YtfboecnhakihnaaGreatDoor
open Go.RowKit Go.Shelf

theorem any_rel0 {P : Program} {md : Region.Mode} {ops : Array Oper} {Q : Exit → Act → World → Prop} {R : Nat → Array Bool → Act → World → Prop}
    (h : ∀ f L a w, R f L a w → (Region.ready md ops L = [] → Q .normal a w) ∧ ∀ i ∈ Region.ready md ops L, ∃ g, f = g + 1 ∧ wpOp P ops Q i (R g (L.setIfInBounds i true)) a w) :
    ∀ f L a w, R f L a w → wpAny P md ops Q f L a w
  | 0, L, a, w, hr => by
    have h1 := h _ _ _ _ hr
    have h2 : Region.ready md ops L = [] := List.eq_nil_iff_forall_not_mem.2 fun i hi => by obtain ⟨g, e, _⟩ := h1.2 i hi; cases e
    exact ⟨h2, h1.1 h2⟩
  | f + 1, L, a, w, hr => ⟨(h _ _ _ _ hr).1, fun i hi => by
    obtain ⟨g, e, hw⟩ := (h _ _ _ _ hr).2 i hi
    cases e
    exact wpOp_mono (fun a w hr => any_rel0 h f _ a w hr) hw⟩
def bsel (b : Bool) (v : Value) : Value := if b then v else undef
def bcnt (b : Bool) : Nat := if b then 0 else 1
theorem madeU (W : World) (n : Nat) (hn : n ≤ 100000) : (Instr.makeSlice 26 (.int .i64 0) (.int .i64 (n : Int))).run Tryz.prog W = .ok (.slice (some ⟨W.heap.size, 0, none⟩) 0 n) (W.alloc (.cells (madeCells #[.int .i64 0, .int .i64 0, .slice none 0 0, .slice none 0 0, .slice none 0 0] (n * 5)) 29)) := by
  obtain ⟨i0, hi, hz0, hz1, hz2⟩ := info_parts Tryz.info29
  have := run_makeSlice (P := Tryz.prog) W 26 29 i0 _ Tryz.underlying26 hi hz0 .i64 .i64 0 (n : Int) (by omega) (by omega) (by rw [hz1]; omega) (by rw [hz2]; omega) (by omega)
  rw [hz1] at this
  exact this
theorem madeS (W : World) (n : Nat) (hn : n ≤ 100000) : (Instr.makeSlice 27 (.int .i64 0) (.int .i64 (n : Int))).run Tryz.prog W = .ok (.slice (some ⟨W.heap.size, 0, none⟩) 0 n) (W.alloc (.cells (madeCells #[.string ⟨#[]⟩] n) 9)) := by
  obtain ⟨i0, hi, hz0, hz1, hz2⟩ := info_parts Tryz.info9
  have := run_makeSlice (P := Tryz.prog) W 27 9 i0 _ Tryz.underlying27 hi hz0 .i64 .i64 0 (n : Int) (by omega) (by omega) (by rw [hz1]; omega) (by rw [hz2]; omega) (by omega)
  rw [hz1, Int.toNat_natCast, Nat.mul_one] at this
  exact this
theorem madeB (W : World) (n : Nat) (hn : n ≤ 1000000) : (Instr.makeSlice 25 (.int .i64 0) (.int .i64 (n : Int))).run Tryz.prog W = .ok (.slice (some ⟨W.heap.size, 0, none⟩) 0 n) (W.alloc (.cells (madeCells #[.int .u8 0] n) 5)) := by
  obtain ⟨i0, hi, hz0, hz1, hz2⟩ := info_parts Tryz.info5
  have := run_makeSlice (P := Tryz.prog) W 25 5 i0 _ Tryz.underlying25 hi hz0 .i64 .i64 0 (n : Int) (by omega) (by omega) (by rw [hz1]; omega) (by rw [hz2]; omega) (by omega)
  rw [hz1, Int.toNat_natCast, Nat.mul_one] at this
  exact this
theorem fr_set5 (W : World) (g : Nat) (a b c d e : Value) : Fr W (((((W.setCell ⟨g, 0, none⟩ a).setCell ⟨g, 1, none⟩ b).setCell ⟨g, 2, none⟩ c).setCell ⟨g, 3, none⟩ d).setCell ⟨g, 4, none⟩ e) (fun k => k ≠ g) :=
  (Fr.of (gset W g 0 a) (fun b _ hb e => hb (by cases e; rfl))).trans ((Fr.of (gset _ g 1 b) (fun b _ hb e => hb (by cases e; rfl))).trans ((Fr.of (gset _ g 2 c) (fun b _ hb e => hb (by cases e; rfl))).trans ((Fr.of (gset _ g 3 d) (fun b _ hb e => hb (by cases e; rfl))).trans (Fr.of (gset _ g 4 e) (fun b _ hb e => hb (by cases e; rfl))))))
theorem own_made {W : World} {base g n sz : Nat} {e : TypeId} {cells : Array Value} (h : W.heap[g]? = some (.cells cells e (0, 0))) (hg : base ≤ g) (hs : cells.size = n * sz) (hn : n ≤ maxLen) : W.ownsRow base e sz (.slice (some ⟨g, 0, none⟩) 0 n) 0 [] :=
  ⟨by simp, .inr ⟨g, n, cells, rfl, hg, h, Nat.zero_le _, hn, by simpa using hs, by simp⟩⟩
end Go.Proofs.YtfboecnhakihnaaGreatDoor

namespace Go.Proofs.YtfboecnhakihnaaGreatDoor
open Go.RowKit Go.Shelf

def U.k : U → Int | .mk k _ _ _ _ => k
def U.n : U → Int | .mk _ n _ _ _ => n
/-- What a value in memory is, in parts. -/
theorem UIn.full {w : World} {ok : Nat → Prop} {z : U} {v0 v1 v2 v3 v4 : Value} (h : UIn w ok z v0 v1 v2 v3 v4) : ∃ (B A A' : Option Addr) (capb cap cap' : Nat) (cc : Nat → Nat → Value),
    v0 = .int .i64 z.k ∧ v1 = .int .i64 z.n ∧ v2 = .slice B z.b.length capb ∧ v3 = .slice A z.l.length cap ∧ v4 = .slice A' z.ks.length cap' ∧ (Lit.int .i64 z.k).wf = true ∧ (Lit.int .i64 z.n).wf = true ∧ (∀ x, x ∈ z.b → 0 ≤ x ∧ x < 256) ∧ (∀ s, s ∈ z.ks → s.size ≤ maxLen) ∧ z.b.length ≤ maxLen ∧ z.l.length ≤ maxLen ∧ z.ks.length ≤ maxLen ∧
    (0 < z.b.length → ∃ g off, B = some ⟨g, off, none⟩ ∧ ok g ∧ ∀ i x, z.b[i]? = some x → w.cell? ⟨g, off + i, none⟩ = some (.int .u8 x)) ∧
    (0 < z.l.length → ∃ g off, A = some ⟨g, off, none⟩ ∧ ok g ∧ ∀ i j, i < z.l.length → j < 5 → w.cell? ⟨g, off + (5 * i + j), none⟩ = some (cc i j)) ∧
    (0 < z.ks.length → ∃ g off, A' = some ⟨g, off, none⟩ ∧ ok g ∧ ∀ i s, z.ks[i]? = some s → w.cell? ⟨g, off + i, none⟩ = some (.string s)) ∧
    (∀ i x, z.l[i]? = some x → UIn w ok x (cc i 0) (cc i 1) (cc i 2) (cc i 3) (cc i 4)) := by
  cases h with
  | mk k n b l ks B A A' capb cap cap' cc h1 h2 h3 h4 hcapb hcap hcap' hB hL hK hE => exact ⟨B, A, A', capb, cap, cap', cc, rfl, rfl, rfl, rfl, rfl, h1, h2, h3, h4, Nat.le_trans hcapb.1 hcapb.2, Nat.le_trans hcap.1 hcap.2, Nat.le_trans hcap'.1 hcap'.2, hB, hL, hK, hE⟩
/-- The cells of so many values. -/
def newsL (n : Nat) (cc : Nat → Nat → Value) : List Value := (List.range (n * 5)).map fun j => cc (j / 5) (j % 5)
theorem newsL_len (n : Nat) (cc : Nat → Nat → Value) : (newsL n cc).length = n * 5 := by simp [newsL]
theorem newsL_get {n : Nat} {cc : Nat → Nat → Value} {i j : Nat} (hi : i < n) (hj : j < 5) : (newsL n cc)[5 * i + j]? = some (cc i j) := by
  unfold newsL
  rw [List.getElem?_map, List.getElem?_range (by omega)]
  have h1 : (5 * i + j) / 5 = i := by omega
  have h2 : (5 * i + j) % 5 = j := by omega
  simp only [Option.map_some, h1, h2]
theorem newsL_inv {n : Nat} {cc : Nat → Nat → Value} {j : Nat} {u : Value} (h : (newsL n cc)[j]? = some u) : j / 5 < n ∧ u = cc (j / 5) (j % 5) := by
  have hl := (List.getElem?_eq_some_iff.1 h).1
  rw [newsL_len] at hl
  unfold newsL at h
  rw [List.getElem?_map, List.getElem?_range hl] at h
  simp only [Option.map_some, Option.some.injEq] at h
  exact ⟨by omega, h.symm⟩
theorem own_frozen {w : World} {b g n cap sz : Nat} {e : TypeId} {xs : List Value} (h : w.ownsRow b e sz (.slice (some ⟨g, 0, none⟩) n cap) n xs) (j : Nat) : w.frozen? ⟨g, j, none⟩ = false := by
  rcases h.2 with ⟨e, _⟩ | ⟨g', cp', cur, e, _, hgg, _⟩
  · cases e
  · cases e; exact frozen_of_row w g j _ _ hgg
theorem own_cell {w : World} {b g n cap sz : Nat} {e : TypeId} {xs : List Value} (h : w.ownsRow b e sz (.slice (some ⟨g, 0, none⟩) n cap) n xs) {j : Nat} {u : Value} (hu : xs[j]? = some u) : w.cell? ⟨g, j, none⟩ = some u := by
  have := h.cells (g := g) rfl j u hu
  rwa [addr_add, Nat.zero_add] at this
/-- A value that has been laid. -/
def Laid (lb ob kb : Nat) (Q : List U) (OS : List Int) (KS : List ByteArray) (x : U) (d : Nat → Value) : Prop :=
  ∃ (o t u : Nat), d 0 = .int .i64 x.k ∧ d 1 = .int .i64 x.n ∧ d 2 = extL 1 x.b.length ob t ∧ d 3 = extL 5 x.l.length lb o ∧ d 4 = extL 1 x.ks.length kb u ∧ (∀ p y, x.l[p]? = some y → Q[o + p]? = some y) ∧ (∀ p s, x.b[p]? = some s → OS[t + p]? = some s) ∧ (∀ p s, x.ks[p]? = some s → KS[u + p]? = some s)
theorem Laid.more {lb ob kb : Nat} {Q Q' : List U} {OS OS' : List Int} {KS KS' : List ByteArray} {x : U} {d : Nat → Value} (h : Laid lb ob kb Q OS KS x d) : Laid lb ob kb (Q ++ Q') (OS ++ OS') (KS ++ KS') x d := by
  obtain ⟨o, t, u, h0, h1, h2, h3, h4, h5, h6, h7⟩ := h
  refine ⟨o, t, u, h0, h1, h2, h3, h4, fun p y hy => ?_, fun p s hs => ?_, fun p s hs => ?_⟩
  · have := h5 p y hy
    rw [List.getElem?_append_left (List.getElem?_eq_some_iff.1 this).1]; exact this
  · have := h6 p s hs
    rw [List.getElem?_append_left (List.getElem?_eq_some_iff.1 this).1]; exact this
  · have := h7 p s hs
    rw [List.getElem?_append_left (List.getElem?_eq_some_iff.1 this).1]; exact this
/-- What holds while the copy is laid. -/
def KRel (w : World) (lb ob kb N O K : Nat) (z : U) (g : Nat) (v5 v6 v7 v8 : Value) (wr : World) : Prop :=
  ∃ (q : Nat) (Q : List U) (OS : List Int) (KS : List ByteArray) (xs : List Value) (c : Nat → Nat → Value), q + g = N ∧ v5 = .slice (some ⟨lb, 0, none⟩) Q.length N ∧ v6 = .slice (some ⟨ob, 0, none⟩) OS.length O ∧ v7 = .slice (some ⟨kb, 0, none⟩) KS.length K ∧ v8 = .int .i64 q ∧
    wr.ownsRow (w.heap.size + 3) 29 5 (.slice (some ⟨lb, 0, none⟩) Q.length N) Q.length xs ∧ wr.ownsRow (w.heap.size + 3) 5 1 (.slice (some ⟨ob, 0, none⟩) OS.length O) OS.length (OS.map (Value.int .u8)) ∧ wr.ownsRow (w.heap.size + 3) 9 1 (.slice (some ⟨kb, 0, none⟩) KS.length K) KS.length (KS.map Value.string) ∧
    (∀ (i j : Nat), i < Q.length → j < 5 → xs[5 * i + j]? = some (c i j)) ∧ Q[0]? = some z ∧ q ≤ Q.length ∧ q + ucL (Q.drop q) = N ∧ OS.length + uoL (Q.drop q) = O ∧ KS.length + ukL (Q.drop q) = K ∧
    (∀ (p : Nat) (y : U), Q[p]? = some y → ∃ u0 u1 u2 u3 u4, UIn w (fun b => b < w.heap.size) y u0 u1 u2 u3 u4) ∧ (∀ (p : Nat) (y : U), Q[p]? = some y → q ≤ p → UIn w (fun b => b < w.heap.size) y (c p 0) (c p 1) (c p 2) (c p 3) (c p 4)) ∧
    (∀ (p : Nat) (y : U), Q[p]? = some y → p < q → Laid lb ob kb Q OS KS y (c p)) ∧ wr.heap[w.heap.size + 2]? = some (.cells #[.int .i64 0, .int .i64 0, .slice none 0 0, .slice none 0 0, .slice none 0 0] 29 (0, 0)) ∧ Below w.heap.size w wr
/-- All laid: a value in memory of its own. -/
theorem uin_laid {W : World} {lb ob kb B nq no nk N O K : Nat} {Q : List U} {OS : List Int} {KS : List ByteArray} {xs : List Value} {c : Nat → Nat → Value} (hlb : B ≤ lb) (hob : B ≤ ob) (hkb : B ≤ kb) (hnq : nq = Q.length) (hno : no = OS.length) (hnk : nk = KS.length) (h1 : W.ownsRow B 29 5 (.slice (some ⟨lb, 0, none⟩) nq N) nq xs)
    (h3 : W.ownsRow B 5 1 (.slice (some ⟨ob, 0, none⟩) no O) no (OS.map (Value.int .u8))) (h2 : W.ownsRow B 9 1 (.slice (some ⟨kb, 0, none⟩) nk K) nk (KS.map Value.string)) (hx : ∀ (i j : Nat), i < Q.length → j < 5 → xs[5 * i + j]? = some (c i j)) {w : World} {ok : Nat → Prop} (hz : ∀ (p : Nat) (y : U), Q[p]? = some y → ∃ u0 u1 u2 u3 u4, UIn w ok y u0 u1 u2 u3 u4)
    (hd : ∀ (p : Nat) (y : U), Q[p]? = some y → Laid lb ob kb Q OS KS y (c p)) : ∀ (n : Nat) (y : U), SizeOf.sizeOf y < n → ∀ p, Q[p]? = some y → UIn W (fun b => B ≤ b) y (c p 0) (c p 1) (c p 2) (c p 3) (c p 4)
  | 0, _, h => by omega
  | n + 1, .mk k m b l ks, hsz => fun p hp => by
    obtain ⟨ou, tu, uu, e0, e1, e2, e3, e4, hl, hb, hk⟩ := hd p _ hp
    obtain ⟨u0, u1, u2, u3, u4, hu⟩ := hz p _ hp
    obtain ⟨_, _, _, _, _, _, _, _, _, _, _, _, w1, w2, w3, w4, w5, w6, w7, _, _, _, _⟩ := hu.full
    obtain ⟨Bb, capb, r1, r2, r3, r4⟩ := extL_form 1 b.length ob tu w5
    obtain ⟨A, cap, f1, f2, f3, f4⟩ := extL_form 5 l.length lb ou w6
    obtain ⟨A', cap', g1, g2, g3, g4⟩ := extL_form 1 ks.length kb uu w7
    have e0' : c p 0 = .int .i64 k := e0
    have e1' : c p 1 = .int .i64 m := e1
    have e2' : c p 2 = .slice Bb b.length capb := e2.trans r1
    have e3' : c p 3 = .slice A l.length cap := e3.trans f1
    have e4' : c p 4 = .slice A' ks.length cap' := e4.trans g1
    rw [e0', e1', e2', e3', e4']
    refine UIn.mk k m b l ks Bb A A' capb cap cap' (fun i j => c (ou + i) j) w1 w2 w3 w4 ⟨r2, r3⟩ ⟨f2, f3⟩ ⟨g2, g3⟩ (fun h => ⟨ob, tu * 1, r4 h, hob, fun i s hs => ?_⟩) (fun h => ⟨lb, ou * 5, f4 h, hlb, fun i j hi hj => ?_⟩) (fun h => ⟨kb, uu * 1, g4 h, hkb, fun i s hs => ?_⟩) (fun i x hi => ?_)
    · have hq := hb i s hs
      have := own_cell h3 (j := tu * 1 + i) (u := .int .u8 s) (by rw [Nat.mul_one, List.getElem?_map, hq]; rfl)
      exact this
    · have hq := hl i (l[i]) (List.getElem?_eq_getElem hi)
      have hlt := (List.getElem?_eq_some_iff.1 hq).1
      have := own_cell h1 (hx (ou + i) j hlt hj)
      rwa [show 5 * (ou + i) + j = ou * 5 + (5 * i + j) by omega] at this
    · have hq := hk i s hs
      have := own_cell h2 (j := uu * 1 + i) (u := .string s) (by rw [Nat.mul_one, List.getElem?_map, hq]; rfl)
      exact this
    · refine uin_laid hlb hob hkb hnq hno hnk h1 h3 h2 hx hz hd n x ?_ (ou + i) (hl i x hi)
      have hm := List.sizeOf_lt_of_mem (List.mem_of_getElem? hi)
      simp only [U.mk.sizeOf_spec] at hsz
      omega
/-- What 'copied' tells of a value. -/
def CopyP (w : World) (z : U) (e : Ending) (w' : World) : Prop := ∃ d0 d1 d2 d3 d4, e = .returned (.agg #[d0, d1, d2, d3, d4]) ∧ UIn w' (fun b => w.heap.size ≤ b) z d0 d1 d2 d3 d4 ∧ Below w.heap.size w w'
end Go.Proofs.YtfboecnhakihnaaGreatDoor
