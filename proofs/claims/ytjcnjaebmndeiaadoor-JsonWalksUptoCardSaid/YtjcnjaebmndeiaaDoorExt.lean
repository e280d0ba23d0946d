/-
  'extend' of a row with room: what comes behind it, and where it lies. A row with one cell another one.
-/
import Derived.Test.YtjcnjaebmndeiaaDoorCln
namespace Go.Proofs.YtjcnjaebmndeiaaDoor
open Go.RowKit

theorem own_set {w : World} {b g n cap sz : Nat} {e : TypeId} {xs : List Value} (h : w.ownsRow b e sz (.slice (some ⟨g, 0, none⟩) n cap) n xs) (j : Nat) (y : Value) : (w.setCell ⟨g, j, none⟩ y).ownsRow b e sz (.slice (some ⟨g, 0, none⟩) n cap) n (xs.set j y) := by
  obtain ⟨h1, h2⟩ := h
  refine ⟨by rw [List.length_set]; exact h1, ?_⟩
  rcases h2 with ⟨h2, _⟩ | ⟨g', cap', cur, e1, hb, hg, hn, hm, hs, ht⟩
  · simp at h2
  · cases e1
    refine .inr ⟨g, cap, cur.setIfInBounds j y, rfl, hb, ?_, hn, hm, by simpa using hs, ?_⟩
    · rw [heap_setCell_same w g j _ e y hg]
    · rw [Array.toList_setIfInBounds, List.take_set, ht]
/-- What 'extend' leaves. -/
def ExtPost (w : World) (base : Nat) (e : TypeId) (sz g k m cap : Nat) (xs : List Value) (en : Ending) (w' : World) : Prop :=
  en = .returned (.tuple #[.slice (some ⟨g, 0, none⟩) (k + m) cap, .slice (some ⟨g, k * sz, none⟩) m m]) ∧ w'.ownsRow base e sz (.slice (some ⟨g, 0, none⟩) (k + m) cap) (k + m) xs ∧ w.grownBy w' (some g)
set_option maxHeartbeats 1000000 in
set_option maxRecDepth 100000 in
theorem extend_z (base g k cap : Nat) (xs : List Value) (b off m c : Nat) (news : List Value) (w : World) (hown : w.ownsRow base 26 4 (.slice (some ⟨g, 0, none⟩) k cap) k xs) (hn : news.length = m * 4) (hm : 0 < m)
    (hc : ∀ j u, news[j]? = some u → w.cell? ⟨b, off + j, none⟩ = some u) (h1c : ∀ u ∈ news, u.oneCell' = true) (hfit : k + m ≤ cap) (_hcap : cap ≤ 1000000) :
    Calls Tryd.prog 82 #[.slice (some ⟨g, 0, none⟩) k cap, .slice (some ⟨b, off, none⟩) m c] w (ExtPost w base 26 4 g k m cap (xs ++ news)) := by
  obtain ⟨i0, hi, hz0, hz1, hz2⟩ := info_parts Tryd.info26
  have hc' : ∀ j u, news[j]? = some u → w.cell? ((⟨b, off, none⟩ : Addr).add j) = some u := fun j u h => by rw [addr_add]; exact hc j u h
  have hm0 : ((m : Int) == 0) = false := by simp only [beq_eq_false_iff_ne, ne_eq]; omega
  have hk1 : (k : Int) ≤ ((k + m : Nat) : Int) := by omega
  clear hc
  go_enter Tryd.func82, Tryd.ntmps82
  go_wp2_with (at_builtin; refine wpList_append_fits _ rfl _ _ 23 rfl base 26 i0 4 Tryd.underlying23 hi hz1 g k cap xs rfl hown ⟨b, off, none⟩ m c news rfl hn hc' h1c hfit ?_; intro w1 hown1 hg1)
  go_quiet (fail)
  go_wp2
  go_ret2
  refine ⟨?_, hown1, hg1.os, hg1.tape, hg1.output, hg1.size, hg1.block⟩
  show Ending.returned (.tuple #[.slice (some ⟨g, 0, none⟩) (k + m) cap, .slice (some ⟨g, k * 4, none⟩) (k + m - k) (k + m - k)]) = _
  rw [Nat.add_sub_cancel_left]
set_option maxHeartbeats 1000000 in
set_option maxRecDepth 100000 in
theorem extend_s (base g k cap : Nat) (xs : List Value) (b off m c : Nat) (news : List Value) (w : World) (hown : w.ownsRow base 9 1 (.slice (some ⟨g, 0, none⟩) k cap) k xs) (hn : news.length = m * 1) (hm : 0 < m)
    (hc : ∀ j u, news[j]? = some u → w.cell? ⟨b, off + j, none⟩ = some u) (h1c : ∀ u ∈ news, u.oneCell' = true) (hfit : k + m ≤ cap) (_hcap : cap ≤ 1000000) :
    Calls Tryd.prog 83 #[.slice (some ⟨g, 0, none⟩) k cap, .slice (some ⟨b, off, none⟩) m c] w (ExtPost w base 9 1 g k m cap (xs ++ news)) := by
  obtain ⟨i0, hi, hz0, hz1, hz2⟩ := info_parts Tryd.info9
  have hc' : ∀ j u, news[j]? = some u → w.cell? ((⟨b, off, none⟩ : Addr).add j) = some u := fun j u h => by rw [addr_add]; exact hc j u h
  have hm0 : ((m : Int) == 0) = false := by simp only [beq_eq_false_iff_ne, ne_eq]; omega
  have hk1 : (k : Int) ≤ ((k + m : Nat) : Int) := by omega
  clear hc
  go_enter Tryd.func83, Tryd.ntmps83
  go_wp2_with (at_builtin; refine wpList_append_fits _ rfl _ _ 24 rfl base 9 i0 1 Tryd.underlying24 hi hz1 g k cap xs rfl hown ⟨b, off, none⟩ m c news rfl hn hc' h1c hfit ?_; intro w1 hown1 hg1)
  go_quiet (fail)
  go_wp2
  go_ret2
  refine ⟨?_, hown1, hg1.os, hg1.tape, hg1.output, hg1.size, hg1.block⟩
  show Ending.returned (.tuple #[.slice (some ⟨g, 0, none⟩) (k + m) cap, .slice (some ⟨g, k, none⟩) (k + m - k) (k + m - k)]) = _
  rw [Nat.add_sub_cancel_left, Nat.mul_one]
end Go.Proofs.YtjcnjaebmndeiaaDoor
