/-
  'couranthelp.Plain' of two rows of the same numbers; 'Walk': a function value over a copy.
-/
import Derived.Test.YtjcnjaebmndeiaaDoorCpy
namespace Go.Proofs.YtjcnjaebmndeiaaDoor
open Go.RowKit

/-- A row of numbers in memory. -/
def SlI (w : World) (A : Option Addr) (xs : List Int) : Prop := 0 < xs.length → ∃ g off, A = some ⟨g, off, none⟩ ∧ ∀ i u, xs[i]? = some u → w.cell? ⟨g, off + i, none⟩ = some (.int .i64 u)
set_option maxHeartbeats 400000 in
theorem eq_ints (x : Int) (w : World) : Calls Tryd.prog 51 #[.int .i64 x, .int .i64 x] w fun e w' => e = .returned (.bool true) ∧ w' = w := by
  go_enter Tryd.func51, Tryd.ntmps51
  go_wp2
  go_ret
  exact ⟨rfl, rfl⟩
set_option maxHeartbeats 400000 in
theorem same_ints (A A' : Option Addr) (ks : List Int) (cap cap' : Nat) (w : World) (hb : ks.length ≤ 1000000) (h : SlI w A ks) (h' : SlI w A' ks) :
    Calls Tryd.prog 50 #[.slice A ks.length cap, .slice A' ks.length cap', .func (.func 51) #[] #[]] w fun e w' => e = .returned (.bool true) ∧ ∃ n, w' = w.drewN n := by
  by_cases h0 : ks = []
  · subst h0
    go_enter Tryd.func50, Tryd.ntmps50
    go_wp2
    go_loopg [7] 0 (fun g i wr => i = .int .i64 0 ∧ w = wr)
    case atStart => exact ⟨rfl, rfl⟩
    case round =>
      obtain ⟨rfl, rfl⟩ := hrel
      go_wp2
      go_ret
      exact ⟨rfl, 0, rfl⟩
  · have hpos : 0 < ks.length := List.length_pos_iff.2 h0
    obtain ⟨g, off, rfl, hc⟩ := h hpos
    obtain ⟨g', off', rfl, hc'⟩ := h' hpos
    have HC := Lib.hid hc
    have HC' := Lib.hid hc'
    clear hc hc' h0
    go_enter Tryd.func50, Tryd.ntmps50
    go_wp2
    go_loopg [7] ks.length (fun g i wr => ∃ k n : Nat, k + g = ks.length ∧ i = .int .i64 k ∧ w.drewN n = wr)
    case atStart => exact ⟨0, 0, by omega, rfl, rfl⟩
    case round =>
      obtain ⟨k, n, hk, rfl, hW⟩ := hrel
      have HW := Lib.hid hW
      by_cases hlt : k < ks.length
      · obtain ⟨s, hs⟩ : ∃ s, ks[k]? = some s := ⟨_, List.getElem?_eq_getElem hlt⟩
        have hcell : wr.cell? ⟨g, off + k, none⟩ = some (.int .i64 s) := by rw [← hW]; exact HC.out k s hs
        have hcell' : wr.cell? ⟨g', off' + k, none⟩ = some (.int .i64 s) := by rw [← hW]; exact HC'.out k s hs
        have hki : (k : Int) < (ks.length : Int) := by omega
        have heq := fun n : Nat => eq_ints s (wr.drewN n)
        have HE := Lib.hid heq
        clear hs hW heq
        go_wp2
        go_quiet ((go_at_call 51; exact quiet_same (fun n => HE.out n) _))
        go_wp2
        go_roundg (ks.length - (k + 1))
        case measure => omega
        case rel => exact ⟨k + 1, n + nq, by omega, by go_num, by rw [← HW.out]; simp⟩
      · clear hW
        go_wp2
        go_ret
        exact ⟨rfl, n, HW.out.symm⟩
set_option maxHeartbeats 400000 in
theorem plain_ints (A A' : Option Addr) (ks : List Int) (cap cap' : Nat) (w : World) (hb : ks.length ≤ 1000000) (h : SlI w A ks) (h' : SlI w A' ks) :
    Calls Tryd.prog 25 #[.slice A ks.length cap, .slice A' ks.length cap'] w fun e w' => e = .returned (.bool true) ∧ ∃ n, w' = w.drewN n := by
  have hs := same_ints A A' ks cap cap' w hb h h'
  go_enter Tryd.func25, Tryd.ntmps25
  go_wp2_with fail
  refine hs.mono ?_
  rintro e w' ⟨rfl, n, rfl⟩
  go_wp2
  go_ret
  exact ⟨rfl, n, rfl⟩
/-- What 'Walk' tells: a function value over a box with a copy. -/
def WalkP (w : World) (z : Z) (e : Ending) (w' : World) : Prop := ∃ (p : Nat) (d0 d1 d2 d3 : Value), e = .returned (.func (.func 48) #[] #[.pointer (some ⟨p, 0, none⟩)]) ∧ w.heap.size ≤ p ∧ w'.heap[p]? = some (.cells #[d0, d1, d2, d3] 26 (0, 0)) ∧ ZIn w' (fun b => w.heap.size ≤ b) z d0 d1 d2 d3 ∧ Below w.heap.size w w'
set_option maxHeartbeats 1000000 in
set_option maxRecDepth 100000 in
theorem walk_any (z : Z) (w : World) (v0 v1 v2 v3 : Value) (hz : ZIn w (fun b => b < w.heap.size) z v0 v1 v2 v3) (hc : zc z ≤ 100000) (hk : zk z ≤ 100000) :
    Calls Tryd.prog 22 #[.agg #[v0, v1, v2, v3]] w (WalkP w z) := by
  obtain ⟨kk, tt, A0, n1, c1, A1, n2, c2, rfl, rfl, rfl, rfl⟩ := zin_agg hz
  have hb0 : Below w.heap.size w (w.alloc (.cells #[.int .i64 kk, .string tt, .slice A0 n1 c1, .slice A1 n2 c2] 26)) := (Below.refl _ _).alloc (Nat.le_refl _) _
  have hB0 := heap_alloc_new w (.cells #[.int .i64 kk, .string tt, .slice A0 n1 c1, .slice A1 n2 c2] 26 (0, 0))
  have hcl := clone_any z (w.alloc (.cells #[.int .i64 kk, .string tt, .slice A0 n1 c1, .slice A1 n2 c2] 26)) _ _ _ _ ((hz.fr (below_fr hb0) (fun _ h => h)).mono (fun b _ hb => Nat.lt_of_lt_of_le hb hb0.size)) hc hk
  have hs0 : (w.alloc (.cells #[.int .i64 kk, .string tt, .slice A0 n1 c1, .slice A1 n2 c2] 26)).heap.size = w.heap.size + 1 := by simp
  obtain ⟨p0, p1, p2, p3⟩ := cells_4 hB0
  clear hz hB0
  go_enter Tryd.func22, Tryd.ntmps22
  go_wp2_with fail
  generalize (w.alloc (.cells #[.int .i64 kk, .string tt, .slice A0 n1 c1, .slice A1 n2 c2] 26)) = W0 at *
  refine hcl.mono ?_
  rintro e w2 ⟨d0, d1, d2, d3, rfl, hd, hb2⟩
  obtain ⟨k9, t9, A9, n9, c9, B9, m9, s9, rfl, rfl, rfl, rfl⟩ := zin_agg hd
  have hbb2 : Below w.heap.size w w2 := hb0.trans (hb2.mono hb0.size)
  have hfa : Fr w2 (w2.alloc (.cells #[.int .i64 k9, .string t9, .slice A9 n9 c9, .slice B9 m9 s9] 26)) (fun _ => True) := (Fr.refl w2 _).alloc _
  have hnew := heap_alloc_new w2 (.cells #[.int .i64 k9, .string t9, .slice A9 n9 c9, .slice B9 m9 s9] 26 (0, 0))
  have hd2 := (hd.fr (ok' := fun _ => True) hfa (fun _ _ => trivial)).mono (ok' := fun b => w.heap.size ≤ b) (fun b _ hb => by omega)
  have HN := Lib.hid hnew
  have HD := Lib.hid hd2
  have hba := hbb2.alloc hbb2.size (.cells #[.int .i64 k9, .string t9, .slice A9 n9 c9, .slice B9 m9 s9] 26)
  have hsz := hbb2.size
  clear hnew hd2 hd hfa
  go_wp2
  go_ret
  exact ⟨w2.heap.size, _, _, _, _, rfl, hsz, HN.out, HD.out, hba⟩
end Go.Proofs.YtjcnjaebmndeiaaDoor
