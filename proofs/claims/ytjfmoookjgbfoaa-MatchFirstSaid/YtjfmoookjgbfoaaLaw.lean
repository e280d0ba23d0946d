/-
  'few', 'awake'; the walks of the laws.
-/
import Derived.Test.YtjfmoookjgbfoaaFst
namespace Go.Proofs.Ytjfmoookjgbfoaa
open Go.RowKit

theorem fr_all (w : World) (o : Obj) : Fr w (w.alloc o) (fun _ => True) := below_fr0 ((Below.refl _ w).alloc (Nat.le_refl _) o)
/-- It answers something. -/
def SomeB (w : World) (e : Ending) (w' : World) : Prop := ∃ b, e = .returned (.bool b) ∧ Below w.heap.size w w'
set_option maxRecDepth 100000 in
set_option maxHeartbeats 4000000 in
theorem few_any (ns : List Nd) (vs : Value) (w : World) (ok : Nat → Prop) (hn : NdsAt w ok ns vs) : Calls Try.prog 11 #[.agg #[vs]] w (SomeB w) := by
  have hb0 : Below w.heap.size w (w.alloc (.cells #[vs] 35)) := (Below.refl _ w).alloc (Nat.le_refl _) _
  have h1 : (w.alloc (.cells #[vs] 35)).heap[w.heap.size]? = some (.cells #[vs] 35 (0, 0)) := new_at rfl _
  obtain ⟨A, cap, c, rfl, hl, hm, hcc, hone⟩ := hn
  unfold maxLen at hm
  have HC := Lib.hid hcc
  have HO := Lib.hid hone
  clear hcc hone
  go_enter Try.func11, Try.ntmps11
  go_upto_region 1 with fail
  generalize w.alloc (.cells #[.slice A ns.length cap] 35) = W0 at *
  go_wp2
  go_loopg [3, 4] ns.length (fun g n i wr => ∃ (z : Int) (k : Nat), n = .int .i64 z ∧ i = .int .i64 (k : Int) ∧ k + g = ns.length ∧ wr.heap[w.heap.size]? = some (.cells #[.slice A ns.length cap] 35 (0, 0)) ∧ Below w.heap.size w wr)
  case atStart => exact ⟨0, 0, rfl, rfl, by omega, h1, hb0⟩
  case round =>
    obtain ⟨z, k, rfl, rfl, hg, g1, hb⟩ := hrel
    have p0 := cell_of_row _ _ 0 _ _ _ g1
    have HB := Lib.hid hb
    have G1 := Lib.hid g1
    have HG := Lib.hid hg
    clear hb g1 hg hb0 h1
    by_cases hlt : k < ns.length
    · obtain ⟨n, hn⟩ : ∃ n, ns[k]? = some n := ⟨_, List.getElem?_eq_getElem hlt⟩
      have hi := HO.out k n hn
      obtain ⟨A2, n2, c2, A3, n3, c3, A4, n4, c4, A8, n8, c8, e2, e3, e4, e8⟩ := hi.shape
      obtain ⟨g, off, rfl, _, hcell⟩ := HC.out (by omega)
      have hki : (k : Int) < (ns.length : Int) := by omega
      have z2 := (below_fr0 HB.out).cell (hcell k 2 hlt (by omega)) trivial
      have z3 := (below_fr0 HB.out).cell (hcell k 3 hlt (by omega)) trivial
      have z8 := (below_fr0 HB.out).cell (hcell k 8 hlt (by omega)) trivial
      rw [e2, show off + (10 * k + 2) = off + k * 10 + 2 by omega] at z2
      rw [e3, show off + (10 * k + 3) = off + k * 10 + 3 by omega] at z3
      rw [e8, show off + (10 * k + 8) = off + k * 10 + 8 by omega] at z8
      clear hcell hn hi e2 e3 e4 e8
      cases h50 : decide ((k : Int) < 50) with
      | true =>
        go_wp2
        go_quiet (fail)
        go_wp2
        go_roundg (ns.length - (k + 1))
        case measure => have := HG.out; omega
        case rel => exact ⟨_, k + 1, rfl, by go_num, by omega, G1.out, ⟨HB.out.os, HB.out.tape, HB.out.output, HB.out.size, HB.out.block⟩⟩
      | false =>
        go_wp2
        all_goals
          go_ret
          exact ⟨_, rfl, HB.out⟩
    · go_wp2
      all_goals
        go_ret
        exact ⟨_, rfl, HB.out⟩
theorem wf0 : (Lit.int .i64 0).wf = true := by decide
theorem sz0 : (⟨#[]⟩ : ByteArray).size ≤ maxLen := by decide
/-- Nodes in a block of their own. -/
theorem nds_arr {W : World} {ok : Nat → Prop} {g : Nat} {e : TypeId} {a : Array Value} {ns : List Nd} (h : W.heap[g]? = some (.cells a e (0, 0))) (hs : a.size = 10 * ns.length) (hg : ok g) (hl : ns.length ≤ 1000) (hone : ∀ i n, ns[i]? = some n → NdIn W ok n (fun j => a.getD (10 * i + j) undef)) :
    NdsAt W ok ns (.slice (some ⟨g, 0, none⟩) ns.length ns.length) := by
  refine ⟨some ⟨g, 0, none⟩, ns.length, fun i j => a.getD (10 * i + j) undef, rfl, Nat.le_refl _, by unfold maxLen; omega, fun _ => ⟨g, 0, rfl, hg, fun i j hi hj => ?_⟩, hone⟩
  have hlt : 10 * i + j < a.size := by omega
  have := cell_of_row W g (10 * i + j) _ _ _ h
  rw [Nat.zero_add, this, Array.getElem?_eq_getElem hlt]
  show _ = some (a.getD (10 * i + j) undef)
  rw [Array.getD_eq_getD_getElem?, Array.getElem?_eq_getElem hlt]
  rfl
/-- A node of a kind alone; a union of the node beside. -/
def kNd (k : Int) : Nd := ⟨k, ⟨#[]⟩, [], [], [], false, ⟨#[]⟩, 0, [], 0⟩
def uNd : Nd := ⟨13, ⟨#[]⟩, [], [], [], false, ⟨#[]⟩, 0, [1], 0⟩
abbrev kA (k : Int) : Array Value := #[.int .i64 k, .string ⟨#[]⟩, .slice none 0 0, .slice none 0 0, .slice none 0 0, .bool false, .string ⟨#[]⟩, .int .i64 0, .slice none 0 0, .int .i64 0]
theorem one_nds {W : World} {g : Nat} (k : Int) (hk : (Lit.int .i64 k).wf = true) (h : W.heap[g]? = some (.cells (kA k) 26 (0, 0))) : NdsAt W (fun _ => True) [kNd k] (.slice (some ⟨g, 0, none⟩) 1 1) := by
  refine nds_arr (ns := [kNd k]) h rfl trivial (by simp) (fun i n hi => ?_)
  rcases i with _ | i
  · simp only [List.getElem?_cons_zero, Option.some.injEq] at hi
    subst hi
    exact ⟨rfl, rfl, strs_nil _ _, rows_nil _ _, strs_nil _ _, rfl, rfl, rfl, ints_nil _ _, rfl, hk, wf0, wf0, sz0, sz0⟩
  · simp at hi
theorem m34 : matchT [kNd 3] [kNd 4] 0 0 = true := by decide +kernel
theorem m43 : matchT [kNd 4] [kNd 3] 0 0 = false := by decide +kernel
/-- A node that has a name. -/
def nNd (s : ByteArray) : Nd := ⟨0, s, [], [], [], false, ⟨#[]⟩, 0, [], 0⟩
theorem n_in (w : World) (ok : Nat → Prop) (s : ByteArray) (hs : s.size ≤ maxLen) : NdIn w ok (nNd s) (ndc (nNd s) (.slice none 0 0) (.slice none 0 0) (.slice none 0 0) (.slice none 0 0)) :=
  ⟨rfl, rfl, strs_nil w ok, rows_nil w ok, strs_nil w ok, rfl, rfl, rfl, ints_nil w ok, rfl, wf0, wf0, wf0, hs, sz0⟩
theorem nab : namedB (nNd ⟨#[97, 46, 98]⟩) (nNd ⟨#[99, 46, 98]⟩) = true := by decide +kernel
theorem named_ab (w : World) : Calls Try.prog 7 #[.agg #[.int .i64 0, .string ⟨#[97, 46, 98]⟩, .slice none 0 0, .slice none 0 0, .slice none 0 0, .bool false, .string ⟨#[]⟩, .int .i64 0, .slice none 0 0, .int .i64 0], .agg #[.int .i64 0, .string ⟨#[99, 46, 98]⟩, .slice none 0 0, .slice none 0 0, .slice none 0 0, .bool false, .string ⟨#[]⟩, .int .i64 0, .slice none 0 0, .int .i64 0]] w fun e w' => e = .returned (.bool true) ∧ Below w.heap.size w w' := by
  have h := named_any _ _ _ _ w (fun _ => True) (fun _ => True) (n_in w _ ⟨#[97, 46, 98]⟩ (by decide)) (n_in w _ ⟨#[99, 46, 98]⟩ (by decide))
  rw [nab, ndc_v, ndc_v] at h
  exact h
/-- What 'awake' lays. -/
abbrev awk (w : World) : World := (((w.alloc (.cells #[.int .i64 3, .string ⟨#[]⟩, .slice none 0 0, .slice none 0 0, .slice none 0 0, .bool false, .string ⟨#[]⟩, .int .i64 0, .slice none 0 0, .int .i64 0] 26)).alloc (.cells #[.int .i64 4, .string ⟨#[]⟩, .slice none 0 0, .slice none 0 0, .slice none 0 0, .bool false, .string ⟨#[]⟩, .int .i64 0, .slice none 0 0, .int .i64 0] 26)).alloc (.cells #[.slice (some ⟨w.heap.size, 0, none⟩) 1 1] 35)).alloc (.cells #[.slice (some ⟨w.heap.size + 1, 0, none⟩) 1 1] 35)
set_option maxHeartbeats 2000000 in
theorem awake_any (w : World) : Calls Try.prog 6 #[] w fun e w' => e = .returned (.bool true) ∧ Below w.heap.size w w' := by
  go_enter Try.func6, Try.ntmps6
  go_upto_region 2 with fail
  change Code.wp _ _ _ _ (awk w)
  have hb0 : Below w.heap.size w (awk w) := ((((Below.refl _ w).alloc (Nat.le_refl _) _).alloc (by simp) _).alloc (by simp; omega) _).alloc (by simp; omega) _
  have h1 : (awk w).heap[w.heap.size]? = some (.cells (kA 3) 26 (0, 0)) := old_at _ (old_at _ (old_at _ (new_at rfl _)))
  have h2 : (awk w).heap[w.heap.size + 1]? = some (.cells (kA 4) 26 (0, 0)) := old_at _ (old_at _ (new_at (by simp) _))
  have h3 : (awk w).heap[w.heap.size + 1 + 1]? = some (.cells #[.slice (some ⟨w.heap.size, 0, none⟩) 1 1] 35 (0, 0)) := old_at _ (new_at (by simp) _)
  have h4 : (awk w).heap[w.heap.size + 1 + 1 + 1]? = some (.cells #[.slice (some ⟨w.heap.size + 1, 0, none⟩) 1 1] 35 (0, 0)) := new_at (by simp) _
  generalize awk w = W0 at *
  have n3 := one_nds 3 (by decide) h1
  have n4 := one_nds 4 (by decide) h2
  have hA := types_any _ _ _ _ 0 0 W0 _ _ wf0 n3 n4
  rw [m34] at hA
  have HB : ∀ W, Fr W0 W (fun _ => True) → Calls Try.prog 13 #[.agg #[.slice (some ⟨w.heap.size + 1, 0, none⟩) 1 1], .int .i64 0, .agg #[.slice (some ⟨w.heap.size, 0, none⟩) 1 1], .int .i64 0] W fun e w' => e = .returned (.bool false) ∧ Below W.heap.size W w' := fun W hW => by
    have h := types_any _ _ _ _ 0 0 W _ _ wf0 (nds_fr hW (fun _ _ => trivial) n4) (nds_fr hW (fun _ _ => trivial) n3)
    rwa [m43] at h
  have p3 := cell_of_row _ _ 0 _ _ _ h3
  have p4 := cell_of_row _ _ 0 _ _ _ h4
  have HB0 := Lib.hid hb0
  have HBB := Lib.hid HB
  clear hb0 h1 h2 h3 h4 n3 n4 HB
  go_wp2_with fail
  refine hA.mono ?_
  rintro e w1 ⟨rfl, hb1⟩
  have p3' := (below_fr0 hb1).cell p3 trivial
  have p4' := (below_fr0 hb1).cell p4 trivial
  have hB := HBB.out w1 (below_fr0 hb1)
  have HB1 := Lib.hid (HB0.out.trans (hb1.mono HB0.out.size))
  clear hA p3 p4 hb1
  go_wp2_with fail
  refine hB.mono ?_
  rintro e w2 ⟨rfl, hb2⟩
  have HB2 := Lib.hid (HB1.out.trans (hb2.mono HB1.out.size))
  clear hB hb2 p3' p4'
  go_wp2_with fail
  refine (named_ab w2).mono ?_
  rintro e w3 ⟨rfl, hb3⟩
  have HB3 := Lib.hid (HB2.out.trans (hb3.mono HB2.out.size))
  clear hb3
  go_wp2
  go_ret
  exact ⟨rfl, HB3.out⟩
end Go.Proofs.Ytjfmoookjgbfoaa
