/-
  'slices.Clone' of bytes and of texts; the reader's counter; an enum's symbol.
-/
import Derived.Test.YtcmillbjpplfjaaGreatDoorMpl
import Derived.Test.YtcmillbjpplfjaaGreatDoorFie
import Derived.Test.YtcmillbjpplfjaaGreatDoorItm
import Derived.Lib.SliceRun
namespace Go.Proofs.YtcmillbjpplfjaaGreatDoor
open Go.RowKit

/-- A row of the call's own. -/
def CloP (w : World) (T n : Nat) (ys : List Value) (e : Ending) (w' : World) : Prop := ∃ v, e = .returned v ∧ w'.ownsRow w.heap.size T 1 v n ys ∧ Below w.heap.size w w'
theorem info5 : (Tryz.prog.info? 5).map (fun i => (i.zero, i.size, i.bytes)) = some (some (.int .u8 0), 1, 1) := by kernel_rfl
theorem own_empty (w : World) (T : Nat) : (w.alloc (.cells #[] T)).ownsRow w.heap.size T 1 (.slice (some ⟨w.heap.size, 0, none⟩) 0 0) 0 [] :=
  ⟨rfl, .inr ⟨w.heap.size, 0, #[], rfl, Nat.le_refl _, new_at rfl _, Nat.le_refl _, by unfold maxLen; omega, rfl, rfl⟩⟩
theorem cells_up {w : World} {A : Option Addr} {n : Nat} {ys : List Value} (o : Obj) (hcc : 0 < n → ∃ b off, A = some ⟨b, off, none⟩ ∧ ∀ j u, ys[j]? = some u → w.cell? ⟨b, off + j, none⟩ = some u) :
    0 < n → ∃ b off, A = some ⟨b, off, none⟩ ∧ ∀ j u, ys[j]? = some u → (w.alloc o).cell? ⟨b, off + j, none⟩ = some u := fun h => by
  obtain ⟨b, off, e, hc⟩ := hcc h
  exact ⟨b, off, e, fun j u hu => (fr_all w o).cell (hc j u hu) trivial⟩
set_option maxRecDepth 100000 in
set_option maxHeartbeats 1000000 in
theorem cloneB_any (A : Option Addr) (n c : Nat) (ys : List Value) (w : World) (hl : ys.length = n) (hn : n ≤ 140737488355328) (hcc : 0 < n → ∃ b off, A = some ⟨b, off, none⟩ ∧ ∀ j u, ys[j]? = some u → w.cell? ⟨b, off + j, none⟩ = some u) (h1 : ∀ u ∈ ys, u.oneCell' = true) :
    Calls Tryz.prog 89 #[.slice A n c] w (CloP w 5 n ys) := by
  cases A with
  | none =>
    have h0 : n = 0 := by
      rcases Nat.eq_zero_or_pos n with h | h
      · exact h
      · obtain ⟨b, off, e, _⟩ := hcc h; cases e
    subst h0
    have hy : ys = [] := List.length_eq_zero_iff.1 hl
    subst hy
    clear hl hn hcc h1
    have q := fun (w : World) (a : Option Addr) (n c : Nat) => Lib.run_eql_slice_nil (P := Tryz.prog) w _ _ a n c 0 0 Tryz.underlying22
    go_enter Tryz.func89, Tryz.ntmps89
    go_wp2
    go_ret
    exact ⟨_, rfl, World.ownsRow_nil w _ 5 1, Below.refl _ _⟩
  | some a =>
    obtain ⟨i0, hi, hz0, hz1, hz2⟩ := info_parts info5
    have HL := Lib.hid hl
    have HN := Lib.hid hn
    have HC := Lib.hid hcc
    have H1 := Lib.hid h1
    clear hl hn hcc h1
    have q := fun (w : World) (a : Option Addr) (n c : Nat) => Lib.run_eql_slice_nil (P := Tryz.prog) w _ _ a n c 0 0 Tryz.underlying22
    go_enter Tryz.func89, Tryz.ntmps89
    go_wp2_with (at_builtin; refine wpList_append_src _ rfl _ _ _ rfl w.heap.size 5 i0 (.int .u8 0) 1 Tryz.underlying22 hi hz0 hz1 hz2 rfl _ 0 [] rfl (own_empty w 5) (some a) n c ys rfl HL.out (cells_up _ HC.out) H1.out (by have := HN.out; unfold maxLen; omega) (by have := HN.out; omega) (by simp) ?_; intro v' w1 hown hg hb)
    have hb1 : Below w.heap.size w w1 := ((Below.refl _ w).alloc (Nat.le_refl _) _).trans (gset_below hg (fun r e => by cases e; exact Nat.le_refl _) (by simp))
    have HO := Lib.hid hown
    have HB := Lib.hid hb1
    clear hown hg hb hb1
    go_wp2
    go_ret
    exact ⟨_, rfl, by have := HO.out; rwa [Nat.zero_add, List.nil_append] at this, HB.out⟩
set_option maxRecDepth 100000 in
set_option maxHeartbeats 1000000 in
theorem cloneS_any (A : Option Addr) (n c : Nat) (ys : List Value) (w : World) (hl : ys.length = n) (hn : n ≤ 1000000) (hcc : 0 < n → ∃ b off, A = some ⟨b, off, none⟩ ∧ ∀ j u, ys[j]? = some u → w.cell? ⟨b, off + j, none⟩ = some u) (h1 : ∀ u ∈ ys, u.oneCell' = true) :
    Calls Tryz.prog 90 #[.slice A n c] w (CloP w 9 n ys) := by
  cases A with
  | none =>
    have h0 : n = 0 := by
      rcases Nat.eq_zero_or_pos n with h | h
      · exact h
      · obtain ⟨b, off, e, _⟩ := hcc h; cases e
    subst h0
    have hy : ys = [] := List.length_eq_zero_iff.1 hl
    subst hy
    clear hl hn hcc h1
    have q := fun (w : World) (a : Option Addr) (n c : Nat) => Lib.run_eql_slice_nil (P := Tryz.prog) w _ _ a n c 0 0 Tryz.underlying24
    go_enter Tryz.func90, Tryz.ntmps90
    go_wp2
    go_ret
    exact ⟨_, rfl, World.ownsRow_nil w _ 9 1, Below.refl _ _⟩
  | some a =>
    obtain ⟨i0, hi, hz0, hz1, hz2⟩ := info_parts info9
    have HL := Lib.hid hl
    have HN := Lib.hid hn
    have HC := Lib.hid hcc
    have H1 := Lib.hid h1
    clear hl hn hcc h1
    have q := fun (w : World) (a : Option Addr) (n c : Nat) => Lib.run_eql_slice_nil (P := Tryz.prog) w _ _ a n c 0 0 Tryz.underlying24
    go_enter Tryz.func90, Tryz.ntmps90
    go_wp2_with (at_builtin; refine wpList_append_src _ rfl _ _ _ rfl w.heap.size 9 i0 (.string ⟨#[]⟩) 16 Tryz.underlying24 hi hz0 hz1 hz2 rfl _ 0 [] rfl (own_empty w 9) (some a) n c ys rfl HL.out (cells_up _ HC.out) H1.out (by have := HN.out; unfold maxLen; omega) (by have := HN.out; omega) (by simp) ?_; intro v' w1 hown hg hb)
    have hb1 : Below w.heap.size w w1 := ((Below.refl _ w).alloc (Nat.le_refl _) _).trans (gset_below hg (fun r e => by cases e; exact Nat.le_refl _) (by simp))
    have HO := Lib.hid hown
    have HB := Lib.hid hb1
    clear hown hg hb hb1
    go_wp2
    go_ret
    exact ⟨_, rfl, by have := HO.out; rwa [Nat.zero_add, List.nil_append] at this, HB.out⟩

/-- The one that reads: both schemas, how many values have come, and its two maps. -/
structure Tn (w : World) (p pm qm : Nat) (vw vr : Value) (cnt : Int) : Prop where
  box : w.heap[p]? = some (.cells #[vw, vr, .int .i64 cnt, .map (some pm), .map (some qm)] 70 (0, 0))
theorem Tn.fr {w w' : World} {p pm qm : Nat} {vw vr : Value} {cnt : Int} {ok : Nat → Prop} (h : Tn w p pm qm vw vr cnt) (hf : Fr w w' ok) (hp : ok p) : Tn w' p pm qm vw vr cnt := ⟨hf.at h.box hp⟩
theorem Tn.lt {w : World} {p pm qm : Nat} {vw vr : Value} {cnt : Int} (h : Tn w p pm qm vw vr cnt) : p < w.heap.size := blk_lt h.box
set_option maxRecDepth 100000 in
set_option maxHeartbeats 1000000 in
theorem come_any (w : World) (p pm qm : Nat) (vw vr : Value) (cnt more : Int) (h : Tn w p pm qm vw vr cnt) (h0 : 0 ≤ cnt ∧ cnt ≤ 100000) (h1 : 0 ≤ more ∧ more ≤ 1000000000) :
    Calls Tryz.prog 52 #[.pointer (some ⟨p, 0, none⟩), .int .i64 more] w fun e w' => e = .returned (.bool (decide (cnt + more ≤ 10000))) ∧ Tn w' p pm qm vw vr (cnt + more) ∧ Fr w w' (fun b => b ≠ p) ∧ w'.heap.size = w.heap.size := by
  have hb := h.box
  have p2 := cell_of_row _ _ 2 _ _ _ hb
  have f2 := frozen_of_row _ _ 2 _ _ hb
  have hw : IntKind.i64.wrap (cnt + more) = cnt + more := IntWalk.i64_in _ (by omega)
  obtain ⟨s, hs⟩ : ∃ s, cnt + more = s := ⟨_, rfl⟩
  rw [hs] at hw ⊢
  have HB := Lib.hid hb
  have HS := Lib.hid hs
  clear h h0 h1 hb
  go_enter Tryz.func52, Tryz.ntmps52
  go_wp2
  have hb2 := heap_setCell_same w p 2 _ _ (.int .i64 s) HB.out
  have q2 := cell_of_row _ _ 2 _ _ _ hb2
  go_wp2
  go_ret
  exact ⟨rfl, ⟨hb2⟩, set_fr w p 2 _, by simp⟩
def symM (n : Nd) (s : ByteArray) : Int := if firstI (eqB s) n.sy 0 = -1 ∧ n.has = true then firstI (eqB n.dflt) n.sy 0 else firstI (eqB s) n.sy 0
end Go.Proofs.YtcmillbjpplfjaaGreatDoor
