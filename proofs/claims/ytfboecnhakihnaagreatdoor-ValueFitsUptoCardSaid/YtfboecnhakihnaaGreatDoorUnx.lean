/-
  'number' and 'single' at a number that is right.
  'maker.value' at the statements' first line: a number within an array.
  'maker.list', 'maker.value' and 'Default' at the statements' first line.
  'maker.value' of the array, 'Default' at the statements' first line.
  'Default' at the statements' first line.
-/
import Derived.Test.YtfboecnhakihnaaGreatDoorUcd
import Derived.BigQuiet
import Derived.Test.YtfboecnhakihnaaGreatDoorUxc
import Derived.Deep.DeepCutAuto
import Derived.Lib.SmallJoins
namespace Go.Proofs.YtfboecnhakihnaaGreatDoor
open Go.RowKit Go.Shelf

/-- What ParseInt answers of a text that is a number of 32 bits. -/
def ParsesTo (t : ByteArray) (v : Int) : Prop := ∀ W : World, Calls Tryz.prog 103 #[.string t, .int .i64 10, .int .i64 32] W fun e w' => e = .returned (.tuple #[.int .i64 v, .nilIface]) ∧ Below W.heap.size W w'

set_option maxHeartbeats 1000000 in
theorem number32_ok (t : ByteArray) (v : Int) (hp : ParsesTo t v) (A A' : Option Addr) (n1 c1 n2 c2 : Nat) (w : World) :
    Calls Tryz.prog 90 #[.agg #[.int .i64 4, .string t, .slice A n1 c1, .slice A' n2 c2], .int .i64 32] w fun e w' => e = .returned (.tuple #[.int .i64 v, .bool true]) ∧ Below w.heap.size w w' := by
  have hb : Below w.heap.size w (w.alloc (.cells #[.int .i64 4, .string t, .slice A n1 c1, .slice A' n2 c2] 37)) := (Below.refl _ _).alloc (Nat.le_refl _) _
  have hP := hp (w.alloc (.cells #[.int .i64 4, .string t, .slice A n1 c1, .slice A' n2 c2] 37))
  go_enter Tryz.func90, Tryz.ntmps90
  go_wp2_with fail
  refine hP.mono ?_
  rintro e w1 ⟨rfl, hb1⟩
  go_wp2
  go_quiet (fail)
  go_wp2
  go_ret2
  exact ⟨rfl, below_drewN (hb.trans (hb1.mono hb.size)) _⟩

set_option maxHeartbeats 1000000 in
theorem single_int (t : ByteArray) (v : Int) (hp : ParsesTo t v) (A A' : Option Addr) (n1 c1 n2 c2 : Nat) (x1 x2 x3 x4 x5 x6 x7 x8 x9 : Value) (w : World) :
    Calls Tryz.prog 65 #[.agg #[.int .i64 3, x1, x2, x3, x4, x5, x6, x7, x8, x9], .agg #[.int .i64 4, .string t, .slice A n1 c1, .slice A' n2 c2]] w fun e w' => e = .returned (.tuple #[.agg #[.int .i64 0, .int .i64 v, .slice none 0 0, .slice none 0 0, .slice none 0 0], .bool true]) ∧ Below w.heap.size w w' := by
  go_enter Tryz.func65, Tryz.ntmps65
  go_wp2_with fail
  have hs0 : (((((w.alloc (.cells #[.int .i64 3, x1, x2, x3, x4, x5, x6, x7, x8, x9] 61)).alloc (.cells #[.int .i64 4, .string t, .slice A n1 c1, .slice A' n2 c2] 37)).alloc (.cells #[.int .i64 0, .int .i64 0, .slice none 0 0, .slice none 0 0, .slice none 0 0] 29)).alloc (.cells #[.int .i64 0, .int .i64 0, .slice none 0 0, .slice none 0 0, .slice none 0 0] 29))).heap.size = w.heap.size + 4 := by simp
  have hbw : Below w.heap.size w (((((w.alloc (.cells #[.int .i64 3, x1, x2, x3, x4, x5, x6, x7, x8, x9] 61)).alloc (.cells #[.int .i64 4, .string t, .slice A n1 c1, .slice A' n2 c2] 37)).alloc (.cells #[.int .i64 0, .int .i64 0, .slice none 0 0, .slice none 0 0, .slice none 0 0] 29)).alloc (.cells #[.int .i64 0, .int .i64 0, .slice none 0 0, .slice none 0 0, .slice none 0 0] 29))) := ((((Below.refl _ _).alloc (Nat.le_refl _) _).alloc (by simp) _).alloc (by simp; omega) _).alloc (by simp; omega) _
  have h3 : (((((w.alloc (.cells #[.int .i64 3, x1, x2, x3, x4, x5, x6, x7, x8, x9] 61)).alloc (.cells #[.int .i64 4, .string t, .slice A n1 c1, .slice A' n2 c2] 37)).alloc (.cells #[.int .i64 0, .int .i64 0, .slice none 0 0, .slice none 0 0, .slice none 0 0] 29)).alloc (.cells #[.int .i64 0, .int .i64 0, .slice none 0 0, .slice none 0 0, .slice none 0 0] 29))).heap[w.heap.size + 1 + 1 + 1]? = some (.cells #[.int .i64 0, .int .i64 0, .slice none 0 0, .slice none 0 0, .slice none 0 0] 29 (0, 0)) := new_at (by simp) _
  have h2 : (((((w.alloc (.cells #[.int .i64 3, x1, x2, x3, x4, x5, x6, x7, x8, x9] 61)).alloc (.cells #[.int .i64 4, .string t, .slice A n1 c1, .slice A' n2 c2] 37)).alloc (.cells #[.int .i64 0, .int .i64 0, .slice none 0 0, .slice none 0 0, .slice none 0 0] 29)).alloc (.cells #[.int .i64 0, .int .i64 0, .slice none 0 0, .slice none 0 0, .slice none 0 0] 29))).heap[w.heap.size + 1 + 1]? = some (.cells #[.int .i64 0, .int .i64 0, .slice none 0 0, .slice none 0 0, .slice none 0 0] 29 (0, 0)) := old_at _ (new_at (by simp) _)
  generalize (((((w.alloc (.cells #[.int .i64 3, x1, x2, x3, x4, x5, x6, x7, x8, x9] 61)).alloc (.cells #[.int .i64 4, .string t, .slice A n1 c1, .slice A' n2 c2] 37)).alloc (.cells #[.int .i64 0, .int .i64 0, .slice none 0 0, .slice none 0 0, .slice none 0 0] 29)).alloc (.cells #[.int .i64 0, .int .i64 0, .slice none 0 0, .slice none 0 0, .slice none 0 0] 29))) = W0 at *
  refine (number32_ok t v hp _ _ _ _ _ _ _).mono ?_
  rintro e w1 ⟨rfl, hb1⟩
  have g3 := (below_fr0 hb1).at h3 trivial
  have g2 := (below_fr0 hb1).at h2 trivial
  obtain ⟨p0, p1, p2, p3, p4⟩ := cells_5 g3
  obtain ⟨q0, q1, q2, q3, q4⟩ := cells_5 g2
  obtain ⟨y0, y1, y2, y3, y4⟩ := frozen_5 g3
  obtain ⟨z0, z1, z2, z3, z4⟩ := frozen_5 g2
  clear h3 h2
  go_wp2
  have hB := hbw.trans (hb1.mono hbw.size)
  refine bodyPost_ret (v := .tuple #[.agg #[.int .i64 0, .int .i64 v, .slice none 0 0, .slice none 0 0, .slice none 0 0], .bool true]) ?_ rfl ⟨rfl, ?_⟩
  · simp [results, Tryz.results65, go_sem, q0, q1, q2, q3, q4]
  · exact (((((hB.setCell (by show w.heap.size ≤ w.heap.size + 1 + 1 + 1; omega) _).setCell (by show w.heap.size ≤ w.heap.size + 1 + 1; omega) _).setCell (by show w.heap.size ≤ w.heap.size + 1 + 1; omega) _).setCell (by show w.heap.size ≤ w.heap.size + 1 + 1; omega) _).setCell (by show w.heap.size ≤ w.heap.size + 1 + 1; omega) _).setCell (by show w.heap.size ≤ w.heap.size + 1 + 1; omega) _
end Go.Proofs.YtfboecnhakihnaaGreatDoor

namespace Go.Proofs.YtfboecnhakihnaaGreatDoor
open Go.RowKit Go.Shelf

abbrev zs : Value := .slice none 0 0
/-- The two nodes of the first line's schema. -/
abbrev nodes2 : Array Value := #[.int .i64 11, .string ⟨#[]⟩, zs, zs, zs, .bool false, .string ⟨#[]⟩, .int .i64 1, zs, .int .i64 0, .int .i64 3, .string ⟨#[]⟩, zs, zs, zs, .bool false, .string ⟨#[]⟩, .int .i64 0, zs, .int .i64 0]
abbrev mk3 (g : Nat) (c : Int) (mv : Value) : Obj := .cells #[.slice (some ⟨g, 0, none⟩) 2 2, .int .i64 c, mv] 82 (0, 0)
theorem at_set {W : World} {b j p : Nat} {u : Value} {o : Obj} (hb : b ≠ p) (h : W.heap[p]? = some o) : (W.setCell ⟨b, j, none⟩ u).heap[p]? = some o := (Below.heap_setCell _ _ _ _ (fun e => hb e.symm)).trans h
theorem fr_set {w W : World} {b j : Nat} {u : Value} {ok : Nat → Prop} (hb : w.heap.size ≤ b) (h : Fr w W ok) : Fr w (W.setCell ⟨b, j, none⟩ u) ok :=
  ⟨h.os, h.tape, h.output, Nat.le_trans h.size (by simp [World.setCell]), fun k hk h1 => (Below.heap_setCell _ _ _ _ (by show k ≠ b; omega)).trans (h.block k hk h1)⟩
set_option maxHeartbeats 1000000 in
theorem room_ok (pm g : Nat) (c : Int) (mv : Value) (more : Int) (w : World) (hm : w.heap[pm]? = some (mk3 g c mv)) (h1 : more ≤ 10000 - c) (h0 : 0 ≤ c) (hc : c ≤ 10000) :
    Calls Tryz.prog 60 #[.pointer (some ⟨pm, 0, none⟩), .int .i64 more] w fun e w' => e = .returned (.bool true) ∧ w' = w := by
  have q1 : w.cell? ⟨pm, 1, none⟩ = some (.int .i64 c) := cell_of_row w pm 1 _ _ _ hm
  go_enter Tryz.func60, Tryz.ntmps60
  go_wp2
  go_ret
  exact ⟨rfl, rfl⟩

set_option maxHeartbeats 2000000 in
theorem value_leaf (t : ByteArray) (v : Int) (hp : ParsesTo t v) (pm g : Nat) (c : Int) (mv : Value) (A A' : Option Addr) (n1 c1 n2 c2 : Nat) (d : Int) (w : World) (hm : w.heap[pm]? = some (mk3 g c mv)) (hg : w.heap[g]? = some (.cells nodes2 61 (0, 0))) (hgp : g ≠ pm) (h0 : 0 ≤ c) (hc : c < 100) (hd0 : 0 ≤ d) (hd : d ≤ 64) :
    Calls Tryz.prog 38 #[.pointer (some ⟨pm, 0, none⟩), .int .i64 1, .agg #[.int .i64 4, .string t, .slice A n1 c1, .slice A' n2 c2], .int .i64 d] w fun e w' => e = .returned (.tuple #[.agg #[.int .i64 3, .int .i64 v, zs, zs, zs], .bool true]) ∧ w'.heap[pm]? = some (mk3 g (c + 1) mv) ∧ Fr w w' (fun b => b ≠ pm) := by
  have hwm := blk_lt hm
  have hwg := blk_lt hg
  obtain ⟨W0, hW0⟩ : ∃ W0, (w.alloc (.cells #[.int .i64 4, .string t, .slice A n1 c1, .slice A' n2 c2] 37)).alloc (.cells #[.int .i64 0, .int .i64 0, zs, zs, zs] 29) = W0 := ⟨_, rfl⟩
  have hs0 : W0.heap.size = w.heap.size + 2 := by rw [← hW0]; simp
  have hf0 : Fr w W0 (fun _ => True) := by rw [← hW0]; exact ((Fr.refl w _).alloc _).alloc _
  have hm0 := hf0.at hm trivial
  have hg0 := hf0.at hg trivial
  have hj0 : W0.heap[w.heap.size]? = some (.cells #[.int .i64 4, .string t, .slice A n1 c1, .slice A' n2 c2] 37 (0, 0)) := by rw [← hW0]; exact old_at _ (new_at rfl _)
  have hr0 : W0.heap[w.heap.size + 1]? = some (.cells #[.int .i64 0, .int .i64 0, zs, zs, zs] 29 (0, 0)) := by rw [← hW0]; exact new_at (by simp) _
  have m0 : W0.cell? ⟨pm, 0, none⟩ = some (.slice (some ⟨g, 0, none⟩) 2 2) := cell_of_row W0 pm 0 _ _ _ hm0
  have m1 : W0.cell? ⟨pm, 1, none⟩ = some (.int .i64 c) := cell_of_row W0 pm 1 _ _ _ hm0
  have f1 : W0.frozen? ⟨pm, 1, none⟩ = false := frozen_of_row W0 pm 1 _ _ hm0
  have hroom := room_ok pm g c mv 1 W0 hm0 (by omega) h0 (by omega)
  go_enter Tryz.func38, Tryz.ntmps38
  go_wp2_with fail
  refine hroom.mono ?_
  rintro e wx ⟨rfl, hwx⟩
  subst hwx
  clear hroom
  have n0 : ∀ (W : World) (i : Nat) (u : Value), W.heap[g]? = some (.cells nodes2 61 (0, 0)) → nodes2[i]? = some u → W.cell? ⟨g, i, none⟩ = some u := fun W i u h hu => by rw [cell_of_row W g i _ _ _ h, hu]
  have HN := Lib.hid n0
  clear n0
  obtain ⟨Wy, hWy⟩ : ∃ Wy, wx.setCell ⟨pm, 1, none⟩ (.int .i64 (c + 1)) = Wy := ⟨_, rfl⟩
  have hsx : Wy.heap.size = w.heap.size + 2 := by rw [← hWy, ← hs0]; simp [World.setCell]
  have hfs : Fr wx Wy (fun b => b ≠ pm) := by rw [← hWy]; exact Fr.of (gset wx pm 1 _) (fun b _ hb e => hb (by cases e; rfl))
  have hmy : Wy.heap[pm]? = some (mk3 g (c + 1) mv) := by rw [← hWy, heap_setCell_same wx pm 1 _ _ _ hm0]; rfl
  go_upto_region 5 with fail
  obtain ⟨W2, hW2⟩ : ∃ W2, Wy.alloc (.cells #[.int .i64 0, .int .i64 0, zs, zs, zs] 29) = W2 := ⟨_, rfl⟩
  have hs2 : W2.heap.size = w.heap.size + 3 := by rw [← hW2]; simp [hsx]
  have hf2 : Fr wx W2 (fun b => b ≠ pm) := by rw [← hW2]; exact hfs.alloc _
  have hm2 : W2.heap[pm]? = some (mk3 g (c + 1) mv) := by rw [← hW2]; exact old_at _ hmy
  have hg2 := hf2.at hg0 hgp
  have hj2 := hf2.at hj0 (by omega)
  have hr2 := hf2.at hr0 (by omega)
  have ho2 : W2.heap[w.heap.size + 2]? = some (.cells #[.int .i64 0, .int .i64 0, zs, zs, zs] 29 (0, 0)) := by rw [← hW2]; exact new_at hsx _
  clear hj0 hr0 hg0 hWy hmy
  clear hW0 hs0 m0 m1 f1 hsx hfs hm0 hm hg
  have k10 := HN.out W2 10 _ hg2 rfl
  have k11 := HN.out W2 11 _ hg2 rfl
  have k12 := HN.out W2 12 _ hg2 rfl
  have k13 := HN.out W2 13 _ hg2 rfl
  have k14 := HN.out W2 14 _ hg2 rfl
  have k15 := HN.out W2 15 _ hg2 rfl
  have k16 := HN.out W2 16 _ hg2 rfl
  have k17 := HN.out W2 17 _ hg2 rfl
  have k18 := HN.out W2 18 _ hg2 rfl
  have k19 := HN.out W2 19 _ hg2 rfl
  have m0 : W2.cell? ⟨pm, 0, none⟩ = some (.slice (some ⟨g, 0, none⟩) 2 2) := cell_of_row W2 pm 0 _ _ _ hm2
  have j0 : W2.cell? ⟨w.heap.size, 0, none⟩ = some (.int .i64 4) := cell_of_row W2 w.heap.size 0 _ _ _ hj2
  have j1 : W2.cell? ⟨w.heap.size, 1, none⟩ = some (.string t) := cell_of_row W2 w.heap.size 1 _ _ _ hj2
  have j2 : W2.cell? ⟨w.heap.size, 2, none⟩ = some (.slice A n1 c1) := cell_of_row W2 w.heap.size 2 _ _ _ hj2
  have j3 : W2.cell? ⟨w.heap.size, 3, none⟩ = some (.slice A' n2 c2) := cell_of_row W2 w.heap.size 3 _ _ _ hj2
  have hf3 : Fr W2 (W2.alloc (.cells #[.int .i64 3, .string ⟨#[]⟩, zs, zs, zs, .bool false, .string ⟨#[]⟩, .int .i64 0, zs, .int .i64 0] 61)) (fun _ => True) := (Fr.refl W2 _).alloc _
  have hsg := single_int t v hp A A' n1 c1 n2 c2 (.string ⟨#[]⟩) zs zs zs (.bool false) (.string ⟨#[]⟩) (.int .i64 0) zs (.int .i64 0) (W2.alloc (.cells #[.int .i64 3, .string ⟨#[]⟩, zs, zs, zs, .bool false, .string ⟨#[]⟩, .int .i64 0, zs, .int .i64 0] 61))
  go_wp2_with fail
  refine hsg.mono ?_
  rintro e w4 ⟨rfl, hb4⟩
  clear hsg k10 k11 k12 k13 k14 k15 k16 k17 k18 k19 m0 j0 j1 j2 j3
  have hf4 : Fr W2 w4 (fun _ => True) := hf3.trans (below_fr0 hb4)
  have hg4 := hf4.at hg2 trivial
  have hm4 := hf4.at hm2 trivial
  have hr4 := hf4.at hr2 trivial
  have ho4 := hf4.at ho2 trivial
  have m0 : w4.cell? ⟨pm, 0, none⟩ = some (.slice (some ⟨g, 0, none⟩) 2 2) := cell_of_row w4 pm 0 _ _ _ hm4
  have k10 := HN.out w4 10 _ hg4 rfl
  obtain ⟨p0, p1, p2, p3, p4⟩ := cells_5 ho4
  obtain ⟨q0, q1, q2, q3, q4⟩ := cells_5 hr4
  obtain ⟨y0, y1, y2, y3, y4⟩ := frozen_5 ho4
  obtain ⟨z0, z1, z2, z3, z4⟩ := frozen_5 hr4
  go_wp2
  refine bodyPost_ret (v := .tuple #[.agg #[.int .i64 3, .int .i64 v, zs, zs, zs], .bool true]) ?_ rfl ⟨rfl, ?_, ?_⟩
  · simp [results, Tryz.results38, go_sem, q0, q1, q2, q3, q4]
  · repeat (first | with_reducible exact hm4 | (with_reducible refine at_set (by omega) ?_))
  · have hfw : Fr w w4 (fun b => b ≠ pm) := ((hf0.mono (fun _ _ _ => trivial)).trans hf2).trans (hf4.mono (fun _ _ _ => trivial))
    repeat (first | with_reducible exact hfw | (with_reducible refine fr_set (by omega) ?_))
end Go.Proofs.YtfboecnhakihnaaGreatDoor

namespace Go.Proofs.YtfboecnhakihnaaGreatDoor
open Go.RowKit Go.Shelf

theorem fr_new {w W W' : World} {b : Nat} {ok : Nat → Prop} (h : Fr w W ok) (hg : W.grownBy W' (some b)) (hb : w.heap.size ≤ b) : Fr w W' ok :=
  ⟨hg.os.trans h.os, hg.tape.trans h.tape, hg.output.trans h.output, Nat.le_trans h.size hg.size, fun k hk h1 => (hg.block k (Nat.lt_of_lt_of_le hk h.size) (fun e => by cases e; omega)).trans (h.block k hk h1)⟩
theorem make5 (W : World) : (Instr.makeSlice 26 (.int .i64 0) (.int .i64 1)).run Tryz.prog W = .ok (.slice (some ⟨W.heap.size, 0, none⟩) 0 1) (W.alloc (.cells #[.int .i64 0, .int .i64 0, .slice none 0 0, .slice none 0 0, .slice none 0 0] 29)) := by kernel_rfl
set_option maxHeartbeats 2000000 in
theorem list_one (t : ByteArray) (v : Int) (hp : ParsesTo t v) (pm g lb : Nat) (c : Int) (mv : Value) (w : World) (hm : w.heap[pm]? = some (mk3 g c mv)) (hg : w.heap[g]? = some (.cells nodes2 61 (0, 0))) (hgp : g ≠ pm) (hlp : lb ≠ pm) (hl : w.heap[lb]? = some (.cells #[.int .i64 4, .string t, zs, zs] 37 (0, 0))) (h0 : 0 ≤ c) (hc : c < 100) :
    Calls Tryz.prog 62 #[.pointer (some ⟨pm, 0, none⟩), .int .i64 1, .int .i64 6, .agg #[.int .i64 6, .string ⟨#[]⟩, .slice (some ⟨lb, 0, none⟩) 1 1, zs], .int .i64 1] w fun e w' => ∃ u, e = .returned (.tuple #[u, .bool true]) ∧ w'.ownsRow w.heap.size 29 5 u 1 [.int .i64 3, .int .i64 v, zs, zs, zs] ∧ w'.heap[pm]? = some (mk3 g (c + 1) mv) ∧ Fr w w' (fun b => b ≠ pm) := by
  have hwm := blk_lt hm
  have hwl := blk_lt hl
  have hwg := blk_lt hg
  obtain ⟨W0, hW0⟩ : ∃ W0, (w.alloc (.cells #[.int .i64 6, .string ⟨#[]⟩, .slice (some ⟨lb, 0, none⟩) 1 1, zs] 37)) = W0 := ⟨_, rfl⟩
  have hs0 : W0.heap.size = w.heap.size + 1 := by rw [← hW0]; simp
  have hf0 : Fr w W0 (fun _ => True) := by rw [← hW0]; exact (Fr.refl w _).alloc _
  have hm0 := hf0.at hm trivial
  have hg0 := hf0.at hg trivial
  have hl0 := hf0.at hl trivial
  have hj0 : W0.heap[w.heap.size]? = some (.cells #[.int .i64 6, .string ⟨#[]⟩, .slice (some ⟨lb, 0, none⟩) 1 1, zs] 37 (0, 0)) := by rw [← hW0]; exact new_at rfl _
  have hroom := room_ok pm g c mv 1 W0 hm0 (by omega) h0 (by omega)
  have j0 : W0.cell? ⟨w.heap.size, 0, none⟩ = some (.int .i64 6) := cell_of_row W0 w.heap.size 0 _ _ _ hj0
  have j2 : W0.cell? ⟨w.heap.size, 2, none⟩ = some (.slice (some ⟨lb, 0, none⟩) 1 1) := cell_of_row W0 w.heap.size 2 _ _ _ hj0
  go_enter Tryz.func62, Tryz.ntmps62
  go_wp2_with fail
  refine hroom.mono ?_
  rintro e wx ⟨rfl, hwx⟩
  subst hwx
  clear hroom
  have mk := make5
  go_wp2_with fail
  obtain ⟨W1, hW1⟩ : ∃ W1, wx.alloc (.cells #[.int .i64 0, .int .i64 0, zs, zs, zs] 29) = W1 := ⟨_, rfl⟩
  have hf1 : Fr wx W1 (fun _ => True) := by rw [← hW1]; exact (Fr.refl wx _).alloc _
  have hs1 : W1.heap.size = w.heap.size + 2 := by rw [← hW1]; simp [hs0]
  have hm1 := hf1.at hm0 trivial
  have hg1 := hf1.at hg0 trivial
  have hl1 := hf1.at hl0 trivial
  have ho1 : W1.heap[w.heap.size + 1]? = some (.cells #[.int .i64 0, .int .i64 0, zs, zs, zs] 29 (0, 0)) := by rw [← hW1]; exact new_at hs0 _
  have hown : W1.ownsRow w.heap.size 29 5 (.slice (some ⟨w.heap.size + 1, 0, none⟩) 0 1) 0 [] := ⟨rfl, .inr ⟨w.heap.size + 1, 1, _, rfl, by omega, ho1, by omega, by unfold maxLen; omega, rfl, rfl⟩⟩
  have hfw1 : Fr w W1 (fun b => b ≠ pm) := (hf0.trans hf1).mono (fun _ _ _ => trivial)
  clear hm0 hg0 hl0 j0 j2 hj0 hm hg hl mk ho1
  rw [hW1]
  clear hW1 hW0 hf0 hf1
  go_loopg [12, 36] 1 (fun gh o i wr => (gh = 1 ∧ o = .slice (some ⟨w.heap.size + 1, 0, none⟩) 0 1 ∧ i = .int .i64 0 ∧ W1 = wr) ∨ (gh = 0 ∧ i = .int .i64 1 ∧ wr.ownsRow w.heap.size 29 5 o 1 [.int .i64 3, .int .i64 v, zs, zs, zs] ∧ wr.heap[pm]? = some (mk3 g (c + 1) mv) ∧ Fr w wr (fun b => b ≠ pm)))
  case atStart => exact .inl ⟨rfl, rfl, rfl, rfl⟩
  case round =>
    rcases hrel with ⟨hgk, rfl, rfl, hw⟩ | ⟨hgk, rfl, ho, hmw, hfw⟩
    · subst hw
      have HGK := Lib.hid hgk
      clear hgk
      have l0 : W1.cell? ⟨lb, 0, none⟩ = some (.int .i64 4) := cell_of_row W1 lb 0 _ _ _ hl1
      have l1 : W1.cell? ⟨lb, 1, none⟩ = some (.string t) := cell_of_row W1 lb 1 _ _ _ hl1
      have l2 : W1.cell? ⟨lb, 2, none⟩ = some zs := cell_of_row W1 lb 2 _ _ _ hl1
      have l3 : W1.cell? ⟨lb, 3, none⟩ = some zs := cell_of_row W1 lb 3 _ _ _ hl1
      have hfa : Fr W1 (W1.alloc (.cells #[.int .i64 4, .string t, zs, zs] 37)) (fun _ => True) := (Fr.refl W1 _).alloc _
      have hvl := value_leaf t v hp pm g c mv none none 0 0 0 0 2 (W1.alloc (.cells #[.int .i64 4, .string t, zs, zs] 37)) (hfa.at hm1 trivial) (hfa.at hg1 trivial) hgp h0 hc (by omega) (by omega)
      go_wp2_with fail
      refine hvl.mono ?_
      rintro e w2 ⟨rfl, hm2, hf2⟩
      clear hvl l0 l1 l2 l3
      have hs2 : w.heap.size + 2 + 1 ≤ w2.heap.size := (by rw [← hs1]; exact Nat.le_trans (Nat.le_of_eq (by simp)) hf2.size)
      have hf12 : Fr W1 w2 (fun b => b ≠ pm) := (hfa.mono (fun _ _ _ => trivial)).trans hf2
      have hown2 := ownsRow_fr hown hf12 (fun g e => by cases e; show w.heap.size + 1 ≠ pm; omega)
      have hF2 := hfw1.trans hf12
      go_upto_region 10 with fail
      obtain ⟨W3, hW3⟩ : ∃ W3, w2.alloc (.cells #[.int .i64 3, .int .i64 v, zs, zs, zs] 29) = W3 := ⟨_, rfl⟩
      have hown3 : W3.ownsRow w.heap.size 29 5 (.slice (some ⟨w.heap.size + 1, 0, none⟩) 0 1) 0 [] := by rw [← hW3]; exact hown2.alloc _
      have hm3 : W3.heap[pm]? = some (mk3 g (c + 1) mv) := by rw [← hW3]; exact old_at _ hm2
      have hF3 : Fr w W3 (fun b => b ≠ pm) := by rw [← hW3]; exact hF2.alloc _
      have hs3 : w.heap.size + 2 + 1 ≤ W3.heap.size := by rw [← hW3]; simp; omega
      have hx3 : W3.heap[w2.heap.size]? = some (.cells #[.int .i64 3, .int .i64 v, zs, zs, zs] 29 (0, 0)) := by rw [← hW3]; exact new_at rfl _
      clear hf2 hf12 hfa hl1 hg1 hm1 hown hown2 hF2 hm2 hfw1
      rw [hW3]
      clear hW3
      obtain ⟨p0, p1, p2, p3, p4⟩ := cells_5 hx3
      obtain ⟨i26, hi26, hz260, hz261, hz262⟩ := info_parts Tryz.info29
      have hcw : ∀ j u, [Value.int .i64 3, Value.int .i64 v, zs, zs, zs][j]? = some u → (W3.alloc (.cells #[.int .i64 3, .int .i64 v, zs, zs, zs] 29)).cell? (Addr.add ⟨W3.heap.size, 0, none⟩ j) = some u := fun j u hj => by
        have hB := new_at (W := W3) (n := W3.heap.size) rfl (.cells #[.int .i64 3, .int .i64 v, zs, zs, zs] 29 (0, 0))
        rw [addr_addB, Nat.zero_add, cell_of_row _ _ _ _ _ _ hB]
        simpa using hj
      have HCW := Lib.hid hcw
      have HSS := Lib.hid (show w.heap.size ≤ (W3.alloc (.cells #[.int .i64 3, .int .i64 v, zs, zs, zs] 29)).heap.size by simp; omega)
      clear hcw hx3
      go_wp2_with (at_builtin; refine wpList_append_own_at _ rfl _ _ 26 rfl w.heap.size 29 i26 _ 5 88 Tryz.underlying26 hi26 hz260 hz261 hz262 rfl (by decide) _ _ _ rfl (hown3.alloc _) ⟨W3.heap.size, 0, none⟩ 1 1 [.int .i64 3, .int .i64 v, zs, zs, zs] rfl rfl HCW.out (by intro u hu; simp at hu; rcases hu with rfl | rfl | rfl | rfl | rfl <;> rfl) (by unfold maxLen; omega) (by omega) HSS.out ?_; intro v5 w5 hown5 hg5 _ hb5)
      have hg6 : (W3.alloc (.cells #[.int .i64 3, .int .i64 v, zs, zs, zs] 29)).grownBy w5 (some (w.heap.size + 1)) := hg5
      have hm5 : w5.heap[pm]? = some (mk3 g (c + 1) mv) := by
        rw [hg6.block pm (by have := hm3; have := blk_lt hm3; simp; omega) (by intro e; cases e; omega)]
        exact old_at _ hm3
      have hF5 : Fr w w5 (fun b => b ≠ pm) := fr_new (hF3.alloc _) hg6 (by omega)
      go_roundg 0
      case measure => have := HGK.out; omega
      case rel => exact .inr ⟨rfl, rfl, hown5, hm5, hF5⟩
    · have HO := Lib.hid ho
      have HM := Lib.hid hmw
      clear ho hmw hown
      go_wp2
      go_ret2
      exact ⟨_, rfl, HO.out, HM.out, hfw⟩
end Go.Proofs.YtfboecnhakihnaaGreatDoor

namespace Go.Proofs.YtfboecnhakihnaaGreatDoor
open Go.RowKit Go.Shelf

theorem own_setlow {W : World} {base e size n b j : Nat} {v u : Value} {xs : List Value} (hb : b < base) (h : W.ownsRow base e size v n xs) : (W.setCell ⟨b, j, none⟩ u).ownsRow base e size v n xs := by
  refine ⟨h.1, ?_⟩
  rcases h.2 with h0 | ⟨g, cap, cur, rfl, hg, hc, hr⟩
  · exact .inl h0
  · exact .inr ⟨g, cap, cur, rfl, hg, (Below.heap_setCell _ _ _ _ (by show g ≠ b; omega)).trans hc, hr⟩
set_option maxHeartbeats 2000000 in
theorem value_root (t : ByteArray) (v : Int) (hp : ParsesTo t v) (pm g lb : Nat) (c : Int) (mv : Value) (w : World) (hlp : lb ≠ pm) (hl : w.heap[lb]? = some (.cells #[.int .i64 4, .string t, zs, zs] 37 (0, 0))) (hm : w.heap[pm]? = some (mk3 g c mv)) (hg : w.heap[g]? = some (.cells nodes2 61 (0, 0))) (hgp : g ≠ pm) (h0 : 0 ≤ c) (hc : c < 99) :
    Calls Tryz.prog 38 #[.pointer (some ⟨pm, 0, none⟩), .int .i64 0, .agg #[.int .i64 6, .string ⟨#[]⟩, .slice (some ⟨lb, 0, none⟩) 1 1, zs], .int .i64 1] w fun e w' => ∃ u, e = .returned (.tuple #[.agg #[.int .i64 11, .int .i64 0, zs, u, zs], .bool true]) ∧ w'.ownsRow w.heap.size 29 5 u 1 [.int .i64 3, .int .i64 v, zs, zs, zs] ∧ w'.heap[pm]? = some (mk3 g (c + 2) mv) ∧ Fr w w' (fun b => b ≠ pm) := by
  have hwm := blk_lt hm
  have hwg := blk_lt hg
  have hwl := blk_lt hl
  obtain ⟨W0, hW0⟩ : ∃ W0, (w.alloc (.cells #[.int .i64 6, .string ⟨#[]⟩, .slice (some ⟨lb, 0, none⟩) 1 1, zs] 37)).alloc (.cells #[.int .i64 0, .int .i64 0, zs, zs, zs] 29) = W0 := ⟨_, rfl⟩
  have hs0 : W0.heap.size = w.heap.size + 2 := by rw [← hW0]; simp
  have hf0 : Fr w W0 (fun _ => True) := by rw [← hW0]; exact ((Fr.refl w _).alloc _).alloc _
  have hm0 := hf0.at hm trivial
  have hg0 := hf0.at hg trivial
  have hl0 := hf0.at hl trivial
  have hj0 : W0.heap[w.heap.size]? = some (.cells #[.int .i64 6, .string ⟨#[]⟩, .slice (some ⟨lb, 0, none⟩) 1 1, zs] 37 (0, 0)) := by rw [← hW0]; exact old_at _ (new_at rfl _)
  have hr0 : W0.heap[w.heap.size + 1]? = some (.cells #[.int .i64 0, .int .i64 0, zs, zs, zs] 29 (0, 0)) := by rw [← hW0]; exact new_at (by simp) _
  have m0 : W0.cell? ⟨pm, 0, none⟩ = some (.slice (some ⟨g, 0, none⟩) 2 2) := cell_of_row W0 pm 0 _ _ _ hm0
  have m1 : W0.cell? ⟨pm, 1, none⟩ = some (.int .i64 c) := cell_of_row W0 pm 1 _ _ _ hm0
  have f1 : W0.frozen? ⟨pm, 1, none⟩ = false := frozen_of_row W0 pm 1 _ _ hm0
  have hroom := room_ok pm g c mv 1 W0 hm0 (by omega) h0 (by omega)
  go_enter Tryz.func38, Tryz.ntmps38
  go_wp2_with fail
  refine hroom.mono ?_
  rintro e wx ⟨rfl, hwx⟩
  subst hwx
  clear hroom
  have n0 : ∀ (W : World) (i : Nat) (u : Value), W.heap[g]? = some (.cells nodes2 61 (0, 0)) → nodes2[i]? = some u → W.cell? ⟨g, i, none⟩ = some u := fun W i u h hu => by rw [cell_of_row W g i _ _ _ h, hu]
  have HN := Lib.hid n0
  clear n0
  obtain ⟨Wy, hWy⟩ : ∃ Wy, wx.setCell ⟨pm, 1, none⟩ (.int .i64 (c + 1)) = Wy := ⟨_, rfl⟩
  have hsx : Wy.heap.size = w.heap.size + 2 := by rw [← hWy, ← hs0]; simp [World.setCell]
  have hfs : Fr wx Wy (fun b => b ≠ pm) := by rw [← hWy]; exact Fr.of (gset wx pm 1 _) (fun b _ hb e => hb (by cases e; rfl))
  have hmy : Wy.heap[pm]? = some (mk3 g (c + 1) mv) := by rw [← hWy, heap_setCell_same wx pm 1 _ _ _ hm0]; rfl
  go_upto_region 5 with fail
  obtain ⟨W2, hW2⟩ : ∃ W2, Wy.alloc (.cells #[.int .i64 0, .int .i64 0, zs, zs, zs] 29) = W2 := ⟨_, rfl⟩
  have hs2 : W2.heap.size = w.heap.size + 3 := by rw [← hW2]; simp [hsx]
  have hf2 : Fr wx W2 (fun b => b ≠ pm) := by rw [← hW2]; exact hfs.alloc _
  have hm2 : W2.heap[pm]? = some (mk3 g (c + 1) mv) := by rw [← hW2]; exact old_at _ hmy
  have hg2 := hf2.at hg0 hgp
  have hl2 := hf2.at hl0 hlp
  have hj2 := hf2.at hj0 (by omega)
  have hr2 := hf2.at hr0 (by omega)
  have ho2 : W2.heap[w.heap.size + 2]? = some (.cells #[.int .i64 0, .int .i64 0, zs, zs, zs] 29 (0, 0)) := by rw [← hW2]; exact new_at hsx _
  clear hj0 hr0 hg0 hl0 hWy hmy
  clear hW0 hs0 m0 m1 f1 hsx hfs hm0 hm hg
  have k0 := HN.out W2 0 _ hg2 rfl
  have k1 := HN.out W2 1 _ hg2 rfl
  have k2 := HN.out W2 2 _ hg2 rfl
  have k3 := HN.out W2 3 _ hg2 rfl
  have k4 := HN.out W2 4 _ hg2 rfl
  have k5 := HN.out W2 5 _ hg2 rfl
  have k6 := HN.out W2 6 _ hg2 rfl
  have k7 := HN.out W2 7 _ hg2 rfl
  have k8 := HN.out W2 8 _ hg2 rfl
  have k9 := HN.out W2 9 _ hg2 rfl
  have m0 : W2.cell? ⟨pm, 0, none⟩ = some (.slice (some ⟨g, 0, none⟩) 2 2) := cell_of_row W2 pm 0 _ _ _ hm2
  have j0 : W2.cell? ⟨w.heap.size, 0, none⟩ = some (.int .i64 6) := cell_of_row W2 w.heap.size 0 _ _ _ hj2
  have j1 : W2.cell? ⟨w.heap.size, 1, none⟩ = some (.string ⟨#[]⟩) := cell_of_row W2 w.heap.size 1 _ _ _ hj2
  have j2 : W2.cell? ⟨w.heap.size, 2, none⟩ = some (.slice (some ⟨lb, 0, none⟩) 1 1) := cell_of_row W2 w.heap.size 2 _ _ _ hj2
  have j3 : W2.cell? ⟨w.heap.size, 3, none⟩ = some zs := cell_of_row W2 w.heap.size 3 _ _ _ hj2
  have hf3 : Fr W2 (W2.alloc (.cells #[.int .i64 11, .string ⟨#[]⟩, zs, zs, zs, .bool false, .string ⟨#[]⟩, .int .i64 1, zs, .int .i64 0] 61)) (fun _ => True) := (Fr.refl W2 _).alloc _
  have hsg := list_one t v hp pm g lb (c + 1) mv (W2.alloc (.cells #[.int .i64 11, .string ⟨#[]⟩, zs, zs, zs, .bool false, .string ⟨#[]⟩, .int .i64 1, zs, .int .i64 0] 61)) (hf3.at hm2 trivial) (hf3.at hg2 trivial) hgp hlp (hf3.at hl2 trivial) (by omega) (by omega)
  go_wp2_with fail
  refine hsg.mono ?_
  rintro e w4 ⟨u, rfl, hown4, hm4, hb4⟩
  clear hsg k0 k1 k2 k3 k4 k5 k6 k7 k8 k9 m0 j0 j1 j2 j3
  have hf4 : Fr W2 w4 (fun b => b ≠ pm) := (hf3.mono (fun _ _ _ => trivial)).trans hb4
  have hg4 := hf4.at hg2 hgp
  have hr4 := hf4.at hr2 (by omega)
  have ho4 := hf4.at ho2 (by omega)
  have m0 : w4.cell? ⟨pm, 0, none⟩ = some (.slice (some ⟨g, 0, none⟩) 2 2) := cell_of_row w4 pm 0 _ _ _ hm4
  have k0 := HN.out w4 0 _ hg4 rfl
  obtain ⟨p0, p1, p2, p3, p4⟩ := cells_5 ho4
  obtain ⟨q0, q1, q2, q3, q4⟩ := cells_5 hr4
  obtain ⟨y0, y1, y2, y3, y4⟩ := frozen_5 ho4
  obtain ⟨z0, z1, z2, z3, z4⟩ := frozen_5 hr4
  have HOW := Lib.hid hown4
  obtain ⟨Au, cu, hu, _⟩ := own_open hown4 (by omega)
  subst hu
  have hs3 : (W2.alloc (.cells #[.int .i64 11, .string ⟨#[]⟩, zs, zs, zs, .bool false, .string ⟨#[]⟩, .int .i64 1, zs, .int .i64 0] 61)).heap.size = w.heap.size + 4 := by simp [hs2]
  rw [hs3] at HOW
  have HB := Lib.hid hb4
  clear hown4 hb4 hs3 hf3
  go_wp2
  refine bodyPost_ret (v := .tuple #[.agg #[.int .i64 11, .int .i64 0, zs, .slice Au 1 cu, zs], .bool true]) ?_ rfl ⟨_, rfl, ?_, ?_, ?_⟩
  · simp [results, Tryz.results38, go_sem, q0, q1, q2, q3, q4]
  · refine Joins.ownsRow_le (base := w.heap.size + 4) ?_ (by omega)
    have := HOW.out
    repeat (first | with_reducible exact this | (with_reducible refine own_setlow (by omega) ?_))
  · have hm5 : w4.heap[pm]? = some (mk3 g (c + 2) mv) := by rw [hm4, show c + 1 + 1 = c + 2 by omega]
    repeat (first | with_reducible exact hm5 | (with_reducible refine at_set (by omega) ?_))
  · have hfw : Fr w w4 (fun b => b ≠ pm) := ((hf0.mono (fun _ _ _ => trivial)).trans hf2).trans hf4
    repeat (first | with_reducible exact hfw | (with_reducible refine fr_set (by omega) ?_))
end Go.Proofs.YtfboecnhakihnaaGreatDoor

namespace Go.Proofs.YtfboecnhakihnaaGreatDoor
open Go.RowKit Go.Shelf

theorem below_of_fr {w w' : World} (h : Fr w w' (fun b => b < w.heap.size)) : Below w.heap.size w w' := ⟨h.os, h.tape, h.output, h.size, fun k hk => h.block k hk hk⟩
set_option maxHeartbeats 2000000 in
theorem default_one (t : ByteArray) (v : Int) (hp : ParsesTo t v) (g lb : Nat) (w : World) (hl : w.heap[lb]? = some (.cells #[.int .i64 4, .string t, zs, zs] 37 (0, 0))) (hg : w.heap[g]? = some (.cells nodes2 61 (0, 0)))
    (hR : ∀ W, Below w.heap.size w W → Calls Tryz.prog 37 #[.agg #[.int .i64 6, .string ⟨#[]⟩, .slice (some ⟨lb, 0, none⟩) 1 1, zs]] W fun e w' => e = .returned (.bool true) ∧ Below W.heap.size W w') :
    Calls Tryz.prog 17 #[.agg #[.slice (some ⟨g, 0, none⟩) 2 2], .int .i64 0, .agg #[.int .i64 6, .string ⟨#[]⟩, .slice (some ⟨lb, 0, none⟩) 1 1, zs]] w fun e w' => ∃ u, e = .returned (.tuple #[.agg #[.int .i64 11, .int .i64 0, zs, u, zs], .bool true]) ∧ w'.ownsRow w.heap.size 29 5 u 1 [.int .i64 3, .int .i64 v, zs, zs, zs] ∧ Below w.heap.size w w' := by
  have hwg := blk_lt hg
  have hwl := blk_lt hl
  go_enter Tryz.func17, Tryz.ntmps17
  go_wp2_with fail
  obtain ⟨W0, hW0⟩ : ∃ W0, ((w.alloc (.cells #[.slice (some ⟨g, 0, none⟩) 2 2] 24)).alloc (.cells #[.int .i64 6, .string ⟨#[]⟩, .slice (some ⟨lb, 0, none⟩) 1 1, zs] 37)).alloc (.cells #[.int .i64 0, .int .i64 0, zs, zs, zs] 29) = W0 := ⟨_, rfl⟩
  have hb0 : Below w.heap.size w W0 := by rw [← hW0]; exact (((Below.refl _ w).alloc (Nat.le_refl _) _).alloc (by simp) _).alloc (by simp; omega) _
  have hs0 : W0.heap.size = w.heap.size + 3 := by rw [← hW0]; simp
  have a0 : W0.heap[w.heap.size]? = some (.cells #[.slice (some ⟨g, 0, none⟩) 2 2] 24 (0, 0)) := by rw [← hW0]; exact old_at _ (old_at _ (new_at rfl _))
  have b0 : W0.heap[w.heap.size + 1]? = some (.cells #[.int .i64 6, .string ⟨#[]⟩, .slice (some ⟨lb, 0, none⟩) 1 1, zs] 37 (0, 0)) := by rw [← hW0]; exact old_at _ (new_at (by simp) _)
  have r0 : W0.heap[w.heap.size + 2]? = some (.cells #[.int .i64 0, .int .i64 0, zs, zs, zs] 29 (0, 0)) := by rw [← hW0]; exact new_at (by simp) _
  rw [hW0]
  refine (hR W0 hb0).mono ?_
  rintro e w1 ⟨rfl, hb1⟩
  have hf1 := below_fr0 hb1
  have hf0 : Fr w w1 (fun _ => True) := (below_fr0 hb0).trans hf1
  have hg1 := hf0.at hg trivial
  have hl1 := hf0.at hl trivial
  have a1 := hf1.at a0 trivial
  have b1 := hf1.at b0 trivial
  have r1 := hf1.at r0 trivial
  have hs1 : w.heap.size + 3 ≤ w1.heap.size := by rw [← hs0]; exact hf1.size
  have j0 : w1.cell? ⟨w.heap.size + 1, 0, none⟩ = some (.int .i64 6) := cell_of_row _ _ 0 _ _ _ b1
  have j1 : w1.cell? ⟨w.heap.size + 1, 1, none⟩ = some (.string ⟨#[]⟩) := cell_of_row _ _ 1 _ _ _ b1
  have j2 : w1.cell? ⟨w.heap.size + 1, 2, none⟩ = some (.slice (some ⟨lb, 0, none⟩) 1 1) := cell_of_row _ _ 2 _ _ _ b1
  have j3 : w1.cell? ⟨w.heap.size + 1, 3, none⟩ = some zs := cell_of_row _ _ 3 _ _ _ b1
  have s0 : w1.cell? ⟨w.heap.size, 0, none⟩ = some (.slice (some ⟨g, 0, none⟩) 2 2) := cell_of_row _ _ 0 _ _ _ a1
  clear hW0 a0 b0 r0 hb1 hR
  have hmm := @run_makeMap Tryz.prog
  go_upto_region 4 with fail
  obtain ⟨W2, hW2⟩ : ∃ W2, (w1.alloc (.map #[] 0)).alloc (.cells #[.slice (some ⟨g, 0, none⟩) 2 2, .int .i64 0, .map (some w1.heap.size)] 82) = W2 := ⟨_, rfl⟩
  rw [hW2]
  have hf2 : Fr w1 W2 (fun _ => True) := by rw [← hW2]; exact ((Fr.refl w1 _).alloc _).alloc _
  have hm2 : W2.heap[w1.heap.size + 1]? = some (mk3 g 0 (.map (some w1.heap.size))) := by rw [← hW2]; exact new_at (by simp) _
  have r2 := hf2.at r1 trivial
  have j0' := hf2.cell j0 trivial
  have j1' := hf2.cell j1 trivial
  have j2' := hf2.cell j2 trivial
  have j3' := hf2.cell j3 trivial
  have hv := value_root t v hp (w1.heap.size + 1) g lb 0 (.map (some w1.heap.size)) W2 (by omega) (hf2.at hl1 trivial) hm2 (hf2.at hg1 trivial) (by omega) (by omega) (by omega)
  clear hmm j0 j1 j2 j3 s0 hW2
  go_wp2_with fail
  refine hv.mono ?_
  rintro e w3 ⟨u, rfl, how, _, hf3⟩
  have r3 := hf3.at r2 (by omega)
  obtain ⟨q0, q1, q2, q3, q4⟩ := cells_5 r3
  obtain ⟨z0, z1, z2, z3, z4⟩ := frozen_5 r3
  obtain ⟨Au, cu, hu, _⟩ := own_open how (by omega)
  subst hu
  have HO := Lib.hid (Joins.ownsRow_le (base' := w.heap.size + 3) how (by have := hf2.size; omega))
  have hF : Fr w w3 (fun b => b < w.heap.size) := (hf0.mono (fun _ _ _ => trivial)).trans ((hf2.mono (fun _ _ _ => trivial)).trans (hf3.mono (fun b hb h => by omega)))
  have HF := Lib.hid hF
  clear how hF hf3 hv
  go_wp2
  refine bodyPost_ret (v := .tuple #[.agg #[.int .i64 11, .int .i64 0, zs, .slice Au 1 cu, zs], .bool true]) ?_ rfl ⟨_, rfl, ?_, ?_⟩
  · simp [results, Tryz.results17, go_sem, q0, q1, q2, q3, q4]
  · refine Joins.ownsRow_le (base := w.heap.size + 3) ?_ (by omega)
    have := HO.out
    repeat (first | with_reducible exact this | (with_reducible refine own_setlow (by omega) ?_))
  · have h := HF.out
    refine below_of_fr ?_
    repeat (first | with_reducible exact h | (with_reducible refine fr_set (by omega) ?_))
end Go.Proofs.YtfboecnhakihnaaGreatDoor
