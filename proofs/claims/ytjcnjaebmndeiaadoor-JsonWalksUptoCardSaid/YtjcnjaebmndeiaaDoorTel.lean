/-
  The teller's 'tell': a copy, as long as there is room.
-/
import Derived.Test.YtjcnjaebmndeiaaDoorCpy
namespace Go.Proofs.YtjcnjaebmndeiaaDoor
open Go.RowKit

set_option maxHeartbeats 2000000 in
set_option maxRecDepth 100000 in
theorem tell_any (tb : Nat) (room : Int) (z : Z) (w : World) (v0 v1 v2 v3 : Value) (ht : w.heap[tb]? = some (.cells #[.int .i64 room] 79 (0, 0))) (hz : ZIn w (fun b => b < w.heap.size ∧ b ≠ tb) z v0 v1 v2 v3) (hc : zc z ≤ 100000) (hk : zk z ≤ 100000)
    (hr1 : (72 * zc z + 16 * zk z : Nat) < room) (hr2 : room ≤ 2147483647) :
    Calls Tryd.prog 49 #[.pointer (some ⟨tb, 0, none⟩), .agg #[v0, v1, v2, v3]] w fun e w' => ∃ d0 d1 d2 d3, e = .returned (.agg #[d0, d1, d2, d3]) ∧ ZIn w' (fun b => w.heap.size ≤ b) z d0 d1 d2 d3 ∧
      w'.heap[tb]? = some (.cells #[.int .i64 (room - (72 * zc z + 16 * zk z : Nat))] 79 (0, 0)) ∧ Fr w w' (fun b => b ≠ tb) := by
  obtain ⟨kk, tt, A0, n1, c1, A1, n2, c2, rfl, rfl, rfl, rfl⟩ := zin_agg hz
  have htb := blk_lt ht
  have hfr : Fr w ((w.alloc (.cells #[.int .i64 kk, .string tt, .slice A0 n1 c1, .slice A1 n2 c2] 26)).alloc (.cells #[.int .i64 0, .string ⟨#[]⟩, .slice none 0 0, .slice none 0 0] 26)) (fun _ => True) := ((Fr.refl w _).alloc _).alloc _
  have hB0 : ((w.alloc (.cells #[.int .i64 kk, .string tt, .slice A0 n1 c1, .slice A1 n2 c2] 26)).alloc (.cells #[.int .i64 0, .string ⟨#[]⟩, .slice none 0 0, .slice none 0 0] 26)).heap[w.heap.size]? = some (.cells #[.int .i64 kk, .string tt, .slice A0 n1 c1, .slice A1 n2 c2] 26 (0, 0)) := old_at _ (new_at rfl _)
  have hR0 : ((w.alloc (.cells #[.int .i64 kk, .string tt, .slice A0 n1 c1, .slice A1 n2 c2] 26)).alloc (.cells #[.int .i64 0, .string ⟨#[]⟩, .slice none 0 0, .slice none 0 0] 26)).heap[w.heap.size + 1]? = some (.cells #[.int .i64 0, .string ⟨#[]⟩, .slice none 0 0, .slice none 0 0] 26 (0, 0)) := new_at (by simp) _
  have hs0 : w.heap.size + 1 < ((w.alloc (.cells #[.int .i64 kk, .string tt, .slice A0 n1 c1, .slice A1 n2 c2] 26)).alloc (.cells #[.int .i64 0, .string ⟨#[]⟩, .slice none 0 0, .slice none 0 0] 26)).heap.size := by simp
  have hT0 := hfr.at ht trivial
  have t0 : ((w.alloc (.cells #[.int .i64 kk, .string tt, .slice A0 n1 c1, .slice A1 n2 c2] 26)).alloc (.cells #[.int .i64 0, .string ⟨#[]⟩, .slice none 0 0, .slice none 0 0] 26)).cell? ⟨tb, 0, none⟩ = some (.int .i64 room) := by rw [cell_of_row _ _ _ _ _ _ hT0]; rfl
  have hzat : ∀ W, Fr w W (fun b => b ≠ tb) → ZIn W (fun b => b < W.heap.size) z (.int .i64 kk) (.string tt) (.slice A0 n1 c1) (.slice A1 n2 c2) := fun W hW => (hz.fr hW (fun _ h => h.2)).mono (fun b _ hb => Nat.lt_of_lt_of_le hb.1 hW.size)
  have hcount : ∀ W, Fr w W (fun b => b ≠ tb) → Calls Tryd.prog 66 #[.agg #[.int .i64 kk, .string tt, .slice A0 n1 c1, .slice A1 n2 c2]] W fun e w' => e = .returned (.tuple #[.int .i64 (zc z), .int .i64 (zk z)]) ∧ Below W.heap.size W w' := fun W hW => by
    obtain ⟨kids, hv⟩ := (hzat W hW).vt
    exact count_any (.mk z (.int .i64 kk) (.string tt) (.slice A0 n1 c1) (.slice A1 n2 c2) kids) W hv hc hk
  have hcopy : ∀ W, Fr w W (fun b => b ≠ tb) → Calls Tryd.prog 67 #[.agg #[.int .i64 kk, .string tt, .slice A0 n1 c1, .slice A1 n2 c2], .int .i64 (zc z : Int), .int .i64 (zk z : Int)] W (CopyP W z) := fun W hW => copied_any z W _ _ _ _ (hzat W hW) (zc z) (zk z) rfl rfl hc hk
  have HC := Lib.hid hcount
  have HD := Lib.hid hcopy
  obtain ⟨p0, p1, p2, p3⟩ := cells_4 hB0
  have hrp : ¬ room ≤ 0 := by omega
  clear hcount hcopy hz hzat
  generalize zc z = N at *
  generalize zk z = K at *
  have hrp2 : ¬ (room - (72 * (N : Int) + 16 * (K : Int))) ≤ 0 := by omega
  have hcast : (room - ((72 * N + 16 * K : Nat) : Int)) = room - (72 * (N : Int) + 16 * (K : Int)) := by omega
  rw [hcast]
  have hNi : (0 : Int) ≤ (N : Int) ∧ (N : Int) ≤ 100000 := by omega
  have hKi : (0 : Int) ≤ (K : Int) ∧ (K : Int) ≤ 100000 := by omega
  clear hcast
  go_enter Tryd.func49, Tryd.ntmps49
  go_wp2_with fail
  generalize ((w.alloc (.cells #[.int .i64 kk, .string tt, .slice A0 n1 c1, .slice A1 n2 c2] 26)).alloc (.cells #[.int .i64 0, .string ⟨#[]⟩, .slice none 0 0, .slice none 0 0] 26)) = W0 at *
  refine (HC.out W0 (hfr.mono (fun _ _ _ => trivial))).mono ?_
  rintro e w1 ⟨rfl, hb1⟩
  have hf1 : Fr w w1 (fun _ => True) := hfr.trans (below_fr0 hb1)
  have hB1 := (below_fr0 hb1).at hB0 trivial
  have hR1 := (below_fr0 hb1).at hR0 trivial
  have hT1 := (below_fr0 hb1).at hT0 trivial
  have hs1 : w.heap.size + 1 < w1.heap.size := by have := hb1.size; omega
  have t1 : w1.cell? ⟨tb, 0, none⟩ = some (.int .i64 room) := by rw [cell_of_row _ _ _ _ _ _ hT1]; rfl
  have tf1 := frozen_of_row w1 tb 0 _ 79 hT1
  clear hB0 hR0 hT0 t0 p0 p1 p2 p3 hb1 hfr hs0 HC
  obtain ⟨p0, p1, p2, p3⟩ := cells_4 hB1
  have hfs : Fr w1 (w1.setCell ⟨tb, 0, none⟩ (.int .i64 (room - (72 * (N : Int) + 16 * (K : Int))))) (fun b => b ≠ tb) := Fr.of (gset w1 tb 0 _) (fun b _ hb e => hb (by cases e; rfl))
  have hTs : (w1.setCell ⟨tb, 0, none⟩ (.int .i64 (room - (72 * (N : Int) + 16 * (K : Int))))).heap[tb]? = some (.cells #[.int .i64 (room - (72 * (N : Int) + 16 * (K : Int)))] 79 (0, 0)) := by rw [heap_setCell_same w1 tb 0 _ 79 _ hT1]; rfl
  have hBs := hfs.at hB1 (show w.heap.size ≠ tb by omega)
  have hRs := hfs.at hR1 (show w.heap.size + 1 ≠ tb by omega)
  have hf2 : Fr w (w1.setCell ⟨tb, 0, none⟩ (.int .i64 (room - (72 * (N : Int) + 16 * (K : Int))))) (fun b => b ≠ tb) := (hf1.mono (fun _ _ _ => trivial)).trans hfs
  have ts : (w1.setCell ⟨tb, 0, none⟩ (.int .i64 (room - (72 * (N : Int) + 16 * (K : Int))))).cell? ⟨tb, 0, none⟩ = some (.int .i64 (room - (72 * (N : Int) + 16 * (K : Int)))) := by rw [cell_of_row _ _ _ _ _ _ hTs]; rfl
  obtain ⟨q0, q1, q2, q3⟩ := cells_4 hBs
  have hcp := HD.out _ hf2
  have hss := hfs.size
  clear hB1 hR1 hT1 hBs HD
  go_wp2_with fail
  generalize hWs : (w1.setCell ⟨tb, 0, none⟩ (.int .i64 (room - (72 * (N : Int) + 16 * (K : Int))))) = Ws at *
  have HWs := Lib.hid hWs
  clear hWs
  refine hcp.mono ?_
  rintro e w2 ⟨d0, d1, d2, d3, rfl, hd, hb2⟩
  have hR2 := (below_fr0 hb2).at hRs trivial
  have hT2 := (below_fr0 hb2).at hTs trivial
  have hf3 : Fr w w2 (fun b => b ≠ tb) := hf2.trans ((below_fr0 hb2).mono (fun _ _ _ => trivial))
  obtain ⟨r0, r1, r2, r3⟩ := cells_4 hR2
  obtain ⟨f0, f1, f2, f3⟩ := frozen_4 hR2
  have hset := fr_set4 w2 (w.heap.size + 1) d0 d1 d2 d3
  have hd3 := (hd.fr (ok' := fun b => b ≠ w.heap.size + 1) hset (fun b hb => by omega)).mono (ok' := fun b => w.heap.size ≤ b) (fun b _ hb => by omega)
  have hT3 := hset.at hT2 (show tb ≠ w.heap.size + 1 by omega)
  have hf4 : Fr w ((((w2.setCell ⟨w.heap.size + 1, 0, none⟩ d0).setCell ⟨w.heap.size + 1, 1, none⟩ d1).setCell ⟨w.heap.size + 1, 2, none⟩ d2).setCell ⟨w.heap.size + 1, 3, none⟩ d3) (fun b => b ≠ tb) :=
    ⟨hset.os.trans hf3.os, hset.tape.trans hf3.tape, hset.output.trans hf3.output, Nat.le_trans hf3.size hset.size, fun b hb hn => (hset.block b (by have := hf3.size; omega) (by omega)).trans (hf3.block b hb hn)⟩
  have HDD := Lib.hid hd3
  have HT3 := Lib.hid hT3
  have HF4 := Lib.hid hf4
  obtain ⟨k9, t9, A9, n9, c9, B9, m9, s9, rfl, rfl, rfl, rfl⟩ := zin_agg hd
  clear hRs hTs hR2 hT2 hT3 q0 q1 q2 q3 hb2 hd hd3 hset hf4 hf3 hcp
  go_wp2
  refine bodyPost_ret (v := .agg #[.int .i64 k9, .string t9, .slice A9 n9 c9, .slice B9 m9 s9]) (by simp [results, Tryd.results49, go_sem, r0, r1, r2, r3]) rfl ?_
  exact ⟨_, _, _, _, rfl, HDD.out, HT3.out, HF4.out⟩
end Go.Proofs.YtjcnjaebmndeiaaDoor
