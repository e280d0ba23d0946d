/-
  The teller's 'tell': a copy, as long as there is room.
-/
import Derived.Test.YtfboecnhakihnaaGreatDoorUcq
namespace Go.Proofs.YtfboecnhakihnaaGreatDoor
open Go.RowKit Go.Shelf

/-- What a value takes of the room. -/
def ucost (z : U) : Nat := 88 * uc z + uo z + 16 * uk z
set_option maxHeartbeats 2000000 in
set_option maxRecDepth 100000 in
theorem tell_any (tb : Nat) (room : Int) (z : U) (w : World) (v0 v1 v2 v3 v4 : Value) (ht : w.heap[tb]? = some (.cells #[.int .i64 room] 101 (0, 0))) (hz : UIn w (fun b => b < w.heap.size ∧ b ≠ tb) z v0 v1 v2 v3 v4) (hc : uc z ≤ 100000) (ho : uo z ≤ 1000000) (hk : uk z ≤ 100000)
    (hr1 : (ucost z : Nat) < room) (hr2 : room ≤ 2147483647) :
    Calls Tryz.prog 49 #[.pointer (some ⟨tb, 0, none⟩), .agg #[v0, v1, v2, v3, v4]] w fun e w' => ∃ d0 d1 d2 d3 d4, e = .returned (.agg #[d0, d1, d2, d3, d4]) ∧ UIn w' (fun b => w.heap.size ≤ b) z d0 d1 d2 d3 d4 ∧
      w'.heap[tb]? = some (.cells #[.int .i64 (room - (ucost z : Nat))] 101 (0, 0)) ∧ Fr w w' (fun b => b ≠ tb) := by
  obtain ⟨kk, nn, B, n0, c0, A0, n1, c1, A1, n2, c2, rfl, rfl, rfl, rfl, rfl⟩ := uin_agg hz
  have htb := blk_lt ht
  have hfr : Fr w ((w.alloc (.cells #[.int .i64 kk, .int .i64 nn, .slice B n0 c0, .slice A0 n1 c1, .slice A1 n2 c2] 29)).alloc (.cells #[.int .i64 0, .int .i64 0, .slice none 0 0, .slice none 0 0, .slice none 0 0] 29)) (fun _ => True) := ((Fr.refl w _).alloc _).alloc _
  have hB0 : ((w.alloc (.cells #[.int .i64 kk, .int .i64 nn, .slice B n0 c0, .slice A0 n1 c1, .slice A1 n2 c2] 29)).alloc (.cells #[.int .i64 0, .int .i64 0, .slice none 0 0, .slice none 0 0, .slice none 0 0] 29)).heap[w.heap.size]? = some (.cells #[.int .i64 kk, .int .i64 nn, .slice B n0 c0, .slice A0 n1 c1, .slice A1 n2 c2] 29 (0, 0)) := old_at _ (new_at rfl _)
  have hR0 : ((w.alloc (.cells #[.int .i64 kk, .int .i64 nn, .slice B n0 c0, .slice A0 n1 c1, .slice A1 n2 c2] 29)).alloc (.cells #[.int .i64 0, .int .i64 0, .slice none 0 0, .slice none 0 0, .slice none 0 0] 29)).heap[w.heap.size + 1]? = some (.cells #[.int .i64 0, .int .i64 0, .slice none 0 0, .slice none 0 0, .slice none 0 0] 29 (0, 0)) := new_at (by simp) _
  have hs0 : w.heap.size + 1 < ((w.alloc (.cells #[.int .i64 kk, .int .i64 nn, .slice B n0 c0, .slice A0 n1 c1, .slice A1 n2 c2] 29)).alloc (.cells #[.int .i64 0, .int .i64 0, .slice none 0 0, .slice none 0 0, .slice none 0 0] 29)).heap.size := by simp
  have hT0 := hfr.at ht trivial
  have t0 : ((w.alloc (.cells #[.int .i64 kk, .int .i64 nn, .slice B n0 c0, .slice A0 n1 c1, .slice A1 n2 c2] 29)).alloc (.cells #[.int .i64 0, .int .i64 0, .slice none 0 0, .slice none 0 0, .slice none 0 0] 29)).cell? ⟨tb, 0, none⟩ = some (.int .i64 room) := by rw [cell_of_row _ _ _ _ _ _ hT0]; rfl
  have hzat : ∀ W, Fr w W (fun b => b ≠ tb) → UIn W (fun b => b < W.heap.size) z (.int .i64 kk) (.int .i64 nn) (.slice B n0 c0) (.slice A0 n1 c1) (.slice A1 n2 c2) := fun W hW => (hz.fr hW (fun _ h => h.2)).mono (fun b _ hb => Nat.lt_of_lt_of_le hb.1 hW.size)
  have hcount : ∀ W, Fr w W (fun b => b ≠ tb) → Calls Tryz.prog 47 #[.agg #[.int .i64 kk, .int .i64 nn, .slice B n0 c0, .slice A0 n1 c1, .slice A1 n2 c2]] W fun e w' => e = .returned (.agg #[.int .i64 (uc z : Nat), .int .i64 (uo z : Nat), .int .i64 (uk z : Nat)]) ∧ Below W.heap.size W w' := fun W hW => by
    obtain ⟨kids, hv⟩ := (hzat W hW).vt
    exact measure_any (.mk z (.int .i64 kk) (.int .i64 nn) (.slice B n0 c0) (.slice A0 n1 c1) (.slice A1 n2 c2) kids) W hv hc ho hk
  have hcopy : ∀ W, Fr w W (fun b => b ≠ tb) → Calls Tryz.prog 46 #[.agg #[.int .i64 kk, .int .i64 nn, .slice B n0 c0, .slice A0 n1 c1, .slice A1 n2 c2], .agg #[.int .i64 (uc z : Nat), .int .i64 (uo z : Nat), .int .i64 (uk z : Nat)]] W (CopyP W z) := fun W hW => copied_any z W _ _ _ _ _ (hzat W hW) (uc z) (uo z) (uk z) rfl rfl rfl hc ho hk
  have HC := Lib.hid hcount
  have HD := Lib.hid hcopy
  have hrp : ¬ room ≤ 0 := by omega
  obtain ⟨p0, p1, p2, p3, p4⟩ := cells_5 hB0
  clear hcount hcopy hz hzat
  unfold ucost at *
  generalize uc z = N at *
  generalize uo z = O at *
  generalize uk z = K at *
  have hrp2 : ¬ (room - ((88 * (N : Int) + (O : Int)) + 16 * (K : Int))) ≤ 0 := by omega
  have hcast : (room - ((88 * N + O + 16 * K : Nat) : Int)) = room - ((88 * (N : Int) + (O : Int)) + 16 * (K : Int)) := by omega
  rw [hcast]
  have hNi : (0 : Int) ≤ (N : Int) ∧ (N : Int) ≤ 100000 := by omega
  have hKi : (0 : Int) ≤ (K : Int) ∧ (K : Int) ≤ 100000 := by omega
  have hOi : (0 : Int) ≤ (O : Int) ∧ (O : Int) ≤ 1000000 := by omega
  clear hcast
  go_enter Tryz.func49, Tryz.ntmps49
  go_wp2_with fail
  generalize ((w.alloc (.cells #[.int .i64 kk, .int .i64 nn, .slice B n0 c0, .slice A0 n1 c1, .slice A1 n2 c2] 29)).alloc (.cells #[.int .i64 0, .int .i64 0, .slice none 0 0, .slice none 0 0, .slice none 0 0] 29)) = W0 at *
  refine (HC.out W0 (hfr.mono (fun _ _ _ => trivial))).mono ?_
  rintro e w1 ⟨rfl, hb1⟩
  -- the counters in a cell of their own
  have hm2 := heap_alloc_new w1 (.cells #[.int .i64 N, .int .i64 O, .int .i64 K] 96 (0, 0))
  have hf2 : Fr w (w1.alloc (.cells #[.int .i64 N, .int .i64 O, .int .i64 K] 96)) (fun _ => True) := (hfr.trans (below_fr0 hb1)).alloc _
  have hB2 := ((below_fr0 hb1).alloc (.cells #[.int .i64 N, .int .i64 O, .int .i64 K] 96)).at hB0 trivial
  have hR2 := ((below_fr0 hb1).alloc (.cells #[.int .i64 N, .int .i64 O, .int .i64 K] 96)).at hR0 trivial
  have hT2 := ((below_fr0 hb1).alloc (.cells #[.int .i64 N, .int .i64 O, .int .i64 K] 96)).at hT0 trivial
  have hs1 : w.heap.size + 1 < w1.heap.size := by have := hb1.size; omega
  clear hB0 hR0 hT0 t0 p0 p1 p2 p3 p4 hb1 hfr hs0 HC
  go_upto_region 4 with fail
  generalize hW2 : (w1.alloc (.cells #[.int .i64 N, .int .i64 O, .int .i64 K] 96)) = W2 at *
  have hs2 : W2.heap.size = w1.heap.size + 1 := by rw [← hW2]; simp
  clear hW2
  have HS2 := Lib.hid hs2
  clear hs2
  have t2 : W2.cell? ⟨tb, 0, none⟩ = some (.int .i64 room) := by rw [cell_of_row _ _ _ _ _ _ hT2]; rfl
  have tf2 := frozen_of_row W2 tb 0 _ _ hT2
  obtain ⟨m0, m1, m2, _, _, _⟩ := msr_cells hm2
  go_still_tail 17, (by kernel_rfl)
  have e1 : IntKind.i64.wrap (88 * (N : Int)) = 88 * (N : Int) := IntWalk.i64_in _ (by omega)
  have e2 : IntKind.i64.wrap (88 * (N : Int) + (O : Int)) = 88 * (N : Int) + (O : Int) := IntWalk.i64_in _ (by omega)
  have e3 : IntKind.i64.wrap (16 * (K : Int)) = 16 * (K : Int) := IntWalk.i64_in _ (by omega)
  have e4 : IntKind.i64.wrap (88 * (N : Int) + (O : Int) + 16 * (K : Int)) = 88 * (N : Int) + (O : Int) + 16 * (K : Int) := IntWalk.i64_in _ (by omega)
  have e5 : IntKind.i64.wrap (room - (88 * (N : Int) + (O : Int) + 16 * (K : Int))) = room - (88 * (N : Int) + (O : Int) + 16 * (K : Int)) := IntWalk.i64_in _ (by omega)
  rw [e1, e2, e3, e4, e5]
  have hf3 : Fr w W2.drew (fun _ => True) := hf2.drewN 1
  have hB3 : W2.drew.heap[w.heap.size]? = some (.cells #[.int .i64 kk, .int .i64 nn, .slice B n0 c0, .slice A0 n1 c1, .slice A1 n2 c2] 29 (0, 0)) := hB2
  have hR3 : W2.drew.heap[w.heap.size + 1]? = some (.cells #[.int .i64 0, .int .i64 0, .slice none 0 0, .slice none 0 0, .slice none 0 0] 29 (0, 0)) := hR2
  have hT3 : W2.drew.heap[tb]? = some (.cells #[.int .i64 room] 101 (0, 0)) := hT2
  have hM3 : W2.drew.heap[w1.heap.size]? = some (.cells #[.int .i64 N, .int .i64 O, .int .i64 K] 96 (0, 0)) := hm2
  change wpList _ _ _ _ _ W2.drew
  clear e1 e2 e3 e4 e5 t2 tf2 m0 m1 m2 hm2 hB2 hR2 hT2 hf2 HS2
  generalize W2.drew = W3 at *
  generalize hroom : room - (88 * (N : Int) + (O : Int) + 16 * (K : Int)) = room2 at *
  have HROOM := Lib.hid hroom
  clear hroom
  have t3 : W3.cell? ⟨tb, 0, none⟩ = some (.int .i64 room) := by rw [cell_of_row _ _ _ _ _ _ hT3]; rfl
  have tf3 := frozen_of_row W3 tb 0 _ _ hT3
  have hfs : Fr W3 (W3.setCell ⟨tb, 0, none⟩ (.int .i64 room2)) (fun b => b ≠ tb) := Fr.of (gset W3 tb 0 _) (fun b _ hb e => hb (by cases e; rfl))
  have hTs : (W3.setCell ⟨tb, 0, none⟩ (.int .i64 room2)).heap[tb]? = some (.cells #[.int .i64 room2] 101 (0, 0)) := by rw [heap_setCell_same W3 tb 0 _ _ _ hT3]; rfl
  have hBs := hfs.at hB3 (show w.heap.size ≠ tb by omega)
  have hRs := hfs.at hR3 (show w.heap.size + 1 ≠ tb by omega)
  have hMs := hfs.at hM3 (show w1.heap.size ≠ tb by omega)
  have hf4 : Fr w (W3.setCell ⟨tb, 0, none⟩ (.int .i64 room2)) (fun b => b ≠ tb) := (hf3.mono (fun _ _ _ => trivial)).trans hfs
  have ts : (W3.setCell ⟨tb, 0, none⟩ (.int .i64 room2)).cell? ⟨tb, 0, none⟩ = some (.int .i64 room2) := by rw [cell_of_row _ _ _ _ _ _ hTs]; rfl
  obtain ⟨q0, q1, q2, q3, q4⟩ := cells_5 hBs
  obtain ⟨m0, m1, m2, _, _, _⟩ := msr_cells hMs
  have hcp := HD.out _ hf4
  clear hB3 hR3 hT3 hM3 hBs hMs HD hf3
  go_wp2_with fail
  generalize (W3.setCell ⟨tb, 0, none⟩ (.int .i64 room2)) = Ws at *
  refine hcp.mono ?_
  rintro e w2 ⟨d0, d1, d2, d3, d4, rfl, hd, hb2⟩
  have hR2 := (below_fr0 hb2).at hRs trivial
  have hT2 := (below_fr0 hb2).at hTs trivial
  have hf5 : Fr w w2 (fun b => b ≠ tb) := hf4.trans ((below_fr0 hb2).mono (fun _ _ _ => trivial))
  have hws : w.heap.size + 1 < Ws.heap.size := blk_lt hRs
  obtain ⟨k9, t9, B8, n8, c8, A9, n9, c9, B9, m9, s9, rfl, rfl, rfl, rfl, rfl⟩ := uin_agg hd
  have hset := fr_set5 w2 (w.heap.size + 1) (.int .i64 k9) (.int .i64 t9) (.slice B8 n8 c8) (.slice A9 n9 c9) (.slice B9 m9 s9)
  have hd3 := (hd.fr (ok' := fun b => b ≠ w.heap.size + 1) hset (fun b hb => by omega)).mono (ok' := fun b => w.heap.size ≤ b) (fun b _ hb => by omega)
  have hT3 := hset.at hT2 (show tb ≠ w.heap.size + 1 by omega)
  have hc5 : (((((w2.setCell ⟨w.heap.size + 1, 0, none⟩ (.int .i64 k9)).setCell ⟨w.heap.size + 1, 1, none⟩ (.int .i64 t9)).setCell ⟨w.heap.size + 1, 2, none⟩ (.slice B8 n8 c8)).setCell ⟨w.heap.size + 1, 3, none⟩ (.slice A9 n9 c9)).setCell ⟨w.heap.size + 1, 4, none⟩ (.slice B9 m9 s9)).heap[w.heap.size + 1]? = some (.cells #[.int .i64 k9, .int .i64 t9, .slice B8 n8 c8, .slice A9 n9 c9, .slice B9 m9 s9] 29 (0, 0)) :=
    heap_setCell_same _ _ 4 _ _ _ (heap_setCell_same _ _ 3 _ _ _ (heap_setCell_same _ _ 2 _ _ _ (heap_setCell_same _ _ 1 _ _ _ (heap_setCell_same _ _ 0 _ _ _ hR2))))
  have hf6 : Fr w (((((w2.setCell ⟨w.heap.size + 1, 0, none⟩ (.int .i64 k9)).setCell ⟨w.heap.size + 1, 1, none⟩ (.int .i64 t9)).setCell ⟨w.heap.size + 1, 2, none⟩ (.slice B8 n8 c8)).setCell ⟨w.heap.size + 1, 3, none⟩ (.slice A9 n9 c9)).setCell ⟨w.heap.size + 1, 4, none⟩ (.slice B9 m9 s9)) (fun b => b ≠ tb) :=
    ⟨hset.os.trans hf5.os, hset.tape.trans hf5.tape, hset.output.trans hf5.output, Nat.le_trans hf5.size hset.size, fun b hb hn => (hset.block b (by have := hf5.size; omega) (by omega)).trans (hf5.block b hb hn)⟩
  obtain ⟨r0, r1, r2, r3, r4⟩ := cells_5 hR2
  obtain ⟨f0, f1, f2, f3, f4⟩ := frozen_5 hR2
  have HDD := Lib.hid hd3
  have HT3 := Lib.hid hT3
  have HF4 := Lib.hid hf6
  have HC5 := Lib.hid hc5
  clear hRs hTs hR2 hT2 hT3 q0 q1 q2 q3 q4 m0 m1 m2 hb2 hd hd3 hset hf4 hf5 hf6 hc5 hcp
  go_wp2
  refine bodyPost_ret (v := .agg #[.int .i64 k9, .int .i64 t9, .slice B8 n8 c8, .slice A9 n9 c9, .slice B9 m9 s9]) (results_cell_row rfl _ _ (w.heap.size + 1) 29 _ (0, 0) _ rfl HC5.out Tryz.underlying29 rfl (by kernel_rfl)) rfl ?_
  exact ⟨_, _, _, _, _, rfl, HDD.out, by rw [HROOM.out]; exact HT3.out, HF4.out⟩
end Go.Proofs.YtfboecnhakihnaaGreatDoor
