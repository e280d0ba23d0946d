/-
  Seq2, told of a walk.
-/
import Derived.Test.YtfboecnhakihnaaGreatDoorUrs
import Derived.BigRegionIn
namespace Go.Proofs.YtfboecnhakihnaaGreatDoor
open Go.RowKit Go.Shelf
attribute [local go_sem] Oper.semAt_some

set_option maxRecDepth 100000 in
set_option maxHeartbeats 8000000 in
theorem seq2_any (p : Nat) (z : U) (w : World) (v0 v1 v2 v3 v4 : Value) (hp : w.heap[p]? = some (.cells #[v0, v1, v2, v3, v4] 29 (0, 0))) (hz : UIn w (fun b => b < w.heap.size) z v0 v1 v2 v3 v4) (hzn : un z ≤ 2000) (htk : taken (pu 1 z) < 2147483647) :
    Calls Tryz.prog 23 #[.func (.func 48) #[] #[.pointer (some ⟨p, 0, none⟩)], .int .i64 (uc z : Nat)] w fun e w' => ∃ A B S, e = .returned (.tuple #[A, B, .bool true]) ∧ (∃ b, w.heap.size ≤ b ∧ SqRow b S (pu 1 z) A B w') ∧ Fr w w' (fun _ => True) := by
  have hlen := pu_len 1 z
  have hck := uck_un z
  have hpl : p < w.heap.size := blk_lt hp
  have he : ∀ W : World, (binOp BinOp.eql 48 (.func (.func 48) #[] #[.pointer (some ⟨p, 0, none⟩)]) .nilFunc).run Tryz.prog W = .ok (.bool false) W := fun W => by kernel_rfl
  refine (callsIn_wide (n := 10)).1 ?_
  refine callsIn_of_wp_marks Tryz.func23 rfl trivial ?_
  simp only [Tryz.ntmps23, List.size_toArray, List.length_cons, List.length_nil, Nat.reduceAdd, Nat.reduceSub, Array.replicate_succ, Array.replicate_zero, List.push_toArray, List.append_toArray, List.nil_append, List.cons_append]
  gi_wp2
  generalize hW0 : ((((((w.alloc (Obj.cells #[Value.int IntKind.i64 ↑(uc z)] 3)).alloc (Obj.cells #[Value.slice none 0 0] 50)).alloc (Obj.cells #[Value.slice none 0 0] 26)).alloc (Obj.cells #[Value.bool false] 4)).alloc (Obj.cells #[Value.slice none 0 0] 50)).alloc (Obj.cells #[Value.slice none 0 0] 26)) = W0
  have hs0 : w.heap.size + 6 ≤ W0.heap.size := by subst hW0; simp
  have hs1 : W0.heap.size ≤ w.heap.size + 6 := by subst hW0; simp
  have hf0 : Fr w W0 (fun _ => True) := by subst hW0; exact ((((((Fr.refl w _).alloc _).alloc _).alloc _).alloc _).alloc _).alloc _
  have N0 : W0.heap[w.heap.size]? = some (.cells #[.int .i64 (uc z : Nat)] 3 (0, 0)) := by subst hW0; exact old_at _ (old_at _ (old_at _ (old_at _ (old_at _ (new_at rfl _)))))
  have N1 : W0.heap[w.heap.size + 1]? = some (.cells #[.slice none 0 0] 50 (0, 0)) := by subst hW0; exact old_at _ (old_at _ (old_at _ (old_at _ (new_at (by simp) _))))
  have N2 : W0.heap[w.heap.size + 2]? = some (.cells #[.slice none 0 0] 26 (0, 0)) := by subst hW0; exact old_at _ (old_at _ (old_at _ (new_at (by simp) _)))
  have N3 : W0.heap[w.heap.size + 3]? = some (.cells #[.bool false] 4 (0, 0)) := by subst hW0; exact old_at _ (old_at _ (new_at (by simp) _))
  have N4 : W0.heap[w.heap.size + 4]? = some (.cells #[.slice none 0 0] 50 (0, 0)) := by subst hW0; exact old_at _ (new_at (by simp) _)
  have N5 : W0.heap[w.heap.size + 5]? = some (.cells #[.slice none 0 0] 26 (0, 0)) := by subst hW0; exact new_at (by simp) _
  clear hW0
  have hIt := walk1_y 9 (by omega) p z W0 (fun k => k < w.heap.size) (fun k h => by omega) hpl v0 v1 v2 v3 v4 (hf0.at hp trivial) (hz.fr hf0 (fun _ _ => trivial)) hzn htk
  clear hp hz
  refine range_f (by omega) rfl (enters_of Tryz.func48 (by kernel_rfl) rfl) hIt (fun k h => by omega)
    (SqI w (uc z) W0.heap.size) ?stI ?start ?round ?done
  case stI =>
    rintro s S W1 W2 ⟨A, B, g0, g1, g2, g3, g4, g5, hs, hf⟩ h
    exact ⟨A, B, h.at g0 (.inr (by omega)), h.at g1 (.inr (by omega)), h.at g2 (.inr (by omega)), h.at g3 (.inr (by omega)), h.at g4 (.inr (by omega)), h.at g5 (.inr (by omega)), sq_fr hs h (fun k hk => .inl hk), hf.trans (h.mono (fun k _ hk => .inr (by omega)))⟩
  case start => exact ⟨_, _, N0, N1, N2, N3, N4, N5, sq_nil _ _, hf0.mono (fun _ _ _ => trivial)⟩
  case done =>
    rintro S W1 ⟨A, B, g0, g1, g2, g3, g4, g5, hs, hf⟩ hS hd
    have hs' := hs
    obtain ⟨xb, cc, r1, r2, _⟩ := hs'
    have hpos : 0 < (pu 1 z).length := by rw [hlen]; cases z; rw [uc]; omega
    obtain ⟨gA, cA, rfl⟩ := ownsRow_posn r1 hpos
    obtain ⟨gB, cB, rfl⟩ := ownsRow_posn r2 hpos
    have q4 : W1.cell? ⟨w.heap.size + 4, 0, none⟩ = some (.slice (some ⟨gA, 0, none⟩) (pu 1 z).length cA) := by rw [cell_of_row _ _ _ _ _ _ g4]; rfl
    have q5 : W1.cell? ⟨w.heap.size + 5, 0, none⟩ = some (.slice (some ⟨gB, 0, none⟩) (pu 1 z).length cB) := by rw [cell_of_row _ _ _ _ _ _ g5]; rfl
    have q1 : W1.cell? ⟨w.heap.size + 1, 0, none⟩ = some (.slice none 0 0) := by rw [cell_of_row _ _ _ _ _ _ g1]; rfl
    have q2 : W1.cell? ⟨w.heap.size + 2, 0, none⟩ = some (.slice none 0 0) := by rw [cell_of_row _ _ _ _ _ _ g2]; rfl
    have q3 : W1.cell? ⟨w.heap.size + 3, 0, none⟩ = some (.bool false) := by rw [cell_of_row _ _ _ _ _ _ g3]; rfl
    have z1 := frozen_of_row _ (w.heap.size + 1) 0 _ 50 g1
    have z2 := frozen_of_row _ (w.heap.size + 2) 0 _ 26 g2
    have z3 := frozen_of_row _ (w.heap.size + 3) 0 _ 4 g3
    have HS := Lib.hid hs
    have HF := Lib.hid hf
    have HSS := Lib.hid hS
    have HD := Lib.hid hd
    clear hs hf hS g0 g4 g5 r1 r2
    generalize (pu 1 z).length = N at *
    subst hlen
    gi_wp2
    gi_region
    have j1 : Fr W1 (W1.setCell ⟨w.heap.size + 1, 0, none⟩ (.slice (some ⟨gA, 0, none⟩) (uc z) cA)) (fun k => k ≠ w.heap.size + 1) := Fr.of (gset _ _ 0 _) (fun b _ hb e => hb (by cases e; rfl))
    have m1 := heap_setCell_same W1 (w.heap.size + 1) 0 _ 50 (.slice (some ⟨gA, 0, none⟩) (uc z) cA) g1
    have m2 := j1.at g2 (by omega)
    have m3 := j1.at g3 (by omega)
    generalize (W1.setCell ⟨w.heap.size + 1, 0, none⟩ (.slice (some ⟨gA, 0, none⟩) (uc z) cA)) = Wa at *
    have j2 : Fr Wa (Wa.setCell ⟨w.heap.size + 1 + 1, 0, none⟩ (.slice (some ⟨gB, 0, none⟩) (uc z) cB)) (fun k => k ≠ w.heap.size + 2) := Fr.of (gset _ _ 0 _) (fun b _ hb e => hb (by cases e; rfl))
    have n1 := j2.at m1 (by omega)
    have n2 := heap_setCell_same Wa (w.heap.size + 2) 0 _ 26 (.slice (some ⟨gB, 0, none⟩) (uc z) cB) m2
    have n3 := j2.at m3 (by omega)
    change (Wa.setCell ⟨w.heap.size + 1 + 1, 0, none⟩ (.slice (some ⟨gB, 0, none⟩) (uc z) cB)).heap[w.heap.size + 2]? = _ at n2
    generalize (Wa.setCell ⟨w.heap.size + 1 + 1, 0, none⟩ (.slice (some ⟨gB, 0, none⟩) (uc z) cB)) = Wb at *
    have j3 : Fr Wb (Wb.setCell ⟨w.heap.size + 1 + 1 + 1, 0, none⟩ (.bool true)) (fun k => k ≠ w.heap.size + 3) := Fr.of (gset _ _ 0 _) (fun b _ hb e => hb (by cases e; rfl))
    have o1 := j3.at n1 (by omega)
    have o2 := j3.at n2 (by omega)
    have o3 := heap_setCell_same Wb (w.heap.size + 3) 0 _ 4 (.bool true) n3
    change (Wb.setCell ⟨w.heap.size + 1 + 1 + 1, 0, none⟩ (.bool true)).heap[w.heap.size + 3]? = _ at o3
    generalize (Wb.setCell ⟨w.heap.size + 1 + 1 + 1, 0, none⟩ (.bool true)) = Wc at *
    have jj : Fr W1 Wc (fun k => k < w.heap.size + 1 ∨ w.heap.size + 4 ≤ k) := ((j1.mono (fun k _ h => by omega)).trans (j2.mono (fun k _ h => by omega))).trans (j3.mono (fun k _ h => by omega))
    have hd' := jj.at HD.out (.inr (by omega))
    have jp := fr_put Wc.drew W0.heap.size (.deferred none)
    have HE := Lib.hid (show SqRow W0.heap.size S (pu 1 z) (.slice (some ⟨gA, 0, none⟩) (uc z) cA) (.slice (some ⟨gB, 0, none⟩) (uc z) cB) (Wc.drew.putObj W0.heap.size (.deferred none)) ∧ Fr w (Wc.drew.putObj W0.heap.size (.deferred none)) (fun _ => True) from
      ⟨sq_fr (ok := fun k => W0.heap.size + 2 ≤ k) HS.out (((jj.drewN 1).mono (fun k _ h => .inr (by omega))).trans (jp.mono (fun k _ h => by omega))) (fun k h => HSS.out k h), ((HF.out.trans ((jj.drewN 1).mono (fun k _ h => .inl (by omega)))).trans (jp.mono (fun k _ h => by omega))).mono (fun k h _ => h)⟩)
    have r1 := cell_of_row _ _ 0 _ _ _ (jp.at o1 (by omega))
    have r2 := cell_of_row _ _ 0 _ _ _ (jp.at o2 (by omega))
    have r3 := cell_of_row _ _ 0 _ _ _ (jp.at o3 (by omega))
    clear j1 j2 j3 jj m1 m2 m3 n1 n2 n3 o1 o2 o3 q1 q2 q3 q4 q5 z1 z2 z3
    gi_wp2
    refine ⟨by simp, .inl ⟨_, _, rfl, run_takeDeferred hd', ?_⟩⟩
    refine ⟨.tuple #[.slice (some ⟨gA, 0, none⟩) (uc z) cA, .slice (some ⟨gB, 0, none⟩) (uc z) cB, .bool true], by simp [results, Tryz.results23, go_sem, r1, r2, r3], ?_⟩
    exact ⟨_, _, S, rfl, ⟨W0.heap.size, by omega, HE.out.1⟩, HE.out.2⟩
  case round =>
    rintro pre x rest S W4 m c0 c1 c2 c3 c4 hx ⟨A, B, g0, g1, g2, g3, g4, g5, hs, hf⟩ hS hm hmW hzx
    obtain ⟨kx, tx, Ykx, ykx, zkx, Ax, nkx, cx, Ax', mkx, cx', rfl, rfl, rfl, rfl, rfl⟩ := uin_agg hzx
    have hl := congrArg List.length hx
    rw [hlen, List.length_append, List.length_cons] at hl
    have hle : pre.length + 1 ≤ uc z := by omega
    clear hl
    have hzx4 := hzx.mono (ok' := fun b => m ≤ b ∧ b < W4.heap.size) (fun b hlt hb => ⟨hb, hlt⟩)
    show Code.wpIn _ _ _ _ _ { tmps := _, defers := _ } _
    simp only [List.zip_cons_cons, List.zip_nil_right, List.foldl_toArray', List.foldl_toArray, List.foldl_cons, List.foldl_nil, List.setIfInBounds_toArray, List.set_cons_succ, List.set_cons_zero, Array.zip]
    clear hx hzx g0 g1 g2 g3 g4 g5 hs hf
    gi_wp2
    refine ⟨(Fr.refl W4 _).alloc _, ?_⟩
    rintro W5 hf5 hl1 hl0 ⟨A, B, g0, g1, g2, g3, g4, g5, hs, hf⟩
    have hx5 : W5.heap[W4.heap.size]? = some (.cells #[.int .i64 kx, .int .i64 tx, .slice Ykx ykx zkx, .slice Ax nkx cx, .slice Ax' mkx cx'] 29 (0, 0)) := hf5.at (new_at rfl _) (by omega)
    have hs5 : W4.heap.size < W5.heap.size := blk_lt hx5
    have hzx5 := ((hzx4.fr ((Fr.refl W4 (fun _ => True)).alloc (.cells #[.int .i64 kx, .int .i64 tx, .slice Ykx ykx zkx, .slice Ax nkx cx, .slice Ax' mkx cx'] 29)) (fun _ _ => trivial)).fr hf5 (fun k h => by omega)).mono (ok' := fun b => m ≤ b ∧ b < W5.heap.size) (fun b _ hb => ⟨hb.1, by omega⟩)
    have hs' := hs
    obtain ⟨xb0, cc0, hrA, hrB0, hdis, hSA, hSB, _, _⟩ := hs'
    have hAm : ∀ g, A.ownBlock = some g → W0.heap.size + 2 ≤ g ∧ g < m := fun g e => hS g (hSA g e)
    have hBm : ∀ g, B.ownBlock = some g → W0.heap.size + 2 ≤ g ∧ g < m := fun g e => hS g (hSB g e)
    obtain ⟨i3, hi3, hz30, hz31, hz32⟩ := info_parts Tryz.info3
    obtain ⟨i26, hi26, hz260, hz261, hz262⟩ := info_parts Tryz.info29
    have q4 : W5.cell? ⟨w.heap.size + 4, 0, none⟩ = some A := by rw [cell_of_row _ _ _ _ _ _ g4]; rfl
    have q5 : W5.cell? ⟨w.heap.size + 5, 0, none⟩ = some B := by rw [cell_of_row _ _ _ _ _ _ g5]; rfl
    obtain ⟨x0, x1, x2, x3, x4⟩ := cells_5 hx5
    clear hf5 hzx4
    gi_wp2
    refine wpIn_region_any (by kernel_rfl) ?_
    change wpAnyIn _ _ _ _ _ _ _ _ _ (World.drew _)
    refine any_rel (R := fun f L a w7 => ∃ b0 b1 b2 b3 b4 b5 b6 b7 b8 b9 : Bool, ∃ u18 u19 u22 u23 : Value, L = #[b0, b1, b2, b3, b4, b5, b6, b7, b8, b9] ∧ f = bcnt b0 + bcnt b1 + bcnt b2 + bcnt b3 + bcnt b4 + bcnt b5 + bcnt b6 + bcnt b7 + bcnt b8 + bcnt b9 ∧
      (b2 = true → b1 = true) ∧ (b3 = true → b0 = true ∧ b2 = true) ∧ (b6 = true → b5 = true) ∧ (b7 = true → b4 = true ∧ b6 = true ∧ b3 = true) ∧ (b8 = true → b7 = true) ∧ (b9 = true → b8 = true) ∧
      a = { tmps := #[Value.func (Fn.func 48) #[] #[Value.pointer (some { block := p, off := 0 })], Value.int IntKind.i64 ↑(uc z),
          undef, Value.pointer (some { block := w.heap.size, off := 0 }),
          Value.pointer (some { block := w.heap.size + 1, off := 0 }),
          Value.pointer (some { block := w.heap.size + 1 + 1, off := 0 }),
          Value.pointer (some { block := w.heap.size + 1 + 1 + 1, off := 0 }),
          Value.pointer (some { block := w.heap.size + 1 + 1 + 1 + 1, off := 0 }),
          Value.pointer (some { block := w.heap.size + 1 + 1 + 1 + 1 + 1, off := 0 }), Value.int IntKind.i64 ↑x.fst, Value.pointer (some { block := W4.heap.size, off := 0 }),
          Value.func (Fn.func 48) #[] #[Value.pointer (some { block := p, off := 0 })], Value.bool false,
          Value.func (Fn.func 48) #[] #[Value.pointer (some { block := p, off := 0 })], Value.int IntKind.i64 ↑x.fst, Value.agg #[Value.int .i64 kx, Value.int .i64 tx, Value.slice Ykx ykx zkx, Value.slice Ax nkx cx, Value.slice Ax' mkx cx'],
          bsel b0 A, bsel b1 (.int .i64 ↑x.fst), u18, u19, bsel b4 B, bsel b5 (.agg #[Value.int .i64 kx, Value.int .i64 tx, Value.slice Ykx ykx zkx, Value.slice Ax nkx cx, Value.slice Ax' mkx cx']), u22, u23, undef, undef, undef, undef, undef, undef], defers := [] } ∧
      Fr W5 w7 (fun k => (b3 = true → A.ownBlock ≠ some k) ∧ (b7 = true → B.ownBlock ≠ some k) ∧ (b8 = true → k ≠ w.heap.size + 4) ∧ (b9 = true → k ≠ w.heap.size + 5)) ∧
      (b2 = true → b3 = false → ∃ g, W5.heap.size ≤ g ∧ u18 = .slice (some ⟨g, 0, none⟩) 1 1 ∧ w7.heap[g]? = some (.cells #[.int .i64 ↑x.fst] 3 (0, 0))) ∧
      (b6 = true → b7 = false → ∃ g, W5.heap.size ≤ g ∧ u22 = .slice (some ⟨g, 0, none⟩) 1 1 ∧ w7.heap[g]? = some (.cells #[.int .i64 kx, .int .i64 tx, .slice Ykx ykx zkx, .slice Ax nkx cx, .slice Ax' mkx cx'] 29 (0, 0))) ∧
      (b3 = true → w7.ownsRow W0.heap.size 3 1 u19 (pre.length + 1) ((pre.map fun p => Value.int .i64 (p.1 : Nat)) ++ [.int .i64 (x.1 : Nat)]) ∧ (u19.ownBlock = A.ownBlock ∨ ∃ g, u19.ownBlock = some g ∧ W5.heap.size ≤ g)) ∧
      (b7 = true → w7.ownsRow W0.heap.size 29 5 u23 (pre.length + 1) (xb0 ++ [.int .i64 kx, .int .i64 tx, .slice Ykx ykx zkx, .slice Ax nkx cx, .slice Ax' mkx cx']) ∧ (u23.ownBlock = B.ownBlock ∨ ∃ g, u23.ownBlock = some g ∧ W5.heap.size ≤ g) ∧ ∀ g, u19.ownBlock = some g → u23.ownBlock ≠ some g) ∧
      (b8 = true → w7.heap[w.heap.size + 4]? = some (.cells #[u19] 50 (0, 0))) ∧ (b9 = true → w7.heap[w.heap.size + 5]? = some (.cells #[u23] 26 (0, 0)))) ?_ _ _ _ _ ?start
    case start => exact ⟨false, false, false, false, false, false, false, false, false, false, undef, undef, undef, undef, rfl, rfl, by simp, by simp, by simp, by simp, by simp, by simp, rfl, (Fr.refl W5 _).drewN 1, by simp, by simp, by simp, by simp, by simp, by simp⟩
    rintro f L a w7 ⟨b0, b1, b2, b3, b4, b5, b6, b7, b8, b9, u18, u19, u22, u23, rfl, rfl, i2, i3', i6, i7, i8, i9, rfl, hF, s2, s6, s3, s7, s8, s9⟩
    refine ⟨fun h0 => ?_, fun i hi => ?_⟩
    · have hno := List.eq_nil_iff_forall_not_mem.1 h0
      obtain rfl : b0 = true := by cases b0 with | true => rfl | false => exact absurd (mem_ready.2 ⟨rfl, _, rfl, fun e he _ => by simp at he⟩) (hno 0)
      obtain rfl : b1 = true := by cases b1 with | true => rfl | false => exact absurd (mem_ready.2 ⟨rfl, _, rfl, fun e he _ => by simp at he⟩) (hno 1)
      obtain rfl : b2 = true := by cases b2 with | true => rfl | false => exact absurd (mem_ready.2 ⟨rfl, _, rfl, fun e he _ => by simp at he; rcases he with rfl; rfl⟩) (hno 2)
      obtain rfl : b3 = true := by cases b3 with | true => rfl | false => exact absurd (mem_ready.2 ⟨rfl, _, rfl, fun e he _ => by simp at he; rcases he with rfl | rfl <;> rfl⟩) (hno 3)
      obtain rfl : b4 = true := by cases b4 with | true => rfl | false => exact absurd (mem_ready.2 ⟨rfl, _, rfl, fun e he _ => by simp at he⟩) (hno 4)
      obtain rfl : b5 = true := by cases b5 with | true => rfl | false => exact absurd (mem_ready.2 ⟨rfl, _, rfl, fun e he _ => by simp at he⟩) (hno 5)
      obtain rfl : b6 = true := by cases b6 with | true => rfl | false => exact absurd (mem_ready.2 ⟨rfl, _, rfl, fun e he _ => by simp at he; rcases he with rfl; rfl⟩) (hno 6)
      obtain rfl : b7 = true := by cases b7 with | true => rfl | false => exact absurd (mem_ready.2 ⟨rfl, _, rfl, fun e he _ => by simp at he; rcases he with rfl | rfl | rfl <;> rfl⟩) (hno 7)
      obtain rfl : b8 = true := by cases b8 with | true => rfl | false => exact absurd (mem_ready.2 ⟨rfl, _, rfl, fun e he _ => by simp at he; rcases he with rfl | rfl | rfl | rfl | rfl | rfl | rfl | rfl | rfl | rfl <;> rfl⟩) (hno 8)
      obtain rfl : b9 = true := by cases b9 with | true => rfl | false => exact absurd (mem_ready.2 ⟨rfl, _, rfl, fun e he _ => by simp at he; rcases he with rfl | rfl | rfl | rfl | rfl | rfl | rfl | rfl | rfl | rfl | rfl <;> rfl⟩) (hno 9)
      obtain ⟨hr19, hat19⟩ := s3 rfl
      obtain ⟨hr23, hat23, hd23⟩ := s7 rfl
      have h4 := s8 rfl
      have h5 := s9 rfl
      have hFF : Fr W5 w7 (fun k => A.ownBlock ≠ some k ∧ B.ownBlock ≠ some k ∧ k ≠ w.heap.size + 4 ∧ k ≠ w.heap.size + 5) := hF.mono (fun k _ hk => ⟨fun _ => hk.1, fun _ => hk.2.1, fun _ => hk.2.2.1, fun _ => hk.2.2.2⟩)
      have hlow : ∀ k, k < W0.heap.size + 2 → k ≠ w.heap.size + 4 → k ≠ w.heap.size + 5 → A.ownBlock ≠ some k ∧ B.ownBlock ≠ some k ∧ k ≠ w.heap.size + 4 ∧ k ≠ w.heap.size + 5 := fun k h h4 h5 => ⟨fun e => by have := hAm _ e; omega, fun e => by have := hBm _ e; omega, h4, h5⟩
      have hL1 : w7.heap[W0.heap.size + 1]? = W5.heap[W0.heap.size + 1]? := by obtain ⟨o, ho, _⟩ := hl1; rw [hFF.at ho (hlow _ (by omega) (by omega) (by omega)), ho]
      have hL0 : w7.heap[W0.heap.size]? = W5.heap[W0.heap.size]? := by obtain ⟨o, ho, _⟩ := hl0; rw [hFF.at ho (hlow _ (by omega) (by omega) (by omega)), ho]
      have hq := sq_more (base := W0.heap.size) (m := m) (n1 := W5.heap.size) (S' := fun k => S k ∨ (m ≤ k ∧ k < w7.heap.size)) (x := x) hs (fun k h => (hS k h).2) (hFF.mono (fun k _ hk => ⟨hk.1, hk.2.1, by omega, by omega⟩)) (fun k h => by have := hS k h; omega) (by omega) (by omega)
        (fun xb h => by rw [ownsRow_uniq h hrB0]; exact hr23) hr19 hat19 hat23 hd23 hzx5 (fun k h => .inl h) (fun k h1 h2 => .inr ⟨h1, h2⟩)
      have n0 := hFF.at g0 (hlow _ (by omega) (by omega) (by omega))
      have HR := Lib.hid (show ∀ a0 : Act, goPw (W0.heap.size + 1) (W0.heap.size + 2) m (fun k => k < w.heap.size) (SqI w (uc z) W0.heap.size) (pre ++ [x]) S W5 .normal a0 w7 from
        fun _ => ⟨hFF.mono (fun k _ hk => ⟨fun e => hk.2 (hSA _ e), fun e => hk.2 (hSB _ e), by omega, by omega⟩), hL1, hL0, _, ⟨u19, u23, n0, hFF.at g1 (hlow _ (by omega) (by omega) (by omega)), hFF.at g2 (hlow _ (by omega) (by omega) (by omega)), hFF.at g3 (hlow _ (by omega) (by omega) (by omega)), h4, h5, hq, hf.trans (hFF.mono (fun k _ hk => hlow k (by omega) (by omega) (by omega)))⟩, fun k h => ⟨h.elim .inl (fun h => .inr h.1), h.elim (fun h => by have := hS k h; have := hF.size; omega) (fun h => h.2)⟩⟩)
      obtain ⟨gA, capA, rfl⟩ := ownsRow_succ hr19
      have k4 : w7.cell? ⟨w.heap.size + 4, 0, none⟩ = some (.slice (some ⟨gA, 0, none⟩) (pre.length + 1) capA) := by rw [cell_of_row _ _ _ _ _ _ h4]; rfl
      have k0 : w7.cell? ⟨w.heap.size, 0, none⟩ = some (.int .i64 (uc z : Nat)) := by rw [cell_of_row _ _ _ _ _ _ n0]; rfl
      have hng : ¬ ((uc z : Int) < (pre.length : Int) + 1) := by omega
      clear hq hFF hF s2 s6 s3 s7 s8 s9 i2 i3' i6 i7 i8 i9 h4 h5 n0 hr19 hr23 hs g0 g1 g2 g3 g4 g5 hrA hrB0
      simp only [bsel]
      gi_wp2
      exact HR.out _
    obtain ⟨g0', o, ho, ha⟩ := mem_ready.1 hi
    match i, g0', o, ho, ha with
    | 0, g0', o, ho, ha =>
      obtain rfl : b0 = false := g0'
      have e3 : b3 = false := by cases b3 with | false => rfl | true => exact (i3' rfl).1.symm
      subst e3
      have e7 : b7 = false := by cases b7 with | false => rfl | true => exact (i7 rfl).2.2.symm
      subst e7
      have e8 : b8 = false := by cases b8 with | false => rfl | true => exact (i8 rfl).symm
      subst e8
      have hq := hF.cell q4 (by simp)
      refine ⟨bcnt true + bcnt b1 + bcnt b2 + bcnt false + bcnt b4 + bcnt b5 + bcnt b6 + bcnt false + bcnt false + bcnt b9, by have e0 : bcnt false = 1 := rfl; have e1 : bcnt true = 0 := rfl; omega, wpOpIn_step rfl fun K' hK => ?_⟩
      go_simp
      exact hK _ _ ⟨true, b1, b2, false, b4, b5, b6, false, false, b9, u18, u19, u22, u23, rfl, rfl, i2, by simp, i6, by simp, by simp, i9, rfl, hF, s2, s6, s3, s7, s8, s9⟩
    | 1, g0', o, ho, ha =>
      obtain rfl : b1 = false := g0'
      have e2 : b2 = false := by cases b2 with | false => rfl | true => exact (i2 rfl).symm
      subst e2
      refine ⟨bcnt b0 + bcnt true + bcnt false + bcnt b3 + bcnt b4 + bcnt b5 + bcnt b6 + bcnt b7 + bcnt b8 + bcnt b9, by have e0 : bcnt false = 1 := rfl; have e1 : bcnt true = 0 := rfl; omega, wpOpIn_step rfl fun K' hK => ?_⟩
      go_simp
      exact hK _ _ ⟨b0, true, false, b3, b4, b5, b6, b7, b8, b9, u18, u19, u22, u23, rfl, rfl, by simp, i3', i6, i7, i8, i9, rfl, hF, by simp, s6, s3, s7, s8, s9⟩
    | 2, g0', o, ho, ha =>
      obtain rfl : b2 = false := g0'
      cases ho
      obtain rfl : b1 = true := ha ⟨1, .data⟩ (by simp) rfl
      have e3 : b3 = false := by cases b3 with | false => rfl | true => exact (i3' rfl).2.symm
      subst e3
      have e7 : b7 = false := by cases b7 with | false => rfl | true => exact (i7 rfl).2.2.symm
      subst e7
      have e8 : b8 = false := by cases b8 with | false => rfl | true => exact (i8 rfl).symm
      subst e8
      have e9 : b9 = false := by cases b9 with | false => rfl | true => exact (i9 rfl).symm
      subst e9
      refine ⟨bcnt b0 + bcnt true + bcnt true + bcnt false + bcnt b4 + bcnt b5 + bcnt b6 + bcnt false + bcnt false + bcnt false, by have e0 : bcnt false = 1 := rfl; have e1 : bcnt true = 0 := rfl; omega, wpOpIn_step rfl fun K' hK => ?_⟩
      simp only [bsel]
      go_simp
      exact hK _ _ ⟨b0, true, true, false, b4, b5, b6, false, false, false, _, u19, u22, u23, rfl, rfl, by simp, by simp, i6, by simp, by simp, by simp, rfl, hF.alloc _, fun _ _ => ⟨_, hF.size, rfl, new_at rfl _⟩, fun h h2 => by obtain ⟨g, h1, h3, h4⟩ := s6 h h2; exact ⟨g, h1, h3, old_at _ h4⟩, by simp, by simp, by simp, by simp⟩
    | 3, g0', o, ho, ha =>
      obtain rfl : b3 = false := g0'
      cases ho
      obtain rfl : b0 = true := ha ⟨0, .data⟩ (by simp) rfl
      obtain rfl : b2 = true := ha ⟨2, .data⟩ (by simp) rfl
      obtain rfl : b1 = true := i2 rfl
      have e7 : b7 = false := by cases b7 with | false => rfl | true => exact (i7 rfl).2.2.symm
      subst e7
      have e8 : b8 = false := by cases b8 with | false => rfl | true => exact (i8 rfl).symm
      subst e8
      have e9 : b9 = false := by cases b9 with | false => rfl | true => exact (i9 rfl).symm
      subst e9
      obtain ⟨gx, hgx, rfl, hgc⟩ := s2 rfl rfl
      have rA7 := ownsRow_fr hrA hF (fun g e => ⟨by simp, by simp, by simp, by simp⟩)
      obtain ⟨v', w8, hr, hown8, hgr, _, hat⟩ := run_append_own_at (P := Tryz.prog) w7 W0.heap.size 50 50 3 i3 _ 1 8 Tryz.underlying50 hi3 hz30 hz31 hz32 rfl (by decide) A pre.length _ rA7 ⟨gx, 0, none⟩ 1 1 [.int .i64 ↑x.fst] rfl (fun j u hj => by match j, hj with | 0, hj => (cases hj; rw [addr_add, Nat.zero_add, cell_of_row _ _ _ _ _ _ hgc]; rfl)) (by simp [Value.oneCell']) (by unfold maxLen; omega) (by omega) (by have := hF.size; omega)
      refine ⟨bcnt true + bcnt true + bcnt true + bcnt true + bcnt b4 + bcnt b5 + bcnt b6 + bcnt false + bcnt false + bcnt false, by have e0 : bcnt false = 1 := rfl; have e1 : bcnt true = 0 := rfl; omega, wpOpIn_step rfl fun K' hK => ?_⟩
      simp only [bsel]
      rw [if_pos (show Region.wanted _ _ = true from rfl)]
      refine wpIn_append_round _ _ _ rfl rfl rfl hr ?_
      have hF8 : Fr w7 w8 (fun k => A.ownBlock ≠ some k) := Fr.of hgr (fun b _ hb e => hb e.symm)
      exact hK _ _ ⟨true, true, true, true, b4, b5, b6, false, false, false, _, v', u22, u23, rfl, rfl, by simp, by simp, i6, by simp, by simp, by simp, rfl, (hF.mono (fun k _ hk => ⟨by simp, by simp, by simp, by simp⟩)).trans (hF8.mono (fun k _ hk => hk.1 rfl)), by simp, fun h h2 => by obtain ⟨g, h1, h3, h4⟩ := s6 h h2; exact ⟨g, h1, h3, hF8.at h4 (fun e => by have := hAm _ e; omega)⟩, fun _ => ⟨hown8, hat.elim .inl (fun h => .inr ⟨_, h, hF.size⟩)⟩, by simp, by simp, by simp⟩
    | 4, g0', o, ho, ha =>
      obtain rfl : b4 = false := g0'
      have e7 : b7 = false := by cases b7 with | false => rfl | true => exact (i7 rfl).1.symm
      subst e7
      have e8 : b8 = false := by cases b8 with | false => rfl | true => exact (i8 rfl).symm
      subst e8
      have e9 : b9 = false := by cases b9 with | false => rfl | true => exact (i9 rfl).symm
      subst e9
      have hq := hF.cell q5 ⟨fun _ e => by have := hAm _ e; omega, by simp, by simp, by simp⟩
      refine ⟨bcnt b0 + bcnt b1 + bcnt b2 + bcnt b3 + bcnt true + bcnt b5 + bcnt b6 + bcnt false + bcnt false + bcnt false, by have e0 : bcnt false = 1 := rfl; have e1 : bcnt true = 0 := rfl; omega, wpOpIn_step rfl fun K' hK => ?_⟩
      go_simp
      exact hK _ _ ⟨b0, b1, b2, b3, true, b5, b6, false, false, false, u18, u19, u22, u23, rfl, rfl, i2, i3', i6, by simp, by simp, by simp, rfl, hF, s2, s6, s3, by simp, by simp, by simp⟩
    | 5, g0', o, ho, ha =>
      obtain rfl : b5 = false := g0'
      have e6 : b6 = false := by cases b6 with | false => rfl | true => exact (i6 rfl).symm
      subst e6
      have e7 : b7 = false := by cases b7 with | false => rfl | true => exact (i7 rfl).2.1.symm
      subst e7
      have e8 : b8 = false := by cases b8 with | false => rfl | true => exact (i8 rfl).symm
      subst e8
      have e9 : b9 = false := by cases b9 with | false => rfl | true => exact (i9 rfl).symm
      subst e9
      have hok : (b3 = true → A.ownBlock ≠ some W4.heap.size) ∧ (false = true → B.ownBlock ≠ some W4.heap.size) ∧ (false = true → W4.heap.size ≠ w.heap.size + 4) ∧ (false = true → W4.heap.size ≠ w.heap.size + 5) := ⟨fun _ e => by have := hAm _ e; omega, by simp, by simp, by simp⟩
      have y0 := hF.cell x0 hok
      have y1 := hF.cell x1 hok
      have y2 := hF.cell x2 hok
      have y3 := hF.cell x3 hok
      have y4 := hF.cell x4 hok
      refine ⟨bcnt b0 + bcnt b1 + bcnt b2 + bcnt b3 + bcnt b4 + bcnt true + bcnt false + bcnt false + bcnt false + bcnt false, by have e0 : bcnt false = 1 := rfl; have e1 : bcnt true = 0 := rfl; omega, wpOpIn_step rfl fun K' hK => ?_⟩
      go_simp
      exact hK _ _ ⟨b0, b1, b2, b3, b4, true, false, false, false, false, u18, u19, u22, u23, rfl, rfl, i2, i3', by simp, by simp, by simp, by simp, rfl, hF, s2, by simp, s3, by simp, by simp, by simp⟩
    | 6, g0', o, ho, ha =>
      obtain rfl : b6 = false := g0'
      cases ho
      obtain rfl : b5 = true := ha ⟨5, .data⟩ (by simp) rfl
      have e7 : b7 = false := by cases b7 with | false => rfl | true => exact (i7 rfl).2.1.symm
      subst e7
      have e8 : b8 = false := by cases b8 with | false => rfl | true => exact (i8 rfl).symm
      subst e8
      have e9 : b9 = false := by cases b9 with | false => rfl | true => exact (i9 rfl).symm
      subst e9
      refine ⟨bcnt b0 + bcnt b1 + bcnt b2 + bcnt b3 + bcnt b4 + bcnt true + bcnt true + bcnt false + bcnt false + bcnt false, by have e0 : bcnt false = 1 := rfl; have e1 : bcnt true = 0 := rfl; omega, wpOpIn_step rfl fun K' hK => ?_⟩
      simp only [bsel]
      go_simp
      have ha7 := (Fr.refl w7 (fun _ => True)).alloc (.cells #[.int .i64 kx, .int .i64 tx, .slice Ykx ykx zkx, .slice Ax nkx cx, .slice Ax' mkx cx'] 29)
      exact hK _ _ ⟨b0, b1, b2, b3, b4, true, true, false, false, false, u18, u19, _, u23, rfl, rfl, i2, i3', by simp, by simp, by simp, by simp, rfl, hF.alloc _, fun h h2 => by obtain ⟨g, h1, h3, h4⟩ := s2 h h2; exact ⟨g, h1, h3, old_at _ h4⟩, fun _ _ => ⟨_, hF.size, rfl, new_at rfl _⟩, fun h => ⟨ownsRow_fr (s3 h).1 ha7 (fun _ _ => trivial), (s3 h).2⟩, by simp, by simp, by simp⟩
    | 7, g0', o, ho, ha =>
      obtain rfl : b7 = false := g0'
      cases ho
      obtain rfl : b4 = true := ha ⟨4, .data⟩ (by simp) rfl
      obtain rfl : b6 = true := ha ⟨6, .data⟩ (by simp) rfl
      obtain rfl : b3 = true := ha ⟨3, .chain⟩ (by simp) rfl
      obtain rfl : b5 = true := i6 rfl
      have e8 : b8 = false := by cases b8 with | false => rfl | true => exact (i8 rfl).symm
      subst e8
      have e9 : b9 = false := by cases b9 with | false => rfl | true => exact (i9 rfl).symm
      subst e9
      obtain ⟨gx, hgx, rfl, hgc⟩ := s6 rfl rfl
      have rB7 := ownsRow_fr hrB0 hF (fun g e => ⟨fun _ e2 => hdis _ e2 e, by simp, by simp, by simp⟩)
      obtain ⟨hr19, hat19⟩ := s3 rfl
      have hlt19 : ∀ g, u19.ownBlock = some g → g < w7.heap.size := fun g e => (hr19.lt g e).2
      obtain ⟨v', w8, hr, hown8, hgr, _, hat⟩ := run_append_own_at (P := Tryz.prog) w7 W0.heap.size 26 26 29 i26 _ 5 88 Tryz.underlying26 hi26 hz260 hz261 hz262 rfl (by decide) B pre.length _ rB7 ⟨gx, 0, none⟩ 1 1 [.int .i64 kx, .int .i64 tx, .slice Ykx ykx zkx, .slice Ax nkx cx, .slice Ax' mkx cx'] rfl (fun j u hj => by rw [addr_add, Nat.zero_add, cell_of_row _ _ _ _ _ _ hgc]; simpa using hj) (by simp [Value.oneCell']) (by unfold maxLen; omega) (by omega) (by have := hF.size; omega)
      refine ⟨bcnt b0 + bcnt b1 + bcnt b2 + bcnt true + bcnt true + bcnt true + bcnt true + bcnt true + bcnt false + bcnt false, by have e0 : bcnt false = 1 := rfl; have e1 : bcnt true = 0 := rfl; omega, wpOpIn_step rfl fun K' hK => ?_⟩
      simp only [bsel]
      rw [if_pos (show Region.wanted _ _ = true from rfl)]
      refine wpIn_append_round _ _ _ rfl rfl rfl hr ?_
      have hF8 : Fr w7 w8 (fun k => B.ownBlock ≠ some k) := Fr.of hgr (fun b _ hb e => hb e.symm)
      have hBne : ∀ g, u19.ownBlock = some g → B.ownBlock ≠ some g := fun g e e2 => by
        rcases hat19 with h | ⟨g', h, hg⟩
        · exact hdis g (h ▸ e) e2
        · rw [h] at e; cases e; have := hBm _ e2; omega
      exact hK _ _ ⟨b0, b1, b2, true, true, true, true, true, false, false, u18, u19, _, v', rfl, rfl, i2, i3', by simp, by simp, by simp, by simp, rfl, (hF.mono (fun k _ hk => ⟨hk.1, by simp, by simp, by simp⟩)).trans (hF8.mono (fun k _ hk => hk.2.1 rfl)), by simp, by simp, fun _ => ⟨ownsRow_fr hr19 hF8 (fun g e => hBne g e), hat19⟩, fun _ => ⟨hown8, hat.elim .inl (fun h => .inr ⟨_, h, hF.size⟩), fun g e e2 => by
        rcases hat with h | h
        · exact hBne g e (h ▸ e2)
        · rw [h] at e2; cases e2; have := hlt19 _ e; omega⟩, by simp, by simp⟩
    | 8, g0', o, ho, ha =>
      obtain rfl : b8 = false := g0'
      cases ho
      obtain rfl : b7 = true := ha ⟨7, .chain⟩ (by simp) rfl
      obtain ⟨rfl, rfl, rfl⟩ := i7 rfl
      obtain ⟨rfl, rfl⟩ := i3' rfl
      obtain rfl := i2 rfl
      obtain rfl := i6 rfl
      have e9 : b9 = false := by cases b9 with | false => rfl | true => exact (i9 rfl).symm
      subst e9
      obtain ⟨hr19, hat19⟩ := s3 rfl
      obtain ⟨hr23, hat23, hd23⟩ := s7 rfl
      obtain ⟨gA, capA, rfl⟩ := ownsRow_succ hr19
      have hgA : W0.heap.size ≤ gA := (hr19.lt gA rfl).1
      have h4 := hF.at g4 ⟨fun _ e => by have := hAm _ e; omega, fun _ e => by have := hBm _ e; omega, by simp, by simp⟩
      have k4 : w7.cell? ⟨w.heap.size + 4, 0, none⟩ = some A := by rw [cell_of_row _ _ _ _ _ _ h4]; rfl
      have f4 := frozen_of_row _ (w.heap.size + 4) 0 _ 50 h4
      refine ⟨bcnt true + bcnt true + bcnt true + bcnt true + bcnt true + bcnt true + bcnt true + bcnt true + bcnt true + bcnt false, by have e0 : bcnt false = 1 := rfl; have e1 : bcnt true = 0 := rfl; omega, wpOpIn_step rfl fun K' hK => ?_⟩
      go_simp
      have hFs : Fr w7 (w7.setCell ⟨w.heap.size + 4, 0, none⟩ (.slice (some ⟨gA, 0, none⟩) (pre.length + 1) capA)) (fun b => b ≠ w.heap.size + 4) := Fr.of (gset w7 (w.heap.size + 4) 0 _) (fun b _ hb e => hb (by cases e; rfl))
      exact hK _ _ ⟨true, true, true, true, true, true, true, true, true, false, u18, _, u22, u23, rfl, rfl, i2, i3', i6, by simp, by simp, by simp, rfl, (hF.mono (fun k _ hk => ⟨hk.1, hk.2.1, by simp, by simp⟩)).trans (hFs.mono (fun k _ hk => hk.2.2.1 rfl)), by simp, by simp, fun _ => ⟨ownsRow_fr hr19 hFs (fun g e => by have := (hr19.lt g e).1; omega), hat19⟩, fun _ => ⟨ownsRow_fr hr23 hFs (fun g e => by have := (hr23.lt g e).1; omega), hat23, hd23⟩, fun _ => by rw [heap_setCell_same w7 (w.heap.size + 4) 0 _ 50 _ h4]; rfl, by simp⟩
    | 9, g0', o, ho, ha =>
      obtain rfl : b9 = false := g0'
      cases ho
      obtain rfl : b8 = true := ha ⟨8, .chain⟩ (by simp) rfl
      obtain rfl : b7 = true := i8 rfl
      obtain ⟨rfl, rfl, rfl⟩ := i7 rfl
      obtain ⟨rfl, rfl⟩ := i3' rfl
      obtain rfl := i2 rfl
      obtain rfl := i6 rfl
      obtain ⟨hr19, hat19⟩ := s3 rfl
      obtain ⟨hr23, hat23, hd23⟩ := s7 rfl
      obtain ⟨gB, capB, rfl⟩ := ownsRow_succ hr23
      have hgB : W0.heap.size ≤ gB := (hr23.lt gB rfl).1
      have h4 := hF.at g5 ⟨fun _ e => by have := hAm _ e; omega, fun _ e => by have := hBm _ e; omega, fun _ => by omega, by simp⟩
      have k4 : w7.cell? ⟨w.heap.size + 5, 0, none⟩ = some B := by rw [cell_of_row _ _ _ _ _ _ h4]; rfl
      have f4 := frozen_of_row _ (w.heap.size + 5) 0 _ 26 h4
      refine ⟨bcnt true + bcnt true + bcnt true + bcnt true + bcnt true + bcnt true + bcnt true + bcnt true + bcnt true + bcnt true, by have e0 : bcnt false = 1 := rfl; have e1 : bcnt true = 0 := rfl; omega, wpOpIn_step rfl fun K' hK => ?_⟩
      go_simp
      have hFs : Fr w7 (w7.setCell ⟨w.heap.size + 5, 0, none⟩ (.slice (some ⟨gB, 0, none⟩) (pre.length + 1) capB)) (fun b => b ≠ w.heap.size + 5) := Fr.of (gset w7 (w.heap.size + 5) 0 _) (fun b _ hb e => hb (by cases e; rfl))
      exact hK _ _ ⟨true, true, true, true, true, true, true, true, true, true, u18, u19, u22, _, rfl, rfl, i2, i3', i6, by simp, by simp, by simp, rfl, (hF.mono (fun k _ hk => ⟨hk.1, hk.2.1, hk.2.2.1, by simp⟩)).trans (hFs.mono (fun k _ hk => hk.2.2.2 rfl)), by simp, by simp, fun _ => ⟨ownsRow_fr hr19 hFs (fun g e => by have := (hr19.lt g e).1; omega), hat19⟩, fun _ => ⟨ownsRow_fr hr23 hFs (fun g e => by have := (hr23.lt g e).1; omega), hat23, hd23⟩, fun _ => hFs.at (s8 rfl) (by omega), fun _ => by rw [heap_setCell_same w7 (w.heap.size + 5) 0 _ 26 _ h4]; rfl⟩
    | k + 10, g0', o, ho, ha => exact absurd g0' (by simp)
end Go.Proofs.YtfboecnhakihnaaGreatDoor
