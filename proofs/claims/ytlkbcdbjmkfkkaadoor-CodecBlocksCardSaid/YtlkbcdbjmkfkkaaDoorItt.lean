/-
  The drawn region of 'out = append(out, v)' where an array's things are taken.
-/
import Derived.Test.YtlkbcdbjmkfkkaaDoorBlk
namespace Go.Proofs.YtlkbcdbjmkfkkaaDoor
open Go.RowKit Go.Shelf
attribute [local go_sem] Oper.semAt_some

theorem Tryd.info38 : (Tryd.prog.info? 38).map (fun i => (i.zero, i.size, i.bytes)) = some (some (.agg #[.int .i64 0, .int .i64 0, .slice none 0 0, .slice none 0 0, .slice none 0 0]), 5, 88) := by kernel_rfl
theorem wp_append0 {P : Program} {o : Oper} {a : Act} {w w' : World} {K : Act → World → Prop} {Q : Exit → Act → World → Prop} (s x : Operand) (t : TypeId) (ho : o.op = .call { callee := .builtin .append, args := #[s, x], argTypes := #[t, t] }) {v sl v' : Value} (hs : a.eval s = v) (hx : a.eval x = sl)
    (hr : (Builtin.append_ #[t, t] o.type #[v, sl]).run P w = .ok v' w') (h : K (a.put o.dst v') w') : o.wp P a w K Q := by
  unfold Oper.wp execOp
  simp only [ho, resolve, invoke, builtin, Sem.run_bind, Sem.run_pure, Result.andThen_ok, List.map_toArray, List.map_cons, List.map_nil, hs, hx, hr, Oper.upon]
  exact h
theorem fr_more {W w w' : World} {ok : Nat → Prop} {g : Nat} (h : Fr W w ok) (h2 : Fr w w' (fun k => k ≠ g)) (hk : ∀ k, k < W.heap.size → ok k → k ≠ g) : Fr W w' ok :=
  ⟨h2.os.trans h.os, h2.tape.trans h.tape, h2.output.trans h.output, Nat.le_trans h.size h2.size, fun k hl ho => (h2.block k (Nat.lt_of_lt_of_le hl h.size) (hk k hl ho)).trans (h.block k hl ho)⟩
theorem set_fr (w : World) (g j : Nat) (v : Value) : Fr w (w.setCell ⟨g, j, none⟩ v) (fun k => k ≠ g) := Fr.of (gset w g j v) (fun b _ hb e => hb (by cases e; rfl))
theorem set5_fr (w : World) (g j : Nat) (v0 v1 v2 v3 v4 : Value) : Fr w (((((w.setCell ⟨g, j, none⟩ v0).setCell ⟨g, j + 1, none⟩ v1).setCell ⟨g, j + 2, none⟩ v2).setCell ⟨g, j + 3, none⟩ v3).setCell ⟨g, j + 4, none⟩ v4) (fun k => k ≠ g) :=
  ((((set_fr w g _ v0).trans (set_fr _ g _ v1)).trans (set_fr _ g _ v2)).trans (set_fr _ g _ v3)).trans (set_fr _ g _ v4)
theorem set5_at (w : World) (g j : Nat) (v0 v1 v2 v3 v4 : Value) {b : Nat} {o : Obj} (h : w.heap[b]? = some o) (hb : b ≠ g) : (((((w.setCell ⟨g, j, none⟩ v0).setCell ⟨g, j + 1, none⟩ v1).setCell ⟨g, j + 2, none⟩ v2).setCell ⟨g, j + 3, none⟩ v3).setCell ⟨g, j + 4, none⟩ v4).heap[b]? = some o := (set5_fr w g j v0 v1 v2 v3 v4).at h hb
theorem set5_list (row : List Value) (j : Nat) (a0 a1 a2 a3 a4 v0 v1 v2 v3 v4 : Value) (h : row.length = j) : (((((row ++ [a0, a1, a2, a3, a4]).set j v0).set (j + 1) v1).set (j + 2) v2).set (j + 3) v3).set (j + 4) v4 = row ++ [v0, v1, v2, v3, v4] := by
  subst h
  rw [List.set_append_right _ _ (Nat.le_refl _), List.set_append_right _ _ (by omega), List.set_append_right _ _ (by omega), List.set_append_right _ _ (by omega), List.set_append_right _ _ (by omega)]
  congr 1
  simp
theorem set5_own {w : World} {base g n cap : Nat} {row : List Value} {a0 a1 a2 a3 a4 v0 v1 v2 v3 v4 : Value} (h : w.ownsRow base 38 5 (.slice (some ⟨g, 0, none⟩) n cap) n (row ++ [a0, a1, a2, a3, a4])) {j : Nat} (hj : row.length = j) :
    (((((w.setCell ⟨g, j, none⟩ v0).setCell ⟨g, j + 1, none⟩ v1).setCell ⟨g, j + 2, none⟩ v2).setCell ⟨g, j + 3, none⟩ v3).setCell ⟨g, j + 4, none⟩ v4).ownsRow base 38 5 (.slice (some ⟨g, 0, none⟩) n cap) n (row ++ [v0, v1, v2, v3, v4]) := by
  have h5 := own_set (own_set (own_set (own_set (own_set h j v0) (j + 1) v1) (j + 2) v2) (j + 3) v3) (j + 4) v4
  rwa [set5_list row j _ _ _ _ _ _ _ _ _ _ hj] at h5
set_option maxRecDepth 100000 in
set_option maxHeartbeats 8000000 in
theorem items_tail (w W : World) (Q : Exit → Act → World → Prop) (bx base len : Nat) (kk nn : Int) (Bq Aq Aq' : Option Addr) (m0 x0 m1 x1 m2 x2 : Nat) (A t4 t6 t7 t8 t9 t10 t11 t12 t13 t14 t15 : Value) (row : List Value)
    (hA : W.heap[w.heap.size + 3]? = some (.cells #[A] 36 (0, 0))) (hx : W.heap[bx]? = some (.cells #[(.int .i64 kk), (.int .i64 nn), (.slice Bq m0 x0), (.slice Aq m1 x1), (.slice Aq' m2 x2)] 38 (0, 0))) (hrow : W.ownsRow base 38 5 A len row) (hlen : len ≤ 1000000) (hbase : base ≤ W.heap.size) (hb3 : w.heap.size + 3 < base) (hbx : A.ownBlock ≠ some bx)  (hbx3 : bx ≠ w.heap.size + 3)
    (hfin : ∀ (gA capA : Nat) (q19 : Value) (w' : World), w'.ownsRow base 38 5 (.slice (some ⟨gA, 0, none⟩) (len + 1) capA) (len + 1) (row ++ [(.int .i64 kk), (.int .i64 nn), (.slice Bq m0 x0), (.slice Aq m1 x1), (.slice Aq' m2 x2)]) → w'.heap[w.heap.size + 3]? = some (.cells #[.slice (some ⟨gA, 0, none⟩) (len + 1) capA] 36 (0, 0)) → Fr W w' (fun k => A.ownBlock ≠ some k ∧ k ≠ w.heap.size + 3) → (A.ownBlock = some gA ∨ W.heap.size ≤ gA) → Q .normal { tmps := #[Value.pointer (some ⟨w.heap.size, 0, none⟩), Value.pointer (some ⟨w.heap.size + 1, 0, none⟩), Value.pointer (some ⟨w.heap.size + 2, 0, none⟩), Value.pointer (some ⟨w.heap.size + 3, 0, none⟩), t4, Value.pointer (some ⟨bx, 0, none⟩), t6, t7, t8, t9, t10, t11, t12, t13, t14, t15, A, (.agg #[(.int .i64 kk), (.int .i64 nn), (.slice Bq m0 x0), (.slice Aq m1 x1), (.slice Aq' m2 x2)]), (.int .i64 (len : Nat)), q19, (.slice (some ⟨gA, 0, none⟩) (len + 1) capA), (.pointer (some ⟨gA, len * 5, none⟩)), undef], defers := [] } w') :
    (Code.region 2 #[{ dst := some 16, op := Op.load 36 (Operand.tmp 3), type := 36, pos := "take.go:77", after := #[], guard := none }, { dst := some 17, op := Op.load 38 (Operand.tmp 5), type := 38, pos := "take.go:77", after := #[], guard := none }, { dst := some 18, op := Op.call { callee := Callee.builtin Builtin.len, args := #[Operand.tmp 16], argTypes := #[36] }, type := 3, pos := "take.go:77", after := #[{ on := 0, ground := Ground.data }], guard := none }, { dst := some 19, op := Op.buildSlice 36 1 #[(0, Operand.const (Value.agg #[Value.int IntKind.i64 0, Value.int IntKind.i64 0, Value.slice none 0 0, Value.slice none 0 0, Value.slice none 0 0]))], type := 36, pos := "take.go:77", after := #[], guard := none }, { dst := some 20, op := Op.call { callee := Callee.builtin Builtin.append, args := #[Operand.tmp 16, Operand.tmp 19], argTypes := #[36, 36] }, type := 36, pos := "take.go:77", after := #[{ on := 0, ground := Ground.data }, { on := 3, ground := Ground.data }, { on := 0, ground := Ground.phase }, { on := 1, ground := Ground.phase }, { on := 2, ground := Ground.phase }, { on := 3, ground := Ground.phase }], guard := none }, { dst := some 21, op := Op.indexAddr 36 (Operand.tmp 20) (Operand.tmp 18), type := 0, pos := "take.go:77", after := #[{ on := 4, ground := Ground.data }, { on := 2, ground := Ground.data }, { on := 0, ground := Ground.phase }, { on := 1, ground := Ground.phase }, { on := 2, ground := Ground.phase }, { on := 3, ground := Ground.phase }, { on := 4, ground := Ground.phase }, { on := 7, ground := Ground.gcOnly Departure.appendInPlace }], guard := none }, { dst := none, op := Op.store 38 (Operand.tmp 21) (Operand.tmp 17), type := 0, pos := "take.go:77", after := #[{ on := 5, ground := Ground.data }, { on := 1, ground := Ground.data }, { on := 4, ground := Ground.chain }, { on := 0, ground := Ground.phase }, { on := 1, ground := Ground.phase }, { on := 2, ground := Ground.phase }, { on := 3, ground := Ground.phase }, { on := 4, ground := Ground.phase }, { on := 7, ground := Ground.gcOnly Departure.appendInPlace }], guard := none }, { dst := none, op := Op.store 36 (Operand.tmp 3) (Operand.tmp 20), type := 0, pos := "take.go:77", after := #[{ on := 4, ground := Ground.data }, { on := 4, ground := Ground.chain }, { on := 6, ground := Ground.textOnly Departure.appendInPlace }, { on := 0, ground := Ground.phase }, { on := 1, ground := Ground.phase }, { on := 2, ground := Ground.phase }, { on := 3, ground := Ground.phase }, { on := 4, ground := Ground.phase }, { on := 5, ground := Ground.textOnly Departure.appendInPlace }, { on := 6, ground := Ground.textOnly Departure.appendInPlace }], guard := none }] true).wp Tryd.prog Q { tmps := #[Value.pointer (some ⟨w.heap.size, 0, none⟩), Value.pointer (some ⟨w.heap.size + 1, 0, none⟩), Value.pointer (some ⟨w.heap.size + 2, 0, none⟩), Value.pointer (some ⟨w.heap.size + 3, 0, none⟩), t4, Value.pointer (some ⟨bx, 0, none⟩), t6, t7, t8, t9, t10, t11, t12, t13, t14, t15, undef, undef, undef, undef, undef, undef, undef], defers := [] } W := by
  obtain ⟨i38, hi38, hz380, hz381, hz382⟩ := info_parts Tryd.info38
  obtain ⟨A0, cp0, rfl, hcp, hcpm, hA0⟩ := own_open hrow (by omega)
  refine wp_region_any (by kernel_rfl) ?_
  change wpAny _ _ _ _ _ _ _ (World.drew _)
  refine any_rel0 (R := fun f L a wx => ∃ b0 b1 b2 b3 b4 b5 b6 b7 : Bool, ∃ (q19 : Value) (gA capA : Nat), L = #[b0, b1, b2, b3, b4, b5, b6, b7] ∧ f = bcnt b0 + bcnt b1 + bcnt b2 + bcnt b3 + bcnt b4 + bcnt b5 + bcnt b6 + bcnt b7 ∧ (b2 = true → b0 = true) ∧ (b4 = true → b0 = true) ∧ (b4 = true → b1 = true) ∧ (b4 = true → b2 = true) ∧ (b4 = true → b3 = true) ∧ (b5 = true → b4 = true) ∧ (b5 = true → b2 = true) ∧ (b6 = true → b5 = true) ∧ (b6 = true → b1 = true) ∧ (b7 = true → b4 = true) ∧ a = { tmps := #[Value.pointer (some ⟨w.heap.size, 0, none⟩), Value.pointer (some ⟨w.heap.size + 1, 0, none⟩), Value.pointer (some ⟨w.heap.size + 2, 0, none⟩), Value.pointer (some ⟨w.heap.size + 3, 0, none⟩), t4, Value.pointer (some ⟨bx, 0, none⟩), t6, t7, t8, t9, t10, t11, t12, t13, t14, t15, bsel b0 (.slice A0 len cp0), bsel b1 (.agg #[(.int .i64 kk), (.int .i64 nn), (.slice Bq m0 x0), (.slice Aq m1 x1), (.slice Aq' m2 x2)]), bsel b2 (.int .i64 (len : Nat)), q19, bsel b4 (.slice (some ⟨gA, 0, none⟩) (len + 1) capA), bsel b5 (.pointer (some ⟨gA, len * 5, none⟩)), undef], defers := [] } ∧ Fr W wx (fun k => (b4 = true → (Value.slice A0 len cp0).ownBlock ≠ some k) ∧ (b7 = true → k ≠ w.heap.size + 3)) ∧ (b3 = false → q19 = undef) ∧ (b3 = true → b4 = false → ∃ gx, W.heap.size ≤ gx ∧ q19 = .slice (some ⟨gx, 0, none⟩) 1 1 ∧ wx.heap[gx]? = some (.cells #[.int .i64 0, .int .i64 0, .slice none 0 0, .slice none 0 0, .slice none 0 0] 38 (0, 0))) ∧ (b4 = true → wx.ownsRow base 38 5 (.slice (some ⟨gA, 0, none⟩) (len + 1) capA) (len + 1) (row ++ if b6 then [(.int .i64 kk), (.int .i64 nn), (.slice Bq m0 x0), (.slice Aq m1 x1), (.slice Aq' m2 x2)] else [.int .i64 0, .int .i64 0, .slice none 0 0, .slice none 0 0, .slice none 0 0]) ∧ ((Value.slice A0 len cp0).ownBlock = some gA ∨ W.heap.size ≤ gA)) ∧ (b7 = true → wx.heap[w.heap.size + 3]? = some (.cells #[.slice (some ⟨gA, 0, none⟩) (len + 1) capA] 36 (0, 0)))) ?_ _ _ _ _ ?start
  case start => exact ⟨false, false, false, false, false, false, false, false, undef, 0, 0, rfl, rfl, by simp, by simp, by simp, by simp, by simp, by simp, by simp, by simp, by simp, by simp, rfl, (Fr.refl W _).drewN 1, fun _ => rfl, by simp, by simp, by simp⟩
  · rintro f L a wx ⟨b0, b1, b2, b3, b4, b5, b6, b7, q19, gA, capA, rfl, rfl, j20, j40, j41, j42, j43, j54, j52, j65, j61, j74, rfl, hF, s3, q3, q4, q7⟩
    refine ⟨fun h0 => ?_, fun i hi => ?_⟩
    · have hno := List.eq_nil_iff_forall_not_mem.1 h0
      obtain rfl : b0 = true := by cases b0 with | true => rfl | false => exact absurd (mem_ready.2 ⟨rfl, _, rfl, fun e he hc => by simp at he⟩) (hno 0)
      obtain rfl : b1 = true := by cases b1 with | true => rfl | false => exact absurd (mem_ready.2 ⟨rfl, _, rfl, fun e he hc => by simp at he⟩) (hno 1)
      obtain rfl : b2 = true := by cases b2 with | true => rfl | false => exact absurd (mem_ready.2 ⟨rfl, _, rfl, fun e he hc => by simp at he; rcases he with rfl; rfl⟩) (hno 2)
      obtain rfl : b3 = true := by cases b3 with | true => rfl | false => exact absurd (mem_ready.2 ⟨rfl, _, rfl, fun e he hc => by simp at he⟩) (hno 3)
      obtain rfl : b4 = true := by cases b4 with | true => rfl | false => exact absurd (mem_ready.2 ⟨rfl, _, rfl, fun e he hc => by simp at he; rcases he with rfl | rfl | rfl | rfl | rfl | rfl <;> first | rfl | (exact absurd hc (by decide))⟩) (hno 4)
      obtain rfl : b5 = true := by cases b5 with | true => rfl | false => exact absurd (mem_ready.2 ⟨rfl, _, rfl, fun e he hc => by simp at he; rcases he with rfl | rfl | rfl | rfl | rfl | rfl | rfl | rfl <;> first | rfl | (exact absurd hc (by decide))⟩) (hno 5)
      obtain rfl : b6 = true := by cases b6 with | true => rfl | false => exact absurd (mem_ready.2 ⟨rfl, _, rfl, fun e he hc => by simp at he; rcases he with rfl | rfl | rfl | rfl | rfl | rfl | rfl | rfl | rfl <;> first | rfl | (exact absurd hc (by decide))⟩) (hno 6)
      obtain rfl : b7 = true := by cases b7 with | true => rfl | false => exact absurd (mem_ready.2 ⟨rfl, _, rfl, fun e he hc => by simp at he; rcases he with rfl | rfl | rfl | rfl | rfl | rfl | rfl | rfl | rfl | rfl <;> first | rfl | (exact absurd hc (by decide))⟩) (hno 7)
      obtain ⟨h1, h2⟩ := q4 rfl
      exact hfin gA capA q19 _ (by simpa using h1) (q7 rfl) (hF.mono (fun k _ hk => ⟨fun _ => hk.1, fun _ => hk.2⟩)) h2
    obtain ⟨g0', o, ho, ha⟩ := mem_ready.1 hi
    match i, g0', o, ho, ha with
    | 0, g0', o, ho, ha =>
      obtain rfl : b0 = false := g0'
      have e2 : b2 = false := by cases b2 with | false => rfl | true => exact (j20 rfl).symm
      subst e2
      have e4 : b4 = false := by cases b4 with | false => rfl | true => exact (j40 rfl).symm
      subst e4
      have e5 : b5 = false := by cases b5 with | false => rfl | true => exact (j54 rfl).symm
      subst e5
      have e6 : b6 = false := by cases b6 with | false => rfl | true => exact (j65 rfl).symm
      subst e6
      have e7 : b7 = false := by cases b7 with | false => rfl | true => exact (j74 rfl).symm
      subst e7
      have hq := hF.cell (cell_of_row W _ 0 _ _ _ hA) ⟨by simp, by simp⟩
      refine ⟨bcnt true + bcnt b1 + bcnt false + bcnt b3 + bcnt false + bcnt false + bcnt false + bcnt false, by have e0 : bcnt false = 1 := rfl; have e1 : bcnt true = 0 := rfl; omega, wpOp_step rfl fun K' hK => ?_⟩
      go_simp
      exact hK _ _ ⟨true, b1, false, b3, false, false, false, false, q19, gA, capA, rfl, rfl, by simp, by simp, by simp, by simp, by simp, by simp, by simp, by simp, by simp, by simp, rfl, hF, s3, q3, by simp, by simp⟩
    | 1, g0', o, ho, ha =>
      obtain rfl : b1 = false := g0'
      have e4 : b4 = false := by cases b4 with | false => rfl | true => exact (j41 rfl).symm
      subst e4
      have e5 : b5 = false := by cases b5 with | false => rfl | true => exact (j54 rfl).symm
      subst e5
      have e6 : b6 = false := by cases b6 with | false => rfl | true => exact (j65 rfl).symm
      subst e6
      have e7 : b7 = false := by cases b7 with | false => rfl | true => exact (j74 rfl).symm
      subst e7
      have hq0 := hF.cell (cell_of_row W bx 0 _ _ _ hx) ⟨by simp, by simp⟩
      have hq1 := hF.cell (cell_of_row W bx 1 _ _ _ hx) ⟨by simp, by simp⟩
      have hq2 := hF.cell (cell_of_row W bx 2 _ _ _ hx) ⟨by simp, by simp⟩
      have hq3 := hF.cell (cell_of_row W bx 3 _ _ _ hx) ⟨by simp, by simp⟩
      have hq4 := hF.cell (cell_of_row W bx 4 _ _ _ hx) ⟨by simp, by simp⟩
      refine ⟨bcnt b0 + bcnt true + bcnt b2 + bcnt b3 + bcnt false + bcnt false + bcnt false + bcnt false, by have e0 : bcnt false = 1 := rfl; have e1 : bcnt true = 0 := rfl; omega, wpOp_step rfl fun K' hK => ?_⟩
      go_simp
      exact hK _ _ ⟨b0, true, b2, b3, false, false, false, false, q19, gA, capA, rfl, rfl, j20, by simp, by simp, by simp, by simp, by simp, by simp, by simp, by simp, by simp, rfl, hF, s3, q3, by simp, by simp⟩
    | 2, g0', o, ho, ha =>
      obtain rfl : b2 = false := g0'
      have e4 : b4 = false := by cases b4 with | false => rfl | true => exact (j42 rfl).symm
      subst e4
      have e5 : b5 = false := by cases b5 with | false => rfl | true => exact (j54 rfl).symm
      subst e5
      have e6 : b6 = false := by cases b6 with | false => rfl | true => exact (j65 rfl).symm
      subst e6
      have e7 : b7 = false := by cases b7 with | false => rfl | true => exact (j74 rfl).symm
      subst e7
      cases ho
      obtain rfl : b0 = true := ha ⟨0, .data⟩ (by simp) rfl
      refine ⟨bcnt true + bcnt b1 + bcnt true + bcnt b3 + bcnt false + bcnt false + bcnt false + bcnt false, by have e0 : bcnt false = 1 := rfl; have e1 : bcnt true = 0 := rfl; omega, wpOp_step rfl fun K' hK => ?_⟩
      simp only [bsel]
      go_simp
      exact hK _ _ ⟨true, b1, true, b3, false, false, false, false, q19, gA, capA, rfl, rfl, by simp, by simp, by simp, by simp, by simp, by simp, by simp, by simp, by simp, by simp, rfl, hF, s3, q3, by simp, by simp⟩
    | 3, g0', o, ho, ha =>
      obtain rfl : b3 = false := g0'
      have e4 : b4 = false := by cases b4 with | false => rfl | true => exact (j43 rfl).symm
      subst e4
      have e5 : b5 = false := by cases b5 with | false => rfl | true => exact (j54 rfl).symm
      subst e5
      have e6 : b6 = false := by cases b6 with | false => rfl | true => exact (j65 rfl).symm
      subst e6
      have e7 : b7 = false := by cases b7 with | false => rfl | true => exact (j74 rfl).symm
      subst e7
      obtain rfl := s3 rfl
      refine ⟨bcnt b0 + bcnt b1 + bcnt b2 + bcnt true + bcnt false + bcnt false + bcnt false + bcnt false, by have e0 : bcnt false = 1 := rfl; have e1 : bcnt true = 0 := rfl; omega, wpOp_step rfl fun K' hK => ?_⟩
      simp only [bsel]
      go_simp
      exact hK _ _ ⟨b0, b1, b2, true, false, false, false, false, _, gA, capA, rfl, rfl, j20, by simp, by simp, by simp, by simp, by simp, by simp, by simp, by simp, by simp, rfl, (hF.mono (fun k _ hk => ⟨by simp, by simp⟩)).alloc _, by simp, fun _ _ => ⟨_, hF.size, rfl, new_at rfl _⟩, by simp, by simp⟩
    | 4, g0', o, ho, ha =>
      obtain rfl : b4 = false := g0'
      have e5 : b5 = false := by cases b5 with | false => rfl | true => exact (j54 rfl).symm
      subst e5
      have e6 : b6 = false := by cases b6 with | false => rfl | true => exact (j65 rfl).symm
      subst e6
      have e7 : b7 = false := by cases b7 with | false => rfl | true => exact (j74 rfl).symm
      subst e7
      cases ho
      obtain rfl : b0 = true := ha ⟨0, .data⟩ (by simp) rfl
      obtain rfl : b3 = true := ha ⟨3, .data⟩ (by simp) rfl
      obtain rfl : b1 = true := ha ⟨1, .phase⟩ (by simp) rfl
      obtain rfl : b2 = true := ha ⟨2, .phase⟩ (by simp) rfl
      obtain ⟨gx, hgx, rfl, hgc⟩ := q3 rfl rfl
      have rA := ownsRow_fr hrow hF (fun g e => ⟨by simp, by simp⟩)
      obtain ⟨v', w8, hr, hown8, hgr, hnn, hat⟩ := run_append_own_at (P := Tryd.prog) wx base 36 36 38 i38 _ 5 88 Tryd.underlying36 hi38 hz380 hz381 hz382 rfl (by decide) _ len _ rA ⟨gx, 0, none⟩ 1 1 [.int .i64 0, .int .i64 0, .slice none 0 0, .slice none 0 0, .slice none 0 0] rfl (fun j u hj => by rw [addr_add, Nat.zero_add, cell_of_row _ _ _ _ _ _ hgc]; simpa using hj) (by simp [Value.oneCell']) (by unfold maxLen; omega) (by omega) (by have := hF.size; omega)
      obtain ⟨gN, capN, rfl⟩ := ownsRow_succ hown8
      refine ⟨bcnt true + bcnt true + bcnt true + bcnt true + bcnt true + bcnt false + bcnt false + bcnt false, by have e0 : bcnt false = 1 := rfl; have e1 : bcnt true = 0 := rfl; omega, wpOp_step rfl fun K' hK => ?_⟩
      simp only [bsel]
      rw [if_pos (show Region.wanted _ _ = true from rfl)]
      refine wp_append0 _ _ _ rfl rfl rfl hr ?_
      have hF8 : Fr wx w8 (fun k => (Value.slice A0 len cp0).ownBlock ≠ some k) := Fr.of hgr (fun b _ hb e => hb e.symm)
      exact hK _ _ ⟨true, true, true, true, true, false, false, false, _, gN, capN, rfl, rfl, by simp, by simp, by simp, by simp, by simp, by simp, by simp, by simp, by simp, by simp, rfl, (hF.mono (fun k _ hk => ⟨by simp, by simp⟩)).trans (hF8.mono (fun k _ hk => hk.1 rfl)), by simp, by simp, fun _ => ⟨hown8, hat.elim (fun h => .inl h.symm) (fun h => .inr (by have := hF.size; cases h; omega))⟩, by simp⟩
    | 5, g0', o, ho, ha =>
      obtain rfl : b5 = false := g0'
      have e6 : b6 = false := by cases b6 with | false => rfl | true => exact (j65 rfl).symm
      subst e6
      cases ho
      obtain rfl : b4 = true := ha ⟨4, .data⟩ (by simp) rfl
      obtain rfl : b2 = true := ha ⟨2, .data⟩ (by simp) rfl
      obtain rfl : b0 = true := j20 rfl
      obtain rfl : b1 = true := j41 rfl
      obtain rfl : b3 = true := j43 rfl
      obtain ⟨hr4, hat4⟩ := q4 rfl
      have hcc : len + 1 ≤ capA ∧ capA ≤ maxLen := by obtain ⟨A9, cp9, e9, a1, a2, _⟩ := own_open hr4 (by omega); cases e9; exact ⟨a1, a2⟩
      have hl5 : (len : Int) < (len : Int) + 1 := by omega
      refine ⟨bcnt true + bcnt true + bcnt true + bcnt true + bcnt true + bcnt true + bcnt false + bcnt b7, by have e0 : bcnt false = 1 := rfl; have e1 : bcnt true = 0 := rfl; omega, wpOp_step rfl fun K' hK => ?_⟩
      simp only [bsel]
      go_simp
      exact hK _ _ ⟨true, true, true, true, true, true, false, b7, q19, gA, capA, rfl, rfl, by simp, by simp, by simp, by simp, by simp, by simp, by simp, by simp, by simp, by simp, rfl, hF, s3, q3, q4, q7⟩
    | 6, g0', o, ho, ha =>
      obtain rfl : b6 = false := g0'
      cases ho
      obtain rfl : b5 = true := ha ⟨5, .data⟩ (by simp) rfl
      obtain rfl : b1 = true := ha ⟨1, .data⟩ (by simp) rfl
      obtain rfl : b2 = true := j52 rfl
      obtain rfl : b4 = true := j54 rfl
      obtain rfl : b0 = true := j20 rfl
      obtain rfl : b3 = true := j43 rfl
      obtain ⟨hr4, hat4⟩ := q4 rfl
      simp only [Bool.false_eq_true, if_false] at hr4
      have hl5 : row.length = len * 5 := hrow.1
      have hc0 : wx.cell? ⟨gA, len * 5 + 0, none⟩ = some (.int .i64 0) := own_cell hr4 (by rw [List.getElem?_append_right (by omega), show len * 5 + 0 - row.length = 0 by omega]; rfl)
      have hf0 := own_frozen hr4 (len * 5 + 0)
      have hc1 : wx.cell? ⟨gA, len * 5 + 1, none⟩ = some (.int .i64 0) := own_cell hr4 (by rw [List.getElem?_append_right (by omega), show len * 5 + 1 - row.length = 1 by omega]; rfl)
      have hf1 := own_frozen hr4 (len * 5 + 1)
      have hc2 : wx.cell? ⟨gA, len * 5 + 2, none⟩ = some (.slice none 0 0) := own_cell hr4 (by rw [List.getElem?_append_right (by omega), show len * 5 + 2 - row.length = 2 by omega]; rfl)
      have hf2 := own_frozen hr4 (len * 5 + 2)
      have hc3 : wx.cell? ⟨gA, len * 5 + 3, none⟩ = some (.slice none 0 0) := own_cell hr4 (by rw [List.getElem?_append_right (by omega), show len * 5 + 3 - row.length = 3 by omega]; rfl)
      have hf3 := own_frozen hr4 (len * 5 + 3)
      have hc4 : wx.cell? ⟨gA, len * 5 + 4, none⟩ = some (.slice none 0 0) := own_cell hr4 (by rw [List.getElem?_append_right (by omega), show len * 5 + 4 - row.length = 4 by omega]; rfl)
      have hf4 := own_frozen hr4 (len * 5 + 4)
      rw [Nat.add_zero] at hc0 hf0
      refine ⟨bcnt true + bcnt true + bcnt true + bcnt true + bcnt true + bcnt true + bcnt true + bcnt b7, by have e0 : bcnt false = 1 := rfl; have e1 : bcnt true = 0 := rfl; omega, wpOp_step rfl fun K' hK => ?_⟩
      simp only [bsel]
      go_simp
      exact hK _ _ ⟨true, true, true, true, true, true, true, b7, q19, gA, capA, rfl, rfl, by simp, by simp, by simp, by simp, by simp, by simp, by simp, by simp, by simp, by simp, rfl, (fr_more hF (set5_fr wx gA _ _ _ _ _ _) (fun k hk ho e => by subst e; rcases hat4 with h | h; exact ho.1 rfl h; omega)), s3, by simp, fun _ => ⟨set5_own hr4 hl5, hat4⟩, fun h => (set5_at wx gA _ _ _ _ _ _ (q7 h) (by have := (hr4.lt gA rfl).1; omega))⟩
    | 7, g0', o, ho, ha =>
      obtain rfl : b7 = false := g0'
      cases ho
      obtain rfl : b4 = true := ha ⟨4, .data⟩ (by simp) rfl
      obtain rfl : b0 = true := j40 rfl
      obtain rfl : b1 = true := j41 rfl
      obtain rfl : b2 = true := j42 rfl
      obtain rfl : b3 = true := j43 rfl
      obtain ⟨hr4, hat4⟩ := q4 rfl
      have hgA : base ≤ gA := (hr4.lt gA rfl).1
      have h4 := hF.at hA ⟨fun _ e => by rcases hrow.2 with ⟨e2, _⟩ | ⟨g', _, _, e2, hb, _⟩ <;> rw [e2] at e <;> simp [Value.ownBlock] at e <;> omega, by simp⟩
      have k4 := cell_of_row _ _ 0 _ _ _ h4
      have f4 := frozen_of_row _ (w.heap.size + 3) 0 _ 36 h4
      simp only [List.getElem?_toArray, List.getElem?_cons_zero] at k4
      refine ⟨bcnt true + bcnt true + bcnt true + bcnt true + bcnt true + bcnt b5 + bcnt b6 + bcnt true, by have e0 : bcnt false = 1 := rfl; have e1 : bcnt true = 0 := rfl; omega, wpOp_step rfl fun K' hK => ?_⟩
      simp only [bsel]
      go_simp
      have hFs : Fr wx (wx.setCell ⟨w.heap.size + 3, 0, none⟩ (.slice (some ⟨gA, 0, none⟩) (len + 1) capA)) (fun b => b ≠ w.heap.size + 3) := Fr.of (gset wx _ 0 _) (fun b _ hb e => hb (by cases e; rfl))
      exact hK _ _ ⟨true, true, true, true, true, b5, b6, true, q19, gA, capA, rfl, rfl, by simp, by simp, by simp, by simp, by simp, by simp, by simp, j65, by simp, by simp, rfl, (hF.mono (fun k _ hk => ⟨hk.1, by simp⟩)).trans (hFs.mono (fun k _ hk => hk.2 rfl)), s3, by simp, fun _ => ⟨ownsRow_fr hr4 hFs (fun g e => by have := (hr4.lt g e).1; omega), hat4⟩, fun _ => by rw [heap_setCell_same wx (w.heap.size + 3) 0 _ 36 _ h4]; rfl⟩
end Go.Proofs.YtlkbcdbjmkfkkaaDoor
