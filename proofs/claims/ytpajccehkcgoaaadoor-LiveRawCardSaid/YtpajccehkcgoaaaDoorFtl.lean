/-
  The last region of a round of 'Fits': the list of what is open, one longer.
-/
import Derived.Test.YtpajccehkcgoaaaDoorUrq
import Derived.Test.YtpajccehkcgoaaaDoorGnl
import Derived.Test.YtpajccehkcgoaaaDoorFsm
namespace Go.Proofs.YtpajccehkcgoaaaDoor
open Go.RowKit Go.Shelf
attribute [local go_sem] Oper.semAt_some

theorem Tryd.info116 : (Tryd.prog.info? 116).map (fun i => (i.zero, i.size, i.bytes)) = some (some (.agg #[.int .i64 0, .int .i64 0, .int .i64 0]), 3, 24) := by kernel_rfl
set_option maxRecDepth 100000 in
set_option maxHeartbeats 8000000 in
theorem fit_tail (lr n id : Nat) (Q : Exit → Act → World → Prop) (n4 xb base len d1 : Nat) (dz m kx nx : Int) (V7 V64 B2 B3 B4 : Value) (row : List Value) (W : World) (t0 t1 t2 t3 t4 t5 t6 t11 t12 t13 t14 t15 t16 t17 t18 t19 t20 t21 t22 t23 t24 t25 t26 t27 t28 t29 t30 t31 t32 t33 t34 t35 t36 t37 t38 t39 t40 t41 t42 t43 t44 t45 t46 t47 t48 t49 t50 t51 t52 t53 t54 t55 t56 t57 t58 t59 t60 : Value)
    (hd1 : IntKind.i64.wrap (dz - 1) = (d1 : Int)) (hn4 : W.heap[n4]? = some (.cells #[V7] 110 (0, 0))) (hx : W.heap[xb]? = some (.cells #[.int .i64 kx, .int .i64 nx, B2, B3, B4] 38 (0, 0)))
    (hsl : ∀ wx, (Instr.slice 110 V7 none (some (.int .i64 (d1 : Int))) none).run Tryd.prog wx = .ok V64 wx) (hrow : W.ownsRow base 116 3 V64 len row) (hlen : len ≤ 1000000) (hbase : base ≤ W.heap.size) (hn4b : n4 < base)
    (hfin : ∀ (v70 : Value) (a : Act) (w' : World), w'.ownsRow base 116 3 v70 (len + 1) (row ++ [.int .i64 m, .int .i64 nx, .int .i64 0]) → w'.heap[n4]? = some (.cells #[v70] 110 (0, 0)) → Fr W w' (fun k => V64.ownBlock ≠ some k ∧ k ≠ n4) → (v70.ownBlock = V64.ownBlock ∨ ∃ k, v70.ownBlock = some k ∧ W.heap.size ≤ k) → Q .normal a w') :
    (Code.region id #[{ dst := some 61, op := Op.load 110 (Operand.tmp 7), type := 110, pos := "value.go:38", after := #[], guard := none }, { dst := some 62, op := Op.move (Operand.tmp 8), type := 3, pos := "value.go:38", after := #[], guard := none }, { dst := some 63, op := Op.binOp BinOp.sub 3 (Operand.tmp 62) (Operand.const (Value.int IntKind.i64 1)) 3, type := 3, pos := "value.go:38", after := #[{ on := 1, ground := Ground.data }], guard := none }, { dst := some 64, op := Op.slice 110 (Operand.tmp 61) none (some (Operand.tmp 63)) none, type := 110, pos := "value.go:38", after := #[{ on := 0, ground := Ground.data }, { on := 2, ground := Ground.data }], guard := none }, { dst := some 65, op := Op.move (Operand.tmp 10), type := 3, pos := "value.go:38", after := #[], guard := none }, { dst := some 66, op := Op.fieldAddr 38 (Operand.tmp 9) 1, type := 0, pos := "value.go:38", after := #[], guard := none }, { dst := some 67, op := Op.load 2 (Operand.tmp 66), type := 2, pos := "value.go:38", after := #[{ on := 5, ground := Ground.data }], guard := none }, { dst := some 68, op := Op.build 116 #[(0, Operand.tmp 65), (1, Operand.tmp 67)], type := 116, pos := "value.go:38", after := #[{ on := 4, ground := Ground.data }, { on := 6, ground := Ground.data }], guard := none }, { dst := some 69, op := Op.buildSlice 110 1 #[(0, Operand.tmp 68)], type := 110, pos := "value.go:38", after := #[{ on := 7, ground := Ground.data }], guard := none }, { dst := some 70, op := Op.call { callee := Callee.builtin Builtin.append, args := #[Operand.tmp 64, Operand.tmp 69], argTypes := #[110, 110] }, type := 110, pos := "value.go:38", after := #[{ on := 3, ground := Ground.data }, { on := 8, ground := Ground.data }], guard := none }, { dst := none, op := Op.store 110 (Operand.tmp 7) (Operand.tmp 70), type := 0, pos := "value.go:38", after := #[{ on := 9, ground := Ground.data }, { on := 9, ground := Ground.chain }, { on := 0, ground := Ground.phase }, { on := 1, ground := Ground.phase }, { on := 2, ground := Ground.phase }, { on := 3, ground := Ground.phase }, { on := 4, ground := Ground.phase }, { on := 5, ground := Ground.phase }, { on := 6, ground := Ground.phase }, { on := 7, ground := Ground.phase }, { on := 8, ground := Ground.phase }, { on := 9, ground := Ground.phase }], guard := none }] true).wpIn (Fence.wide.inRound lr) n Tryd.prog Q { tmps := #[t0, t1, t2, t3, t4, t5, t6, Value.pointer (some ⟨n4, 0, none⟩), Value.int .i64 dz, Value.pointer (some ⟨xb, 0, none⟩), Value.int .i64 m, t11, t12, t13, t14, t15, t16, t17, t18, t19, t20, t21, t22, t23, t24, t25, t26, t27, t28, t29, t30, t31, t32, t33, t34, t35, t36, t37, t38, t39, t40, t41, t42, t43, t44, t45, t46, t47, t48, t49, t50, t51, t52, t53, t54, t55, t56, t57, t58, t59, t60, undef, undef, undef, undef, undef, undef, undef, undef, undef, undef], defers := [] } W := by
  obtain ⟨i69, hi69, hz690, hz691, hz692⟩ := info_parts Tryd.info116
  refine wpIn_region_any (by kernel_rfl) ?_
  change wpAnyIn _ _ _ _ _ _ _ _ _ (World.drew _)
  refine any_rel (R := fun f L a wx => ∃ b0 b1 b2 b3 b4 b5 b6 b7 b8 b9 b10 : Bool, ∃ (q69 v70 : Value), L = #[b0, b1, b2, b3, b4, b5, b6, b7, b8, b9, b10] ∧ f = bcnt b0 + bcnt b1 + bcnt b2 + bcnt b3 + bcnt b4 + bcnt b5 + bcnt b6 + bcnt b7 + bcnt b8 + bcnt b9 + bcnt b10 ∧ (b2 = true → b1 = true) ∧ (b3 = true → b0 = true) ∧ (b3 = true → b2 = true) ∧ (b6 = true → b5 = true) ∧ (b7 = true → b4 = true) ∧ (b7 = true → b6 = true) ∧ (b8 = true → b7 = true) ∧ (b9 = true → b3 = true) ∧ (b9 = true → b8 = true) ∧ (b10 = true → b9 = true) ∧ a = { tmps := #[t0, t1, t2, t3, t4, t5, t6, Value.pointer (some ⟨n4, 0, none⟩), Value.int .i64 dz, Value.pointer (some ⟨xb, 0, none⟩), Value.int .i64 m, t11, t12, t13, t14, t15, t16, t17, t18, t19, t20, t21, t22, t23, t24, t25, t26, t27, t28, t29, t30, t31, t32, t33, t34, t35, t36, t37, t38, t39, t40, t41, t42, t43, t44, t45, t46, t47, t48, t49, t50, t51, t52, t53, t54, t55, t56, t57, t58, t59, t60, bsel b0 V7, bsel b1 (.int .i64 dz), bsel b2 (.int .i64 d1), bsel b3 V64, bsel b4 (.int .i64 m), bsel b5 (.pointer (some ⟨xb, 1, none⟩)), bsel b6 (.int .i64 nx), bsel b7 (.agg #[.int .i64 m, .int .i64 nx, .int .i64 0]), q69, v70], defers := [] } ∧ Fr W wx (fun k => (b9 = true → V64.ownBlock ≠ some k) ∧ (b10 = true → k ≠ n4)) ∧ (b8 = false → q69 = undef) ∧ (b8 = true → b9 = false → ∃ gx, W.heap.size ≤ gx ∧ q69 = .slice (some ⟨gx, 0, none⟩) 1 1 ∧ wx.heap[gx]? = some (.cells #[.int .i64 m, .int .i64 nx, .int .i64 0] 116 (0, 0))) ∧ (b9 = false → v70 = undef) ∧ (b9 = true → wx.ownsRow base 116 3 v70 (len + 1) (row ++ [.int .i64 m, .int .i64 nx, .int .i64 0]) ∧ (v70.ownBlock = V64.ownBlock ∨ ∃ k, v70.ownBlock = some k ∧ W.heap.size ≤ k)) ∧ (b10 = true → wx.heap[n4]? = some (.cells #[v70] 110 (0, 0)))) ?_ _ _ _ _ ?start
  case start => exact ⟨false, false, false, false, false, false, false, false, false, false, false, undef, undef, rfl, rfl, by simp, by simp, by simp, by simp, by simp, by simp, by simp, by simp, by simp, by simp, rfl, (Fr.refl W _).drewN 1, fun _ => rfl, by simp, fun _ => rfl, by simp, by simp⟩
  · rintro f L a wx ⟨b0, b1, b2, b3, b4, b5, b6, b7, b8, b9, b10, q69, v70, rfl, rfl, j21, j30, j32, j65, j74, j76, j87, j93, j98, j109, rfl, hF, s8, q8, s9, q9, q10⟩
    refine ⟨fun h0 => ?_, fun i hi => ?_⟩
    · have hno := List.eq_nil_iff_forall_not_mem.1 h0
      obtain rfl : b0 = true := by cases b0 with | true => rfl | false => exact absurd (mem_ready.2 ⟨rfl, _, rfl, fun e he _ => by simp at he⟩) (hno 0)
      obtain rfl : b1 = true := by cases b1 with | true => rfl | false => exact absurd (mem_ready.2 ⟨rfl, _, rfl, fun e he _ => by simp at he⟩) (hno 1)
      obtain rfl : b2 = true := by cases b2 with | true => rfl | false => exact absurd (mem_ready.2 ⟨rfl, _, rfl, fun e he _ => by simp at he; rcases he with rfl; rfl⟩) (hno 2)
      obtain rfl : b3 = true := by cases b3 with | true => rfl | false => exact absurd (mem_ready.2 ⟨rfl, _, rfl, fun e he _ => by simp at he; rcases he with rfl | rfl <;> rfl⟩) (hno 3)
      obtain rfl : b4 = true := by cases b4 with | true => rfl | false => exact absurd (mem_ready.2 ⟨rfl, _, rfl, fun e he _ => by simp at he⟩) (hno 4)
      obtain rfl : b5 = true := by cases b5 with | true => rfl | false => exact absurd (mem_ready.2 ⟨rfl, _, rfl, fun e he _ => by simp at he⟩) (hno 5)
      obtain rfl : b6 = true := by cases b6 with | true => rfl | false => exact absurd (mem_ready.2 ⟨rfl, _, rfl, fun e he _ => by simp at he; rcases he with rfl; rfl⟩) (hno 6)
      obtain rfl : b7 = true := by cases b7 with | true => rfl | false => exact absurd (mem_ready.2 ⟨rfl, _, rfl, fun e he _ => by simp at he; rcases he with rfl | rfl <;> rfl⟩) (hno 7)
      obtain rfl : b8 = true := by cases b8 with | true => rfl | false => exact absurd (mem_ready.2 ⟨rfl, _, rfl, fun e he _ => by simp at he; rcases he with rfl; rfl⟩) (hno 8)
      obtain rfl : b9 = true := by cases b9 with | true => rfl | false => exact absurd (mem_ready.2 ⟨rfl, _, rfl, fun e he _ => by simp at he; rcases he with rfl | rfl <;> rfl⟩) (hno 9)
      obtain rfl : b10 = true := by cases b10 with | true => rfl | false => exact absurd (mem_ready.2 ⟨rfl, _, rfl, fun e he _ => by simp at he; rcases he with rfl | rfl | rfl | rfl | rfl | rfl | rfl | rfl | rfl | rfl | rfl | rfl <;> rfl⟩) (hno 10)
      obtain ⟨h1, h2⟩ := q9 rfl
      exact hfin _ _ _ h1 (q10 rfl) (hF.mono (fun k _ hk => ⟨fun _ => hk.1, fun _ => hk.2⟩)) h2
    obtain ⟨g0', o, ho, ha⟩ := mem_ready.1 hi
    match i, g0', o, ho, ha with
    | 0, g0', o, ho, ha =>
      obtain rfl : b0 = false := g0'
      have e3 : b3 = false := by cases b3 with | false => rfl | true => exact (j30 rfl).symm
      subst e3
      have e9 : b9 = false := by cases b9 with | false => rfl | true => exact (j93 rfl).symm
      subst e9
      have e10 : b10 = false := by cases b10 with | false => rfl | true => exact (j109 rfl).symm
      subst e10
      obtain rfl := s9 rfl
      have hq := hF.cell (cell_of_row W n4 0 _ _ _ hn4) ⟨by simp, by simp⟩
      refine ⟨bcnt true + bcnt b1 + bcnt b2 + bcnt false + bcnt b4 + bcnt b5 + bcnt b6 + bcnt b7 + bcnt b8 + bcnt false + bcnt false, by have e0 : bcnt false = 1 := rfl; have e1 : bcnt true = 0 := rfl; omega, wpOpIn_step rfl fun K' hK => ?_⟩
      go_simp
      exact hK _ _ ⟨true, b1, b2, false, b4, b5, b6, b7, b8, false, false, q69, undef, rfl, rfl, j21, by simp, by simp, j65, j74, j76, j87, by simp, by simp, by simp, rfl, hF, s8, q8, fun _ => rfl, by simp, by simp⟩
    | 1, g0', o, ho, ha =>
      obtain rfl : b1 = false := g0'
      have e2 : b2 = false := by cases b2 with | false => rfl | true => exact (j21 rfl).symm
      subst e2
      have e3 : b3 = false := by cases b3 with | false => rfl | true => exact (j32 rfl).symm
      subst e3
      have e9 : b9 = false := by cases b9 with | false => rfl | true => exact (j93 rfl).symm
      subst e9
      have e10 : b10 = false := by cases b10 with | false => rfl | true => exact (j109 rfl).symm
      subst e10
      obtain rfl := s9 rfl
      refine ⟨bcnt b0 + bcnt true + bcnt false + bcnt false + bcnt b4 + bcnt b5 + bcnt b6 + bcnt b7 + bcnt b8 + bcnt false + bcnt false, by have e0 : bcnt false = 1 := rfl; have e1 : bcnt true = 0 := rfl; omega, wpOpIn_step rfl fun K' hK => ?_⟩
      go_simp
      exact hK _ _ ⟨b0, true, false, false, b4, b5, b6, b7, b8, false, false, q69, undef, rfl, rfl, by simp, by simp, by simp, j65, j74, j76, j87, by simp, by simp, by simp, rfl, hF, s8, q8, fun _ => rfl, by simp, by simp⟩
    | 2, g0', o, ho, ha =>
      obtain rfl : b2 = false := g0'
      have e3 : b3 = false := by cases b3 with | false => rfl | true => exact (j32 rfl).symm
      subst e3
      have e9 : b9 = false := by cases b9 with | false => rfl | true => exact (j93 rfl).symm
      subst e9
      have e10 : b10 = false := by cases b10 with | false => rfl | true => exact (j109 rfl).symm
      subst e10
      cases ho
      obtain rfl : b1 = true := ha ⟨1, .data⟩ (by simp) rfl
      obtain rfl := s9 rfl
      refine ⟨bcnt b0 + bcnt true + bcnt true + bcnt false + bcnt b4 + bcnt b5 + bcnt b6 + bcnt b7 + bcnt b8 + bcnt false + bcnt false, by have e0 : bcnt false = 1 := rfl; have e1 : bcnt true = 0 := rfl; omega, wpOpIn_step rfl fun K' hK => ?_⟩
      simp only [bsel]
      go_simp
      exact hK _ _ ⟨b0, true, true, false, b4, b5, b6, b7, b8, false, false, q69, undef, rfl, rfl, by simp, by simp, by simp, j65, j74, j76, j87, by simp, by simp, by simp, rfl, hF, s8, q8, fun _ => rfl, by simp, by simp⟩
    | 3, g0', o, ho, ha =>
      obtain rfl : b3 = false := g0'
      have e9 : b9 = false := by cases b9 with | false => rfl | true => exact (j93 rfl).symm
      subst e9
      have e10 : b10 = false := by cases b10 with | false => rfl | true => exact (j109 rfl).symm
      subst e10
      cases ho
      obtain rfl : b0 = true := ha ⟨0, .data⟩ (by simp) rfl
      obtain rfl : b2 = true := ha ⟨2, .data⟩ (by simp) rfl
      obtain rfl : b1 = true := j21 rfl
      obtain rfl := s9 rfl
      refine ⟨bcnt true + bcnt true + bcnt true + bcnt true + bcnt b4 + bcnt b5 + bcnt b6 + bcnt b7 + bcnt b8 + bcnt false + bcnt false, by have e0 : bcnt false = 1 := rfl; have e1 : bcnt true = 0 := rfl; omega, wpOpIn_step rfl fun K' hK => ?_⟩
      simp only [bsel]
      have hsl' := hsl
      go_simp
      exact hK _ _ ⟨true, true, true, true, b4, b5, b6, b7, b8, false, false, q69, undef, rfl, rfl, by simp, by simp, by simp, j65, j74, j76, j87, by simp, by simp, by simp, rfl, hF, s8, q8, fun _ => rfl, by simp, by simp⟩
    | 4, g0', o, ho, ha =>
      obtain rfl : b4 = false := g0'
      have e7 : b7 = false := by cases b7 with | false => rfl | true => exact (j74 rfl).symm
      subst e7
      have e8 : b8 = false := by cases b8 with | false => rfl | true => exact (j87 rfl).symm
      subst e8
      have e9 : b9 = false := by cases b9 with | false => rfl | true => exact (j98 rfl).symm
      subst e9
      have e10 : b10 = false := by cases b10 with | false => rfl | true => exact (j109 rfl).symm
      subst e10
      obtain rfl := s8 rfl
      obtain rfl := s9 rfl
      refine ⟨bcnt b0 + bcnt b1 + bcnt b2 + bcnt b3 + bcnt true + bcnt b5 + bcnt b6 + bcnt false + bcnt false + bcnt false + bcnt false, by have e0 : bcnt false = 1 := rfl; have e1 : bcnt true = 0 := rfl; omega, wpOpIn_step rfl fun K' hK => ?_⟩
      go_simp
      exact hK _ _ ⟨b0, b1, b2, b3, true, b5, b6, false, false, false, false, undef, undef, rfl, rfl, j21, j30, j32, j65, by simp, by simp, by simp, by simp, by simp, by simp, rfl, hF, fun _ => rfl, by simp, fun _ => rfl, by simp, by simp⟩
    | 5, g0', o, ho, ha =>
      obtain rfl : b5 = false := g0'
      have e6 : b6 = false := by cases b6 with | false => rfl | true => exact (j65 rfl).symm
      subst e6
      have e7 : b7 = false := by cases b7 with | false => rfl | true => exact (j76 rfl).symm
      subst e7
      have e8 : b8 = false := by cases b8 with | false => rfl | true => exact (j87 rfl).symm
      subst e8
      have e9 : b9 = false := by cases b9 with | false => rfl | true => exact (j98 rfl).symm
      subst e9
      have e10 : b10 = false := by cases b10 with | false => rfl | true => exact (j109 rfl).symm
      subst e10
      obtain rfl := s8 rfl
      obtain rfl := s9 rfl
      refine ⟨bcnt b0 + bcnt b1 + bcnt b2 + bcnt b3 + bcnt b4 + bcnt true + bcnt false + bcnt false + bcnt false + bcnt false + bcnt false, by have e0 : bcnt false = 1 := rfl; have e1 : bcnt true = 0 := rfl; omega, wpOpIn_step rfl fun K' hK => ?_⟩
      go_simp
      exact hK _ _ ⟨b0, b1, b2, b3, b4, true, false, false, false, false, false, undef, undef, rfl, rfl, j21, j30, j32, by simp, by simp, by simp, by simp, by simp, by simp, by simp, rfl, hF, fun _ => rfl, by simp, fun _ => rfl, by simp, by simp⟩
    | 6, g0', o, ho, ha =>
      obtain rfl : b6 = false := g0'
      have e7 : b7 = false := by cases b7 with | false => rfl | true => exact (j76 rfl).symm
      subst e7
      have e8 : b8 = false := by cases b8 with | false => rfl | true => exact (j87 rfl).symm
      subst e8
      have e9 : b9 = false := by cases b9 with | false => rfl | true => exact (j98 rfl).symm
      subst e9
      have e10 : b10 = false := by cases b10 with | false => rfl | true => exact (j109 rfl).symm
      subst e10
      cases ho
      obtain rfl : b5 = true := ha ⟨5, .data⟩ (by simp) rfl
      obtain rfl := s8 rfl
      obtain rfl := s9 rfl
      have hq := hF.cell (cell_of_row W xb 1 _ _ _ hx) ⟨by simp, by simp⟩
      refine ⟨bcnt b0 + bcnt b1 + bcnt b2 + bcnt b3 + bcnt b4 + bcnt true + bcnt true + bcnt false + bcnt false + bcnt false + bcnt false, by have e0 : bcnt false = 1 := rfl; have e1 : bcnt true = 0 := rfl; omega, wpOpIn_step rfl fun K' hK => ?_⟩
      simp only [bsel]
      go_simp
      exact hK _ _ ⟨b0, b1, b2, b3, b4, true, true, false, false, false, false, undef, undef, rfl, rfl, j21, j30, j32, by simp, by simp, by simp, by simp, by simp, by simp, by simp, rfl, hF, fun _ => rfl, by simp, fun _ => rfl, by simp, by simp⟩
    | 7, g0', o, ho, ha =>
      obtain rfl : b7 = false := g0'
      have e8 : b8 = false := by cases b8 with | false => rfl | true => exact (j87 rfl).symm
      subst e8
      have e9 : b9 = false := by cases b9 with | false => rfl | true => exact (j98 rfl).symm
      subst e9
      have e10 : b10 = false := by cases b10 with | false => rfl | true => exact (j109 rfl).symm
      subst e10
      cases ho
      obtain rfl : b4 = true := ha ⟨4, .data⟩ (by simp) rfl
      obtain rfl : b6 = true := ha ⟨6, .data⟩ (by simp) rfl
      obtain rfl : b5 = true := j65 rfl
      obtain rfl := s8 rfl
      obtain rfl := s9 rfl
      refine ⟨bcnt b0 + bcnt b1 + bcnt b2 + bcnt b3 + bcnt true + bcnt true + bcnt true + bcnt true + bcnt false + bcnt false + bcnt false, by have e0 : bcnt false = 1 := rfl; have e1 : bcnt true = 0 := rfl; omega, wpOpIn_step rfl fun K' hK => ?_⟩
      simp only [bsel]
      go_simp
      exact hK _ _ ⟨b0, b1, b2, b3, true, true, true, true, false, false, false, undef, undef, rfl, rfl, j21, j30, j32, by simp, by simp, by simp, by simp, by simp, by simp, by simp, rfl, hF, fun _ => rfl, by simp, fun _ => rfl, by simp, by simp⟩
    | 8, g0', o, ho, ha =>
      obtain rfl : b8 = false := g0'
      have e9 : b9 = false := by cases b9 with | false => rfl | true => exact (j98 rfl).symm
      subst e9
      have e10 : b10 = false := by cases b10 with | false => rfl | true => exact (j109 rfl).symm
      subst e10
      cases ho
      obtain rfl : b7 = true := ha ⟨7, .data⟩ (by simp) rfl
      obtain rfl : b4 = true := j74 rfl
      obtain rfl : b6 = true := j76 rfl
      obtain rfl : b5 = true := j65 rfl
      obtain rfl := s8 rfl
      obtain rfl := s9 rfl
      refine ⟨bcnt b0 + bcnt b1 + bcnt b2 + bcnt b3 + bcnt true + bcnt true + bcnt true + bcnt true + bcnt true + bcnt false + bcnt false, by have e0 : bcnt false = 1 := rfl; have e1 : bcnt true = 0 := rfl; omega, wpOpIn_step rfl fun K' hK => ?_⟩
      simp only [bsel]
      go_simp
      exact hK _ _ ⟨b0, b1, b2, b3, true, true, true, true, true, false, false, _, undef, rfl, rfl, j21, j30, j32, by simp, by simp, by simp, by simp, by simp, by simp, by simp, rfl, (hF.mono (fun k _ hk => ⟨by simp, by simp⟩)).alloc _, by simp, fun _ _ => ⟨_, hF.size, rfl, new_at rfl _⟩, fun _ => rfl, by simp, by simp⟩
    | 9, g0', o, ho, ha =>
      obtain rfl : b9 = false := g0'
      have e10 : b10 = false := by cases b10 with | false => rfl | true => exact (j109 rfl).symm
      subst e10
      cases ho
      obtain rfl : b3 = true := ha ⟨3, .data⟩ (by simp) rfl
      obtain rfl : b8 = true := ha ⟨8, .data⟩ (by simp) rfl
      obtain rfl : b0 = true := j30 rfl
      obtain rfl : b2 = true := j32 rfl
      obtain rfl : b7 = true := j87 rfl
      obtain rfl : b1 = true := j21 rfl
      obtain rfl : b4 = true := j74 rfl
      obtain rfl : b6 = true := j76 rfl
      obtain rfl : b5 = true := j65 rfl
      obtain ⟨gx, hgx, rfl, hgc⟩ := q8 rfl rfl
      obtain rfl := s9 rfl
      have rA := ownsRow_fr hrow hF (fun g e => ⟨by simp, by simp⟩)
      obtain ⟨v', w8, hr, hown8, hgr, _, hat⟩ := run_append_own_at (P := Tryd.prog) wx base 110 110 116 i69 _ 3 24 Tryd.underlying110 hi69 hz690 hz691 hz692 rfl (by decide) V64 len _ rA ⟨gx, 0, none⟩ 1 1 [.int .i64 m, .int .i64 nx, .int .i64 0] rfl (fun j u hj => by rw [addr_add, Nat.zero_add, cell_of_row _ _ _ _ _ _ hgc]; simpa using hj) (by simp [Value.oneCell']) (by unfold maxLen; omega) (by omega) (by have := hF.size; omega)
      refine ⟨bcnt true + bcnt true + bcnt true + bcnt true + bcnt true + bcnt true + bcnt true + bcnt true + bcnt true + bcnt true + bcnt false, by have e0 : bcnt false = 1 := rfl; have e1 : bcnt true = 0 := rfl; omega, wpOpIn_step rfl fun K' hK => ?_⟩
      simp only [bsel]
      rw [if_pos (show Region.wanted _ _ = true from rfl)]
      refine wpIn_append_round _ _ _ rfl rfl rfl hr ?_
      have hF8 : Fr wx w8 (fun k => V64.ownBlock ≠ some k) := Fr.of hgr (fun b _ hb e => hb e.symm)
      exact hK _ _ ⟨true, true, true, true, true, true, true, true, true, true, false, _, v', rfl, rfl, by simp, by simp, by simp, by simp, by simp, by simp, by simp, by simp, by simp, by simp, rfl, (hF.mono (fun k _ hk => ⟨by simp, by simp⟩)).trans (hF8.mono (fun k _ hk => hk.1 rfl)), by simp, by simp, by simp, fun _ => ⟨hown8, hat.elim .inl (fun h => .inr ⟨_, h, hF.size⟩)⟩, by simp⟩
    | 10, g0', o, ho, ha =>
      obtain rfl : b10 = false := g0'
      cases ho
      obtain rfl : b9 = true := ha ⟨9, .data⟩ (by simp) rfl
      obtain rfl : b3 = true := j93 rfl
      obtain rfl : b8 = true := j98 rfl
      obtain rfl : b0 = true := j30 rfl
      obtain rfl : b2 = true := j32 rfl
      obtain rfl : b7 = true := j87 rfl
      obtain rfl : b1 = true := j21 rfl
      obtain rfl : b4 = true := j74 rfl
      obtain rfl : b6 = true := j76 rfl
      obtain rfl : b5 = true := j65 rfl
      obtain ⟨hr70, hat70⟩ := q9 rfl
      obtain ⟨gA, capA, rfl⟩ := ownsRow_succ hr70
      have hgA : base ≤ gA := (hr70.lt gA rfl).1
      have h4 := hF.at hn4 ⟨fun _ e => by rcases hrow.2 with ⟨e2, _⟩ | ⟨g', _, _, e2, hb, _⟩ <;> rw [e2] at e <;> simp [Value.ownBlock] at e <;> omega, by simp⟩
      have k4 : wx.cell? ⟨n4, 0, none⟩ = some V7 := cell_of_row _ _ 0 _ _ _ h4
      have f4 := frozen_of_row _ n4 0 _ 110 h4
      refine ⟨bcnt true + bcnt true + bcnt true + bcnt true + bcnt true + bcnt true + bcnt true + bcnt true + bcnt true + bcnt true + bcnt true, by have e0 : bcnt false = 1 := rfl; have e1 : bcnt true = 0 := rfl; omega, wpOpIn_step rfl fun K' hK => ?_⟩
      go_simp
      have hFs : Fr wx (wx.setCell ⟨n4, 0, none⟩ (.slice (some ⟨gA, 0, none⟩) (len + 1) capA)) (fun b => b ≠ n4) := Fr.of (gset wx n4 0 _) (fun b _ hb e => hb (by cases e; rfl))
      exact hK _ _ ⟨true, true, true, true, true, true, true, true, true, true, true, q69, _, rfl, rfl, by simp, by simp, by simp, by simp, by simp, by simp, by simp, by simp, by simp, by simp, rfl, (hF.mono (fun k _ hk => ⟨hk.1, by simp⟩)).trans (hFs.mono (fun k _ hk => hk.2 rfl)), s8, by simp, by simp, fun _ => ⟨ownsRow_fr hr70 hFs (fun g e => by have := (hr70.lt g e).1; omega), hat70⟩, fun _ => by rw [heap_setCell_same wx n4 0 _ 110 _ h4]; rfl⟩
end Go.Proofs.YtpajccehkcgoaaaDoor
