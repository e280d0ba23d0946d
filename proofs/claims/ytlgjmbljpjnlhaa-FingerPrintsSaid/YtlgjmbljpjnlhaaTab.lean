/-
  The table, as the program makes it: a loop over what its iterator tells.
-/
import Derived.Test.YtlgjmbljpjnlhaaItr
namespace Go.Proofs.Ytlgjmbljpjnlhaa
open Go.RowKit Go.Shelf
theorem wpIn_load_row {P : Program} {F : Fence} {n : Nat} {o : Oper} {a : Act} {w : World} {K : Act → World → Prop} {Q : Exit → Act → World → Prop} (hro : F.round = none) (ty : TypeId) (x : Operand) (ho : o.op = .load ty x)
    (g : Nat) (hx : a.eval x = .pointer (some ⟨g, 0, none⟩)) (t : TypeId) (cs : Array Value) (fr : Nat × Nat) (d : TypeDesc) (hg : w.heap[g]? = some (.cells cs t fr))
    (hu : P.underlying ty = some d) (hd : (match d with | .struct _ | .array _ _ => true | _ => false) = true) (hi : (P.info? ty).map (·.size) = some cs.size)
    (h : K (a.put o.dst (.agg cs)) w) : o.wpIn F n P a w K Q := by
  refine ⟨fun f hf => by simp [Oper.about, ho] at hf, ?_⟩
  unfold Oper.semAt execOp
  simp only [hro, ho, hx, Instr.loadAt, Instr.sureAddr, Sem.run_bind, Sem.run_pure, Result.andThen_ok, run_loadVar_row w g t ty cs fr d hg hu hd hi]
  exact h
theorem range_pre {pre rest : List Nat} {x : Nat} (h : List.range 256 = pre ++ x :: rest) : x = pre.length ∧ pre.length < 256 := by
  have hl : pre.length < 256 := by
    have := congrArg List.length h
    simp at this
    omega
  have h1 : (List.range 256)[pre.length]? = some x := by rw [h]; simp
  rw [List.getElem?_range hl] at h1
  exact ⟨(Option.some.inj h1).symm, hl⟩
set_option maxRecDepth 100000 in
set_option maxHeartbeats 4000000 in
theorem table_any (T : Nat → Array Value) (HT : Hid (TblLaw T)) (w : World) : Calls Try.prog 9 #[] w fun e w' => e = .returned (.agg (T 256)) ∧ Below w.heap.size w w' := by
  have hz := (zero_of_info info27).1
  have HI := Lib.hid (zero_of_info info27).2
  rw [← HT.out.zero] at hz
  refine (callsIn_wide (n := 10)).1 ?_
  refine callsIn_of_wp_marks Try.func9 rfl trivial ?_
  simp only [Try.ntmps9, List.size_toArray, List.length_nil, Nat.reduceSub, Array.replicate_succ, Array.replicate_zero, List.push_toArray, List.append_toArray, List.nil_append, List.cons_append]
  gi_wp2_with (refine ⟨trivial, ?_⟩; gi_at_call 13; refine (numbers_any _ _).mono ?_; rintro e w2 ⟨rfl, rfl⟩)
  clear hz
  have hb0 : Below w.heap.size w ((w.alloc (.cells (T 0) 27)).alloc (.cells (T 0) 27)) := ((Below.refl _ w).alloc (Nat.le_refl _) _).alloc (by simp) _
  have hs0 : ((w.alloc (.cells (T 0) 27)).alloc (.cells (T 0) 27)).heap.size = w.heap.size + 2 := by simp
  have hA := heap_alloc2_old w (.cells (T 0) 27) (.cells (T 0) 27)
  have hB := heap_alloc2_new w (.cells (T 0) 27) (.cells (T 0) 27)
  generalize (w.alloc (.cells (T 0) 27)).alloc (.cells (T 0) 27) = W0 at *
  refine range_w (F := Fence.wide) (n := 10) (ps := #[5, 6]) rfl (by omega) (gf := 15) (lb := #[]) rfl trivial (enters_of Try.func15 (by kernel_rfl) rfl) (encs := encN) (fun _ => rfl)
    (numbers_it 9 (by omega) W0) (fun _ h => h.elim)
    (fun pre _ W => W.heap[w.heap.size]? = some (.cells (T 0) 27 (0, 0)) ∧ W.heap[w.heap.size + 1]? = some (.cells (T pre.length) 27 (0, 0)) ∧ Below w.heap.size w W)
    (fun _ _ _ => False) ?stI (fun _ _ _ _ h _ => h) ?start ?round ?done ?stop
  case stI =>
    intro s S A A' hs hf
    exact ⟨hf.at hs.1 (.inr (by omega)), hf.at hs.2.1 (.inr (by omega)), hs.2.2.trans ⟨hf.os, hf.tape, hf.output, hf.size, fun k hk => hf.block k (by have := hs.2.2.size; omega) (.inr (by omega))⟩⟩
  case start => exact ⟨hA, hB, hb0⟩
  case stop => intro pre rest S W _ h; exact h.elim
  case done =>
    intro S W hI hS hd
    obtain ⟨h0, h1, hb⟩ := hI
    rw [List.length_range] at h1
    have hsz := HT.out.size 256
    have hsc := run_storeCells_from (P := Try.prog) w.heap.size 27 (T 256).toList 0 (T 0) _ h0 (by simp [HT.out.size]) (fun v hv => (Array.all_eq_true_iff_forall_mem.1 (HT.out.one 256)) v (by simpa using hv))
    gi_wp2
    refine wpIn_load_row rfl 27 (Operand.tmp 1) rfl (w.heap.size + 1) rfl 27 (T 256) (0, 0) (.array 256 25) h1 Try.underlying27 rfl (by rw [HI.out, HT.out.size]) ?_
    gi_wp2
    have hR := setRow_heap W w.heap.size (T 0) (T 256) 27 (0, 0) h0
    have hB2 := below_row hb (Nat.le_refl _) (T 256)
    have hd' : (W.setRow w.heap.size (T 256)).heap[w.heap.size + 2]? = some (.deferred (some [])) := (setRow_other W w.heap.size _ (T 256) (by omega)).trans (by rw [← hs0]; exact hd)
    refine ⟨by simp, .inl ⟨_, _, rfl, run_takeDeferred hd', ?_⟩⟩
    refine ⟨.agg (T 256), results_cell_row rfl _ _ w.heap.size 27 (T 256) (0, 0) _ rfl ((put_other (by omega)).trans hR) Try.underlying27 rfl (by rw [HI.out, HT.out.size]), rfl, ?_⟩
    exact hB2.grown (grownBy_putObj' _ _ _) hB2.size (fun k e => by cases e; omega)
  case round =>
    intro pre x rest S W hx hI hS hlt
    obtain ⟨hxp, hl⟩ := range_pre hx
    have hnl : (pre ++ [x]).length = x + 1 := by rw [hxp]; simp
    rw [← hxp] at hl hI
    have HNL := Lib.hid hnl
    have HXP := Lib.hid hxp
    clear hx hxp hnl
    show Code.wpIn _ _ _ _ _ { tmps := _, defers := _ } _
    simp only [encN]
    have HS0 := Lib.hid hs0
    clear hs0
    gi_wp2
    rw [Oper.semAt_eq _ _ _ (by intro c h; cases h)]
    simp only [execOp, Act.eval]
    go_simp
    gi_wp2
    refine ⟨Fr.refl W _, ?_⟩
    intro W5 hf5 hl1 hl0 ⟨h0, h1, hb⟩
    rw [← HXP.out] at h1
    have hc : W5.cell? ⟨w.heap.size + 1, x, none⟩ = some (.int .u64 0) := by rw [cell_of_row _ _ _ _ _ _ h1]; exact HT.out.left _ _ hl (by omega)
    have hfz := frozen_of_row W5 (w.heap.size + 1) x _ 27 h1
    have hl256 : (x : Int) < 256 := by omega
    gi_wp2
    rw [Oper.semAt_eq _ _ _ (by intro c h; cases h)]
    simp only [execOp, Act.eval]
    go_simp
    gi_wp2
    rw [Oper.semAt_eq _ _ _ (by intro c h; cases h)]
    simp only [execOp, Act.eval]
    go_simp
    gi_wp2
    have hs0 := HS0.out
    have h1' := heap_setCell_same W5 (w.heap.size + 1) x (T x) 27 (.int .u64 (tab x : Int)) h1
    rw [HT.out.set] at h1'
    have hF : Fr W5 (W5.setCell ⟨w.heap.size + 1, x, none⟩ (.int .u64 (tab x : Int))) (fun k => k ≠ w.heap.size + 1) := ⟨rfl, rfl, rfl, by simp [World.setCell], fun k _ hk => heap_setCell_other W5 _ k _ hk⟩
    refine ⟨hF.mono (fun k _ hk => hk.1.elim (fun h => h.elim) (fun h => by omega)), heap_setCell_other W5 _ _ _ (by show _ ≠ w.heap.size + 1; omega), heap_setCell_other W5 _ _ _ (by show _ ≠ w.heap.size + 1; omega), S, ⟨?_, ?_, ?_⟩, ?_⟩
    · exact (heap_setCell_other W5 _ _ _ (by show w.heap.size ≠ w.heap.size + 1; omega)).trans h0
    · rw [HNL.out]; exact h1'
    · exact hb.setCell (by show w.heap.size ≤ w.heap.size + 1; omega) _
    · exact fun k h => ⟨.inl h, Nat.lt_of_lt_of_le (hS k h).2 (Nat.le_trans hf5.size hF.size)⟩

end Go.Proofs.Ytlgjmbljpjnlhaa
