/-
  'Right' of a value of which each part is right.
-/
import Derived.Test.YtfboecnhakihnaaGreatDoorJEach
import Derived.Test.YtfboecnhakihnaaGreatDoorJParse
namespace Go.Proofs.YtfboecnhakihnaaGreatDoor.js
open Go.RowKit Go.Shelf
attribute [local go_sem] Oper.semAt_some

mutual
theorem mem_pre {w : World} {ok : Nat → Prop} : ∀ (x : VT) (d : Nat), VIn w ok x → ∀ y, y ∈ pre d x → VIn w ok y.2
  | .mk t a b c e ks, d, h, y, hy => by
    rw [pre] at hy
    rcases List.mem_cons.1 hy with rfl | hy
    · exact h
    · exact mem_preL ks (d + 1) h.kid y hy
theorem mem_preL {w : World} {ok : Nat → Prop} : ∀ (l : List VT) (d : Nat), (∀ x, x ∈ l → VIn w ok x) → ∀ y, y ∈ preL d l → VIn w ok y.2
  | [], _, _, y, hy => by rw [preL] at hy; cases hy
  | x :: r, d, h, y, hy => by
    rw [preL] at hy
    rcases List.mem_append.1 hy with hy | hy
    · exact mem_pre x d (h x (by simp)) y hy
    · exact mem_preL r d (fun z hz => h z (by simp [hz])) y hy
end

set_option maxHeartbeats 1000000 in
theorem each_call (F : Fence) (n : Nat) (h43 : F.fn 58) (hro : F.round = none) (kk : Nat) (tt : ByteArray) (A A' : Option Addr) (n1 cap1 n2 cap2 : Nat) (w : World) :
    CallsIn F n Tryz.prog 58 #[.agg #[.int .i64 kk, .string tt, .slice A n1 cap1, .slice A' n2 cap2]] w fun e w' => e = .returned (.func (.func 84) #[] #[.pointer (some ⟨w.heap.size, 0, none⟩)]) ∧ w' = w.alloc (.cells #[.int .i64 kk, .string tt, .slice A n1 cap1, .slice A' n2 cap2] 37) := by
  refine callsIn_of_wp Tryz.func58 rfl h43 ?_ hro
  simp only [Tryz.ntmps58, List.size_toArray, List.length_cons, List.length_nil, Nat.reduceAdd, Nat.reduceSub, Array.replicate_succ, Array.replicate_zero, List.push_toArray, List.append_toArray, List.nil_append, List.cons_append]
  gi_wp2
  go_ret
  exact ⟨rfl, rfl⟩
theorem below_stc {β : Type} {n₀ B : Nat} {w₀ : World} (hn : n₀ ≤ w₀.heap.size) (hB : n₀ ≤ B) : StC B (fun (_ : β) W => Below n₀ w₀ W) :=
  fun _ _ _ _ hs hg hr => hs.grown hg (Nat.le_trans hn hs.size) (fun k e => Nat.le_trans hB (hr k e).1)
theorem below_fr {w W : World} (h : Below w.heap.size w W) : Fr w W (fun k => k < w.heap.size) := ⟨h.os, h.tape, h.output, h.size, fun k _ hk => h.block k hk⟩

set_option maxRecDepth 100000 in
set_option maxHeartbeats 4000000 in
theorem right_true (x0 : VT) (w : World) (hG : Gl w) (hv : VIn w (fun k => k < w.heap.size) x0) (hsmall : (pre 0 x0).length ≤ 100000)
    (hall : ∀ d x, (d, x) ∈ pre 0 x0 → ∀ W, Gl W → VIn W (fun k => k < w.heap.size) x → Calls Tryz.prog 59 #[x.val, .int .i64 d] W fun e W' => e = .returned (.bool true) ∧ Below W.heap.size W W') :
    Calls Tryz.prog 37 #[x0.val] w fun e w' => e = .returned (.bool true) ∧ Below w.heap.size w w' := by
  obtain ⟨kk, tt, A, A', n1, cap1, n2, cap2, e0, e1, e2, e3⟩ := hv.jin.forms
  have hval : x0.val = .agg #[.int .i64 kk, .string tt, .slice A n1 cap1, .slice A' n2 cap2] := by simp only [VT.val, e0, e1, e2, e3]
  rw [hval]
  refine (callsIn_wide (n := 4)).1 ?_
  refine callsIn_of_wp_marks Tryz.func37 rfl trivial ?_
  simp only [Tryz.ntmps37, List.size_toArray, List.length_cons, List.length_nil, Nat.reduceAdd, Nat.reduceSub, Array.replicate_succ, Array.replicate_zero, List.push_toArray, List.append_toArray, List.nil_append, List.cons_append]
  have HAll := Lib.hid hall
  clear hall
  gi_wp2_with (refine ⟨trivial, ?_⟩; gi_at_call 58; refine (each_call Fence.wide _ trivial rfl kk tt A A' n1 cap1 n2 cap2 _).mono ?_; rintro e w' ⟨rfl, rfl⟩)
  have hb0 : Below w.heap.size w (((w.alloc (.cells #[.int .i64 kk, .string tt, .slice A n1 cap1, .slice A' n2 cap2] 37)).alloc (.cells #[.bool false] 4)).alloc (.cells #[.int .i64 kk, .string tt, .slice A n1 cap1, .slice A' n2 cap2] 37)) := (((Below.refl _ w).alloc (Nat.le_refl _) _).alloc (by simp) _).alloc (by simp; omega) _
  have hs0 : (((w.alloc (.cells #[.int .i64 kk, .string tt, .slice A n1 cap1, .slice A' n2 cap2] 37)).alloc (.cells #[.bool false] 4)).alloc (.cells #[.int .i64 kk, .string tt, .slice A n1 cap1, .slice A' n2 cap2] 37)).heap.size = w.heap.size + 3 := by simp
  have hbx : (((w.alloc (.cells #[.int .i64 kk, .string tt, .slice A n1 cap1, .slice A' n2 cap2] 37)).alloc (.cells #[.bool false] 4)).alloc (.cells #[.int .i64 kk, .string tt, .slice A n1 cap1, .slice A' n2 cap2] 37)).heap[w.heap.size + 2]? = some (.cells #[.int .i64 kk, .string tt, .slice A n1 cap1, .slice A' n2 cap2] 37 (0, 0)) := by
    have := heap_alloc_new ((w.alloc (.cells #[.int .i64 kk, .string tt, .slice A n1 cap1, .slice A' n2 cap2] 37)).alloc (.cells #[.bool false] 4)) (.cells #[.int .i64 kk, .string tt, .slice A n1 cap1, .slice A' n2 cap2] 37 (0, 0))
    simpa using this
  have hrb : (((w.alloc (.cells #[.int .i64 kk, .string tt, .slice A n1 cap1, .slice A' n2 cap2] 37)).alloc (.cells #[.bool false] 4)).alloc (.cells #[.int .i64 kk, .string tt, .slice A n1 cap1, .slice A' n2 cap2] 37)).heap[w.heap.size + 1]? = some (.cells #[.bool false] 4 (0, 0)) := by
    rw [Below.heap_alloc _ _ _ (by simp)]
    have := heap_alloc_new (w.alloc (.cells #[.int .i64 kk, .string tt, .slice A n1 cap1, .slice A' n2 cap2] 37)) (.cells #[.bool false] 4 (0, 0))
    simpa using this
  generalize ((w.alloc (.cells #[.int .i64 kk, .string tt, .slice A n1 cap1, .slice A' n2 cap2] 37)).alloc (.cells #[.bool false] 4)).alloc (.cells #[.int .i64 kk, .string tt, .slice A n1 cap1, .slice A' n2 cap2] 37) = W0 at *
  have hG0 := hG.below hb0
  have hv0 := hv.fr (below_fr hb0) (fun _ h => h)
  have hv0' : VIn W0 (fun k => k < W0.heap.size) x0 := hv0.mono (fun k hk => by omega)
  have hmem := mem_pre x0 0 hv
  refine range_ret (F := Fence.wide) (n := 4) (ps := #[7, 8]) rfl (by omega) (gf := 84) (lb := #[.pointer (some ⟨w.heap.size + 2, 0, none⟩)]) rfl trivial (enters_of Tryz.func84 (by kernel_rfl) rfl) (encs := encN) (fun _ => rfl)
    (each_it Fence.wide 3 trivial rfl (by omega) (w.heap.size + 2) x0 W0 (by omega) (by rw [e0, e1, e2, e3]; exact hbx) hv0' hsmall)
    (fun _ W => Below W0.heap.size W0 W) (fun _ _ => False) (ownFrom_below (Nat.le_refl _) (Nat.le_refl _)) (below_stc (Nat.le_refl _) (by omega)) (fun _ _ _ _ h _ _ => h) (fun _ _ _ _ h _ _ => h) (Below.refl _ _) ?round ?done ?stop
  case stop => intro pre rest W _ h _; exact h.elim
  case done =>
    intro W hb hd
    have hrb2 : W.heap[w.heap.size + 1]? = some (.cells #[.bool false] 4 (0, 0)) := (hb.block _ (by omega)).trans hrb
    have q0 : W.cell? ⟨w.heap.size + 1, 0, none⟩ = some (.bool false) := by rw [cell_of_row _ _ _ _ _ _ hrb2]; rfl
    have y0 := frozen_of_row W (w.heap.size + 1) 0 _ 4 hrb2
    gi_wp2
    have hd' : (W.setCell ⟨w.heap.size + 1, 0, none⟩ (.bool true)).heap[W0.heap.size]? = some (.deferred (some [])) := (Below.heap_setCell _ _ _ _ (by show W0.heap.size ≠ w.heap.size + 1; omega)).trans hd
    have q1 : ((W.setCell ⟨w.heap.size + 1, 0, none⟩ (.bool true)).putObj W0.heap.size (.deferred none)).cell? ⟨w.heap.size + 1, 0, none⟩ = some (.bool true) := by
      have h1 : (W.setCell ⟨w.heap.size + 1, 0, none⟩ (.bool true)).heap[w.heap.size + 1]? = some (.cells #[.bool true] 4 (0, 0)) := by rw [heap_setCell_same W _ 0 _ 4 _ hrb2]; rfl
      rw [cell_of_row _ _ _ _ _ _ ((put_other (show w.heap.size + 1 ≠ W0.heap.size by omega)).trans h1)]; rfl
    refine ⟨by simp, .inl ⟨_, _, rfl, run_takeDeferred hd', ?_⟩⟩
    refine ⟨.bool true, (by simp [results, Tryz.results37, go_sem, q1]), rfl, ?_⟩
    have hb3 := (hb0.trans (hb.mono (by omega))).setCell (p := ⟨w.heap.size + 1, 0, none⟩) (show w.heap.size ≤ w.heap.size + 1 by omega) (.bool true)
    exact hb3.grown (grownBy_putObj' _ _ _) hb3.size (fun k e => by cases e; omega)
  case round =>
    intro pre x rest W hx hb hlt
    have hvx := (hmem x (by rw [hx]; simp)).fr (below_fr (hb0.trans (hb.mono (by omega)))) (fun _ h => h)
    have hGx := hG0.below hb
    obtain ⟨kx, tx, Ax, Ax', m1, cx1, m2, cx2, f0, f1, f2, f3⟩ := hvx.jin.forms
    have hcall := HAll.out x.1 x.2 (by rw [hx]; simp)
    have hxval : x.2.val = .agg #[.int .i64 kx, .string tx, .slice Ax m1 cx1, .slice Ax' m2 cx2] := by simp only [VT.val, f0, f1, f2, f3]
    rw [hxval] at hcall
    have HC := Lib.hid hcall
    clear hcall
    refine wpIn_mono (Q := Exit.then (fun a1 W1 => W1 = W.alloc (.cells #[.int .i64 kx, .string tx, .slice Ax m1 cx1, .slice Ax' m2 cx2] 37) ∧ a1 = { tmps := #[.agg #[.int .i64 kk, .string tt, .slice A n1 cap1, .slice A' n2 cap2], .pointer (some ⟨w.heap.size, 0, none⟩), .pointer (some ⟨w.heap.size + 1, 0, none⟩), .int .i64 x.1, .pointer (some ⟨W.heap.size, 0, none⟩), .agg #[.int .i64 kk, .string tt, .slice A n1 cap1, .slice A' n2 cap2], .func (.func 84) #[] #[.pointer (some ⟨w.heap.size + 1 + 1, 0, none⟩)], .int .i64 x.1, .agg #[.int .i64 kx, .string tx, .slice Ax m1 cx1, .slice Ax' m2 cx2], undef, undef, undef, undef], defers := [] }) (fun _ _ _ => False)) ?_ ?_
    · show Code.wpIn _ _ _ _ _ { tmps := _, defers := _ } _
      simp only [encN, hxval, List.zip_cons_cons, List.zip_nil_right, List.foldl_toArray', List.foldl_toArray, List.foldl_cons, List.foldl_nil, List.setIfInBounds_toArray, List.set_cons_succ, List.set_cons_zero, Array.zip]
      gi_wp2
      first | exact ⟨rfl, rfl⟩ | exact ⟨trivial, rfl⟩ | exact ⟨trivial, trivial⟩ | simp
    · intro e a1 W1 hp
      cases e with
      | normal =>
        obtain ⟨rfl, rfl⟩ := hp
        refine ⟨(Fr.refl W _).alloc _, hb.alloc hb.size _, fun W2 hf2 hl2 hb2 => ?_⟩
        have hbox2 := hf2.at (heap_alloc_new W (.cells #[.int .i64 kx, .string tx, .slice Ax m1 cx1, .slice Ax' m2 cx2] 37 (0, 0))) (show W.heap.size ≠ W0.heap.size + 1 by omega)
        have g0 : W2.cell? ⟨W.heap.size, 0, none⟩ = some (.int .i64 kx) := by rw [cell_of_row _ _ _ _ _ _ hbox2]; rfl
        have g1 : W2.cell? ⟨W.heap.size, 1, none⟩ = some (.string tx) := by rw [cell_of_row _ _ _ _ _ _ hbox2]; rfl
        have g2 : W2.cell? ⟨W.heap.size, 2, none⟩ = some (.slice Ax m1 cx1) := by rw [cell_of_row _ _ _ _ _ _ hbox2]; rfl
        have g3 : W2.cell? ⟨W.heap.size, 3, none⟩ = some (.slice Ax' m2 cx2) := by rw [cell_of_row _ _ _ _ _ _ hbox2]; rfl
        have hvx2 := (hmem x (by rw [hx]; simp)).fr (below_fr (hb0.trans (hb2.mono (by omega)))) (fun _ h => h)
        have hc2 := HC.out W2 (hG0.below hb2) hvx2
        obtain ⟨o, ho, _⟩ := hl2
        have hlt2 := blk_lt ho
        clear hvx2
        gi_wp2_with (refine ⟨trivial, ?_⟩; gi_at_call 59; refine (CallsIn.inRound (W0.heap.size + 1) (callsIn_wide.2 hc2)).mono ?_; rintro e w5 ⟨rfl, hb5⟩)
        exact ⟨(below_fr hb5).mono (fun k hk _ => hk), hb5.block _ hlt2, hb2.trans (hb5.mono hb2.size)⟩
      | ret => exact hp.elim
      | exit id => exact hp.elim
      | goto t => exact hp.elim
      | panic ch => exact hp.elim
      | outgrown => exact hp.elim
end Go.Proofs.YtfboecnhakihnaaGreatDoor.js
