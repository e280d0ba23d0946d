/-
  PROVED: for every uint64 v, int64 n and byte slice b the law 'CodeWrites' returns true: the bytes of numbers and texts are the document's, and what is handed in stays (P1.1). No condition.
-/
import Derived.Test.YtfodccjineallaaOwn
import Derived.ProofKit
import Derived.OpenShut
import Derived.ShutString
import Derived.ChangeOld
namespace Go.Proofs.Ytfodccjineallaa
open Go.ChangeShapes Go.WideShapes Go.ChangeAt Go.RowKit
theorem numL_byte : ∀ (k v : Nat), v ≤ k → ∀ x ∈ numL v, 0 ≤ x ∧ x < 256
  | k, v, hk, x, hx => by
    by_cases h : v < 128
    · rw [numL_lt v h] at hx; simp at hx; omega
    · rw [numL_ge v (by omega)] at hx
      rcases List.mem_cons.1 hx with hx | hx
      · omega
      · match k, hk with
        | 0, hk => omega
        | k + 1, hk => exact numL_byte k (v / 128) (by omega) x hx
theorem textL_byte {xs : List Int} (h : ∀ x ∈ xs, 0 ≤ x ∧ x < 256) : ∀ x ∈ textL xs, 0 ≤ x ∧ x < 256 := by
  intro x hx
  unfold textL at hx
  rcases List.mem_append.1 hx with hx | hx
  · exact numL_byte _ _ (Nat.le_refl _) x hx
  · exact h x hx
theorem own_byte {x : Int} (h : (Lit.int .u8 x).wf = true) : 0 ≤ x ∧ x < 256 := by
  have := bounds_u8 h; omega

theorem bstep {a b c : World} (h : Below a.heap.size a b) (k : Below b.heap.size b c) : Below a.heap.size a c := h.trans (k.mono h.size)

namespace codeWrites
set_option maxHeartbeats 400000 in
set_option maxRecDepth 100000 in
theorem walk (v : Nat) (n : Int) (A : Option Addr) (l c : Nat) (xs : List Int) (w : World) (hv : v < 18446744073709551616) (hn : I64 n) (hr : Rd w w.heap.size A l c xs) (hl : l ≤ 5000) :
    Calls Try.prog 3 #[.int .u64 v, .int .i64 n, .slice A l c] w fun e w' => e = .returned (.bool true) ∧ Below w.heap.size w w' := by
  have HV := Lib.hid hv
  have HL := Lib.hid hr.len
  clear hv
  go_enter Try.func3, Try.ntmps3
  go_wp2_with fail
  refine (own_any w.heap.size A l c xs 71 w hr (Nat.le_refl _) (by omega)).mono ?_
  rintro e w1 ⟨g, rfl, hg, hrow, hb1⟩
  go_wp2_with fail
  refine (awake_any w1).mono ?_
  rintro e w2 ⟨rfl, hb2⟩
  go_wp2_with fail
  refine (num_any v HV.out w2).mono ?_
  rintro e w3 ⟨A3, c3, rfl, hown3, hb3⟩
  go_wp2_with fail
  refine (refNum_any v HV.out w3).mono ?_
  rintro e w4 ⟨A4, c4, rfl, hown4, hb4⟩
  have hr3 := ((Rd.of_own hown3 (numL_byte _ _ (Nat.le_refl _))).below hb4).more hb4.size
  have hr4 := Rd.of_own hown4 (numL_byte _ _ (Nat.le_refl _))
  clear hown3 hown4
  go_wp2_with fail
  refine (bytes_same w4.heap.size _ _ _ _ _ _ (numL v) w4 hr3 hr4).mono ?_
  rintro e w4 ⟨rfl, rfl⟩
  clear hr3 hr4
  go_wp2_with fail
  refine (zig_any n hn _).mono ?_
  rintro e w5 ⟨A5, c5, rfl, hown5, hb5⟩
  go_wp2_with fail
  refine (refZig_any n hn w5).mono ?_
  rintro e w6 ⟨A6, c6, rfl, hown6, hb6⟩
  have hr5 := ((Rd.of_own hown5 (numL_byte _ _ (Nat.le_refl _))).below hb6).more hb6.size
  have hr6 := Rd.of_own hown6 (numL_byte _ _ (Nat.le_refl _))
  clear hown5 hown6
  go_wp2_with fail
  refine (bytes_same w6.heap.size _ _ _ _ _ _ _ w6 hr5 hr6).mono ?_
  rintro e w6' ⟨rfl, rfl⟩
  clear hr5 hr6
  have hb16 := bstep (bstep (bstep (bstep hb2 hb3) hb4) hb5) hb6
  have hbw6 := bstep hb1 hb16
  have hrow6 := hrow.below hb16 hrow.lt
  have hrw6 := (hr.below hbw6).more hbw6.size
  clear hb2 hb3 hb4 hb5 hb6 hb16 hb1 hrow
  have hin : Rd w6 w6.heap.size (some ⟨g, 0, none⟩) l (l + 3) xs := by
    have := hrow6.rd (n := l) (c := l + 3) (fun x hx => by
      rw [List.mem_append] at hx
      rcases hx with hx | hx
      · exact hr.byte x hx
      · simp at hx; omega) (by simp; have := HL.out; omega) (by omega) (by unfold maxLen; omega)
    rwa [List.take_left' HL.out] at this
  go_wp2_with fail
  refine (text_any _ _ _ _ xs w6 hin (Nat.le_refl _) (by omega)).mono ?_
  rintro e w7 ⟨A7, c7, rfl, hown7, hb7⟩
  have hrw7 := (hrw6.below hb7).more hb7.size
  have hrow7 := hrow6.below hb7 hrow6.lt
  have hbw7 := bstep hbw6 hb7
  clear hin hrw6 hrow6 hbw6
  go_wp2_with fail
  refine (refText_any _ _ _ _ xs w7 hrw7 (Nat.le_refl _) (by omega)).mono ?_
  rintro e w8 ⟨A8, c8, rfl, hown8, hb8⟩
  have hr7 := ((Rd.of_own hown7 (textL_byte hr.byte)).below hb8).more hb8.size
  have hr8 := Rd.of_own hown8 (textL_byte hr.byte)
  have hrw8 := (hrw7.below hb8).more hb8.size
  have hrow8 := hrow7.below hb8 hrow7.lt
  have hbw8 := bstep hbw7 hb8
  clear hown7 hown8 hrw7 hrow7 hbw7 hb7 hb8
  go_wp2_with fail
  refine (bytes_same w8.heap.size _ _ _ _ _ _ _ w8 hr7 hr8).mono ?_
  rintro e w8' ⟨rfl, rfl⟩
  clear hr7 hr8
  go_wp2_with fail
  refine (kept_true A g l c xs 71 w8 hrow8 (by omega) hrw8 (by omega)).mono ?_
  rintro e w9 ⟨rfl, hb9⟩
  go_wp2
  go_ret
  exact ⟨rfl, bstep hbw8 hb9⟩
set_option maxHeartbeats 400000 in
set_option maxRecDepth 100000 in
theorem walk_long (v : Int) (n : Int) (A : Option Addr) (l c : Nat) (w : World) (hl : ¬ l ≤ 5000) :
    Calls Try.prog 3 #[.int .u64 v, .int .i64 n, .slice A l c] w fun e w' => e = .returned (.bool true) ∧ Below w.heap.size w w' := by
  go_enter Try.func3, Try.ntmps3
  go_wp2_with fail
  refine (awake_any w).mono ?_
  rintro e w2 ⟨rfl, hb2⟩
  go_wp2
  go_ret
  exact ⟨rfl, hb2⟩
theorem final (a0 a1 : Int) (A : Option Addr) (l c : Nat) (xs : List Int) (w : World) (w0 : (Lit.int .u64 a0).wf = true) (w1 : (Lit.int .i64 a1).wf = true) (w2 : Rd w w.heap.size A l c xs) :
    Calls Try.prog 3 #[.int .u64 a0, .int .i64 a1, .slice A l c] w fun e w' => e = .returned (.bool true) ∧ Below w.heap.size w w' := by
  by_cases hl : l ≤ 5000
  · have h0 := bounds_u64 w0
    have h1 := bounds_i64 w1
    obtain ⟨v, rfl⟩ := Int.eq_ofNat_of_zero_le h0.1
    exact walk v a1 A l c xs w (by omega) ⟨by omega, by omega⟩ w2 hl
  · exact walk_long a0 a1 A l c w hl
theorem own : ownKnob Try.prog.godebug = none := by kernel_rfl
theorem laidOut : laidOutB Try.prog = true := by kernel_rfl
set_option maxRecDepth 100000 in
theorem lifted (os : Os) (started : os.Started) (H : Type) (enc : TypeId × Value → H) :
    ReturnsInHanded {} Try.checked os 3 .any (Rows.codeWritesSpec.pre6 enc Try.prog Try.f3 Rows.codeWritesRow.domain false) (Rows.codeWritesSpec.post enc Try.prog Try.f3 false true false false) := by
  refine returnsInHanded_of_change (C := Try.checked) own started (by kernel_rfl) Try.func3
    (ChangeSpec.witness6 (enc := enc) (C := Try.checked) false ⟨#[], #[.int .u64 0, .int .i64 0, .slice none 0 0], []⟩ 8 (by kernel_rfl) (by kernel_rfl) (by kernel_rfl) (by kernel_rfl)) ?_
  intro W base args ds gs before hval0 hW hcnd _
  have hval : ∀ (j : Nat) t v, Try.f3.params[j]? = some t → args[j]? = some v → Value.okWide Try.prog W .any base t v := hval0
  have hW' := hW
  obtain ⟨p, q, hA0, hV, rfl, hfz, hnd⟩ := hW
  have hA : DataW.TrodAll enc Try.prog W 0 (fun _ => true) true Try.f3.params.toList args.toList ds p := hA0
  rw [Try.params3] at hA hval
  obtain ⟨v0, vs0, d0, ds0, p0, q0, hargs, rfl, rfl, h0, r0⟩ := trodAll_cons hA
  obtain ⟨v1, vs1, d1, ds1, p1, q1, rfl, rfl, rfl, h1, r1⟩ := trodAll_cons r0
  obtain ⟨v2, vs2, d2, ds2, p2, q2, rfl, rfl, rfl, h2, r2⟩ := trodAll_cons r1
  obtain ⟨rfl, rfl, rfl⟩ := trodAll_nil r2
  obtain rfl : args = #[v0, v1, v2] := by cases args; simp_all
  obtain ⟨rfl, rfl⟩ := trodVars_none hV
  have k0 := h0
  have lt0 : ∀ x ∈ p0, x.block < W.heap.size := by obtain ⟨m, hm⟩ := k0; exact DataW.trod_lt m _ _ _ hm
  obtain ⟨a0, rfl, rfl, rfl, w0⟩ := open_int Try.underlying22 (hval 0 22 v0 rfl rfl) h0
  have k1 := h1
  have lt1 : ∀ x ∈ p1, x.block < W.heap.size := by obtain ⟨m, hm⟩ := k1; exact DataW.trod_lt m _ _ _ hm
  obtain ⟨a1, rfl, rfl, rfl, w1⟩ := open_int Try.underlying2 (hval 1 2 v1 rfl rfl) h1
  have k2 := h2
  have lt2 : ∀ x ∈ p2, x.block < W.heap.size := by obtain ⟨m, hm⟩ := k2; exact DataW.trod_lt m _ _ _ hm
  obtain ⟨A2, l2, c2, x2, rfl, w2⟩ := open_rd Try.underlying23 Try.underlying5 (by kernel_rfl) (hval 2 23 v2 rfl rfl) h2
  clear hA0 hval0
  refine (final a0 a1 A2 l2 c2 x2 W w0 w1 w2).mono fun e W' ⟨he, bel⟩ => ?_
  subst he
  exact ⟨_, rfl, _, _, _, [], _, [], hW', trodAll_mk1 (shut_bool Try.underlying4 _), (trodAll_cons_mk (Below.trod laidOut (by kernel_rfl) (of_decide_eq_true (by kernel_rfl)) k0 bel lt0) (trodAll_cons_mk (Below.trod laidOut (by kernel_rfl) (of_decide_eq_true (by kernel_rfl)) k1 bel lt1) (trodAll_cons_mk (Below.trod laidOut (by kernel_rfl) (of_decide_eq_true (by kernel_rfl)) k2 bel lt2) trodAll_mk0))), rfl, bel.frame _, fun h => by cases h⟩

theorem over : Rows.codeWritesRow.holds Try.pinned (OpenSpec.ofChange Rows.codeWritesSpec) :=
  OpenClaim.holds_of_wide 3 Try.f3 rfl rfl rfl rfl rfl rfl rfl ⟨rfl, rfl, rfl, rfl, rfl⟩ rfl rfl rfl rfl rfl (by kernel_rfl) Try.func3 (by kernel_rfl)
    (of_decide_eq_true (by kernel_rfl)) (by unfold Func.isWrapper; first | (rw [if_pos (by decide +kernel)]; kernel_rfl) | (rw [if_neg (by decide +kernel)]; exact ⟨rfl, rfl⟩))
    (fun os started H enc _ => lifted os started H enc)
theorem proved : Rows.CodeWritesSaid := over
#print axioms proved
end codeWrites
end Go.Proofs.Ytfodccjineallaa
