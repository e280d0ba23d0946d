/-
  PROVED: for every uint64 v, int64 n and byte slices b, raw the law 'CodeBack' returns true: what is written is read, and what is read as a number, written again, is the same bytes ('What follows' of chapter 1). No condition.
-/
import Derived.Test.YtfodccjineallaaTrip
import Derived.Test.YtfodccjineallaaWritesProof
import Derived.Deep.RegionHeld3
namespace Go.Proofs.Ytfodccjineallaa
open Go.ChangeShapes Go.WideShapes Go.ChangeAt Go.RowKit
theorem own_below {w w' : World} {B n : Nat} {v : Value} {vs : List Value} (h : w.ownsRow B 5 1 v n vs) (hb : Below w.heap.size w w') : w'.ownsRow B 5 1 v n vs := by
  cases hv : v.ownBlock with
  | none => exact h.kept (new_grown hb none) (.inl hv)
  | some k => exact h.kept (new_grown hb none) (.inr (by rw [hv]; simp))

theorem err_rd' (p : Nat) (xs : List Int) (f : Nat) (w : World) (h : Rdr w p xs f) (m : Nat) : Calls Try.prog 31 #[.pointer (some ⟨p, 0, none⟩)] (w.drewN m) fun e w' => e = .returned (.int .i64 f) ∧ w' = w.drewN m :=
  (err_rd p xs f (w.drewN m) h).mono fun _ _ ⟨h1, h2⟩ => ⟨h1, h2.symm⟩

theorem zig_back {u : Nat} (h : u < 18446744073709551616) (w : World) : Calls Try.prog 13 #[.int .i64 (signedN u)] w (NewRow w (numL u)) := by
  have := zig_any (signedN u) (signed_i64 h) w
  rwa [zig_signed] at this

namespace codeBack
set_option maxHeartbeats 1000000 in
set_option maxRecDepth 100000 in
theorem walk (v : Nat) (n : Int) (A : Option Addr) (l c : Nat) (xs : List Int) (A' : Option Addr) (l' c' : Nat) (ys : List Int) (w : World) (hv : v < 18446744073709551616) (hn : I64 n)
    (hr : Rd w w.heap.size A l c xs) (hr' : Rd w w.heap.size A' l' c' ys) (hl : l ≤ 5000) (hl' : l' ≤ 5000) :
    Calls Try.prog 5 #[.int .u64 v, .int .i64 n, .slice A l c, .slice A' l' c'] w fun e w' => e = .returned (.bool true) ∧ Below w.heap.size w w' := by
  obtain ⟨i0, hi, hz0, hz1, hz2⟩ := info_parts Try.info5
  have HV := Lib.hid hv
  have HL := Lib.hid hr.len
  clear hv
  have hnl := numL_len10 v HV.out
  have hzl := numL_len10 _ (zigN_lt hn)
  have htl : (textL xs).length ≤ 6000 := by unfold textL; have := zigLen (n := xs.length) (by have := HL.out; omega); simp; have := HL.out; omega
  go_enter Try.func5, Try.ntmps5
  go_wp2_with fail
  refine (num_any v HV.out w).mono ?_
  rintro e w1 ⟨A1, c1, rfl, hown1, hb1⟩
  have hr1 := Rd.of_own hown1 (numL_byte _ _ (Nat.le_refl _))
  go_wp2_with (at_builtin; refine wpList_append_rd _ rfl _ _ 23 rfl w.heap.size 5 i0 Try.underlying23 hi hz0 hz1 hz2 _ _ _ rfl (World.ownsRow_nil _ _ _ _) w1.heap.size _ _ _ _ rfl hr1 (by omega) hb1.size ?_)
  intro v2 w2 hown2 hg2 _
  have hb2 : Below w.heap.size w w2 := hb1.grown hg2 hb1.size (fun k hk => by cases hk)
  clear hg2 hown1 hb1 hr1
  have hown2 : w2.ownsRow w.heap.size 5 1 v2 (numL v).length (cellsB (numL v)) := by simpa using hown2
  go_wp2_with fail
  refine (zig_any n hn w2).mono ?_
  rintro e w3 ⟨A3, c3, rfl, hown3, hb3⟩
  have hr3 := Rd.of_own hown3 (numL_byte _ _ (Nat.le_refl _))
  have hown2' := own_below hown2 hb3
  have hbw3 := bstep hb2 hb3
  clear hown2 hown3 hb3 hb2
  go_wp2_with (at_builtin; refine wpList_append_rd _ rfl _ _ 23 rfl w.heap.size 5 i0 Try.underlying23 hi hz0 hz1 hz2 _ _ _ rfl hown2' w3.heap.size _ _ _ _ rfl hr3 (by omega) hbw3.size ?_)
  intro v4 w4 hown4 hg4 _
  have hbw4 : Below w.heap.size w w4 := hbw3.grown hg4 hbw3.size (fun k hk => (hown2'.lt k hk).1)
  have hrw4 := (hr.below hbw4).more hbw4.size
  clear hg4 hown2' hbw3 hr3
  go_wp2_with fail
  refine (text_any _ _ _ _ xs w4 hrw4 (Nat.le_refl _) (by omega)).mono ?_
  rintro e w5 ⟨A5, c5, rfl, hown5, hb5⟩
  have hr5 := Rd.of_own hown5 (textL_byte hr.byte)
  have hown4' := own_below hown4 hb5
  have hbw5 := bstep hbw4 hb5
  clear hown4 hown5 hb5 hbw4 hrw4
  go_wp2_with (at_builtin; refine wpList_append_rd _ rfl _ _ 23 rfl w.heap.size 5 i0 Try.underlying23 hi hz0 hz1 hz2 _ _ _ rfl hown4' w5.heap.size _ _ _ _ rfl hr5 (by omega) hbw5.size ?_)
  intro v6 w6 hown6 hg6 _
  have hbw6 : Below w.heap.size w w6 := hbw5.grown hg6 hbw5.size (fun k hk => (hown4'.lt k hk).1)
  clear hg6 hown4' hbw5 hr5
  obtain ⟨A6, c6, hv6⟩ := own_form hown6
  have hall : (numL v ++ (numL (zigN n) ++ textL xs)).length = (numL v).length + (numL (zigN n)).length + (textL xs).length := by simp; omega
  have hr6 : Rd w6 w6.heap.size A6 ((numL v).length + (numL (zigN n)).length + (textL xs).length) c6 (numL v ++ (numL (zigN n) ++ textL xs)) := by
    rw [hv6] at hown6
    refine Rd.of_own (base := w.heap.size) (by simpa [cellsB] using hown6) ?_
    intro x hx
    rcases List.mem_append.1 hx with hx | hx
    · exact numL_byte _ _ (Nat.le_refl _) x hx
    · rcases List.mem_append.1 hx with hx | hx
      · exact numL_byte _ _ (Nat.le_refl _) x hx
      · exact textL_byte hr.byte x hx
  clear hall hown6
  rw [hv6]
  clear hv6
  go_wp2_with fail
  refine (new_any _ _ _ _ _ w6 hr6 (by omega)).mono ?_
  rintro e w7 ⟨p, rfl, hp, hR7, hb7⟩
  have hbw7 := bstep hbw6 hb7
  have hsz6 := hbw6.size
  clear hr6 hbw6 hb7
  have hpw : w.heap.size ≤ p := Nat.le_trans hsz6 hp
  go_wp2_with fail
  refine (awake_any w7).mono ?_
  rintro e w8 ⟨rfl, hb8⟩
  have hR8 := hR7.below hb8 (Nat.le_refl _)
  have hbw8 := bstep hbw7 hb8
  clear hR7 hbw7 hb8
  go_wp2_with fail
  have k9 := num_rd p _ 0 w8 hR8
  rw [rNum_num HV.out] at k9
  refine k9.mono ?_
  clear k9
  rintro e w9 ⟨rfl, hR9, hg9⟩
  have hbw9 : Below w.heap.size w w9 := hbw8.grown hg9 hbw8.size (fun k hk => by cases hk; exact hpw)
  clear hg9 hR8 hbw8
  go_wp2_with fail
  have k10 := zig_rd p _ 0 w9 hR9
  rw [rNum_num (zigN_lt hn)] at k10
  refine k10.mono ?_
  clear k10
  rintro e w10 ⟨rfl, hR10, hg10⟩
  have hbw10 : Below w.heap.size w w10 := hbw9.grown hg10 hbw9.size (fun k hk => by cases hk; exact hpw)
  clear hg10 hR9 hbw9
  simp only [signed_zig]
  go_wp2_with fail
  have k11 := text_rd p (l : Int) _ 0 w10 hR10
  have e11 := rText_text (xs := xs) (by have := HL.out; omega) (l : Int) (by have := HL.out; omega) []
  rw [List.append_nil] at e11
  rw [e11] at k11
  refine k11.mono ?_
  clear k11 e11
  rintro e w11 ⟨A11, c11, rfl, hown11, hR11, hg11⟩
  have hbw11 : Below w.heap.size w w11 := hbw10.grown hg11 hbw10.size (fun k hk => by cases hk; exact hpw)
  have hr11 := Rd.of_own hown11 hr.byte
  have hrw11 := (hr.below hbw11).more hbw11.size
  clear hg11 hR10 hbw10 hown11
  go_wp2_with fail
  refine (bytes_same w11.heap.size _ _ _ _ _ _ xs w11 hr11 hrw11).mono ?_
  rintro e w12 ⟨rfl, rfl⟩
  clear hr11 hrw11
  go_wp2_with fail
  refine (end_rd p _ _ w11 hR11).mono ?_
  rintro e w12 ⟨rfl, rfl⟩
  have e12 : rEnd [] 0 = 0 := rfl
  simp only [e12]
  clear e12 hR11
  have hrw11 := (hr'.below hbw11).more hbw11.size
  go_wp2_with fail
  refine (new_any _ _ _ _ ys w11 hrw11 (by omega)).mono ?_
  rintro e w13 ⟨q, rfl, hq, hR13, hb13⟩
  have hbw13 := bstep hbw11 hb13
  have hqw : w.heap.size ≤ q := Nat.le_trans hbw11.size hq
  clear hrw11 hbw11 hb13 hq
  go_wp2_with fail
  refine (zig_rd q ys 0 w13 hR13).mono ?_
  rintro e w14 ⟨rfl, hR14, hg14⟩
  have hbw14 : Below w.heap.size w w14 := hbw13.grown hg14 hbw13.size (fun k hk => by cases hk; exact hqw)
  clear hg14 hR13 hbw13
  go_wp2_with fail
  refine (left_rd q _ _ w14 hR14).mono ?_
  rintro e w15 ⟨rfl, rfl⟩
  go_wp2_with fail
  have HL' := Lib.hid hr'.len
  have hsz := scan_size ys 0 0
  have hlt := scan_lt ys 0 0 (by omega) (by decide) hr'.byte
  have hrn : rNum ys 0 = ((scan 0 0 ys).1, ys.drop (scan 0 0 ys).2.1, (scan 0 0 ys).2.2) := by unfold rNum; rw [if_neg (by omega)]
  have hbk := scan_back0 hr'.byte
  rw [hrn] at hR14 ⊢
  clear hrn
  have hrw14 := (hr'.below hbw14).more hbw14.size
  clear hr hr'
  generalize scan 0 0 ys = sc at *
  obtain ⟨u, s, f⟩ := sc
  simp only at hR14 hbk hsz hlt ⊢
  have hsl : s ≤ l' := by have := HL'.out; omega
  have hks : wrap64 ((l' : Int) - ((ys.drop s).length : Int)) = (s : Int) := by
    have := HL'.out
    rw [List.length_drop]; unfold wrap64; omega
  rw [hks]
  have HU := Lib.hid hlt
  clear hks hlt
  by_cases hf : f = 0
  · subst hf
    have HBK := Lib.hid (hbk rfl)
    clear hbk
    have hcl : l' ≤ c' := hrw14.2.1
    have hcut : Rd w14 w14.heap.size A' s c' (numL u) := by rw [← HBK.out]; exact hrw14.take hsl
    have hcd : Rd w14.drew w14.drew.heap.size A' s c' (numL u) := hcut
    have hRd : Rdr w14.drew q (ys.drop s) 0 := hR14
    have hbd : Below w.heap.size w w14.drew := hbw14.drew
    have b1 : (0 : Int) ≤ (s : Int) := by omega
    have b2 : (s : Int) ≤ (c' : Int) := by omega
    have b3 : (s : Int) ≤ (l' : Int) := by omega
    have b4 : s ≤ c' := by omega
    clear hcut hR14 hrw14 hbw14 HBK
    go_region_held3 (fun _ => True) (trivial) (first
      | (go_at_call 31; refine (err_rd q _ _ _ hRd).mono ?_; rintro e w16 ⟨rfl, rfl⟩)
      | (go_at_call 13; refine (zig_back HU.out _).mono ?_; rintro e w17 ⟨A17, c17, rfl, hown17, hb17⟩)
      | (go_at_call 10; refine (bytes_same w17.heap.size _ _ _ _ _ _ (numL u) _ (Rd.of_own hown17 (numL_byte _ _ (Nat.le_refl _))) ((hcd.below hb17).more hb17.size)).mono ?_; rintro e w18 ⟨rfl, rfl⟩))
    all_goals
      go_wp2
      go_ret
      exact ⟨rfl, bstep hbd hb17⟩
  · have hf'' : ((f : Int) != 0) = true := by simp; omega
    go_quiet ((go_at_call 31; exact Calls.quiet_of_same (err_rd' q _ _ _ hR14 _)))
    go_wp2
    go_ret
    exact ⟨rfl, below_drewN hbw14 _⟩
set_option maxHeartbeats 400000 in
set_option maxRecDepth 100000 in
theorem walk_long (v n : Int) (A : Option Addr) (l c : Nat) (A' : Option Addr) (l' c' : Nat) (w : World) (hl : ¬ (l ≤ 5000 ∧ l' ≤ 5000)) :
    Calls Try.prog 5 #[.int .u64 v, .int .i64 n, .slice A l c, .slice A' l' c'] w fun e w' => e = .returned (.bool true) ∧ Below w.heap.size w w' := by
  by_cases h1 : l ≤ 5000
  · have h2 : ¬ l' ≤ 5000 := fun h => hl ⟨h1, h⟩
    have h3 : decide ((5000 : Int) < (l : Int)) = false := by simp; omega
    clear hl
    go_enter Try.func5, Try.ntmps5
    go_wp2_with fail
    refine (awake_any w).mono ?_
    rintro e w2 ⟨rfl, hb2⟩
    go_wp2
    go_ret
    exact ⟨rfl, hb2⟩
  · have h3 : decide ((5000 : Int) < (l : Int)) = true := by simp; omega
    clear hl
    go_enter Try.func5, Try.ntmps5
    go_wp2_with fail
    refine (awake_any w).mono ?_
    rintro e w2 ⟨rfl, hb2⟩
    go_wp2
    go_ret
    exact ⟨rfl, hb2⟩
theorem final (a0 a1 : Int) (A : Option Addr) (l c : Nat) (xs : List Int) (A' : Option Addr) (l' c' : Nat) (ys : List Int) (w : World) (w0 : (Lit.int .u64 a0).wf = true) (w1 : (Lit.int .i64 a1).wf = true) (w2 : Rd w w.heap.size A l c xs) (w3 : Rd w w.heap.size A' l' c' ys) :
    Calls Try.prog 5 #[.int .u64 a0, .int .i64 a1, .slice A l c, .slice A' l' c'] w fun e w' => e = .returned (.bool true) ∧ Below w.heap.size w w' := by
  by_cases hl : l ≤ 5000 ∧ l' ≤ 5000
  · have h0 := bounds_u64 w0
    have h1 := bounds_i64 w1
    obtain ⟨v, rfl⟩ := Int.eq_ofNat_of_zero_le h0.1
    exact walk v a1 A l c xs A' l' c' ys w (by omega) ⟨by omega, by omega⟩ w2 w3 hl.1 hl.2
  · exact walk_long a0 a1 A l c A' l' c' w hl
theorem own : ownKnob Try.prog.godebug = none := by kernel_rfl
theorem laidOut : laidOutB Try.prog = true := by kernel_rfl
set_option maxRecDepth 100000 in
theorem lifted (os : Os) (started : os.Started) (H : Type) (enc : TypeId × Value → H) :
    ReturnsInHanded {} Try.checked os 5 .any (Rows.codeBackSpec.pre6 enc Try.prog Try.f5 Rows.codeBackRow.domain false) (Rows.codeBackSpec.post enc Try.prog Try.f5 false true false false) := by
  refine returnsInHanded_of_change (C := Try.checked) own started (by kernel_rfl) Try.func5
    (ChangeSpec.witness6 (enc := enc) (C := Try.checked) false ⟨#[], #[.int .u64 0, .int .i64 0, .slice none 0 0, .slice none 0 0], []⟩ 8 (by kernel_rfl) (by kernel_rfl) (by kernel_rfl) (by kernel_rfl)) ?_
  intro W base args ds gs before hval0 hW hcnd _
  have hval : ∀ (j : Nat) t v, Try.f5.params[j]? = some t → args[j]? = some v → Value.okWide Try.prog W .any base t v := hval0
  have hW' := hW
  obtain ⟨p, q, hA0, hV, rfl, hfz, hnd⟩ := hW
  have hA : DataW.TrodAll enc Try.prog W 0 (fun _ => true) true Try.f5.params.toList args.toList ds p := hA0
  rw [Try.params5] at hA hval
  obtain ⟨v0, vs0, d0, ds0, p0, q0, hargs, rfl, rfl, h0, r0⟩ := trodAll_cons hA
  obtain ⟨v1, vs1, d1, ds1, p1, q1, rfl, rfl, rfl, h1, r1⟩ := trodAll_cons r0
  obtain ⟨v2, vs2, d2, ds2, p2, q2, rfl, rfl, rfl, h2, r2⟩ := trodAll_cons r1
  obtain ⟨v3, vs3, d3, ds3, p3, q3, rfl, rfl, rfl, h3, r3⟩ := trodAll_cons r2
  obtain ⟨rfl, rfl, rfl⟩ := trodAll_nil r3
  obtain rfl : args = #[v0, v1, v2, v3] := by cases args; simp_all
  obtain ⟨rfl, rfl⟩ := trodVars_none hV
  have k0 := h0
  have lt0 : ∀ x ∈ p0, x.block < W.heap.size := by obtain ⟨m, hm⟩ := k0; exact DataW.trod_lt m _ _ _ hm
  obtain ⟨a0, rfl, rfl, rfl, w0⟩ := open_int Try.underlying22 (hval 0 22 v0 rfl rfl) h0
  have k1 := h1
  have lt1 : ∀ x ∈ p1, x.block < W.heap.size := by obtain ⟨m, hm⟩ := k1; exact DataW.trod_lt m _ _ _ hm
  obtain ⟨a1, rfl, rfl, rfl, w1⟩ := open_int Try.underlying2 (hval 1 2 v1 rfl rfl) h1
  have k2 := h2
  have lt2 : ∀ x ∈ p2, x.block < W.heap.size := by obtain ⟨m, hm⟩ := k2; exact DataW.trod_lt m _ _ _ hm
  obtain ⟨A2, l2, c2, x2, rfl, w2⟩ := open_rd Try.underlying23 Try.underlying5 (by kernel_rfl) (hval 2 23 v2 rfl rfl) h2
  have k3 := h3
  have lt3 : ∀ x ∈ p3, x.block < W.heap.size := by obtain ⟨m, hm⟩ := k3; exact DataW.trod_lt m _ _ _ hm
  obtain ⟨A3, l3, c3, x3, rfl, w3⟩ := open_rd Try.underlying23 Try.underlying5 (by kernel_rfl) (hval 3 23 v3 rfl rfl) h3
  clear hA0 hval0
  refine (final a0 a1 A2 l2 c2 x2 A3 l3 c3 x3 W w0 w1 w2 w3).mono fun e W' ⟨he, bel⟩ => ?_
  subst he
  exact ⟨_, rfl, _, _, _, [], _, [], hW', trodAll_mk1 (shut_bool Try.underlying4 _), (trodAll_cons_mk (Below.trod laidOut (by kernel_rfl) (of_decide_eq_true (by kernel_rfl)) k0 bel lt0) (trodAll_cons_mk (Below.trod laidOut (by kernel_rfl) (of_decide_eq_true (by kernel_rfl)) k1 bel lt1) (trodAll_cons_mk (Below.trod laidOut (by kernel_rfl) (of_decide_eq_true (by kernel_rfl)) k2 bel lt2) (trodAll_cons_mk (Below.trod laidOut (by kernel_rfl) (of_decide_eq_true (by kernel_rfl)) k3 bel lt3) trodAll_mk0)))), rfl, bel.frame _, fun h => by cases h⟩

theorem over : Rows.codeBackRow.holds Try.pinned (OpenSpec.ofChange Rows.codeBackSpec) :=
  OpenClaim.holds_of_wide 5 Try.f5 rfl rfl rfl rfl rfl rfl rfl ⟨rfl, rfl, rfl, rfl, rfl⟩ rfl rfl rfl rfl rfl (by kernel_rfl) Try.func5 (by kernel_rfl)
    (of_decide_eq_true (by kernel_rfl)) (by unfold Func.isWrapper; first | (rw [if_pos (by decide +kernel)]; kernel_rfl) | (rw [if_neg (by decide +kernel)]; exact ⟨rfl, rfl⟩))
    (fun os started H enc _ => lifted os started H enc)
theorem proved : Rows.CodeBackSaid := over
#print axioms proved
end codeBack
end Go.Proofs.Ytfodccjineallaa
