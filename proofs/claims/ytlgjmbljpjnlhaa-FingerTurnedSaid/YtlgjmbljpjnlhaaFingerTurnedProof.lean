/-
  PROVED: for every byte slice b, int at and byte by the law 'FingerTurned' returns true: bytes of which one is another one have another print ('What follows' of layer 7). No condition.
-/
import Derived.Test.YtlgjmbljpjnlhaaFingerPrintsProof
namespace Go.Proofs.Ytlgjmbljpjnlhaa
open Go.ChangeShapes Go.WideShapes Go.ChangeAt Go.RowKit
namespace fingerTurned
set_option maxHeartbeats 4000000 in
set_option maxRecDepth 100000 in
theorem copy_any (A : Option Addr) (n c : Nat) (xs : List Int) (w : World) (hr : Rd w w.heap.size A n c xs) (hn : n ≤ 100000) :
    Calls Try.prog 12 #[.slice A n c] w fun e w' => ∃ g c', e = .returned (.slice g n c') ∧ w'.ownsRow w.heap.size 5 1 (.slice g n c') n (cellsB xs) ∧ Below w.heap.size w w' := by
  obtain ⟨i0, hi, hz0, hz1, hz2⟩ := info_parts Try.info5
  go_enter Try.func12, Try.ntmps12
  go_wp2_with (at_builtin; refine wpList_append_rd _ rfl _ _ 22 rfl w.heap.size 5 i0 Try.underlying22 hi hz0 hz1 hz2 _ 0 [] rfl (World.ownsRow_nil _ _ _ _) w.heap.size A n c xs rfl hr (by omega) (Nat.le_refl _) ?_; intro v' w' hown hgr _)
  rw [Nat.zero_add, List.nil_append] at hown
  obtain ⟨g, c', rfl⟩ := own_form hown
  have hb : Below w.heap.size w w' := (Below.refl _ _).grown hgr (Nat.le_refl _) (fun k e => by cases e)
  go_ret
  exact ⟨g, c', rfl, hown, hb⟩
theorem place {a : Int} {l : Nat} (h0 : 0 < l) (hl : l ≤ 20000) : ∃ k : Nat, k < l ∧ wrap64 ((IntKind.u64.wrap a).tmod (l : Int)) = (k : Int) := by
  have hn : 0 ≤ IntKind.u64.wrap a := by simp [IntKind.wrap, IntKind.bits, IntKind.signed]; omega
  obtain ⟨m, hm⟩ := Int.eq_ofNat_of_zero_le hn
  rw [hm]
  refine ⟨m % l, Nat.mod_lt _ h0, ?_⟩
  have h1 : ((m : Int).tmod (l : Int)) = ((m % l : Nat) : Int) := rfl
  have h2 := Nat.mod_lt m h0
  rw [h1]
  unfold wrap64
  omega
set_option maxHeartbeats 4000000 in
set_option maxRecDepth 100000 in
theorem walk (at_ : Int) (by_ : Int) (A : Option Addr) (l c : Nat) (xs : List Int) (w : World) (hby : 0 < by_ ∧ by_ < 256) (hr : Rd w w.heap.size A l c xs) (hl : l ≤ 20000) (hl0 : 0 < l) :
    Calls Try.prog 4 #[.slice A l c, .int .i64 at_, .int .u8 by_] w fun e w' => e = .returned (.bool true) ∧ Below w.heap.size w w' := by
  have HL := Lib.hid hr.len
  go_enter Try.func4, Try.ntmps4
  have h1 : ((l : Int) == 0) = false := by simp; omega
  have h2 : decide ((20000 : Int) < (l : Int)) = false := by simp; omega
  have h3 : (by_ == 0) = false := by simp; omega
  go_wp2_with fail
  refine (copy_any A l c xs w hr (by omega)).mono ?_
  rintro e w1 ⟨g, c', rfl, hown, hb1⟩
  obtain ⟨k, hk, hkw⟩ := place (a := at_) hl0 hl
  obtain ⟨g, cap, hv, hg, _⟩ := hown.form hl0
  injection hv with e1 _ e2
  subst e1 e2
  have hkl : k < xs.length := by have := HL.out; omega
  have hc : w1.cell? ⟨g, k, none⟩ = some (.int .u8 (xs.getD k 0)) := by
    rw [hown.cellAt k (by omega)]
    simp [cellsB, hkl]
  have hf := hown.frozenAt k
  have hx0 := hr.byte (xs.getD k 0) (by rw [List.getD_eq_getElem?_getD, List.getElem?_eq_getElem hkl]; exact List.getElem_mem _)
  have HCut := Lib.hid (show xs = xs.take k ++ xs.getD k 0 :: xs.drop (k + 1) by rw [List.getD_eq_getElem?_getD, List.getElem?_eq_getElem hkl]; simp)
  generalize xs.getD k 0 = x at hc hx0 HCut
  have HK := Lib.hid hkl
  clear hkl
  have hxor : bits BinOp.xor IntKind.u8 x by_ = ((x.toNat ^^^ by_.toNat : Nat) : Int) := by
    have h := u8_xor_nat x.toNat by_.toNat (by omega) (by omega)
    rw [show ((x.toNat : Nat) : Int) = x by omega, show ((by_.toNat : Nat) : Int) = by_ by omega] at h
    exact h
  have hy1 : x.toNat ^^^ by_.toNat < 256 := Nat.xor_lt_two_pow (n := 8) (by omega) (by omega)
  have hne : x ≠ bits BinOp.xor IntKind.u8 x by_ := by
    rw [hxor]
    intro h
    have h5 : x.toNat ^^^ by_.toNat = x.toNat ^^^ 0 := by rw [Nat.xor_zero]; omega
    rw [Nat.xor_comm, Nat.xor_comm x.toNat 0] at h5
    have := xor_inj h5
    omega
  have hy0 : 0 ≤ bits BinOp.xor IntKind.u8 x by_ ∧ bits BinOp.xor IntKind.u8 x by_ < 256 := by rw [hxor]; omega
  clear hxor hy1
  have hst := hown.stored k (.int .u8 (bits BinOp.xor IntKind.u8 x by_))
  have HNE := Lib.hid hne
  clear hne
  go_wp2_with fail
  generalize bits BinOp.xor IntKind.u8 x by_ = y at *
  obtain ⟨ho2, hg2⟩ := hst
  rw [← List.map_set] at ho2
  have hb2 : Below w.heap.size w (w1.setCell ⟨g, k, none⟩ (.int .u8 y)) := hb1.grown hg2 hb1.size (fun b e => by cases e; exact hg)
  generalize w1.setCell ⟨g, k, none⟩ (.int .u8 y) = w2 at *
  have HSet := Lib.hid (show xs.set k y = xs.take k ++ y :: xs.drop (k + 1) from List.set_eq_take_append_cons_drop.trans (by rw [if_pos HK.out]))
  have hby2 : ∀ z ∈ xs.set k y, 0 ≤ z ∧ z < 256 := fun z hz => (List.mem_or_eq_of_mem_set hz).elim (hr.byte z) (fun e => by rw [e]; exact hy0)
  have hrc := Rd.of_own ho2 hby2
  refine (awake_any w2).mono ?_
  rintro e w3 ⟨rfl, hb3⟩
  have hrc3 := (hrc.below hb3).more hb3.size
  have hb33 := bstep hb2 hb3
  go_wp2_with fail
  refine (print_any tbl (Lib.hid tbl_law) _ _ _ _ w3 hrc3 (by omega)).mono ?_
  rintro e w4 ⟨rfl, hb4⟩
  have hb44 := bstep hb33 hb4
  have hr4 := (hr.below hb44).more hb44.size
  go_wp2_with fail
  refine (print_any tbl (Lib.hid tbl_law) _ _ _ xs w4 hr4 (by omega)).mono ?_
  rintro e w5 ⟨rfl, hb5⟩
  have hne2 : (prn 13933329357911598997 (xs.set k y) : Int) ≠ (prn 13933329357911598997 xs : Int) := by
    have h := prn_turned (xs := xs.take k) (ys := xs.drop (k + 1)) (f := 13933329357911598997) (by omega) (fun z hz => hr.byte z (List.mem_of_mem_take hz)) (fun z hz => hr.byte z (List.mem_of_mem_drop hz)) hx0 hy0 HNE.out
    rw [HSet.out]
    intro e
    have e2 : prn 13933329357911598997 (xs.take k ++ y :: xs.drop (k + 1)) = prn 13933329357911598997 xs := by omega
    exact h ((congrArg (prn 13933329357911598997) HCut.out).symm.trans e2.symm)
  go_wp2
  go_ret
  exact ⟨by simp [hne2], bstep hb44 hb5⟩
set_option maxHeartbeats 400000 in
set_option maxRecDepth 100000 in
theorem walk_empty (at_ : Int) (by_ : Int) (A : Option Addr) (c : Nat) (w : World) :
    Calls Try.prog 4 #[.slice A 0 c, .int .i64 at_, .int .u8 by_] w fun e w' => e = .returned (.bool true) ∧ Below w.heap.size w w' := by
  go_enter Try.func4, Try.ntmps4
  go_wp2_with fail
  refine (awake_any w).mono ?_
  rintro e w2 ⟨rfl, hb2⟩
  go_wp2
  go_ret
  exact ⟨rfl, hb2⟩
set_option maxHeartbeats 400000 in
set_option maxRecDepth 100000 in
theorem walk_long (at_ : Int) (by_ : Int) (A : Option Addr) (l c : Nat) (w : World) (hl : ¬ l ≤ 20000) :
    Calls Try.prog 4 #[.slice A l c, .int .i64 at_, .int .u8 by_] w fun e w' => e = .returned (.bool true) ∧ Below w.heap.size w w' := by
  have h1 : ((l : Int) == 0) = false := by simp; omega
  have h2 : decide ((20000 : Int) < (l : Int)) = true := by simp; omega
  go_enter Try.func4, Try.ntmps4
  go_wp2_with fail
  refine (awake_any w).mono ?_
  rintro e w2 ⟨rfl, hb2⟩
  go_wp2
  go_ret
  exact ⟨rfl, hb2⟩
set_option maxHeartbeats 400000 in
set_option maxRecDepth 100000 in
theorem walk_same (at_ : Int) (A : Option Addr) (l c : Nat) (w : World) (hl : l ≤ 20000) (hl0 : 0 < l) :
    Calls Try.prog 4 #[.slice A l c, .int .i64 at_, .int .u8 0] w fun e w' => e = .returned (.bool true) ∧ Below w.heap.size w w' := by
  have h1 : ((l : Int) == 0) = false := by simp; omega
  have h2 : decide ((20000 : Int) < (l : Int)) = false := by simp; omega
  go_enter Try.func4, Try.ntmps4
  go_wp2_with fail
  refine (awake_any w).mono ?_
  rintro e w2 ⟨rfl, hb2⟩
  go_wp2
  go_ret
  exact ⟨rfl, hb2⟩
theorem final (A : Option Addr) (l c : Nat) (xs : List Int) (a1 a2 : Int) (w : World) (w0 : Rd w w.heap.size A l c xs) (w2 : (Lit.int .u8 a2).wf = true) :
    Calls Try.prog 4 #[.slice A l c, .int .i64 a1, .int .u8 a2] w fun e w' => e = .returned (.bool true) ∧ Below w.heap.size w w' := by
  have hb := wf_byte w2
  rcases Nat.eq_zero_or_pos l with rfl | hl0
  · exact walk_empty a1 a2 A c w
  · by_cases hl : l ≤ 20000
    · by_cases h0 : a2 = 0
      · subst h0
        exact walk_same a1 A l c w hl hl0
      · exact walk a1 a2 A l c xs w ⟨by omega, hb.2⟩ w0 hl hl0
    · exact walk_long a1 a2 A l c w hl
theorem own : ownKnob Try.prog.godebug = none := by kernel_rfl
theorem laidOut : laidOutB Try.prog = true := by kernel_rfl
set_option maxRecDepth 100000 in
theorem lifted (os : Os) (started : os.Started) (H : Type) (enc : TypeId × Value → H) :
    ReturnsInHanded {} Try.checked os 4 .any (Rows.fingerTurnedSpec.pre6 enc Try.prog Try.f4 Rows.fingerTurnedRow.domain false) (Rows.fingerTurnedSpec.post enc Try.prog Try.f4 false true false false) := by
  refine returnsInHanded_of_change (C := Try.checked) own started (by kernel_rfl) Try.func4
    (ChangeSpec.witness6 (enc := enc) (C := Try.checked) false ⟨#[], #[.slice none 0 0, .int .i64 0, .int .u8 0], []⟩ 8 (by kernel_rfl) (by kernel_rfl) (by kernel_rfl) (by kernel_rfl)) ?_
  intro W base args ds gs before hval0 hW hcnd _
  have hval : ∀ (j : Nat) t v, Try.f4.params[j]? = some t → args[j]? = some v → Value.okWide Try.prog W .any base t v := hval0
  have hW' := hW
  obtain ⟨p, q, hA0, hV, rfl, hfz, hnd⟩ := hW
  have hA : DataW.TrodAll enc Try.prog W 0 (fun _ => true) true Try.f4.params.toList args.toList ds p := hA0
  rw [Try.params4] at hA hval
  obtain ⟨v0, vs0, d0, ds0, p0, q0, hargs, rfl, rfl, h0, r0⟩ := trodAll_cons hA
  obtain ⟨v1, vs1, d1, ds1, p1, q1, rfl, rfl, rfl, h1, r1⟩ := trodAll_cons r0
  obtain ⟨v2, vs2, d2, ds2, p2, q2, rfl, rfl, rfl, h2, r2⟩ := trodAll_cons r1
  obtain ⟨rfl, rfl, rfl⟩ := trodAll_nil r2
  obtain rfl : args = #[v0, v1, v2] := by cases args; simp_all
  obtain ⟨rfl, rfl⟩ := trodVars_none hV
  have k0 := h0
  have lt0 : ∀ x ∈ p0, x.block < W.heap.size := by obtain ⟨m, hm⟩ := k0; exact DataW.trod_lt m _ _ _ hm
  obtain ⟨A0, l0, c0, x0, rfl, w0⟩ := open_rd Try.underlying22 Try.underlying5 (by kernel_rfl) (hval 0 22 v0 rfl rfl) h0
  have k1 := h1
  have lt1 : ∀ x ∈ p1, x.block < W.heap.size := by obtain ⟨m, hm⟩ := k1; exact DataW.trod_lt m _ _ _ hm
  obtain ⟨a1, rfl, rfl, rfl, _⟩ := open_int Try.underlying3 (hval 1 3 v1 rfl rfl) h1
  have k2 := h2
  have lt2 : ∀ x ∈ p2, x.block < W.heap.size := by obtain ⟨m, hm⟩ := k2; exact DataW.trod_lt m _ _ _ hm
  obtain ⟨a2, rfl, rfl, rfl, w2⟩ := open_int Try.underlying5 (hval 2 5 v2 rfl rfl) h2
  clear hA0 hval0
  refine (final A0 l0 c0 x0 a1 a2 W w0 w2).mono fun e W' ⟨he, bel⟩ => ?_
  subst he
  exact ⟨_, rfl, _, _, _, [], _, [], hW', trodAll_mk1 (shut_bool Try.underlying4 _), (trodAll_cons_mk (Below.trod laidOut (by kernel_rfl) (of_decide_eq_true (by kernel_rfl)) k0 bel lt0) (trodAll_cons_mk (Below.trod laidOut (by kernel_rfl) (of_decide_eq_true (by kernel_rfl)) k1 bel lt1) (trodAll_cons_mk (Below.trod laidOut (by kernel_rfl) (of_decide_eq_true (by kernel_rfl)) k2 bel lt2) trodAll_mk0))), rfl, bel.frame _, fun h => by cases h⟩

theorem over : Rows.fingerTurnedRow.holds Try.pinned (OpenSpec.ofChange Rows.fingerTurnedSpec) :=
  OpenClaim.holds_of_wide 4 Try.f4 rfl rfl rfl rfl rfl rfl rfl ⟨rfl, rfl, rfl, rfl, rfl⟩ rfl rfl rfl rfl rfl (by kernel_rfl) Try.func4 (by kernel_rfl)
    (of_decide_eq_true (by kernel_rfl)) (by unfold Func.isWrapper; first | (rw [if_pos (by decide +kernel)]; kernel_rfl) | (rw [if_neg (by decide +kernel)]; exact ⟨rfl, rfl⟩))
    (fun os started H enc _ => lifted os started H enc)
theorem proved : Rows.FingerTurnedSaid := over
#print axioms proved
end fingerTurned
end Go.Proofs.Ytlgjmbljpjnlhaa
