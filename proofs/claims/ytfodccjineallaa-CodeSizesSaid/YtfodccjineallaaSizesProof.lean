/-
  PROVED: for every uint64 v, int64 n and slice of byte slices the law 'CodeSizes' returns true: how many bytes numbers and texts have, and that texts written one behind the other are read so (P1.1). No condition.
-/
import Derived.Test.YtfodccjineallaaTexts
import Derived.Test.YtfodccjineallaaBackProof
namespace Go.Proofs.Ytfodccjineallaa
open Go.ChangeShapes Go.WideShapes Go.ChangeAt Go.RowKit
theorem below_undrew {B : Nat} {w w' : World} (h : Below B w.drew w') : Below B w w' := ⟨h.os, h.tape, h.output, h.size, h.block⟩

namespace codeSizes

/-- Where the gathering loop stands. -/
def Gath (w : World) (X : Nat → List Int) (n k : Nat) (o : Value) (wr : World) : Prop :=
  k ≤ n ∧ (∀ j, j < k → (X j).length ≤ 500) ∧ wr.ownsRow w.heap.size 5 1 o (cat X 0 k).length (cellsB (cat X 0 k)) ∧ Below w.heap.size w wr

set_option maxHeartbeats 1000000 in
set_option maxRecDepth 100000 in
theorem walk (v : Nat) (n : Int) (A : Option Addr) (l c : Nat) (X : Nat → List Int) (w : World) (hv : v < 18446744073709551616) (hn : I64 n) (hr : Rds w A l c X) :
    Calls Try.prog 7 #[.int .u64 v, .int .i64 n, .slice A l c] w fun e w' => e = .returned (.bool true) ∧ Below w.heap.size w w' := by
  obtain ⟨i0, hi, hz0, hz1, hz2⟩ := info_parts Try.info5
  have HV := Lib.hid hv
  clear hv
  have hnl := numL_len10 v HV.out
  go_enter Try.func7, Try.ntmps7
  go_wp2
  go_loop [7, 8] (fun a b => ∃ x k : Nat, a = .int .i64 x ∧ b = .int .u64 k ∧ x + lenK k = (numL v).length ∧ k ≤ v) (fun _ b => (intOf b).toNat)
  case atStart => exact ⟨1, v / 128, rfl, by go_num, lenK_start v, by omega⟩
  case round =>
    obtain ⟨x, k, rfl, rfl, hx, hk⟩ := hrel
    have HX := Lib.hid hx
    have hxl : x ≤ 10 := by omega
    clear hx
    by_cases h0 : 0 < k
    · go_wp2
      go_round
      case rel => exact ⟨x + 1, k / 128, by go_num, by go_num, by have := HX.out; rw [lenK_step h0] at this; omega, by omega⟩
      case measure => simp [intOf]; omega
    · have hk0 : k = 0 := by omega
      subst hk0
      obtain rfl : x = (numL v).length := by have := HX.out; simpa [lenK] using this
      clear HX
      by_cases hl20 : l ≤ 20
      · by_cases hn0 : n < 0
        all_goals
          go_wp2_with fail
          first | rw [(zig_neg hn (by omega)).2] | rw [(zig_pos hn (by omega)).2]
          refine (awake_any w).mono ?_
          rintro e w1 ⟨rfl, hb1⟩
          go_wp2_with fail
          refine (num_any v HV.out w1).mono ?_
          rintro e w2 ⟨A2, c2, rfl, hown2, hb2⟩
          have hbw2 := bstep hb1 hb2
          clear hb1 hb2 hown2
          go_wp2_with fail
          refine (zig_any n hn w2).mono ?_
          rintro e w3 ⟨A3, c3, rfl, hown3, hb3⟩
          have hbw3 := bstep hbw2 hb3
          clear hbw2 hb3
          go_wp2_with fail
          refine (num_any (zigN n) (zigN_lt hn) w3).mono ?_
          rintro e w4 ⟨A4, c4, rfl, hown4, hb4⟩
          have hr3 := ((Rd.of_own hown3 (numL_byte _ _ (Nat.le_refl _))).below hb4).more hb4.size
          have hr4 := Rd.of_own hown4 (numL_byte _ _ (Nat.le_refl _))
          have hbw4 := bstep hbw3 hb4
          clear hbw3 hb4 hown3 hown4
          go_wp2_with fail
          refine (bytes_same w4.heap.size _ _ _ _ _ _ _ w4 hr3 hr4).mono ?_
          rintro e w5 ⟨rfl, rfl⟩
          clear hr3 hr4
          go_wp2
          go_loopw [10, 11] (fun o i wr => ∃ k : Nat, i = .int .i64 k ∧ Gath w X l k o wr) (fun _ i _ => l - (intOf i).toNat)
          case atStart => exact ⟨0, rfl, by omega, fun j hj => absurd hj (by omega), World.ownsRow_nil _ _ _ _, hbw4⟩
          case round =>
            obtain ⟨k, rfl, hk, h500, hown, hb⟩ := hrel
            by_cases hlt : k < l
            · obtain ⟨b, off, rfl, hbl, hcells⟩ := hr.2.2 (by omega)
              obtain ⟨A', c', hc0, hrk0⟩ := hcells k hlt
              have hc : wr.cell? ⟨b, off + k, none⟩ = some (.slice A' (X k).length c') := (hb.cell (p := ⟨b, off + k, none⟩) hbl).trans hc0
              have hrk := (hrk0.below hb).more hb.size
              have HX5 := Lib.hid h500
              have hcl := cat_len (X := X) k 0 (fun j _ hj => h500 j (by omega))
              clear hcells hc0 hrk0 h500
              by_cases h5 : (X k).length ≤ 500
              · go_wp2_with fail
                refine (text_any _ _ _ _ (X k) wr hrk (Nat.le_refl _) (by omega)).mono ?_
                rintro e w6 ⟨A6, c6, rfl, hown6, hb6⟩
                have hc6 : w6.drew.cell? ⟨b, off + k, none⟩ = some (.slice A' (X k).length c') := (hb6.cell (p := ⟨b, off + k, none⟩) (by show b < _; have := hb.size; omega)).trans hc
                have htl : (textL (X k)).length = (numL (zigN ((X k).length : Int))).length + (X k).length := by unfold textL; simp
                have hzl := zigLen (n := (X k).length) (by omega)
                have hne : (((textL (X k)).length : Int) != IntKind.i64.wrap (((numL (zigN ((X k).length : Int))).length : Int) + ((X k).length : Int))) = false := by
                  rw [IntKind.wrap_i64, bne_eq_false_iff_eq]; omega
                have htl' : (textL (X k)).length ≤ 510 := by omega
                clear htl
                have hbk : b < w6.heap.size := by have := hb.size; have := hb6.size; omega
                go_wp2_with fail
                go_region_held3 (fun w' => w'.cell? ⟨b, off + k, none⟩ = some (.slice A' (X k).length c')) (first | exact hc6 | exact hc7) (first | (go_at_call 13; refine (zig_any _ (i64_nat (by omega)) w6.drew).mono ?_; rintro e w7 ⟨A7, c7, rfl, hown7, hb7⟩; have hc7 : w7.cell? ⟨b, off + k, none⟩ = some (.slice A' (X k).length c') := (hb7.cell (p := ⟨b, off + k, none⟩) hbk).trans hc6))
                have hb7 : Below w6.heap.size w6 w7 := below_undrew hb7
                have hown7' : w7.ownsRow w.heap.size 5 1 u10 (cat X 0 k).length (cellsB (cat X 0 k)) := own_below (own_below hown hb6) hb7
                have hr7 : Rd w7 w7.heap.size A6 (textL (X k)).length c6 (textL (X k)) := ((Rd.of_own hown6 (textL_byte hrk.byte)).below hb7).more hb7.size
                have hbw7 : Below w.heap.size w w7 := bstep (bstep hb hb6) hb7
                clear hown hown6 hown7 hb7 hb6 hb hc6 hc7 hc
                go_wp2_with (at_builtin; refine wpList_append_rd _ rfl _ _ 23 rfl w.heap.size 5 i0 Try.underlying23 hi hz0 hz1 hz2 _ _ _ rfl hown7' w7.heap.size _ _ _ _ rfl hr7 (by omega) hbw7.size ?_)
                intro v8 w8 hown8 hg8 _
                have hbw8 : Below w.heap.size w w8 := hbw7.grown hg8 hbw7.size (fun k hk => (hown7'.lt k hk).1)
                clear hg8 hown7' hr7 hbw7
                go_wp2
                go_roundw
                case rel =>
                  refine ⟨k + 1, by go_num, by omega, fun j hj => ?_, ?_, hbw8⟩
                  · by_cases hjk : j < k
                    · exact HX5.out j hjk
                    · obtain rfl : j = k := by omega
                      exact h5
                  · rw [cat_snoc X 0 k, Nat.zero_add]
                    simpa [cellsB] using hown8
                case measure => simp [intOf]; omega
              · go_wp2
                go_ret
                exact ⟨rfl, hb⟩
            · obtain rfl : k = l := by omega
              obtain ⟨A9, c9, rfl⟩ := own_form hown
              have hcl := cat_len (X := X) k 0 (fun j _ hj => h500 j (by omega))
              have hr9 : Rd wr wr.heap.size A9 (cat X 0 k).length c9 (cat X 0 k) := by
                refine Rd.of_own hown (cat_byte k 0 fun j _ hj => ?_)
                obtain ⟨b, off, _, _, hcells⟩ := hr.2.2 (by omega)
                obtain ⟨A', c', _, hrk0⟩ := hcells j (by omega)
                exact hrk0.byte
              have HX5 := Lib.hid h500
              clear h500 hown
              go_wp2_with fail
              refine (new_any _ _ _ _ _ wr hr9 (by omega)).mono ?_
              rintro e w9 ⟨p, rfl, hp, hR9, hb9⟩
              have hbw9 := bstep hb hb9
              have hpw : w.heap.size ≤ p := Nat.le_trans hb.size hp
              clear hr9 hb9 hb hp
              obtain ⟨wo, rfl⟩ : ∃ wo : World, wo = wr := ⟨_, rfl⟩
              go_wp2
              go_loopw [14] (fun i wr => ∃ j : Nat, i = .int .i64 j ∧ j ≤ k ∧ Rdr wr p (cat X j (k - j)) 0 ∧ Below w.heap.size w wr) (fun i _ => k - (intOf i).toNat)
              case atStart => exact ⟨0, rfl, by omega, hR9, hbw9⟩
              case round =>
                obtain ⟨j, rfl, hj, hR, hb⟩ := hrel
                by_cases hlt : j < k
                · obtain ⟨b, off, rfl, hbl, hcells⟩ := hr.2.2 (by omega)
                  obtain ⟨A', c', hc0, hrk0⟩ := hcells j hlt
                  have hcd : wr.drew.cell? ⟨b, off + j, none⟩ = some (.slice A' (X j).length c') := (hb.cell (p := ⟨b, off + j, none⟩) hbl).trans hc0
                  have hRd : Rdr wr.drew p (textL (X j) ++ cat X (j + 1) (k - (j + 1))) 0 := by
                    have e1 : cat X j (k - j) = textL (X j) ++ cat X (j + 1) (k - (j + 1)) := by rw [show k - j = (k - (j + 1)) + 1 by omega, cat]
                    rw [e1] at hR; exact hR
                  have h5 := HX5.out j hlt
                  have hT : ∀ W : World, Rdr W p (textL (X j) ++ cat X (j + 1) (k - (j + 1))) 0 → Calls Try.prog 25 #[.pointer (some ⟨p, 0, none⟩), .int .i64 500] W (BytesPost W p (X j, cat X (j + 1) (k - (j + 1)), 0)) := by
                    intro W h
                    have := text_rd p 500 _ 0 W h
                    rwa [rText_text (by omega) 500 (by omega)] at this
                  have HT := Lib.hid hT
                  have hbp : b ≠ p := by omega
                  have hbd : Below w.heap.size w wr.drew := hb.drew
                  clear hcells hc0 hR hT hb
                  go_wp2_with fail
                  go_region_held3 (fun w' => w'.cell? ⟨b, off + j, none⟩ = some (.slice A' (X j).length c')) (first | exact hcd | exact hc7) (first
                    | (go_at_call 25; refine (HT.out wr.drew hRd).mono ?_; rintro e w7 ⟨A7, c7, rfl, hown7, hR7, hg7⟩; have hbw7 : Below w.heap.size w w7 := hbd.grown hg7 hbd.size (fun k hk => by cases hk; exact hpw); have hc7 : w7.cell? ⟨b, off + j, none⟩ = some (.slice A' (X j).length c') := (hbw7.cell (p := ⟨b, off + j, none⟩) hbl).trans ((hbd.cell (p := ⟨b, off + j, none⟩) hbl).symm.trans hcd))
                    | (go_at_call 10; refine (bytes_same w7.heap.size _ _ _ _ _ _ (X j) _ (Rd.of_own hown7 hrk0.byte) ((hrk0.below hbw7).more hbw7.size)).mono ?_; rintro e w8 ⟨rfl, rfl⟩))
                  go_wp2
                  go_roundw
                  case rel => exact ⟨j + 1, by go_num, by omega, hR7, hbw7⟩
                  case measure => simp [intOf]; omega
                · obtain rfl : j = k := by omega
                  have hR' : Rdr wr p [] 0 := by rw [Nat.sub_self] at hR; exact hR
                  go_wp2_with fail
                  refine (left_rd p [] 0 wr hR').mono ?_
                  rintro e w10 ⟨rfl, rfl⟩
                  go_wp2
                  go_ret
                  exact ⟨rfl, hb⟩
      · by_cases hn0 : n < 0
        all_goals
          go_wp2_with fail
          first | rw [(zig_neg hn (by omega)).2] | rw [(zig_pos hn (by omega)).2]
          refine (awake_any w).mono ?_
          rintro e w1 ⟨rfl, hb1⟩
          go_wp2_with fail
          refine (num_any v HV.out w1).mono ?_
          rintro e w2 ⟨A2, c2, rfl, hown2, hb2⟩
          have hbw2 := bstep hb1 hb2
          clear hb1 hb2 hown2
          go_wp2_with fail
          refine (zig_any n hn w2).mono ?_
          rintro e w3 ⟨A3, c3, rfl, hown3, hb3⟩
          have hbw3 := bstep hbw2 hb3
          clear hbw2 hb3
          go_wp2_with fail
          refine (num_any (zigN n) (zigN_lt hn) w3).mono ?_
          rintro e w4 ⟨A4, c4, rfl, hown4, hb4⟩
          have hr3 := ((Rd.of_own hown3 (numL_byte _ _ (Nat.le_refl _))).below hb4).more hb4.size
          have hr4 := Rd.of_own hown4 (numL_byte _ _ (Nat.le_refl _))
          have hbw4 := bstep hbw3 hb4
          clear hbw3 hb4 hown3 hown4
          go_wp2_with fail
          refine (bytes_same w4.heap.size _ _ _ _ _ _ _ w4 hr3 hr4).mono ?_
          rintro e w5 ⟨rfl, rfl⟩
          clear hr3 hr4
          go_wp2_with fail
          refine (awake_any w4).mono ?_
          rintro e w6 ⟨rfl, hb6⟩
          go_wp2
          go_ret
          exact ⟨rfl, bstep hbw4 hb6⟩
theorem final (a0 a1 : Int) (A : Option Addr) (l c : Nat) (X : Nat → List Int) (w : World) (w0 : (Lit.int .u64 a0).wf = true) (w1 : (Lit.int .i64 a1).wf = true) (w2 : Rds w A l c X) :
    Calls Try.prog 7 #[.int .u64 a0, .int .i64 a1, .slice A l c] w fun e w' => e = .returned (.bool true) ∧ Below w.heap.size w w' := by
  have h0 := bounds_u64 w0
  have h1 := bounds_i64 w1
  obtain ⟨v, rfl⟩ := Int.eq_ofNat_of_zero_le h0.1
  exact walk v a1 A l c X w (by omega) ⟨by omega, by omega⟩ w2
theorem open51 {H : Type} {enc : TypeId × Value → H} {W : World} {base : Nat} {v : Value} {d : DataW H} {ps : List MemPlace} (hval : Value.okWide Try.prog W .any base 51 v) (h : DataW.Trod enc Try.prog W 0 (fun _ => true) true 51 v d ps) : ∃ A l c X, v = .slice A l c ∧ Rds W A l c X :=
  open_rds Try.underlying51 (by kernel_rfl) Try.underlying23 Try.underlying5 (by kernel_rfl) hval h
theorem own : ownKnob Try.prog.godebug = none := by kernel_rfl
theorem laidOut : laidOutB Try.prog = true := by kernel_rfl
set_option maxRecDepth 100000 in
theorem lifted (os : Os) (started : os.Started) (H : Type) (enc : TypeId × Value → H) :
    ReturnsInHanded {} Try.checked os 7 .any (Rows.codeSizesSpec.pre6 enc Try.prog Try.f7 Rows.codeSizesRow.domain false) (Rows.codeSizesSpec.post enc Try.prog Try.f7 false true false false) := by
  refine returnsInHanded_of_change (C := Try.checked) own started (by kernel_rfl) Try.func7
    (ChangeSpec.witness6 (enc := enc) (C := Try.checked) false ⟨#[], #[.int .u64 0, .int .i64 0, .slice none 0 0], []⟩ 8 (by kernel_rfl) (by kernel_rfl) (by kernel_rfl) (by kernel_rfl)) ?_
  intro W base args ds gs before hval0 hW hcnd _
  have hval : ∀ (j : Nat) t v, Try.f7.params[j]? = some t → args[j]? = some v → Value.okWide Try.prog W .any base t v := hval0
  have hW' := hW
  obtain ⟨p, q, hA0, hV, rfl, hfz, hnd⟩ := hW
  have hA : DataW.TrodAll enc Try.prog W 0 (fun _ => true) true Try.f7.params.toList args.toList ds p := hA0
  rw [Try.params7] at hA hval
  obtain ⟨v0, vs0, d0, ds0, p0, q0, hargs, rfl, rfl, h0, r0⟩ := trodAll_cons hA
  obtain ⟨v1, vs1, d1, ds1, p1, q1, rfl, rfl, rfl, h1, r1⟩ := trodAll_cons r0
  obtain ⟨v2, vs2, d2, ds2, p2, q2, rfl, rfl, rfl, h2, r2⟩ := trodAll_cons r1
  obtain ⟨rfl, rfl, rfl⟩ := trodAll_nil r2
  obtain rfl : args = #[v0, v1, v2] := by cases args; simp_all
  obtain ⟨rfl, rfl⟩ := trodVars_none hV
  have k0 := h0
  have lt0 : ∀ x ∈ p0, x.block < W.heap.size := by obtain ⟨m, hm⟩ := k0; exact DataW.trod_lt m _ _ _ hm
  obtain ⟨a0, rfl, rfl, rfl, w0⟩ := open_int Try.underlying22 (hval 0 22 v0 rfl rfl) h0
  have k1 := h1
  have lt1 : ∀ x ∈ p1, x.block < W.heap.size := by obtain ⟨m, hm⟩ := k1; exact DataW.trod_lt m _ _ _ hm
  obtain ⟨a1, rfl, rfl, rfl, w1⟩ := open_int Try.underlying2 (hval 1 2 v1 rfl rfl) h1
  have k2 := h2
  have lt2 : ∀ x ∈ p2, x.block < W.heap.size := by obtain ⟨m, hm⟩ := k2; exact DataW.trod_lt m _ _ _ hm
  obtain ⟨A2, l2, c2, x2, rfl, w2⟩ := open51 (hval 2 51 v2 rfl rfl) h2
  clear hA0 hval0
  refine (final a0 a1 A2 l2 c2 x2 W w0 w1 w2).mono fun e W' ⟨he, bel⟩ => ?_
  subst he
  exact ⟨_, rfl, _, _, _, [], _, [], hW', trodAll_mk1 (shut_bool Try.underlying4 _), (trodAll_cons_mk (Below.trod laidOut (by kernel_rfl) (of_decide_eq_true (by kernel_rfl)) k0 bel lt0) (trodAll_cons_mk (Below.trod laidOut (by kernel_rfl) (of_decide_eq_true (by kernel_rfl)) k1 bel lt1) (trodAll_cons_mk (Below.trod laidOut (by kernel_rfl) (of_decide_eq_true (by kernel_rfl)) k2 bel lt2) trodAll_mk0))), rfl, bel.frame _, fun h => by cases h⟩

theorem over : Rows.codeSizesRow.holds Try.pinned (OpenSpec.ofChange Rows.codeSizesSpec) :=
  OpenClaim.holds_of_wide 7 Try.f7 rfl rfl rfl rfl rfl rfl rfl ⟨rfl, rfl, rfl, rfl, rfl⟩ rfl rfl rfl rfl rfl (by kernel_rfl) Try.func7 (by kernel_rfl)
    (of_decide_eq_true (by kernel_rfl)) (by unfold Func.isWrapper; first | (rw [if_pos (by decide +kernel)]; kernel_rfl) | (rw [if_neg (by decide +kernel)]; exact ⟨rfl, rfl⟩))
    (fun os started H enc _ => lifted os started H enc)
theorem proved : Rows.CodeSizesSaid := over
#print axioms proved
end codeSizes
end Go.Proofs.Ytfodccjineallaa
