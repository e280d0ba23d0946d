/-
  CodecNulls holds for every two numbers: an array of so many nulls, in so many blocks, is told by Decode with just that many values, or refused with ErrLimit where there are too many. No condition but what the card itself ties (the laid tables of unicode/utf8, which this road does not reach).
-/
import Derived.Test.YtlkbcdbjmkfkkaaDoorNulZ
import Derived.Test.YtlkbcdbjmkfkkaaDoorNulF
namespace Go.Proofs.YtlkbcdbjmkfkkaaDoor
open Go.RowKit

theorem umod (a : Int) (m : Nat) (h0 : 0 < m) : ∃ k : Nat, k < m ∧ (IntKind.u64.wrap a).tmod m = k := by
  have h1 : 0 ≤ IntKind.u64.wrap a := by rw [wrap_u64]; omega
  rw [Int.tmod_eq_emod_of_nonneg h1]
  refine ⟨(IntKind.u64.wrap a % m).toNat, ?_, ?_⟩
  · have := Int.emod_lt_of_pos (IntKind.u64.wrap a) (show (0 : Int) < m by omega)
    have := Int.emod_nonneg (IntKind.u64.wrap a) (show (m : Int) ≠ 0 by omega)
    omega
  · have := Int.emod_nonneg (IntKind.u64.wrap a) (show (m : Int) ≠ 0 by omega)
    omega
def repsL (N : Nat) : Nat → List Int
  | 0 => []
  | q + 1 => repsL N q ++ numL (zigN N)
theorem reps_comm (N : Nat) : ∀ q, numL (zigN N) ++ repsL N q = repsL N q ++ numL (zigN N)
  | 0 => by simp [repsL]
  | q + 1 => by rw [repsL, ← List.append_assoc, reps_comm N q]
theorem blks_reps (N : Nat) : ∀ j, blksL N j = repsL N j ++ [0]
  | 0 => rfl
  | j + 1 => by rw [blksL, blks_reps N j, ← List.append_assoc, reps_comm N j, repsL]
theorem reps_len (N : Nat) (h : N < 1000000) : ∀ q, (repsL N q).length ≤ 10 * q
  | 0 => by simp [repsL]
  | q + 1 => by
    have h1 := reps_len N h q
    have h2 := numL_len10 (zigN N) (zigN_lt ⟨by omega, by omega⟩)
    rw [repsL, List.length_append]; omega
theorem uin_len {w : World} {ok : Nat → Prop} {z : U} {v0 v1 v2 v4 : Value} {A : Option Addr} {n c : Nat} (h : UIn w ok z v0 v1 v2 (.slice A n c) v4) : n = z.l.length := by cases h; rfl

set_option maxHeartbeats 4000000 in
set_option maxRecDepth 100000 in
theorem nulls_walk (a0 a1 : Int) (w : World) : Calls Tryd.prog 5 #[.int .i64 a0, .int .i64 a1] w fun e w' => e = .returned (.bool true) ∧ Below w.heap.size w w' := by
  obtain ⟨i0, hi, hz0, hz1, hz2⟩ := info_parts Tryd.info5
  obtain ⟨N, hN, eN⟩ := umod a0 20000 (by omega)
  obtain ⟨j, hj, ej⟩ := umod a1 3 (by omega)
  have HN : Hid (wrap64 ((IntKind.u64.wrap a0).tmod 20000) = (N : Int)) := Lib.hid (by rw [show ((20000 : Int)) = ((20000 : Nat) : Int) from rfl, eN]; unfold wrap64; omega)
  have HJ : Hid (wrap64 (1 + wrap64 ((IntKind.u64.wrap a1).tmod 3)) = ((j + 1 : Nat) : Int)) := Lib.hid (by rw [show ((3 : Int)) = ((3 : Nat) : Int) from rfl, ej]; unfold wrap64; push_cast; omega)
  clear eN ej
  obtain ⟨b, hb⟩ : ∃ b, b = j + 1 := ⟨_, rfl⟩
  have hb13 : 1 ≤ b ∧ b ≤ 3 := by omega
  go_enter Tryd.func5, Tryd.ntmps5
  go_upto_region 3 with fail
  rw [HN.out, HJ.out, ← hb]
  clear HN HJ hb hj
  obtain ⟨W, hW⟩ : ∃ W, (w.alloc (.cells #[.int .i64 11, .string ⟨#[]⟩, .slice none 0 0, .slice none 0 0, .slice none 0 0, .bool false, .string ⟨#[]⟩, .int .i64 1, .slice none 0 0, .int .i64 0, .int .i64 1, .string ⟨#[]⟩, .slice none 0 0, .slice none 0 0, .slice none 0 0, .bool false, .string ⟨#[]⟩, .int .i64 0, .slice none 0 0, .int .i64 0] 29)).alloc (.cells #[.slice (some ⟨w.heap.size, 0, none⟩) 2 2] 32) = W := ⟨_, rfl⟩
  have hbW : Below w.heap.size w W := by rw [← hW]; exact ((Below.refl _ w).alloc (Nat.le_refl _) _).alloc (by simp) _
  have hs : W.heap.size = w.heap.size + 2 := by rw [← hW]; simp
  have h0 : W.heap[w.heap.size]? = some (.cells (ndc 11 1 ++ ndc 1 0).toArray 29 (0, 0)) := by rw [← hW]; exact old_at _ (new_at rfl _)
  have h1 : W.heap[w.heap.size + 1]? = some (.cells #[.slice (some ⟨w.heap.size, 0, none⟩) 2 2] 32 (0, 0)) := by rw [← hW]; exact new_at (by simp) _
  have hnds : ∀ W', Fr W W' (fun k => k < w.heap.size + 2) → NdsAt W' (fun g => g < W'.heap.size) SN (.slice (some ⟨w.heap.size, 0, none⟩) 2 2) := fun W' hf => nds_mono (nds_fr hf (fun b hb => by omega) (nds_two (by decide) (by decide) (by decide) (by decide) h0)) (fun b hb => by have := hf.size; omega)
  have HNDS := Lib.hid hnds
  have HBW := Lib.hid hbW
  have H1 := Lib.hid h1
  have HS := Lib.hid hs
  have HW := Lib.hid hW
  clear hnds hbW h1 hs hW h0
  go_upto_region 4 with fail
  rw [HW.out]
  by_cases hN0 : N = 0
  · have hNz : (N : Int) = 0 := by omega
    rw [hNz]
    clear hNz
    go_wp2
    go_loopw [6, 7] (fun o i wr => o = .slice none 0 0 ∧ i = .int .i64 0 ∧ wr = W) (fun _ _ _ => 0)
    case atStart => exact ⟨rfl, rfl, rfl⟩
    case round =>
      obtain ⟨rfl, rfl, rfl⟩ := hrel
      have hd0 : decide ((0 : Int) < (b : Int)) = true := decide_eq_true (by omega)
      go_wp2_with (at_builtin; refine wpList_append_own _ rfl _ _ 33 rfl wr.heap.size 5 i0 (.int .u8 0) 1 1 Tryd.underlying33 hi hz0 hz1 hz2 rfl (by decide) _ 0 [] rfl (World.ownsRow_nil _ _ _ _) ⟨wr.heap.size, 0, none⟩ 1 1 [_] rfl rfl (cell_one_new _ _ _) ?c2 ?c3 ?c4 ?c5 ?_)
      case c2 => intro u hu; simp at hu; subst hu; rfl
      case c3 => unfold maxLen; omega
      case c4 => omega
      case c5 => simp
      intro v' w1 hown' hgrow _
      have hb1 : Below wr.heap.size wr w1 := below_append (Below.refl _ _) (Nat.le_refl _) (World.ownsRow_nil wr wr.heap.size 5 1) hgrow
      obtain ⟨A1, c1, rfl⟩ := own_form hown'
      have hr1 : Rd w1 w1.heap.size A1 1 c1 [0] := Rd.of_own hown' (fun x hx => by simp at hx; omega)
      have hf1 : Fr wr w1 (fun k => k < w.heap.size + 2) := ⟨hb1.os, hb1.tape, hb1.output, hb1.size, fun k hk _ => hb1.block k hk⟩
      have hdec := decode_any SN (fun nd h => by simp at h; rcases h with rfl | rfl <;> simp [nd0]) w1 _ A1 _ c1 _ (HNDS.out w1 hf1) hr1 (by omega)
      rw [decode_null0] at hdec
      have k1 : w1.cell? ⟨w.heap.size + 1, 0, none⟩ = some (.slice (some ⟨w.heap.size, 0, none⟩) 2 2) := cell_of_row _ _ 0 _ _ _ (hf1.at H1.out (by omega))
      have hbw1 : Below w.heap.size w w1 := HBW.out.trans (hb1.mono (by have := HS.out; omega))
      have HBW1 := Lib.hid hbw1
      clear hown' hgrow hr1 hf1 hb1 hbw1 hd0
      go_wp2_with fail
      refine hdec.mono ?_
      rintro e w2 ⟨hb2, hr2⟩
      have hbw2 : Below w.heap.size w w2 := HBW1.out.trans (hb2.mono HBW1.out.size)
      have HBW2 := Lib.hid hbw2
      clear hdec k1 hb2 hbw2
      obtain ⟨v0, v1, v2, v3, v4, rfl, hz⟩ := hr2
      obtain ⟨k, nn, B, n0, x0, A2, n1, x1, A3, n2, x2, rfl, rfl, rfl, rfl, rfl⟩ := uin_agg hz
      have hl := uin_len hz
      simp only [U.l, List.length_nil] at hl
      subst hl
      clear hz
      go_wp2_with fail
      refine (awake_any _).mono ?_
      rintro e w3 ⟨rfl, hb3⟩
      have y3 : w3.cell? ⟨w2.heap.size, 3, none⟩ = some (.slice A2 0 x1) := (below_fr0 hb3).cell (cell_of_row _ _ 3 _ _ _ (new_at rfl _)) trivial
      have hbw3 : Below w.heap.size w w3 := (HBW2.out.alloc HBW2.out.size (.cells #[.int .i64 k, .int .i64 nn, .slice B n0 x0, .slice A2 0 x1, .slice A3 n2 x2] 38)).trans (hb3.mono (by have := HBW2.out.size; simp; omega))
      have HBW3 := Lib.hid hbw3
      clear hb3 hbw3
      go_wp2
      go_ret
      exact ⟨rfl, HBW3.out⟩
  · have hNp : 0 < N := by omega
    go_wp2
    go_loopw [6, 7] (fun o i wr => ∃ q : Nat, q ≤ b ∧ i = .int .i64 q ∧ wr.ownsRow W.heap.size 5 1 o (repsL N q).length (cellsB (repsL N q)) ∧ Below W.heap.size W wr) (fun _ i _ => b - (intOf i).toNat)
    case atStart => exact ⟨0, by omega, rfl, World.ownsRow_nil _ _ _ _, Below.refl _ _⟩
    case round =>
      obtain ⟨q, hq, rfl, hown, hbr⟩ := hrel
      have hrl := reps_len N (by omega) q
      by_cases hlt : q < b
      · have hd : decide ((0 : Int) < (N : Int)) = true := decide_eq_true (by omega)
        have hrl2 := numL_len10 (zigN N) (zigN_lt ⟨by omega, by omega⟩)
        go_wp2_with fail
        refine (lzig_any N hN wr).mono ?_
        rintro e w1 ⟨A1, c1, rfl, hown1, hb1⟩
        have hr1 := Rd.of_own hown1 (numL_byte _ _ (Nat.le_refl _))
        have hf1 : Fr wr w1 (fun _ => True) := below_fr0 hb1
        have howr := ownsRow_fr hown hf1 (fun _ _ => trivial)
        have hbr1 : Below W.heap.size W w1 := hbr.trans (hb1.mono hbr.size)
        clear hown hown1 hb1 hf1 hbr
        go_wp2_with (at_builtin; refine wpList_append_rd _ rfl _ _ 33 rfl W.heap.size 5 i0 Tryd.underlying33 hi hz0 hz1 hz2 _ _ _ rfl howr w1.heap.size A1 _ c1 _ rfl hr1 (by omega) hbr1.size ?_)
        intro v' w2 hown2 hg2 hat2
        have hb2 : Below W.heap.size W w2 := hbr1.grown hg2 hbr1.size (fun k hk => (howr.lt k hk).1)
        clear hg2 hat2 howr hr1 hbr1
        go_wp2
        go_roundw
        case rel =>
          refine ⟨q + 1, by omega, by go_num, ?_, hb2⟩
          rw [repsL, List.length_append]
          simpa [cellsB] using hown2
        case measure => simp [intOf]; omega
      · have hqb : q = b := by omega
        have hqb' : decide ((q : Int) < (b : Int)) = false := decide_eq_false (by omega)
        have hdl : (repsL N q).length ≤ 30 := by omega
        have HQ := Lib.hid hqb
        clear hqb
        go_wp2_with (at_builtin; refine wpList_append_own _ rfl _ _ 33 rfl W.heap.size 5 i0 (.int .u8 0) 1 1 Tryd.underlying33 hi hz0 hz1 hz2 rfl (by decide) _ _ _ rfl (hown.alloc _) ⟨wr.heap.size, 0, none⟩ 1 1 [_] rfl rfl (cell_one_new _ _ _) ?c2 ?c3 ?c4 ?c5 ?_)
        case c2 => intro u hu; simp at hu; subst hu; rfl
        case c3 => unfold maxLen; omega
        case c4 => omega
        case c5 => have := hbr.size; simp; omega
        intro v' w1 hown' hgrow _
        have hb1 : Below W.heap.size W w1 := below_append hbr hbr.size hown hgrow
        obtain ⟨A1, c1, rfl⟩ := own_form hown'
        have hbs : cellsB (repsL N q) ++ [Value.int .u8 0] = cellsB (blksL N b) := by rw [blks_reps, HQ.out]; simp [cellsB]
        have hbl : (repsL N q).length + 1 = (blksL N b).length := by rw [blks_reps, HQ.out]; simp
        have hown2 : w1.ownsRow W.heap.size 5 1 (.slice A1 ((repsL N q).length + 1) c1) ((repsL N q).length + 1) (cellsB (blksL N b)) := by rw [← hbs]; exact hown'
        rw [hbl] at hown2 ⊢
        have hr1 := Rd.of_own hown2 (blksL_bytes N b)
        have hf1 : Fr W w1 (fun k => k < w.heap.size + 2) := ⟨hb1.os, hb1.tape, hb1.output, hb1.size, fun k hk _ => hb1.block k hk⟩
        have hdec := decode_any SN (fun nd h => by simp at h; rcases h with rfl | rfl <;> simp [nd0]) w1 _ A1 _ c1 _ (HNDS.out w1 hf1) hr1 (by omega)
        rw [decode_nulls N b (by omega) hNp] at hdec
        have k1 : w1.cell? ⟨w.heap.size + 1, 0, none⟩ = some (.slice (some ⟨w.heap.size, 0, none⟩) 2 2) := cell_of_row _ _ 0 _ _ _ (hf1.at H1.out (by omega))
        have hbw1 : Below w.heap.size w w1 := HBW.out.trans (hb1.mono (by have := HS.out; omega))
        have HBW1 := Lib.hid hbw1
        clear hown hown' hgrow hbr hbs hbl hown2 hr1 hf1 hb1 hbw1 hrl hdl hqb'
        generalize (blksL N b).length = M at *
        go_wp2_with fail
        refine hdec.mono ?_
        rintro e w2 ⟨hb2, hr2⟩
        have hbw2 : Below w.heap.size w w2 := HBW1.out.trans (hb2.mono HBW1.out.size)
        have HBW2 := Lib.hid hbw2
        clear hdec k1 hb2 hbw2
        by_cases hlim : b * N < 10000
        · rw [if_pos hlim] at hr2
          obtain ⟨v0, v1, v2, v3, v4, rfl, hz⟩ := hr2
          obtain ⟨k, nn, B, n0, x0, A2, n1, x1, A3, n2, x2, rfl, rfl, rfl, rfl, rfl⟩ := uin_agg hz
          have hl := uin_len hz
          simp only [U.l, List.length_replicate] at hl
          have HL := Lib.hid hl
          clear hz hl
          have hd : decide ((0 : Int) < (N : Int)) = true := decide_eq_true (by omega)
          clear HQ hq
          obtain rfl | rfl | rfl : b = 1 ∨ b = 2 ∨ b = 3 := by omega
          · have hd2 : decide ((10000 : Int) ≤ (N : Int)) = false := decide_eq_false (by omega)
            have hn : ((N : Int) == 0) = false := by simp; omega
            have hl1 : ((n1 : Int) == (N : Int)) = true := by have := HL.out; simp; omega
            clear hlim
            go_wp2_with fail
            refine (awake_any _).mono ?_
            rintro e w3 ⟨rfl, hb3⟩
            have y3 : w3.cell? ⟨w2.heap.size, 3, none⟩ = some (.slice A2 n1 x1) := (below_fr0 hb3).cell (cell_of_row _ _ 3 _ _ _ (new_at rfl _)) trivial
            have hbw3 : Below w.heap.size w w3 := (HBW2.out.alloc HBW2.out.size (.cells #[.int .i64 k, .int .i64 nn, .slice B n0 x0, .slice A2 n1 x1, .slice A3 n2 x2] 38)).trans (hb3.mono (by have := HBW2.out.size; simp; omega))
            have HBW3 := Lib.hid hbw3
            clear hb3 hbw3
            go_wp2
            go_ret
            exact ⟨rfl, HBW3.out⟩
          · have hd2 : decide ((10000 : Int) ≤ 2 * (N : Int)) = false := decide_eq_false (by omega)
            have hn : ((N : Int) == 0) = false := by simp; omega
            have hl1 : ((n1 : Int) == 2 * (N : Int)) = true := by have := HL.out; simp; omega
            clear hlim
            go_wp2_with fail
            refine (awake_any _).mono ?_
            rintro e w3 ⟨rfl, hb3⟩
            have y3 : w3.cell? ⟨w2.heap.size, 3, none⟩ = some (.slice A2 n1 x1) := (below_fr0 hb3).cell (cell_of_row _ _ 3 _ _ _ (new_at rfl _)) trivial
            have hbw3 : Below w.heap.size w w3 := (HBW2.out.alloc HBW2.out.size (.cells #[.int .i64 k, .int .i64 nn, .slice B n0 x0, .slice A2 n1 x1, .slice A3 n2 x2] 38)).trans (hb3.mono (by have := HBW2.out.size; simp; omega))
            have HBW3 := Lib.hid hbw3
            clear hb3 hbw3
            go_wp2
            go_ret
            exact ⟨rfl, HBW3.out⟩
          · have hd2 : decide ((10000 : Int) ≤ 3 * (N : Int)) = false := decide_eq_false (by omega)
            have hn : ((N : Int) == 0) = false := by simp; omega
            have hl1 : ((n1 : Int) == 3 * (N : Int)) = true := by have := HL.out; simp; omega
            clear hlim
            go_wp2_with fail
            refine (awake_any _).mono ?_
            rintro e w3 ⟨rfl, hb3⟩
            have y3 : w3.cell? ⟨w2.heap.size, 3, none⟩ = some (.slice A2 n1 x1) := (below_fr0 hb3).cell (cell_of_row _ _ 3 _ _ _ (new_at rfl _)) trivial
            have hbw3 : Below w.heap.size w w3 := (HBW2.out.alloc HBW2.out.size (.cells #[.int .i64 k, .int .i64 nn, .slice B n0 x0, .slice A2 n1 x1, .slice A3 n2 x2] 38)).trans (hb3.mono (by have := HBW2.out.size; simp; omega))
            have HBW3 := Lib.hid hbw3
            clear hb3 hbw3
            go_wp2
            go_ret
            exact ⟨rfl, HBW3.out⟩
        · rw [if_neg hlim] at hr2
          obtain ⟨_, rfl⟩ := hr2
          have hd : decide ((0 : Int) < (N : Int)) = true := decide_eq_true (by omega)
          clear HQ hq
          obtain rfl | rfl | rfl : b = 1 ∨ b = 2 ∨ b = 3 := by omega
          · have hd2 : decide ((10000 : Int) ≤ (N : Int)) = true := decide_eq_true (by omega)
            clear hlim
            go_wp2_with fail
            refine (awake_any _).mono ?_
            rintro e w3 ⟨rfl, hb3⟩
            have hbw3 : Below w.heap.size w w3 := (HBW2.out.alloc HBW2.out.size (.cells #[.int .i64 0, .int .i64 0, .slice none 0 0, .slice none 0 0, .slice none 0 0] 38)).trans (hb3.mono (by have := HBW2.out.size; simp; omega))
            have HBW3 := Lib.hid hbw3
            clear hb3 hbw3
            go_wp2
            go_ret
            exact ⟨rfl, HBW3.out⟩
          · have hd2 : decide ((10000 : Int) ≤ 2 * (N : Int)) = true := decide_eq_true (by omega)
            clear hlim
            go_wp2_with fail
            refine (awake_any _).mono ?_
            rintro e w3 ⟨rfl, hb3⟩
            have hbw3 : Below w.heap.size w w3 := (HBW2.out.alloc HBW2.out.size (.cells #[.int .i64 0, .int .i64 0, .slice none 0 0, .slice none 0 0, .slice none 0 0] 38)).trans (hb3.mono (by have := HBW2.out.size; simp; omega))
            have HBW3 := Lib.hid hbw3
            clear hb3 hbw3
            go_wp2
            go_ret
            exact ⟨rfl, HBW3.out⟩
          · have hd2 : decide ((10000 : Int) ≤ 3 * (N : Int)) = true := decide_eq_true (by omega)
            clear hlim
            go_wp2_with fail
            refine (awake_any _).mono ?_
            rintro e w3 ⟨rfl, hb3⟩
            have hbw3 : Below w.heap.size w w3 := (HBW2.out.alloc HBW2.out.size (.cells #[.int .i64 0, .int .i64 0, .slice none 0 0, .slice none 0 0, .slice none 0 0] 38)).trans (hb3.mono (by have := HBW2.out.size; simp; omega))
            have HBW3 := Lib.hid hbw3
            clear hb3 hbw3
            go_wp2
            go_ret
            exact ⟨rfl, HBW3.out⟩
/-- CodecNulls holds: whatever the two numbers are, an array of so many nulls in so many blocks is told, or refused for its limit. -/
theorem codecNulls_holds : Rows.CodecNullsCardSaid := codecNulls.card fun a0 a1 w _ _ _ => nulls_walk a0 a1 w
end Go.Proofs.YtlkbcdbjmkfkkaaDoor
