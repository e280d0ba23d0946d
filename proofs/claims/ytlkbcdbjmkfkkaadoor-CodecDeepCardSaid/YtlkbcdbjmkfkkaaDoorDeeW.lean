/-
  CodecDeep holds for every number: so many arrays, each within the one ahead, are encoded as their bytes and decoded again as the same value, or refused with ErrLimit where they are too deep. No condition but what the card itself ties.
-/
import Derived.Test.YtlkbcdbjmkfkkaaDoorDee
import Derived.Test.YtlkbcdbjmkfkkaaDoorDeeF
import Derived.Test.YtlkbcdbjmkfkkaaDoorUsm
namespace Go.Proofs.YtlkbcdbjmkfkkaaDoor
open Go.RowKit

theorem umodD (a : Int) (m : Nat) (h0 : 0 < m) : ∃ k : Nat, k < m ∧ (IntKind.u64.wrap a).tmod m = k := by
  have h1 : 0 ≤ IntKind.u64.wrap a := by rw [wrap_u64]; omega
  rw [Int.tmod_eq_emod_of_nonneg h1]
  refine ⟨(IntKind.u64.wrap a % m).toNat, ?_, ?_⟩
  · have := Int.emod_lt_of_pos (IntKind.u64.wrap a) (show (0 : Int) < m by omega)
    have := Int.emod_nonneg (IntKind.u64.wrap a) (show (m : Int) ≠ 0 by omega)
    omega
  · have := Int.emod_nonneg (IntKind.u64.wrap a) (show (m : Int) ≠ 0 by omega)
    omega
/-- What holds ahead of each round. -/
def DeeI (W : World) (V : Nat) (j : Nat) (o : Value) (wr : World) : Prop :=
  (∃ A c, o = .slice A (bytesD j).length c ∧ Rd wr wr.heap.size A (bytesD j).length c (bytesD j) ∧ ∀ b off, A = some ⟨b, off, none⟩ → b ≠ V) ∧
  (∃ v0 v1 v2 v3 v4, wr.heap[V]? = some (.cells #[v0, v1, v2, v3, v4] 38 (0, 0)) ∧ UIn wr (fun g => V < g ∧ g < wr.heap.size) (zD j) v0 v1 v2 v3 v4) ∧ Fr W wr (fun k => k < W.heap.size ∧ k ≠ V)
theorem zD_in {w : World} {g V : Nat} {k : Nat} {v0 v1 v2 v3 v4 : Value} (hg : w.heap[g]? = some (.cells #[v0, v1, v2, v3, v4] 38 (0, 0))) (hV : V < g) (h : UIn w (fun g => V < g ∧ g < w.heap.size) (zD k) v0 v1 v2 v3 v4) :
    UIn w (fun g => V < g ∧ g < w.heap.size) (zD (k + 1)) (.int .i64 11) (.int .i64 0) (.slice none 0 0) (.slice (some ⟨g, 0, none⟩) 1 1) (.slice none 0 0) := by
  refine .mk 11 0 [] [zD k] [] none (some ⟨g, 0, none⟩) none 0 1 0 (fun i j => #[v0, v1, v2, v3, v4].getD (5 * i + j) undef) (by decide) (by decide) (fun x hx => by simp at hx) (fun s hs => by simp at hs) ⟨Nat.le_refl _, by unfold maxLen; omega⟩ ⟨Nat.le_refl _, by unfold maxLen; omega⟩ ⟨Nat.le_refl _, by unfold maxLen; omega⟩ (fun h => absurd h (by simp)) (fun _ => ⟨g, 0, rfl, ⟨hV, blk_lt hg⟩, fun i j hi hj => ?_⟩) (fun h => absurd h (by simp)) (fun i z hz => ?_)
  · rw [cell_of_row w g _ _ _ _ hg]
    simp only [List.length_cons, List.length_nil] at hi
    obtain rfl : i = 0 := by omega
    have hj2 : j = 0 ∨ j = 1 ∨ j = 2 ∨ j = 3 ∨ j = 4 := by omega
    rcases hj2 with rfl | rfl | rfl | rfl | rfl <;> rfl
  · match i, hz with
    | 0, hz => cases hz; exact h

set_option maxHeartbeats 4000000 in
set_option maxRecDepth 100000 in
theorem deep_walk (a0 : Int) (w : World) : Calls Tryd.prog 4 #[.int .i64 a0] w fun e w' => e = .returned (.bool true) ∧ Below w.heap.size w w' := by
  obtain ⟨i0, hi, hz0, hz1, hz2⟩ := info_parts Tryd.info5
  obtain ⟨N, hN, eN⟩ := umodD a0 70 (by omega)
  obtain ⟨M, hM⟩ : ∃ M, N + 1 = M := ⟨_, rfl⟩
  have HN : Hid (wrap64 (1 + wrap64 ((IntKind.u64.wrap a0).tmod 70)) = (M : Int)) := Lib.hid (by rw [show ((70 : Int)) = ((70 : Nat) : Int) from rfl, eN]; unfold wrap64; omega)
  have HM := Lib.hid hM
  have hMb : M ≤ 70 := by omega
  clear eN hM
  go_enter Tryd.func4, Tryd.ntmps4
  go_upto_region 2 with fail
  rw [HN.out]
  clear HN
  obtain ⟨W, hW⟩ : ∃ W, (((w.alloc (.cells #[.int .i64 11, .string ⟨#[]⟩, .slice none 0 0, .slice none 0 0, .slice none 0 0, .bool false, .string ⟨#[]⟩, .int .i64 0, .slice none 0 0, .int .i64 0] 29)).alloc (.cells #[.slice (some ⟨w.heap.size, 0, none⟩) 1 1] 32)).alloc (.cells #[.int .i64 11, .int .i64 0, .slice none 0 0, .slice none 0 0, .slice none 0 0] 38)).alloc (.cells #[.int .u8 0] 5) = W := ⟨_, rfl⟩
  have hbW : Below w.heap.size w W := by rw [← hW]; exact ((((Below.refl _ w).alloc (Nat.le_refl _) _).alloc (by simp) _).alloc (by simp; omega) _).alloc (by simp; omega) _
  have hs : W.heap.size = w.heap.size + 4 := by rw [← hW]; simp
  have h0 : W.heap[w.heap.size]? = some (.cells (ndc 11 0).toArray 29 (0, 0)) := by rw [← hW]; exact old_at _ (old_at _ (old_at _ (new_at rfl _)))
  have h1 : W.heap[w.heap.size + 1]? = some (.cells #[.slice (some ⟨w.heap.size, 0, none⟩) 1 1] 32 (0, 0)) := by rw [← hW]; exact old_at _ (old_at _ (new_at (by simp) _))
  have h2 : W.heap[w.heap.size + 2]? = some (.cells #[.int .i64 11, .int .i64 0, .slice none 0 0, .slice none 0 0, .slice none 0 0] 38 (0, 0)) := by rw [← hW]; exact old_at _ (new_at (by simp) _)
  have h3 : W.heap[w.heap.size + 3]? = some (.cells #[.int .u8 0] 5 (0, 0)) := by rw [← hW]; exact new_at (by simp) _
  have hrd0 : Rd W W.heap.size (some ⟨w.heap.size + 3, 0, none⟩) 1 1 [0] := ⟨rfl, Nat.le_refl _, by unfold maxLen; omega, fun x hx => by simp at hx; omega, fun _ => ⟨w.heap.size + 3, 0, rfl, by omega, fun j u hu => by
    match j, hu with
    | 0, hu => cases hu; exact cell_of_row _ _ 0 _ _ _ h3⟩⟩
  have hstart : DeeI W (w.heap.size + 2) 0 (.slice (some ⟨w.heap.size + 3, 0, none⟩) 1 1) W := ⟨⟨_, _, rfl, hrd0, fun b off e => by cases e; omega⟩, ⟨_, _, _, _, _, h2, .mk 11 0 [] [] [] none none none 0 0 0 (fun _ _ => undef) (by decide) (by decide) (fun x hx => by simp at hx) (fun s hs => by simp at hs) ⟨Nat.le_refl _, by unfold maxLen; omega⟩ ⟨Nat.le_refl _, by unfold maxLen; omega⟩ ⟨Nat.le_refl _, by unfold maxLen; omega⟩ (fun h => absurd h (by simp)) (fun h => absurd h (by simp)) (fun h => absurd h (by simp)) (fun i z hz => by simp at hz)⟩, Fr.refl _ _⟩
  have hnds : ∀ W', Fr W W' (fun k => k < W.heap.size ∧ k ≠ w.heap.size + 2) → NdsAt W' (fun g => g < W'.heap.size) SD (.slice (some ⟨w.heap.size, 0, none⟩) 1 1) := fun W' hf => nds_mono (nds_fr hf (fun b hb => by omega) (nds_one (by decide) (by decide) h0)) (fun b hb => by have := hf.size; omega)
  have HNDS := Lib.hid hnds
  have HBW := Lib.hid hbW
  have H1 := Lib.hid h1
  have HS := Lib.hid hs
  have HW := Lib.hid hW
  have HST := Lib.hid hstart
  clear hnds hbW h1 hs hW h0 h2 h3 hrd0 hstart
  go_upto_region 5 with fail
  rw [HW.out]
  clear HW
  obtain ⟨V, hV⟩ : ∃ V, w.heap.size + 2 = V := ⟨_, rfl⟩
  rw [hV] at HST HNDS
  have hV' : w.heap.size + 1 + 1 = V := by omega
  rw [show w.heap.size + 1 + 1 + 1 = w.heap.size + 3 by omega, hV']
  have HV := Lib.hid hV
  clear hV hV'
  go_wp2
  go_loopw [5, 6] (fun o i wr => ∃ p j : Nat, Hid (p = j + 1) ∧ p ≤ M ∧ i = .int .i64 p ∧ DeeI W V j o wr) (fun _ i _ => M - (intOf i).toNat)
  case atStart => exact ⟨1, 0, Lib.hid rfl, by have := HM.out; omega, rfl, HST.out⟩
  case round =>
    obtain ⟨p, j, HP, hp, rfl, ⟨A, c, rfl, hrd, hAV⟩, ⟨v0, v1, v2, v3, v4, hv, hu⟩, hfr⟩ := hrel
    by_cases hlt : p < M
    · obtain ⟨x0, x1, x2, x3, x4⟩ := cells_5 hv
      have hva := old_at (.cells #[v0, v1, v2, v3, v4] 38) hv
      obtain ⟨y0, y1, y2, y3, y4⟩ := frozen_5 hva
      obtain ⟨u0, u1, u2, u3, u4⟩ := cells_5 hva
      have hbl := bytesD_len j
      obtain ⟨L, hL⟩ : ∃ L, (bytesD j).length = L := ⟨_, rfl⟩
      have HL := Lib.hid hL
      rw [hL] at hrd ⊢
      have HF := Lib.hid hfr
      have HU := Lib.hid hu
      have HRD := Lib.hid hrd
      have HBV := Lib.hid hv
      clear hfr hu hrd hL hv hva
      go_upto_region 9 with fail
      have hn5 := set5_new (wr.alloc (.cells #[v0, v1, v2, v3, v4] 38)) V _ _ _ _ _ (.int .i64 11) (.int .i64 0) (.slice none 0 0) (.slice (some ⟨wr.heap.size, 0, none⟩) 1 1) (.slice none 0 0) (old_at _ HBV.out)
      have hfn := set5_fr0 (wr.alloc (.cells #[v0, v1, v2, v3, v4] 38)) V (.int .i64 11) (.int .i64 0) (.slice none 0 0) (.slice (some ⟨wr.heap.size, 0, none⟩) 1 1) (.slice none 0 0)
      have hfa : Fr wr (wr.alloc (.cells #[v0, v1, v2, v3, v4] 38)) (fun _ => True) := (Fr.refl wr _).alloc _
      have hbx : (wr.alloc (.cells #[v0, v1, v2, v3, v4] 38)).heap[wr.heap.size]? = some (.cells #[v0, v1, v2, v3, v4] 38 (0, 0)) := new_at rfl _
      have hsz : (wr.alloc (.cells #[v0, v1, v2, v3, v4] 38)).heap.size = wr.heap.size + 1 := by simp
      generalize (((((wr.alloc (.cells #[v0, v1, v2, v3, v4] 38)).setCell ⟨V, 0, none⟩ (.int .i64 11)).setCell ⟨V, 1, none⟩ (.int .i64 0)).setCell ⟨V, 2, none⟩ (.slice none 0 0)).setCell ⟨V, 3, none⟩ (.slice (some ⟨wr.heap.size, 0, none⟩) 1 1)).setCell ⟨V, 4, none⟩ (.slice none 0 0) = W4 at *
      have hVlt : V < wr.heap.size := blk_lt HBV.out
      have hf4 : Fr wr W4 (fun k => k ≠ V) := (hfa.mono (fun _ _ _ => trivial)).trans hfn
      have hbx4 := hfn.at hbx (by omega)
      have hs4 : wr.heap.size + 1 ≤ W4.heap.size := by have := hfn.size; omega
      have hu4 : UIn W4 (fun g => V < g ∧ g < W4.heap.size) (zD j) v0 v1 v2 v3 v4 := (HU.out.fr hf4 (fun b hb => by omega)).mono (fun b _ hb => ⟨hb.1, by omega⟩)
      have hz4 := zD_in hbx4 hVlt hu4
      have hrd4 : ∀ x ∈ bytesD j, 0 ≤ x ∧ x < 256 := bytesD_byte j
      have hrdx : Rd W4 W4.heap.size A L c (bytesD j) := by
        obtain ⟨a1, a2, a3, a4, a5⟩ := HRD.out
        refine ⟨a1, a2, a3, a4, fun hn => ?_⟩
        obtain ⟨b, off, e, hb, hc⟩ := a5 hn
        refine ⟨b, off, e, by omega, fun j u hu => hf4.cell (hc j u hu) (hAV _ _ e)⟩
      have HN5 := Lib.hid hn5
      have HF4 := Lib.hid hf4
      have HZ4 := Lib.hid hz4
      clear hn5 hfn hfa hbx hsz hf4 hbx4 hu4 hz4 x0 x1 x2 x3 x4 y0 y1 y2 y3 y4 u0 u1 u2 u3 u4
      have hown0 : (W4.alloc (.cells #[.int .u8 2] 5)).ownsRow W4.heap.size 5 1 (.slice (some ⟨W4.heap.size, 0, none⟩) 1 1) 1 (cellsB [2]) := World.ownsRow_lit W4 #[.int .u8 2] 1 (Nat.le_refl _) (by unfold maxLen; omega) rfl
      have hjb : j ≤ 70 := by have := HP.out; have := HM.out; omega
      have hLb : L ≤ 200 := by have := HL.out; omega
      have hba : Below W4.heap.size W4 (W4.alloc (.cells #[.int .u8 2] 5)) := (Below.refl _ _).alloc (Nat.le_refl _) _
      go_wp2_with (at_builtin; refine wpList_append_rd _ rfl _ _ 33 rfl W4.heap.size 5 i0 Tryd.underlying33 hi hz0 hz1 hz2 _ _ _ rfl hown0 W4.heap.size A L c (bytesD j) rfl (hrdx.alloc (Nat.le_refl _) _) (by omega) (by simp) ?_)
      intro v' w5 hown5 hg5 hat5
      have hb5 : Below W4.heap.size W4 w5 := hba.grown hg5 (by simp) (fun k hk => (hown0.lt k hk).1)
      clear hg5 hat5 hown0 hba hrdx
      go_wp2_with (at_builtin; refine wpList_append_own _ rfl _ _ 33 rfl W4.heap.size 5 i0 (.int .u8 0) 1 1 Tryd.underlying33 hi hz0 hz1 hz2 rfl (by decide) _ _ _ rfl (hown5.alloc _) ⟨w5.heap.size, 0, none⟩ 1 1 [_] rfl rfl (cell_one_new _ _ _) ?c2 ?c3 ?c4 ?c5 ?_)
      case c2 => intro u hu; simp at hu; subst hu; rfl
      case c3 => unfold maxLen; omega
      case c4 => omega
      case c5 => have := hb5.size; simp; omega
      intro v' w6 hown6 hg6 _
      have hb6 : Below W4.heap.size W4 w6 := below_append hb5 hb5.size hown5 hg6
      obtain ⟨A6, c6, rfl⟩ := own_form hown6
      have e6 : Value.int .u8 2 :: (cellsB (bytesD j) ++ [Value.int .u8 0]) = cellsB (bytesD (j + 1)) := by rw [bytesD]; simp [cellsB]
      rw [e6] at hown6
      have hr6 := Rd.of_own hown6 (bytesD_byte (j + 1))
      have hA6 : ∀ b off, A6 = some ⟨b, off, none⟩ → b ≠ V := by
        intro b off e
        subst e
        have := (hown6.lt b (by simp [Value.ownBlock])).1
        omega
      have hl6 : (bytesD (j + 1)).length = 1 + L + 1 := by have := bytesD_len (j + 1); have := HL.out; omega
      have hf6 : Fr wr w6 (fun k => k ≠ V) := HF4.out.trans ((below_fr0 hb6).mono (fun _ _ _ => trivial))
      have hv6 := (below_fr0 hb6).at HN5.out trivial
      have hz6 := (HZ4.out.fr (below_fr0 hb6) (fun _ _ => trivial)).mono (ok' := fun g => V < g ∧ g < w6.heap.size) (fun b _ hb => ⟨hb.1, by have := hb6.size; omega⟩)
      have hF6 : Fr W w6 (fun k => k < W.heap.size ∧ k ≠ V) := HF.out.trans (hf6.mono (fun k _ hk => hk.2))
      clear hown5 hown6 hg6 hb5 hb6 e6
      go_wp2
      go_roundw
      case rel =>
        refine ⟨p + 1, j + 1, Lib.hid (by have := HP.out; omega), by omega, by go_num, ⟨A6, c6, by rw [hl6], by rw [hl6]; exact hr6, hA6⟩, ⟨_, _, _, _, _, hv6, hz6⟩, hF6⟩
      case measure => simp [intOf]; omega
    · have hpM : decide ((p : Int) < (M : Int)) = false := decide_eq_false (by omega)
      have hpM2 : decide (p < M) = false := decide_eq_false (by omega)
      have hjN : j = N := by have := HP.out; have := HM.out; omega
      subst hjN
      go_upto_region 10 with fail
      obtain ⟨x0, x1, x2, x3, x4⟩ := cells_5 hv
      have k1 : wr.cell? ⟨w.heap.size + 1, 0, none⟩ = some (.slice (some ⟨w.heap.size, 0, none⟩) 1 1) := cell_of_row _ _ 0 _ _ _ (hfr.at H1.out ⟨by have := HS.out; omega, by have := HV.out; omega⟩)
      have hbr : Below w.heap.size w wr := HBW.out.trans (fr_below (hfr.mono (fun k _ hk => ⟨by have := HS.out; omega, by have := HV.out; omega⟩)) (by have := HS.out; omega))
      have hVlt : V < wr.heap.size := blk_lt hv
      obtain ⟨f1, f2, f3, f4⟩ := zD_facts j hN
      have hun := zD_un j
      have hlen := bytesD_len j
      have huz := hu.mono (ok' := fun g => g < wr.heap.size) (fun b _ hb => hb.2)
      have hzn := HNDS.out wr hfr
      have hdec : ∀ w1, Below wr.heap.size wr w1 → Calls Tryd.prog 8 #[.agg #[.slice (some ⟨w.heap.size, 0, none⟩) 1 1], .slice A (bytesD j).length c] w1 (DecP w1 (if j < 64 then .ok (zD j) else .error 5)) := fun w1 h1 => by
        have := decode_any SD (fun nd h => by simp at h; subst h; simp [nd0]) w1 (.slice (some ⟨w.heap.size, 0, none⟩) 1 1) A (bytesD j).length c (bytesD j) (HNDS.out w1 (hfr.trans ((below_fr0 h1).mono (fun _ _ _ => trivial)))) ((hrd.below h1).more h1.size) (by omega)
        rwa [decode_deep j hN] at this
      have HDEC := Lib.hid hdec
      have HBR := Lib.hid hbr
      have HV5 := Lib.hid hv
      have HU := Lib.hid hu
      have HRD := Lib.hid hrd
      have hMj : M = j + 1 := by have := HM.out; omega
      by_cases h64 : j < 64
      · have henc := encode_ok SD (fun nd h => by simp at h; subst h; simp [nd0]) (by simp) (zD j) f1 f2 (by omega) (by omega) (by rw [zD_pcs]; omega) wr _ _ _ _ _ _ hzn huz
        rw [zD_pcs] at henc
        obtain ⟨L, hL⟩ : ∃ L, (bytesD j).length = L := ⟨_, rfl⟩
        rw [hL] at hdec HDEC HRD ⊢
        simp only [if_pos h64] at HDEC
        have hm1 : decide ((64 : Int) < (M : Int)) = false := decide_eq_false (by omega)
        have hm2 : decide (64 < M) = false := decide_eq_false (by omega)
        have HL := Lib.hid hL
        clear hlen hfr hu hrd hAV hdec hbr hv f1 f2 f3 f4 huz hzn hMj hp hlt hpM hpM2 HP HM h64 hL
        go_wp2_with fail
        refine henc.mono ?_
        rintro e w1 ⟨hb1, A1, c1, rfl, hr1⟩
        have k2 : w1.cell? ⟨w.heap.size + 1, 0, none⟩ = some (.slice (some ⟨w.heap.size, 0, none⟩) 1 1) := (below_fr0 hb1).cell k1 trivial
        have hcall := HDEC.out w1 hb1
        have HB1 := Lib.hid hb1
        have HR1 := Lib.hid hr1
        clear henc k1 hb1 hr1 HDEC x0 x1 x2 x3 x4
        rw [HL.out] at HR1 ⊢
        go_wp2_with fail
        refine hcall.mono ?_
        rintro e w2 ⟨hb2, u0, u1, u2, u3, u4, rfl, hz⟩
        obtain ⟨k, nn, B, n0, x0, A2, n1, x1, A3, n2, x2, rfl, rfl, rfl, rfl, rfl⟩ := uin_agg hz
        obtain ⟨W3, hW3⟩ : ∃ W3, w2.alloc (.cells #[.int .i64 k, .int .i64 nn, .slice B n0 x0, .slice A2 n1 x1, .slice A3 n2 x2] 38) = W3 := ⟨_, rfl⟩
        have hb23 : Below w2.heap.size w2 W3 := by rw [← hW3]; exact (Below.refl _ _).alloc (Nat.le_refl _) _
        have hbx3 : W3.heap[w2.heap.size]? = some (.cells #[.int .i64 k, .int .i64 nn, .slice B n0 x0, .slice A2 n1 x1, .slice A3 n2 x2] 38 (0, 0)) := by rw [← hW3]; exact new_at rfl _
        have hb13 : Below wr.heap.size wr W3 := HB1.out.trans ((hb2.trans (hb23.mono hb2.size)).mono HB1.out.size)
        have HZ := Lib.hid hz
        have HB2 := Lib.hid hb2
        have HB13 := Lib.hid hb13
        have HB23 := Lib.hid hb23
        have HX3 := Lib.hid hbx3
        have HW3 := Lib.hid hW3
        clear hcall k2 hz hb2 hb23 hbx3 hb13 hW3
        go_upto_region 12 with fail
        rw [HW3.out]
        clear HW3
        go_wp2_with fail
        refine (awake_any W3).mono ?_
        rintro e w4 ⟨rfl, hb4⟩
        have hb14 : Below wr.heap.size wr w4 := HB13.out.trans (hb4.mono HB13.out.size)
        have hra : Rd w4 w4.heap.size A L c (bytesD j) := (HRD.out.below hb14).more hb14.size
        have hb24 : Below w1.heap.size w1 w4 := HB2.out.trans ((HB23.out.trans (hb4.mono HB23.out.size)).mono HB2.out.size)
        have hrb : Rd w4 w4.heap.size A1 L c1 (bytesD j) := (HR1.out.below hb24).more hb24.size
        have hsame := bytes_same w4.heap.size A1 A L L c1 c (bytesD j) w4 hrb hra
        have hv4 := (below_fr0 hb14).at HV5.out trivial
        have hx4 := (below_fr0 hb4).at HX3.out trivial
        obtain ⟨p0, p1, p2, p3, p4⟩ := cells_5 hv4
        obtain ⟨q0, q1, q2, q3, q4⟩ := cells_5 hx4
        have huA := HU.out.fr (below_fr0 hb14) (fun _ _ => trivial)
        have huB := (HZ.out.fr (below_fr0 HB23.out) (fun _ _ => trivial)).fr (below_fr0 hb4) (fun _ _ => trivial)
        have hus := usame_any (t := zD j) (by omega) w4 _ _ _ _ _ _ _ _ _ _ _ _ huA huB
        have hbw4 : Below w.heap.size w w4 := HBR.out.trans (hb14.mono HBR.out.size)
        have HB4 := Lib.hid hbw4
        clear hb4 hb14 hra hb24 hrb hv4 hx4 huA huB hbw4
        go_wp2_with fail
        refine hsame.mono ?_
        rintro e w5 ⟨rfl, rfl⟩
        clear hsame
        go_wp2_with fail
        refine hus.mono ?_
        rintro e w6 ⟨rfl, hb6⟩
        have hbw6 := HB4.out.trans (hb6.mono HB4.out.size)
        have HB6 := Lib.hid hbw6
        clear hb6 hbw6 hus
        go_wp2
        go_ret
        exact ⟨rfl, HB6.out⟩
      · have henc := encode_deep SD (fun nd h => by simp at h; subst h; simp [nd0]) (by simp) (zD j) f2 (by omega) (by omega) wr _ _ _ _ _ _ hzn huz
        obtain ⟨L, hL⟩ : ∃ L, (bytesD j).length = L := ⟨_, rfl⟩
        rw [hL] at hdec HDEC HRD ⊢
        simp only [if_neg h64] at HDEC
        have hm1 : decide ((64 : Int) < (M : Int)) = true := decide_eq_true (by omega)
        have hm2 : decide (64 < M) = true := decide_eq_true (by omega)
        clear hlen hfr hu hrd hAV hdec hbr hv f1 f2 f3 f4 huz hzn hMj hp hlt hpM hpM2 HP HM h64 hL
        go_wp2_with fail
        refine henc.mono ?_
        rintro e w1 ⟨hb1, rfl⟩
        have k2 : w1.cell? ⟨w.heap.size + 1, 0, none⟩ = some (.slice (some ⟨w.heap.size, 0, none⟩) 1 1) := (below_fr0 hb1).cell k1 trivial
        have hcall := HDEC.out w1 hb1
        have hbw1 := HBR.out.trans (hb1.mono HBR.out.size)
        have HB1 := Lib.hid hbw1
        clear henc k1 hb1 hbw1 HDEC x0 x1 x2 x3 x4
        go_wp2_with fail
        refine hcall.mono ?_
        rintro e w2 ⟨hb2, _, rfl⟩
        have hbw2 := HB1.out.trans (hb2.mono HB1.out.size)
        have HB2 := Lib.hid hbw2
        clear hcall k2 hb2 hbw2
        go_wp2_with fail
        refine (awake_any _).mono ?_
        rintro e w4 ⟨rfl, hb4⟩
        have hbw4 : Below w.heap.size w w4 := (HB2.out.alloc HB2.out.size (.cells #[.int .i64 0, .int .i64 0, .slice none 0 0, .slice none 0 0, .slice none 0 0] 38)).trans (hb4.mono (by have := HB2.out.size; simp; omega))
        have HB4 := Lib.hid hbw4
        clear hb4 hbw4
        go_wp2
        go_ret
        exact ⟨rfl, HB4.out⟩
/-- CodecDeep holds, whatever the number is. -/
theorem codecDeep_holds : Rows.CodecDeepCardSaid := codecDeep.card fun a0 w _ _ => deep_walk a0 w
end Go.Proofs.YtlkbcdbjmkfkkaaDoor
