/-
  'Least' of the schema that is an int; 'awake'.
-/
import Derived.Test.YtpajccehkcgoaaaDoorLvf
namespace Go.Proofs.YtpajccehkcgoaaaDoor
open Go.RowKit Go.Shelf Lv

theorem i_live : Live 1 (nsF [iNd]) 0 := live_closed 1 (nsF [iNd]) 0 (by omega) (by
  have e : nsF [iNd] 0 = ⟨3, [], []⟩ := rfl
  rw [e]
  unfold Der
  rw [if_neg (by decide), if_neg (by decide)]
  decide)
theorem i_lens : ∀ i, (nsF [iNd] i).br.length ≤ 20 ∧ (nsF [iNd] i).ft.length ≤ 20 := fun i => by
  rcases i with _ | i
  · exact ⟨by decide, by decide⟩
  · have e : nsF [iNd] (i + 1) = toN default := rfl
    rw [e]
    exact ⟨by decide, by decide⟩
/-- The one that makes a value stands. -/
def MakerP (W0 : World) (g : Nat) (p : Value) (wx : World) : Prop :=
  ∃ (q rg : Nat) (f : Int), p = .pointer (some ⟨q, 0, none⟩) ∧ Hid (W0.heap.size ≤ q) ∧ Hid (wx.heap[q]? = some (.cells #[.slice (some ⟨g, 0, none⟩) 1 1, .slice (some ⟨rg, 0, none⟩) 1 1, .int .i64 10000, .int .i64 10000000] 71 (0, 0))) ∧ Hid (wx.cell? ⟨rg, 0, none⟩ = some (.int .i64 f)) ∧ Hid (f ≠ Lv.nv) ∧ Hid (Fr W0 wx (fun _ => True))
theorem maker_at {W0 W1 w1 : World} {g rg : Nat} {f : Nat → Int} {a : Array Value} (hf0 : Fr W0 W1 (fun _ => True)) (ha : w1.heap[rg]? = some (.cells a 3 (0, 0))) (hac : ∀ i, i < 1 → a[i]? = some (.int .i64 (f i))) (hlv : ∀ i, i < 1 → (f i ≠ Lv.nv ↔ Live 1 (nsF [iNd]) i)) (hf : Fr W1 w1 (fun _ => True)) :
    MakerP W0 g (.pointer (some ⟨w1.heap.size, 0, none⟩)) (w1.alloc (.cells #[.slice (some ⟨g, 0, none⟩) 1 1, .slice (some ⟨rg, 0, none⟩) 1 1, .int .i64 10000, .int .i64 10000000] 71)) :=
  ⟨w1.heap.size, rg, f 0, rfl, Nat.le_trans hf0.size hf.size, new_at rfl _, by
    have h := (fr_allocX (o := .cells #[.slice (some ⟨g, 0, none⟩) 1 1, .slice (some ⟨rg, 0, none⟩) 1 1, .int .i64 10000, .int .i64 10000000] 71) (Fr.refl w1 _)).at ha trivial
    show World.cell? _ _ = _
    rw [cell_of_row _ _ _ _ _ _ h]; exact hac 0 (by omega), (hlv 0 (by omega)).2 i_live, (hf0.trans hf).trans (fr_allocX (Fr.refl _ _))⟩
set_option maxRecDepth 100000 in
set_option maxHeartbeats 4000000 in
theorem least_int (W : World) (g : Nat) (hg : W.heap[g]? = some (.cells iA 30 (0, 0))) :
    Calls Tryd.prog 12 #[.agg #[.slice (some ⟨g, 0, none⟩) 1 1], .int .i64 0] W fun e w' => e = .returned (.tuple #[.agg #[.int .i64 3, .int .i64 0, .slice none 0 0, .slice none 0 0, .slice none 0 0], .bool true]) ∧ Fr W w' (fun _ => True) := by
  have hf0 : Fr W ((W.alloc (.cells #[.slice (some ⟨g, 0, none⟩) 1 1] 24)).alloc (.cells #[.int .i64 0, .int .i64 0, .slice none 0 0, .slice none 0 0, .slice none 0 0] 38)) (fun _ => True) := fr_allocX (fr_allocX (Fr.refl _ _))
  have hb : ((W.alloc (.cells #[.slice (some ⟨g, 0, none⟩) 1 1] 24)).alloc (.cells #[.int .i64 0, .int .i64 0, .slice none 0 0, .slice none 0 0, .slice none 0 0] 38)).heap[W.heap.size]? = some (.cells #[.slice (some ⟨g, 0, none⟩) 1 1] 24 (0, 0)) := old_at _ (new_at rfl _)
  have hr : ((W.alloc (.cells #[.slice (some ⟨g, 0, none⟩) 1 1] 24)).alloc (.cells #[.int .i64 0, .int .i64 0, .slice none 0 0, .slice none 0 0, .slice none 0 0] 38)).heap[W.heap.size + 1]? = some (.cells #[.int .i64 0, .int .i64 0, .slice none 0 0, .slice none 0 0, .slice none 0 0] 38 (0, 0)) := new_at (by simp) _
  go_enter Tryd.func12, Tryd.ntmps12
  go_upto_region 1 with fail
  generalize (W.alloc (.cells #[.slice (some ⟨g, 0, none⟩) 1 1] 24)).alloc (.cells #[.int .i64 0, .int .i64 0, .slice none 0 0, .slice none 0 0, .slice none 0 0] 38) = W0 at *
  have b0 := cell_of_row _ _ 0 _ _ _ hb
  have HG := Lib.hid (hf0.at hg trivial)
  have HF0 := Lib.hid hf0
  have HB := Lib.hid hb
  have HR := Lib.hid hr
  have HGLT := Lib.hid (blk_lt hg)
  have HC := Lib.hid (show ∀ W', Fr W0 W' (fun _ => True) → Calls Tryd.prog 15 #[.agg #[.slice (some ⟨g, 0, none⟩) 1 1]] W' (RanksP W' 1 (nsF [iNd])) from fun W' h => by
    have hg' := h.at HG.out trivial
    exact ranks_any W' [iNd] _ (i_nds (blk_lt hg') hg') (by simp) i_lens)
  have HB0 := Lib.hid b0
  clear hg hf0 hb hr
  go_cut [6] (fun p wx => MakerP W0 g p wx)
  case first =>
    go_region_law ((first
      | (go_simp
         refine (HC.out _ (by first | exact Fr.refl _ _ | exact fr_drewX (Fr.refl _ _))).mono ?_
         rintro e w1 ⟨rg, f, a, rfl, hrg, ha, has, hac, hlv, hf1⟩
         have b0' : w1.cell? ⟨W.heap.size, 0, none⟩ = some (.slice (some ⟨g, 0, none⟩) 1 1) := hf1.cell HB0.out trivial)
      | fail))
    all_goals
      go_wp2_with fail
      go_meet
      first
        | exact maker_at (Fr.refl _ _) ha hac hlv hf1
        | exact maker_at (fr_drewX (Fr.refl _ _)) ha hac hlv hf1
  case rest =>
    obtain ⟨q, rg, f, rfl, HQ, HM, HRC, HNV, HFX⟩ := hcut
    have b0 := cell_of_row _ _ 0 _ _ _ (HFX.out.at HB.out trivial)
    have m1 := cell_of_row _ _ 1 _ _ _ HM.out
    have c0 := HRC.out
    have hnb : (f == 9223372036854775807) = false := by rw [beq_eq_false_iff_ne]; exact HNV.out
    have hne : g ≠ q := by have h1 := HGLT.out; have h2 := HF0.out.size; have h3 := HQ.out; omega
    have hcall := value_int wc q g _ (HFX.out.at HG.out trivial) HM.out hne
    have HNE := Lib.hid hne
    clear hne
    go_wp2_with fail
    refine hcall.mono ?_
    rintro e w2 ⟨rfl, hf2⟩
    have HF2 := Lib.hid (show Fr W0 w2 (fun _ => True) from ⟨hf2.os.trans HFX.out.os, hf2.tape.trans HFX.out.tape, hf2.output.trans HFX.out.output, Nat.le_trans HFX.out.size hf2.size, fun b hb _ => (hf2.block b (Nat.lt_of_lt_of_le hb HFX.out.size) (by have := HQ.out; omega)).trans (HFX.out.block b hb trivial)⟩)
    clear hcall hf2 b0 m1 c0 hnb
    go_upto_region 5 with fail
    have hfo : Fr w2 (w2.alloc (.cells #[.int .i64 3, .int .i64 0, .slice none 0 0, .slice none 0 0, .slice none 0 0] 38)) (fun _ => True) := fr_allocX (Fr.refl _ _)
    have ho : (w2.alloc (.cells #[.int .i64 3, .int .i64 0, .slice none 0 0, .slice none 0 0, .slice none 0 0] 38)).heap[w2.heap.size]? = some (.cells #[.int .i64 3, .int .i64 0, .slice none 0 0, .slice none 0 0, .slice none 0 0] 38 (0, 0)) := new_at rfl _
    generalize w2.alloc (.cells #[.int .i64 3, .int .i64 0, .slice none 0 0, .slice none 0 0, .slice none 0 0] 38) = W3 at *
    have hf3 : Fr W0 W3 (fun _ => True) := HF2.out.trans hfo
    have b0 := cell_of_row _ _ 0 _ _ _ (hf3.at HB.out trivial)
    have o0 := cell_of_row _ _ 0 _ _ _ ho
    have o1 := cell_of_row _ _ 1 _ _ _ ho
    have o2 := cell_of_row _ _ 2 _ _ _ ho
    have o3 := cell_of_row _ _ 3 _ _ _ ho
    have o4 := cell_of_row _ _ 4 _ _ _ ho
    have hfit := fits_int W3 g (hf3.at HG.out trivial)
    have HO := Lib.hid ho
    have HF3 := Lib.hid hf3
    clear hfo ho hf3
    go_wp2_with fail
    refine hfit.mono ?_
    rintro e w4 ⟨rfl, hb4⟩
    have hf4 := below_fr0 hb4
    have h4 := hf4.at HO.out trivial
    have o0 := cell_of_row _ _ 0 _ _ _ h4
    have o1 := cell_of_row _ _ 1 _ _ _ h4
    have o2 := cell_of_row _ _ 2 _ _ _ h4
    have o3 := cell_of_row _ _ 3 _ _ _ h4
    have o4 := cell_of_row _ _ 4 _ _ _ h4
    have hr4 := (HF3.out.trans hf4).at HR.out trivial
    have r0 := cell_of_row _ _ 0 _ _ _ hr4
    have r1 := cell_of_row _ _ 1 _ _ _ hr4
    have r2 := cell_of_row _ _ 2 _ _ _ hr4
    have r3 := cell_of_row _ _ 3 _ _ _ hr4
    have r4 := cell_of_row _ _ 4 _ _ _ hr4
    obtain ⟨f0, f1, f2, f3, f4⟩ := frozen_5 hr4
    have HR4 := Lib.hid hr4
    have HF4 := Lib.hid ((HF0.out.trans HF3.out).trans hf4)
    clear hfit hb4 hf4 h4 hr4 b0
    go_wp2
    have h9 := set5H (.int .i64 3) (.int .i64 0) (.slice none 0 0) (.slice none 0 0) (.slice none 0 0) HR4.out
    have q0 := cell_of_row _ _ 0 _ _ _ h9
    have q1 := cell_of_row _ _ 1 _ _ _ h9
    have q2 := cell_of_row _ _ 2 _ _ _ h9
    have q3 := cell_of_row _ _ 3 _ _ _ h9
    have q4 := cell_of_row _ _ 4 _ _ _ h9
    refine bodyPost_ret (v := .tuple #[.agg #[.int .i64 3, .int .i64 0, .slice none 0 0, .slice none 0 0, .slice none 0 0], .bool true]) ?_ rfl ?_
    · rw [results_cell_tmp (fn := Tryd.f12) (p := 4) (u := 5) (ty := 38) rfl]
      simp [go_sem, q0, q1, q2, q3, q4]
    · exact ⟨rfl, ⟨HF4.out.os, HF4.out.tape, HF4.out.output, Nat.le_trans HF4.out.size (set5F w4 (W.heap.size + 1) _ _ _ _ _).size, fun b hb hk => ((set5F w4 (W.heap.size + 1) _ _ _ _ _).block b (Nat.lt_of_lt_of_le hb HF4.out.size) (by omega)).trans (HF4.out.block b hb hk)⟩⟩
set_option maxRecDepth 100000 in
set_option maxHeartbeats 4000000 in
theorem awake11 (W : World) : Calls Tryd.prog 5 #[] W fun e w' => e = .returned (.bool true) ∧ Fr W w' (fun _ => True) := by
  have hf0 : Fr W (W.alloc (.cells iA 30)) (fun _ => True) := fr_allocX (Fr.refl _ _)
  have hn : (W.alloc (.cells iA 30)).heap[W.heap.size]? = some (.cells iA 30 (0, 0)) := new_at rfl _
  have hcall := least_int (W.alloc (.cells iA 30)) W.heap.size hn
  have HF0 := Lib.hid hf0
  clear hf0 hn
  go_enter Tryd.func5, Tryd.ntmps5
  go_wp2_with fail
  refine hcall.mono ?_
  rintro e w1 ⟨rfl, hf1⟩
  have HF1 := Lib.hid (HF0.out.trans hf1)
  clear hcall hf1
  go_upto_region 2 with fail
  have hfo : Fr w1 (w1.alloc (.cells #[.int .i64 3, .int .i64 0, .slice none 0 0, .slice none 0 0, .slice none 0 0] 38)) (fun _ => True) := fr_allocX (Fr.refl _ _)
  have ho : (w1.alloc (.cells #[.int .i64 3, .int .i64 0, .slice none 0 0, .slice none 0 0, .slice none 0 0] 38)).heap[w1.heap.size]? = some (.cells #[.int .i64 3, .int .i64 0, .slice none 0 0, .slice none 0 0, .slice none 0 0] 38 (0, 0)) := new_at rfl _
  generalize w1.alloc (.cells #[.int .i64 3, .int .i64 0, .slice none 0 0, .slice none 0 0, .slice none 0 0] 38) = W3 at *
  have o0 := cell_of_row _ _ 0 _ _ _ ho
  have HF3 := Lib.hid (HF1.out.trans hfo)
  clear hfo ho
  go_wp2
  go_ret
  exact ⟨rfl, HF3.out⟩
end Go.Proofs.YtpajccehkcgoaaaDoor
