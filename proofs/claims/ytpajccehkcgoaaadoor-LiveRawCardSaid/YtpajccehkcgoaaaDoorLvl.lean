/-
  'live.Nodes', and the reference's.
-/
import Derived.Test.YtpajccehkcgoaaaDoorLqn
import Derived.Test.YtpajccehkcgoaaaDoorLvb
namespace Go.Proofs.YtpajccehkcgoaaaDoor
open Go.RowKit Go.Shelf Lv

theorem infoBool : (Tryd.prog.info? 4).map (fun i => (i.zero, i.size, i.bytes)) = some (some (.bool false), 1, 1) := by kernel_rfl
theorem bool_row {w : World} {base n : Nat} {L : List Bool} {v : Value} (h : w.ownsRow base 4 1 v n (L.map Value.bool)) (hn : L.length = n) : BoolsAt w (fun _ => True) L v := by
  subst hn
  obtain ⟨A, cap, rfl, h1, h2, h3⟩ := own_open h (by omega)
  exact ⟨A, cap, rfl, h1, h2, fun h0 => by
    obtain ⟨g, rfl, _, hc⟩ := h3 h0
    exact ⟨g, 0, rfl, trivial, fun i x hx => by rw [Nat.zero_add]; exact hc i _ (by rw [List.getElem?_map, hx]; rfl)⟩⟩
/-- Bools of the first n. -/
abbrev rgB (n : Nat) (f : Nat → Bool) : List Bool := (List.range n).map f
theorem rgB_len (n : Nat) (l : Nat → Bool) : (rgB n l).length = n := by simp
theorem rgB_at (n : Nat) (l : Nat → Bool) (i : Nat) (hi : i < n) : (rgB n l)[i]? = some (l i) := by simp [rgB, hi]
theorem rgB_next (k : Nat) (l : Nat → Bool) : rgB (k + 1) l = rgB k l ++ [l k] := by simp [rgB, List.range_succ]
/-- What both answer. -/
def NodesP (W : World) (n : Nat) (f : Nat → Bool) : Ending → World → Prop := fun e w' => ∃ v, e = .returned v ∧ BoolsAt w' (fun _ => True) (rgB n f) v ∧ Fr W w' (fun _ => True)
set_option maxRecDepth 100000 in
set_option maxHeartbeats 4000000 in
theorem livenodes_any (W : World) (ns : List Nd) (nsv : Value) (hns : NdsAt W (fun b => b < W.heap.size) ns nsv) (hn : ns.length ≤ 40) (hlens : ∀ i, (nsF ns i).br.length ≤ 20 ∧ (nsF ns i).ft.length ≤ 20) :
    Calls Tryd.prog 7 #[.agg #[nsv]] W fun e w' => ∃ f : Nat → Bool, (∀ i, i < ns.length → (f i = true ↔ Live ns.length (nsF ns) i)) ∧ NodesP W ns.length f e w' := by
  obtain ⟨A, cap, cc, rfl, hc1, hc2, hc3, hc4⟩ := id hns
  unfold maxLen at hc2
  have hmk := run_make_row' (P := Tryd.prog) 32 4 (.bool false) 1 Tryd.underlying32 infoBool rfl .i64 .i64 ns.length (by omega) (by omega)
  have hf0 : Fr W ((W.alloc (.cells #[.slice A ns.length cap] 24)).alloc (.cells (madeCells #[.bool false] ns.length) 4)) (fun _ => True) := fr_allocX (fr_allocX (Fr.refl _ _))
  have hb : ((W.alloc (.cells #[.slice A ns.length cap] 24)).alloc (.cells (madeCells #[.bool false] ns.length) 4)).heap[W.heap.size]? = some (.cells #[.slice A ns.length cap] 24 (0, 0)) := old_at _ (new_at rfl _)
  have hr : ((W.alloc (.cells #[.slice A ns.length cap] 24)).alloc (.cells (madeCells #[.bool false] ns.length) 4)).heap[W.heap.size + 1]? = some (.cells (madeCells #[.bool false] ns.length) 4 (0, 0)) := new_at (by simp) _
  have hcall := ranks_any ((W.alloc (.cells #[.slice A ns.length cap] 24)).alloc (.cells (madeCells #[.bool false] ns.length) 4)) ns (.slice A ns.length cap) (nds_monoL (nds_fr hf0 (fun _ _ => trivial) hns) (fun b hb => Nat.lt_of_lt_of_le hb hf0.size)) hn hlens
  obtain ⟨hm1, hm2⟩ := made_at (.bool false) ns.length
  generalize ns.length = n at *
  go_enter Tryd.func7, Tryd.ntmps7
  go_upto_region 2 with fail
  generalize (W.alloc (.cells #[.slice A n cap] 24)).alloc (.cells (madeCells #[.bool false] n) 4) = W0 at *
  have b0 := cell_of_row _ _ 0 _ _ _ hb
  have HF0 := Lib.hid hf0
  have HR := Lib.hid hr
  have HM2 := Lib.hid hm2
  clear hns hc3 hc4 hf0 hb hr hm2
  go_wp2_with fail
  refine hcall.mono ?_
  rintro e w1 ⟨rg, f, a, rfl, hrg, ha, has, hac, hlv, hf1⟩
  have HRG := Lib.hid ha
  have HAC := Lib.hid hac
  have HLV := Lib.hid hlv
  have HF1 := Lib.hid hf1
  have HO1 := Lib.hid (hf1.at HR.out trivial)
  have HNE := Lib.hid (show rg ≠ W.heap.size + 1 from fun e => by have := blk_lt HR.out; omega)
  clear hcall ha hac hlv hf1
  go_wp2
  go_loopg [13] n (fun gh c wr => ∃ k : Nat, k + gh = n ∧ c = .int .i64 (k : Int) ∧ Hid (∃ b : Array Value, wr.heap[W.heap.size + 1]? = some (.cells b 4 (0, 0)) ∧ b.size = n ∧ (∀ i, i < k → b[i]? = some (.bool (decide (f i ≠ Lv.nv)))) ∧ ∀ i, i < n → ∃ x, b[i]? = some (.bool x)) ∧ Hid (wr.heap[rg]? = some (.cells a 3 (0, 0))) ∧ Hid (Fr W wr (fun _ => True)))
  case atStart => exact ⟨0, by omega, rfl, Lib.hid ⟨_, HO1.out, hm1, fun i h => by omega, fun i hi => ⟨false, HM2.out i hi⟩⟩, HRG, Lib.hid (HF0.out.trans HF1.out)⟩
  case round =>
    obtain ⟨k, hg, rfl, HBB, HA, HF⟩ := hrel
    have HG := Lib.hid hg
    clear hg
    by_cases hlt : k < n
    · obtain ⟨b, hb1, hb2, hb3, hb4⟩ := HBB.out
      obtain ⟨x, hx⟩ := hb4 k hlt
      have r0 : wr.cell? ⟨rg, k, none⟩ = some (.int .i64 (f k)) := by rw [cell_of_row _ _ _ _ _ _ HA.out]; exact HAC.out k hlt
      have o0 : wr.cell? ⟨W.heap.size + 1, k, none⟩ = some (.bool x) := by rw [cell_of_row _ _ _ _ _ _ hb1]; exact hx
      have f0 := frozen_of_row _ _ k _ _ hb1
      have HX : ∀ v : Bool, v = decide (f k ≠ Lv.nv) → Hid (∃ b : Array Value, (wr.setCell ⟨W.heap.size + 1, k, none⟩ (.bool v)).heap[W.heap.size + 1]? = some (.cells b 4 (0, 0)) ∧ b.size = n ∧ (∀ i, i < k + 1 → b[i]? = some (.bool (decide (f i ≠ Lv.nv)))) ∧ ∀ i, i < n → ∃ x, b[i]? = some (.bool x)) := fun v hv => Lib.hid ⟨b.setIfInBounds k (.bool v), heap_setCell_same _ _ _ _ _ _ hb1, by rw [Array.size_setIfInBounds]; exact hb2, fun i hi => by
          by_cases e : i = k
          · subst e
            rw [Array.getElem?_setIfInBounds_self_of_lt (by omega), hv]
          · rw [Array.getElem?_setIfInBounds_ne (fun h => e h.symm)]
            exact hb3 i (by omega), fun i hi => by
          by_cases e : i = k
          · subst e
            exact ⟨v, by rw [Array.getElem?_setIfInBounds_self_of_lt (by omega)]⟩
          · rw [Array.getElem?_setIfInBounds_ne (fun h => e h.symm)]
            exact hb4 i hi⟩
      have HXX := Lib.hid HX
      have HA2 := fun v : Value => Lib.hid ((set_frL wr (W.heap.size + 1) k v).at HA.out HNE.out)
      have HF2 := fun v : Value => Lib.hid (show Fr W (wr.setCell ⟨W.heap.size + 1, k, none⟩ v) (fun _ => True) from ⟨HF.out.os, HF.out.tape, HF.out.output, Nat.le_trans HF.out.size (set_frL wr _ k v).size, fun b hb _ => ((set_frL wr _ k v).block b (Nat.lt_of_lt_of_le hb HF.out.size) (by omega)).trans (HF.out.block b hb trivial)⟩)
      obtain ⟨y, hy⟩ : ∃ y, f k = y := ⟨_, rfl⟩
      rw [hy] at r0
      have HY := Lib.hid hy
      have HA3 := Lib.hid HA2
      have HF3 := Lib.hid HF2
      clear hb1 hb2 hb3 hb4 hx HX HA2 HF2 hy
      by_cases hnv : y = 9223372036854775807
      · subst hnv
        go_wp2
        go_roundg (n - (k + 1))
        case measure => have := HG.out; omega
        case rel => exact ⟨k + 1, by omega, by go_num, HXX.out _ (by rw [HY.out]; rfl), HA3.out _, HF3.out _⟩
      · have hnb : (y != 9223372036854775807) = true := by rw [bne_iff_ne]; exact hnv
        have HNV := Lib.hid hnv
        clear hnv
        go_wp2
        go_roundg (n - (k + 1))
        case measure => have := HG.out; omega
        case rel => exact ⟨k + 1, by omega, by go_num, HXX.out _ (by rw [HY.out]; symm; rw [decide_eq_true_eq]; exact HNV.out), HA3.out _, HF3.out _⟩
    · have hk : n = k := by have := HG.out; omega
      have HK := Lib.hid hk
      clear hk
      go_wp2
      go_ret
      refine ⟨fun i => decide (f i ≠ Lv.nv), fun i hi => by rw [decide_eq_true_eq]; exact HLV.out i hi, .slice (some ⟨W.heap.size + 1, 0, none⟩) n n, rfl, ?_, HF.out⟩
      obtain ⟨b, hb1, hb2, hb3, hb4⟩ := HBB.out
      refine ⟨some ⟨W.heap.size + 1, 0, none⟩, n, by rw [rgB_len], by rw [rgB_len]; exact Nat.le_refl _, by unfold maxLen; omega, fun h0 => ⟨W.heap.size + 1, 0, rfl, trivial, fun i x hx => ?_⟩⟩
      have hi : i < n := by have := (List.getElem?_eq_some_iff.1 hx).1; rwa [rgB_len] at this
      rw [rgB_at _ _ _ hi] at hx
      cases hx
      rw [Nat.zero_add, cell_of_row _ _ _ _ _ _ hb1]
      exact hb3 i (by have := HK.out; omega)
set_option maxRecDepth 100000 in
set_option maxHeartbeats 4000000 in
theorem refnodes_any (W : World) (ns : List Nd) (nsv : Value) (hns : NdsAt W (fun b => b < W.heap.size) ns nsv) (hn : ns.length ≤ 40) (hlens : ∀ d, d ∈ ns → d.br.length ≤ 20 ∧ d.fs.length ≤ 20) :
    Calls Tryd.prog 8 #[.agg #[nsv]] W (NodesP W ns.length (fun i => decide (0 ≤ refM ns.length (nsF ns) (ns.length + 1) i))) := by
  obtain ⟨A, cap, cc, rfl, hc1, hc2, hc3, hc4⟩ := id hns
  obtain ⟨i4, hi4, hz4, hs4, hb4⟩ := info_parts infoBool
  have hf0 : Fr W (W.alloc (.cells #[.slice A ns.length cap] 24)) (fun _ => True) := fr_allocX (Fr.refl _ _)
  have hb : (W.alloc (.cells #[.slice A ns.length cap] 24)).heap[W.heap.size]? = some (.cells #[.slice A ns.length cap] 24 (0, 0)) := new_at rfl _
  have hcall := refranks_any (W.alloc (.cells #[.slice A ns.length cap] 24)) ns (.slice A ns.length cap) (nds_monoL (nds_fr hf0 (fun _ _ => trivial) hns) (fun b hb => Nat.lt_of_lt_of_le hb hf0.size)) hn hlens
  obtain ⟨F, hF⟩ : ∃ F, refM ns.length (nsF ns) (ns.length + 1) = F := ⟨_, rfl⟩
  rw [hF] at hcall ⊢
  generalize ns.length = n at *
  clear hns hc1 hc2 hc3 hc4 hF
  go_enter Tryd.func8, Tryd.ntmps8
  go_upto_region 1 with fail
  generalize W.alloc (.cells #[.slice A n cap] 24) = W0 at *
  have b0 := cell_of_row _ _ 0 _ _ _ hb
  have HF0 := Lib.hid hf0
  clear hf0 hb
  go_wp2_with fail
  refine hcall.mono ?_
  rintro e w1 ⟨v, rfl, hown, hf1⟩
  obtain ⟨Al, capl, rfl, hl1, hl2, hl3⟩ := own_open hown (by omega)
  unfold maxLen at hl2
  have HL3 := Lib.hid hl3
  have HF1 := Lib.hid (HF0.out.trans hf1)
  clear hcall hown hl3 hf1
  go_wp2
  go_loopg [4, 5] n (fun gh ov c wr => ∃ k : Nat, k + gh = n ∧ c = .int .i64 (k : Int) ∧ Hid (wr.ownsRow w1.heap.size 4 1 ov k ((rgB k fun i => decide (0 ≤ F i)).map Value.bool)) ∧ Fr w1 wr (fun _ => True))
  case atStart => exact ⟨0, by omega, rfl, Lib.hid (World.ownsRow_nil _ _ _ _), Fr.refl _ _⟩
  case round =>
    obtain ⟨k, hg, rfl, HO, hfr⟩ := hrel
    have HG := Lib.hid hg
    have HF := Lib.hid hfr
    clear hg hfr
    by_cases hlt : k < n
    · obtain ⟨g, rfl, _, hc⟩ := HL3.out (by omega)
      have y0 := HF.out.cell (hc k (.int .i64 (F k)) (by rw [List.getElem?_map, rgL_at _ _ _ hlt]; rfl)) trivial
      obtain ⟨y, hy⟩ : ∃ y, F k = y := ⟨_, rfl⟩
      rw [hy] at y0
      have HY := Lib.hid hy
      clear hy hc
      by_cases hy0 : 0 ≤ y
      · go_wp2_with (at_builtin; refine wpList_append_own_at _ rfl _ _ 32 rfl w1.heap.size 4 i4 _ 1 1 Tryd.underlying32 hi4 hz4 hs4 hb4 rfl (by decide) u4 k _ rfl (HO.out.alloc _) ⟨wr.heap.size, 0, none⟩ 1 1 [.bool true] rfl rfl (cell_one_new _ _ _) (by simp [Value.oneCell']) (by unfold maxLen; omega) (by omega) (by have := HF.out.size; simp; omega) ?_; intro v' w5 hown5 hg5 _ hv5)
        have hf5 : Fr w1 w5 (fun _ => True) := row_frB5 (HO.out.alloc _) (fr_allocX HF.out) hg5
        have HO5 := Lib.hid hown5
        have HF5 := Lib.hid hf5
        clear hown5 hg5 hv5 hf5
        go_wp2
        go_roundg (n - (k + 1))
        case measure => have := HG.out; omega
        case rel => exact ⟨k + 1, by omega, by go_num, Lib.hid (by have := HO5.out; rw [rgB_next, List.map_append, HY.out, decide_eq_true hy0]; exact this), HF5.out⟩
      · go_wp2_with (at_builtin; refine wpList_append_own_at _ rfl _ _ 32 rfl w1.heap.size 4 i4 _ 1 1 Tryd.underlying32 hi4 hz4 hs4 hb4 rfl (by decide) u4 k _ rfl (HO.out.alloc _) ⟨wr.heap.size, 0, none⟩ 1 1 [.bool false] rfl rfl (cell_one_new _ _ _) (by simp [Value.oneCell']) (by unfold maxLen; omega) (by omega) (by have := HF.out.size; simp; omega) ?_; intro v' w5 hown5 hg5 _ hv5)
        have hf5 : Fr w1 w5 (fun _ => True) := row_frB5 (HO.out.alloc _) (fr_allocX HF.out) hg5
        have HO5 := Lib.hid hown5
        have HF5 := Lib.hid hf5
        clear hown5 hg5 hv5 hf5
        go_wp2
        go_roundg (n - (k + 1))
        case measure => have := HG.out; omega
        case rel => exact ⟨k + 1, by omega, by go_num, Lib.hid (by have := HO5.out; rw [rgB_next, List.map_append, HY.out, decide_eq_false (by omega)]; exact this), HF5.out⟩
    · have hk : n = k := by have := HG.out; omega
      subst hk
      go_wp2
      go_ret
      exact ⟨_, rfl, bool_row HO.out (rgB_len _ _), HF1.out.trans HF.out⟩
end Go.Proofs.YtpajccehkcgoaaaDoor
