/-
  The walk of 'ResolvePromotes'.
-/
import Derived.Test.YtcmillbjpplfjaaGreatDoorRpx
import Derived.Deep.CutBlock
import Derived.Laws.BitsAllLaws
import Derived.Lib.ValidLaws
namespace Go.Proofs.YtcmillbjpplfjaaGreatDoor
open Go.RowKit Go.Shelf

/-- A leaf's cells, and its bytes. -/
def LeafAt (w : World) (b : Nat) (i : Int) (W : World) : Prop :=
  ∃ (vn : Int) (B : Option Addr) (nb cb : Nat) (ys : List Int), W.heap[b]? = some (.cells #[.int .i64 i, .int .i64 vn, .slice B nb cb, .slice none 0 0, .slice none 0 0] 26 (0, 0)) ∧ (Lit.int .i64 vn).wf = true ∧ leafB i vn ys = true ∧ (∀ x, x ∈ ys → 0 ≤ x ∧ x < 256) ∧ ys.length = nb ∧ nb ≤ 140737488355328 ∧ (nb ≤ cb ∧ cb ≤ maxLen) ∧
    (0 < nb → ∃ g off, B = some ⟨g, off, none⟩ ∧ g < W.heap.size ∧ ∀ j x, ys[j]? = some x → W.cell? ⟨g, off + j, none⟩ = some (.int .u8 x)) ∧ Below w.heap.size w W
theorem and1 (n : Int) : bits BinOp.and IntKind.i64 n 1 = 0 ∨ bits BinOp.and IntKind.i64 n 1 = 1 := by
  have e : bits BinOp.and IntKind.i64 n 1 = IntKind.i64.wrap ((BitVec.ofInt 64 n &&& BitVec.ofInt 64 1).toNat : Int) := rfl
  rw [e, BitVec.toNat_and, show (BitVec.ofInt 64 (1 : Int)).toNat = 1 from by decide, Nat.and_one_is_mod]
  rcases Nat.mod_two_eq_zero_or_one (BitVec.ofInt 64 n).toNat with h | h <;> rw [h]
  · left; decide
  · right; decide
theorem and127 {x : Int} (h : 0 ≤ x ∧ x < 256) : 0 ≤ bits BinOp.and IntKind.u8 x 127 ∧ bits BinOp.and IntKind.u8 x 127 < 128 := by
  have h1 := u8_and x 127 h.1 h.2 (by decide) (by decide)
  have e : (127 : Int).toNat = 127 := rfl
  rw [e] at h1
  have h2 : x.toNat &&& 127 ≤ 127 := Nat.and_le_right
  generalize x.toNat &&& 127 = m at *
  rw [h1]
  omega
theorem one_src8 (w : World) (x : Int) : 0 < 1 → ∃ b off, some (⟨w.heap.size, 0, none⟩ : Addr) = some ⟨b, off, none⟩ ∧ ∀ j u, [Value.int .u8 x][j]? = some u → (w.alloc (.cells #[.int .u8 x] 5)).cell? ⟨b, off + j, none⟩ = some u := fun _ =>
  ⟨w.heap.size, 0, rfl, fun j u hu => by
    match j, hu with
    | 0, hu => cases hu; exact cell_of_row _ _ 0 _ _ _ (new_at rfl _)⟩
theorem vb_asc : ∀ (l : List Int), (∀ x, x ∈ l → 0 ≤ x ∧ x < 128) → vbM l = true
  | [], _ => Lib.validD_nil
  | x :: r, h => by
    have hx := h x (by simp)
    have ih := vb_asc r (fun y hy => h y (by simp [hy]))
    unfold vbM at ih ⊢
    rw [List.map_cons, Lib.validD_cons _ _ (by simp; omega)]
    exact ih
theorem leafAt_num {w : World} {i vn : Int} (hn : (Lit.int .i64 vn).wf = true) (hf : leafB i vn [] = true) : LeafAt w w.heap.size i (w.alloc (.cells #[.int .i64 i, .int .i64 vn, .slice none 0 0, .slice none 0 0, .slice none 0 0] 26)) :=
  ⟨vn, none, 0, 0, [], new_at rfl _, hn, hf, by simp, rfl, by omega, by unfold maxLen; omega, fun h => absurd h (by omega), (Below.refl _ w).alloc (Nat.le_refl _) _⟩
theorem leafAt_row {w : World} {i : Int} {ys : List Int} {a : Array Value} {nb : Nat} (hl : ys.length = nb) (hb : nb ≤ 8) (hf : leafB i 0 ys = true) (hy : ∀ x, x ∈ ys → 0 ≤ x ∧ x < 256) (ha : a = (ys.map (Value.int .u8)).toArray) :
    LeafAt w w.heap.size i ((w.alloc (.cells #[.int .i64 i, .int .i64 0, .slice (some ⟨w.heap.size + 1, 0, none⟩) nb nb, .slice none 0 0, .slice none 0 0] 26)).alloc (.cells a 5)) :=
  ⟨0, _, nb, nb, ys, old_at _ (new_at rfl _), by decide, hf, hy, hl, by omega, ⟨Nat.le_refl _, by unfold maxLen; omega⟩, fun _ => ⟨w.heap.size + 1, 0, rfl, by simp, fun j x hx => by
    subst ha
    have h := new_at (W := w.alloc (.cells #[.int .i64 i, .int .i64 0, .slice (some ⟨w.heap.size + 1, 0, none⟩) nb nb, .slice none 0 0, .slice none 0 0] 26)) (n := w.heap.size + 1) (by simp) (.cells (ys.map (Value.int .u8)).toArray 5)
    rw [Nat.zero_add, cell_of_row _ _ j _ _ _ h, List.getElem?_toArray, List.getElem?_map, hx]; rfl⟩, ((Below.refl _ w).alloc (Nat.le_refl _) _).alloc (by simp) _⟩
theorem leaf_bytes {i : Int} {ys : List Int} (h : i = 5 ∧ ys.length = 4 ∨ i = 6 ∧ ys.length = 8 ∨ i = 7 ∨ i = 8 ∧ vbM ys = true) : leafB i 0 ys = true := by
  unfold leafB aloneV
  rcases h with ⟨rfl, h⟩ | ⟨rfl, h⟩ | rfl | ⟨rfl, h⟩ <;> simp [kNd, U.kd, U.num, U.b, U.l, U.ks, bareV, boundsV, kNum, kOct, kLst, kKey, *]
theorem leaf_nums {i n : Int} (h : i = 1 ∧ n = 0 ∨ i = 2 ∧ (n = 0 ∨ n = 1) ∨ i = 3 ∧ (-2147483648 ≤ n ∧ n ≤ 2147483647) ∨ i = 4) : leafB i n [] = true := by
  unfold leafB aloneV
  rcases h with ⟨rfl, h⟩ | ⟨rfl, h⟩ | ⟨rfl, h⟩ | rfl <;> simp [kNd, U.kd, U.num, U.b, U.l, U.ks, bareV, boundsV, kNum, kOct, kLst, kKey, *]
set_option maxRecDepth 100000 in
set_option maxHeartbeats 8000000 in
theorem promotes_walk (i0 k0 n0 : Int) (A : Option Addr) (nl cl : Nat) (xs : List Int) (w : World) (hn0 : (Lit.int .i64 n0).wf = true) (hx : ∀ x, x ∈ xs → 0 ≤ x ∧ x < 256) (hl : xs.length = nl) (h47 : nl ≤ 140737488351232) (hc : nl ≤ cl ∧ cl ≤ maxLen)
    (hB : 0 < nl → ∃ g off, A = some ⟨g, off, none⟩ ∧ g < w.heap.size ∧ ∀ j x, xs[j]? = some x → w.cell? ⟨g, off + j, none⟩ = some (.int .u8 x)) (hT : Lib.Utf8Tabs 0 1 w) :
    Calls Tryz.prog 8 #[.int .i64 i0, .int .i64 k0, .int .i64 n0, .slice A nl cl] w fun e w' => e = .returned (.bool true) ∧ Below w.heap.size w w' := by
  have HX := Lib.hid hx
  have HL := Lib.hid hl
  have H47 := Lib.hid h47
  have HC := Lib.hid hc
  have HB := Lib.hid hB
  have HT := Lib.hid hT
  have HN := Lib.hid hn0
  clear hx hl h47 hc hB hT hn0
  go_enter Tryz.func8, Tryz.ntmps8
  go_upto_region 1 with fail
  go_cut [0, 1] (fun s t wx => ∃ a b : Fin 8, s = .int .i64 (1 + (a.val : Int)) ∧ t = .int .i64 (1 + (b.val : Int)) ∧ wx = w)
  case first =>
    go_wp2
    go_meet
    obtain ⟨a, ha⟩ := mod8 i0
    obtain ⟨b, hb⟩ := mod8 k0
    exact ⟨a, b, by rw [ha], by rw [hb], rfl⟩
  case rest =>
    obtain ⟨a, b, rfl, rfl, hw⟩ := hcut
    have hw2 := hw.symm
    subst hw2
    have hiw := wf8 a
    have hkw := wf8 b
    have HPR := Lib.hid (prims a b)
    have hi8 : 1 + (a.val : Int) = 1 ∨ 1 + (a.val : Int) = 2 ∨ 1 + (a.val : Int) = 3 ∨ 1 + (a.val : Int) = 4 ∨ 1 + (a.val : Int) = 5 ∨ 1 + (a.val : Int) = 6 ∨ 1 + (a.val : Int) = 7 ∨ 1 + (a.val : Int) = 8 := by omega
    have hk8 : 1 + (b.val : Int) = 1 ∨ 1 + (b.val : Int) = 2 ∨ 1 + (b.val : Int) = 3 ∨ 1 + (b.val : Int) = 4 ∨ 1 + (b.val : Int) = 5 ∨ 1 + (b.val : Int) = 6 ∨ 1 + (b.val : Int) = 7 ∨ 1 + (b.val : Int) = 8 := by omega
    generalize 1 + (a.val : Int) = i at *
    generalize 1 + (b.val : Int) = k at *
    have HI8 := Lib.hid hi8
    have HK8 := Lib.hid hk8
    have HIW := Lib.hid hiw
    have HKW := Lib.hid hkw
    clear hi8 hk8 hiw hkw
    go_upto_region 3 with fail
    go_upto_block 0 with fail
    go_cut [10, 11] (fun _ _ wx => LeafAt w w.heap.size i wx)
    case first =>
      have hi8 := HI8.out
      clear HI8 HK8 HPR HIW HKW
      rcases hi8 with rfl | rfl | rfl | rfl | rfl | rfl | rfl | rfl
      · go_wp2
        go_meet
        exact leafAt_num (by decide) (leaf_nums (.inl ⟨rfl, rfl⟩))
      · go_wp2
        go_meet
        have h1 := and1 n0
        exact leafAt_num (by rcases h1 with h | h <;> rw [h] <;> decide) (leaf_nums (.inr (.inl ⟨rfl, h1⟩)))
      · go_wp2
        go_meet
        have h1 : -2147483648 ≤ wrap64 (wrap32 n0) ∧ wrap64 (wrap32 n0) ≤ 2147483647 := by unfold wrap64 wrap32; omega
        exact leafAt_num (wf_i64 (by omega) (by omega)) (leaf_nums (.inr (.inr (.inl ⟨rfl, h1⟩))))
      · go_wp2
        go_meet
        exact leafAt_num HN.out (leaf_nums (.inr (.inr (.inr rfl))))
      · go_wp2
        go_meet
        exact leafAt_row (ys := [1, 2, 3, n0 % 256]) rfl (by omega) (leaf_bytes (.inl ⟨rfl, rfl⟩)) (by simp; omega) rfl
      · go_wp2
        go_meet
        exact leafAt_row (ys := [1, 2, 3, n0 % 256, 5, 6, 7, 8]) rfl (by omega) (leaf_bytes (.inr (.inl ⟨rfl, rfl⟩))) (by simp; omega) rfl
      · go_wp2
        go_meet
        exact ⟨0, A, nl, cl, xs, new_at rfl _, by decide, leaf_bytes (.inr (.inr (.inl rfl))), HX.out, HL.out, by have := H47.out; omega, HC.out, fun h => by
          obtain ⟨g, off, e, hg, hc⟩ := HB.out h
          exact ⟨g, off, e, by simp; omega, fun j x hx => (fr_all w _).cell (hc j x hx) trivial⟩, (Below.refl _ w).alloc (Nat.le_refl _) _⟩
      · obtain ⟨i0', hi, hz0, hz1, hz2⟩ := info_parts info5
        have hv : (w.alloc (.cells #[.int .i64 8, .int .i64 0, .slice none 0 0, .slice none 0 0, .slice none 0 0] 26)).heap[w.heap.size]? = some (.cells #[.int .i64 8, .int .i64 0, .slice none 0 0, .slice none 0 0, .slice none 0 0] 26 (0, 0)) := new_at rfl _
        have hb0 : Below w.heap.size w (w.alloc (.cells #[.int .i64 8, .int .i64 0, .slice none 0 0, .slice none 0 0, .slice none 0 0] 26)) := (Below.refl _ w).alloc (Nat.le_refl _) _
        have hs0 : (w.alloc (.cells #[.int .i64 8, .int .i64 0, .slice none 0 0, .slice none 0 0, .slice none 0 0] 26)).heap.size = w.heap.size + 1 := by simp
        generalize (w.alloc (.cells #[.int .i64 8, .int .i64 0, .slice none 0 0, .slice none 0 0, .slice none 0 0] 26)) = W0 at *
        have HV := Lib.hid hv
        have HB0 := Lib.hid hb0
        have HS0 := Lib.hid hs0
        have hc63 : nl ≤ 9223372036854775807 := by have := H47.out; omega
        clear hv hb0 hs0
        go_wp2_with fail
        go_loopg [10, 11] nl (fun g t m wr => ∃ (q : Nat) (T : List Int), q + g = nl ∧ m = .int .i64 (q : Int) ∧ Hid (T.length = q ∧ ∀ x, x ∈ T → 0 ≤ x ∧ x < 128) ∧ wr.ownsRow W0.heap.size 5 1 t q (T.map (Value.int .u8)) ∧ Fr W0 wr (fun _ => True))
        case atStart => exact ⟨0, [], by omega, rfl, Lib.hid ⟨rfl, by simp⟩, World.ownsRow_nil _ _ _ _, Fr.refl _ _⟩
        case round =>
          obtain ⟨q, T, hg, rfl, HTT, hown, hfr⟩ := hrel
          have HG := Lib.hid hg
          have HO := Lib.hid hown
          have HF := Lib.hid hfr
          clear hg hfr
          by_cases hlt : q < nl
          · obtain ⟨x, hxq⟩ : ∃ x, xs[q]? = some x := ⟨_, List.getElem?_eq_getElem (by rw [HL.out]; exact hlt)⟩
            obtain ⟨g, off, rfl, _, hcc⟩ := HB.out (by omega)
            have hxc := HF.out.cell ((below_fr0 HB0.out).cell (hcc q x hxq) trivial) trivial
            have hx256 := HX.out x (List.mem_of_getElem? hxq)
            have HAN := Lib.hid (and127 hx256)
            clear hcc hxq hown
            go_wp2_with (at_builtin; refine wpList_append_src _ rfl _ _ _ rfl W0.heap.size 5 i0' (.int .u8 0) 1 Tryz.underlying22 hi hz0 hz1 hz2 rfl _ q (T.map (Value.int .u8)) rfl (HO.out.alloc _) (some ⟨wr.heap.size, 0, none⟩) 1 1 [.int .u8 (bits BinOp.and IntKind.u8 x 127)] rfl rfl (one_src8 wr _) (by simp [Value.oneCell']) (by unfold maxLen; omega) (by have := H47.out; omega) (by have := HF.out.size; simp; omega) ?_; intro v' w3 hown3 hg3 hv3)
            have hf3 : Fr W0 w3 (fun _ => True) := below_fr0 (((fr_below HF.out).alloc HF.out.size _).trans (gset_below hg3 (fun r e => own_below HO.out (Nat.le_refl _) r e) (by have := HF.out.size; simp; omega)))
            have HO3 := Lib.hid hown3
            have HF3 := Lib.hid hf3
            clear hown3 hg3 hv3 hf3
            go_wp2
            go_roundg (nl - (q + 1))
            case measure => have := HG.out; omega
            case rel =>
              refine ⟨q + 1, T ++ [bits BinOp.and IntKind.u8 x 127], by omega, by go_num, Lib.hid ⟨by rw [List.length_append, HTT.out.1]; rfl, fun y hy => ?_⟩, by have := HO3.out; rwa [List.map_append], HF3.out⟩
              rcases List.mem_append.1 hy with h | h
              · exact HTT.out.2 y h
              · rw [List.mem_singleton] at h; rw [h]; exact HAN.out
          · have hq : q = nl := by have := HG.out; omega
            have HQ := Lib.hid hq
            obtain ⟨At, ct, rfl, h1, h2, h3⟩ := own_open1 hown
            have hvr := HF.out.at HV.out trivial
            obtain ⟨_, _, f2, _⟩ := frozen_10 hvr
            have r2 := cell_of_row _ _ 2 _ _ _ hvr
            have HVR := Lib.hid hvr
            have H1 := Lib.hid h1
            have H2 := Lib.hid h2
            have H3 := Lib.hid h3
            clear hown hq hvr h1 h2 h3
            go_wp2
            go_meet
            have hq := HQ.out
            have hs1 := HF.out.size
            have hs0 := HS0.out
            refine ⟨0, At, q, ct, T, five_2 _ HVR.out, by decide, leaf_bytes (.inr (.inr (.inr ⟨rfl, vb_asc T HTT.out.2⟩))), fun y hy => by have := HTT.out.2 y hy; omega, HTT.out.1, by have := H47.out; omega, ⟨H1.out, H2.out⟩, fun h => ?_, ?_⟩
            · obtain ⟨g, e, hg, hc⟩ := H3.out h
              have hgl := cell_lt (hc 0 _ (by rw [List.getElem?_map, List.getElem?_eq_getElem (by rw [HTT.out.1]; exact h)]; rfl))
              exact ⟨g, 0, e, by simpa using hgl, fun j x hx => by rw [Nat.zero_add]; exact (set_fr wr w.heap.size 2 _).cell (hc j _ (by rw [List.getElem?_map, hx]; rfl)) (by omega)⟩
            · exact fr_below (fr_gen ((below_fr0 HB0.out).trans HF.out) (set_fr wr w.heap.size 2 _) (fun k hk _ => by omega))
    case rest =>
      obtain ⟨vn, B, nb, cb, ys, hv, hvn, hlf, hys, hyl, hy47, hcb, hyB, hbw⟩ := hcut
      have v0 := cell_of_row _ _ 0 _ _ _ hv
      have v1 := cell_of_row _ _ 1 _ _ _ hv
      have v2 := cell_of_row _ _ 2 _ _ _ hv
      have v3 := cell_of_row _ _ 3 _ _ _ hv
      have v4 := cell_of_row _ _ 4 _ _ _ hv
      have hF2 : ∀ o o', Fr wc ((wc.alloc o).alloc o') (fun _ => True) := fun o o' => (fr_all wc o).trans (fr_all _ o')
      have v0m := fun o o' => (hF2 o o').cell v0 trivial
      have v1m := fun o o' => (hF2 o o').cell v1 trivial
      have v2m := fun o o' => (hF2 o o').cell v2 trivial
      have v3m := fun o o' => (hF2 o o').cell v3 trivial
      have v4m := fun o o' => (hF2 o o').cell v4 trivial
      have hi8 := HI8.out
      have hk8 := HK8.out
      have hfW := hF2 (.cells (kA i) 50) (.cells (kA k) 50)
      have hcall := resolve_leaf i k vn ys (by omega) (by omega) HIW.out HKW.out hvn hys hlf ((wc.alloc (.cells (kA i) 50)).alloc (.cells (kA k) 50)) wc.heap.size (wc.heap.size + 1) (old_at _ (new_at rfl _)) (new_at (by simp) _) B nb cb hyl hy47 hcb
        (fun h => by obtain ⟨g, off, e, hg, hc⟩ := hyB h; exact ⟨g, off, e, Nat.lt_of_lt_of_le hg hfW.size, fun j x hx => hfW.cell (hc j x hx) trivial⟩)
        (fun _ => Utf8Tabs_below HT.out (hbw.trans ((fr_below hfW).mono hbw.size)))
      obtain ⟨Wb, hWb⟩ : ∃ b, wantB i k = b := ⟨_, rfl⟩
      rw [HPR.out, hWb] at hcall
      have HWB := Lib.hid hWb
      have HV := Lib.hid hv
      have HVN := Lib.hid hvn
      have HYS := Lib.hid hys
      have HYL := Lib.hid hyl
      have HY47 := Lib.hid hy47
      have HCB := Lib.hid hcb
      have HYB := Lib.hid hyB
      have HBW := Lib.hid hbw
      have HFW := Lib.hid hfW
      clear hv hvn hlf hys hyl hy47 hcb hyB hbw hfW hi8 hk8 hWb hF2 v0 v1 v2 v3 v4
      go_wp2_with fail
      refine hcall.mono ?_
      rintro e w5 ⟨hv5, hb5⟩
      clear hcall v0m v1m v2m v3m v4m
      have hf5 := HFW.out.trans (below_fr0 hb5)
      have hbw5 := HBW.out.trans ((fr_below hf5).mono HBW.out.size)
      have HF5 := Lib.hid hf5
      have HBW5 := Lib.hid hbw5
      clear hb5 hf5 hbw5
      rcases hv5 with ⟨hWb, B1, c1, A1, c1', rfl, o5, o9⟩ | ⟨hWb, rfl⟩
      · subst hWb
        go_upto_region 24 with fail
        have hfA := fr_all w5 (.cells #[.int .i64 k, .int .i64 vn, .slice B1 nb c1, .slice none 0 0, .slice A1 0 c1'] 26)
        have hx : (w5.alloc (.cells #[.int .i64 k, .int .i64 vn, .slice B1 nb c1, .slice none 0 0, .slice A1 0 c1'] 26)).heap[w5.heap.size]? = some (.cells #[.int .i64 k, .int .i64 vn, .slice B1 nb c1, .slice none 0 0, .slice A1 0 c1'] 26 (0, 0)) := new_at rfl _
        have q5 := ownsRow_fr o5 hfA (fun _ _ => trivial)
        have q9 := ownsRow_fr o9 hfA (fun _ _ => trivial)
        generalize (w5.alloc (.cells #[.int .i64 k, .int .i64 vn, .slice B1 nb c1, .slice none 0 0, .slice A1 0 c1'] 26)) = W6 at *
        have HFA := Lib.hid hfA
        have HXB := Lib.hid hx
        have Q5 := Lib.hid q5
        have Q9 := Lib.hid q9
        clear o5 o9 hfA hx q5 q9
        go_cut [0, 1, 27, 108] (fun s0 s1 _ s wx => s0 = .int .i64 i ∧ s1 = .int .i64 k ∧ s = .bool true ∧ wx = W6)
        case first =>
          go_wp2
          all_goals
            go_meet
            exact ⟨by simp [*], by simp [*], by first | (rw [← HWB.out]; done) | (rw [← HWB.out]; unfold wantB; first | (simp [*]; done) | (refine congrArg Value.bool ?_; rw [Bool.eq_iff_iff]; simp [*])), rfl⟩
        case rest =>
          obtain ⟨rfl, rfl, rfl, rfl⟩ := hcut
          have hv6 := (HF5.out.trans HFA.out).at HV.out trivial
          have v0 := cell_of_row _ _ 0 _ _ _ hv6
          have v1 := cell_of_row _ _ 1 _ _ _ hv6
          have v2 := cell_of_row _ _ 2 _ _ _ hv6
          have v3 := cell_of_row _ _ 3 _ _ _ hv6
          have v4 := cell_of_row _ _ 4 _ _ _ hv6
          clear hv6
          go_upto_region 26 with fail
          have hfB := fr_all wc (.cells #[.int .i64 i, .int .i64 vn, .slice B nb cb, .slice none 0 0, .slice none 0 0] 26)
          have h7 : (wc.alloc (.cells #[.int .i64 i, .int .i64 vn, .slice B nb cb, .slice none 0 0, .slice none 0 0] 26)).heap[wc.heap.size]? = some (.cells #[.int .i64 i, .int .i64 vn, .slice B nb cb, .slice none 0 0, .slice none 0 0] 26 (0, 0)) := new_at rfl _
          generalize (wc.alloc (.cells #[.int .i64 i, .int .i64 vn, .slice B nb cb, .slice none 0 0, .slice none 0 0] 26)) = W7 at *
          obtain ⟨f0, _⟩ := frozen_10 h7
          have g0 := cell_of_row _ _ 0 _ _ _ h7
          have h8 := heap_setCell_same W7 wc.heap.size 0 _ _ (.int .i64 k) h7
          have hfC := set_fr W7 wc.heap.size 0 (.int .i64 k)
          have HFB := Lib.hid hfB
          clear h7 v0 v1 v2 v3 v4 hfB
          go_upto_region 27 with fail
          generalize (W7.setCell ⟨wc.heap.size, 0, none⟩ (.int .i64 k)) = W8 at *
          have hk8 : W8.heap[wc.heap.size]? = some (.cells #[.int .i64 k, .int .i64 vn, .slice B nb cb, .slice none 0 0, .slice none 0 0] 26 (0, 0)) := by rw [h8]; rfl
          have hlt5 := blk_lt HXB.out
          have hF68 : Fr wc W8 (fun b => b < wc.heap.size) := (HFB.out.mono (fun _ _ _ => trivial)).trans (hfC.mono (fun b _ hb => by omega))
          have HF68 := Lib.hid hF68
          have HK8' := Lib.hid hk8
          clear h8 hfC f0 g0 hk8 hF68 hlt5
          go_wp2_with (go_at_call 13; refine (awake10 _).mono ?_; rintro e w9 ⟨rfl, hb9⟩; have x0 := cell_of_row _ _ 0 _ _ _ ((below_fr0 hb9).at (HF68.out.at HXB.out (blk_lt HXB.out)) trivial); have x1 := cell_of_row _ _ 1 _ _ _ ((below_fr0 hb9).at (HF68.out.at HXB.out (blk_lt HXB.out)) trivial); have x2 := cell_of_row _ _ 2 _ _ _ ((below_fr0 hb9).at (HF68.out.at HXB.out (blk_lt HXB.out)) trivial); have x3 := cell_of_row _ _ 3 _ _ _ ((below_fr0 hb9).at (HF68.out.at HXB.out (blk_lt HXB.out)) trivial); have x4 := cell_of_row _ _ 4 _ _ _ ((below_fr0 hb9).at (HF68.out.at HXB.out (blk_lt HXB.out)) trivial); have y0 := cell_of_row _ _ 0 _ _ _ ((below_fr0 hb9).at HK8'.out trivial); have y1 := cell_of_row _ _ 1 _ _ _ ((below_fr0 hb9).at HK8'.out trivial); have y2 := cell_of_row _ _ 2 _ _ _ ((below_fr0 hb9).at HK8'.out trivial); have y3 := cell_of_row _ _ 3 _ _ _ ((below_fr0 hb9).at HK8'.out trivial); have y4 := cell_of_row _ _ 4 _ _ _ ((below_fr0 hb9).at HK8'.out trivial); have HB9 := Lib.hid hb9; clear hb9)
          have q5' := ownsRow_fr (ownsRow_fr Q5.out HF68.out (fun g e => (Q5.out.lt g e).2)) (below_fr0 HB9.out) (fun _ _ => trivial)
          have q9' := ownsRow_fr (ownsRow_fr Q9.out HF68.out (fun g e => (Q9.out.lt g e).2)) (below_fr0 HB9.out) (fun _ _ => trivial)
          obtain ⟨Ax, cx, ex, hx1, hx2, hx3⟩ := own_open1 q5'
          obtain ⟨Ay, cy, ey, hy1, hy2, hy3⟩ := own_open1 q9'
          cases ex
          cases ey
          have hs5 := HF5.out.size
          have hsA := HFA.out.size
          have hu1 : UIn w9 (fun _ => True) (.mk k vn ys [] []) (.int .i64 k) (.int .i64 vn) (.slice B1 nb c1) (.slice none 0 0) (.slice A1 0 c1') := uin_leafB HKW.out HVN.out HYS.out HYL.out ⟨hx1, hx2⟩ (fun h => by
            obtain ⟨g, e, _, hc⟩ := hx3 h
            exact ⟨g, 0, e, trivial, fun j x hx => by rw [Nat.zero_add]; exact hc j _ (by rw [List.getElem?_map, hx]; rfl)⟩) none A1 0 c1' (by unfold maxLen; omega) hy2
          have hu2 : UIn w9 (fun _ => True) (.mk k vn ys [] []) (.int .i64 k) (.int .i64 vn) (.slice B nb cb) (.slice none 0 0) (.slice none 0 0) := uin_leafB HKW.out HVN.out HYS.out HYL.out HCB.out (fun h => by
            obtain ⟨g, off, e, hg, hc⟩ := HYB.out h
            exact ⟨g, off, e, trivial, fun j x hx => (below_fr0 HB9.out).cell (HF68.out.cell (HFA.out.cell (HF5.out.cell (hc j x hx) trivial) trivial) (by omega)) trivial⟩) none none 0 0 (by unfold maxLen; omega) (by unfold maxLen; omega)
          have hsame := usame_step k vn ys [] [] (by simp) (by simp) (by simp) w9 _ _ _ _ _ _ _ _ _ _ _ _ hu1 hu2
          refine hsame.mono ?_
          rintro e w10 ⟨rfl, hb10⟩
          have hF : Fr w w10 (fun _ => True) := ((fr_gen ((below_fr0 HBW5.out).trans HFA.out) HF68.out (fun q hq _ => by have := HBW5.out.size; omega)).trans (below_fr0 HB9.out)).trans (below_fr0 hb10)
          have HFF := Lib.hid (fr_below hF)
          clear hsame hu1 hu2 hF hb10 q5' q9' hx1 hx2 hx3 hy1 hy2 hy3 x0 x1 x2 x3 x4 y0 y1 y2 y3 y4
          go_wp2
          go_ret
          exact ⟨rfl, HFF.out⟩
      · subst hWb
        go_upto_region 24 with fail
        have hfA := fr_all w5 (.cells #[.int .i64 0, .int .i64 0, .slice none 0 0, .slice none 0 0, .slice none 0 0] 26)
        have hx : (w5.alloc (.cells #[.int .i64 0, .int .i64 0, .slice none 0 0, .slice none 0 0, .slice none 0 0] 26)).heap[w5.heap.size]? = some (.cells #[.int .i64 0, .int .i64 0, .slice none 0 0, .slice none 0 0, .slice none 0 0] 26 (0, 0)) := new_at rfl _
        generalize (w5.alloc (.cells #[.int .i64 0, .int .i64 0, .slice none 0 0, .slice none 0 0, .slice none 0 0] 26)) = W6 at *
        have HFA := Lib.hid hfA
        have HXB := Lib.hid hx
        clear hfA hx
        go_cut [0, 1, 27, 108] (fun s0 s1 _ s wx => s0 = .int .i64 i ∧ s1 = .int .i64 k ∧ s = .bool false ∧ wx = W6)
        case first =>
          go_wp2
          all_goals
            go_meet
            exact ⟨by simp [*], by simp [*], by first | (rw [← HWB.out]; done) | (rw [← HWB.out]; unfold wantB; first | (simp [*]; done) | (refine congrArg Value.bool ?_; rw [Bool.eq_iff_iff]; simp [*])), rfl⟩
        case rest =>
          obtain ⟨rfl, rfl, rfl, rfl⟩ := hcut
          go_upto_region 28 with fail
          go_wp2_with (go_at_call 13; refine (awake10 _).mono ?_; rintro e w9 ⟨rfl, hb9⟩; have x0 := cell_of_row _ _ 0 _ _ _ ((below_fr0 hb9).at HXB.out trivial); have x1 := cell_of_row _ _ 1 _ _ _ ((below_fr0 hb9).at HXB.out trivial); have x2 := cell_of_row _ _ 2 _ _ _ ((below_fr0 hb9).at HXB.out trivial); have x3 := cell_of_row _ _ 3 _ _ _ ((below_fr0 hb9).at HXB.out trivial); have x4 := cell_of_row _ _ 4 _ _ _ ((below_fr0 hb9).at HXB.out trivial); have HB9 := Lib.hid hb9; clear hb9)
          have hu : ∀ W : World, UIn W (fun _ => True) (.mk 0 0 [] [] []) (.int .i64 0) (.int .i64 0) (.slice none 0 0) (.slice none 0 0) (.slice none 0 0) := fun W => uin_leafB (nb := 0) (cb := 0) (by decide) (by decide) (by simp) rfl ⟨Nat.le_refl _, by unfold maxLen; omega⟩ (fun h => absurd h (by omega)) none none 0 0 (by unfold maxLen; omega) (by unfold maxLen; omega)
          have hsame := usame_step 0 0 [] [] [] (by simp) (by simp) (by simp) w9 _ _ _ _ _ _ _ _ _ _ _ _ (hu w9) (hu w9)
          refine hsame.mono ?_
          rintro e w10 ⟨rfl, hb10⟩
          have HFF := Lib.hid (fr_below ((((below_fr0 HBW5.out).trans HFA.out).trans (below_fr0 HB9.out)).trans (below_fr0 hb10)))
          clear hsame hu hb10 x0 x1 x2 x3 x4
          go_wp2
          go_ret
          exact ⟨rfl, HFF.out⟩
end Go.Proofs.YtcmillbjpplfjaaGreatDoor
