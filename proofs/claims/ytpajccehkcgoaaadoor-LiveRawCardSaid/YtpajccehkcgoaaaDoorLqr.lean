/-
  The reference's 'rank' of a node.
-/
import Derived.Test.YtpajccehkcgoaaaDoorLvq
namespace Go.Proofs.YtpajccehkcgoaaaDoor
open Go.RowKit Go.Shelf Lv

theorem rec_at {n : Nat} {l : Nat → Int} {a : Int} {ys : List Int} {t : Int} : recM n l (a :: ys) t = if ofM n l a < 0 then -1 else recM n l ys (max t (ofM n l a)) := rfl
theorem best_at {n : Nat} {l : Nat → Int} {a : Int} {ys : List Int} {b : Int} : bestM n l (a :: ys) b = bestM n l ys (if 0 ≤ ofM n l a ∧ (b < 0 ∨ ofM n l a < b) then ofM n l a else b) := rfl
set_option maxRecDepth 100000 in
set_option maxHeartbeats 4000000 in
theorem rank_any (n : Nat) (l : Nat → Int) (v : Value) (W : World) (ok ok' : Nat → Prop) (h : IntsAt W ok (rgL n l) v) (hn : n ≤ 100000) (nd : Nd) (c : Nat → Value) (hN : NdIn W ok' nd c) (hlo : ∀ i, -1 ≤ l i) (hhi : ∀ i, l i ≤ 1000) (hfl : nd.fs.length ≤ 20) (hbl : nd.br.length ≤ 20) :
    Calls Tryd.prog 29 #[ndv c, v] W fun e w' => e = .returned (.int .i64 (rankM n (toN nd) l)) ∧ Fr W w' (fun _ => True) := by
  have hf0 : Fr W (W.alloc (.cells #[c 0, c 1, c 2, c 3, c 4, c 5, c 6, c 7, c 8, c 9] 30)) (fun _ => True) := fr_allocX (Fr.refl _ _)
  have hb : (W.alloc (.cells #[c 0, c 1, c 2, c 3, c 4, c 5, c 6, c 7, c 8, c 9] 30)).heap[W.heap.size]? = some (.cells #[c 0, c 1, c 2, c 3, c 4, c 5, c 6, c 7, c 8, c 9] 30 (0, 0)) := new_at rfl _
  obtain ⟨Afs, cfs, ccf, hfe, hf1, hf2, hf3, hf4⟩ := hN.fs
  obtain ⟨Abr, cbr, hbe, hb1, hb2, hb3, hb4⟩ := hN.br
  unfold maxLen at hf2 hb2
  obtain ⟨kd, hkd⟩ : ∃ kd, nd.kind = kd := ⟨_, rfl⟩
  have hk := hN.kind
  rw [hkd] at hk
  rw [hk, hfe, hbe] at hb hf0
  rw [ndv, hk, hfe, hbe]
  have HK := Lib.hid (show (toN nd).k = kd ∧ (toN nd).ft = nd.fs.map (·.ty) ∧ (toN nd).br = nd.br from ⟨hkd, rfl, rfl⟩)
  have HOF := Lib.hid (show ∀ W' a, Fr W W' (fun _ => True) → Calls Tryd.prog 53 #[v, .int .i64 a] W' fun e w' => e = .returned (.int .i64 (ofM n l a)) ∧ w' = W' from fun W' a hf => of_any n l v W' ok (h.fr (ok' := fun _ => True) hf (fun _ _ => trivial)) hn a)
  have HF3 := Lib.hid hf3
  have HF4 := Lib.hid hf4
  have HB4 := Lib.hid hb4
  obtain ⟨Av, capv, hve, _⟩ := h
  rw [rgL_len] at hve
  subst hve
  have HBD := Lib.hid (show ∀ a, -1 ≤ ofM n l a ∧ ofM n l a ≤ 1000 from fun a => ⟨of_ge hlo a, of_le hhi (by omega) a⟩)
  clear hN hk hkd hfe hbe hf3 hf4 hb3 hb4 hlo hhi
  go_enter Tryd.func29, Tryd.ntmps29
  go_upto_region 1 with fail
  generalize W.alloc (.cells #[.int .i64 kd, c 1, c 2, .slice Afs nd.fs.length cfs, c 4, c 5, c 6, c 7, .slice Abr nd.br.length cbr, c 9] 30) = W0 at *
  have e0 := cell_of_row _ _ 0 _ _ _ hb
  have e3 := cell_of_row _ _ 3 _ _ _ hb
  have e8 := cell_of_row _ _ 8 _ _ _ hb
  have HF0 := Lib.hid hf0
  clear hb hf0
  by_cases h9 : kd = 9
  · subst h9
    have HM : Hid (rankM n (toN nd) l = recM n l (nd.fs.map (·.ty)) 0) := Lib.hid (by unfold rankM; rw [if_pos HK.out.1, HK.out.2.1])
    clear e8
    go_wp2
    go_loopg [5, 6] nd.fs.length (fun gh t c wr => ∃ (k : Nat) (x : Int), k + gh = nd.fs.length ∧ c = .int .i64 (k : Int) ∧ t = .int .i64 x ∧ 0 ≤ x ∧ x ≤ 1000 ∧ Hid (recM n l (nd.fs.map (·.ty)) 0 = recM n l ((nd.fs.map (·.ty)).drop k) x) ∧ W0 = wr)
    case atStart => exact ⟨0, 0, by omega, rfl, rfl, by omega, by omega, Lib.hid rfl, rfl⟩
    case round =>
      obtain ⟨k, x, hg, rfl, rfl, hx0, hx1, HQ, rfl⟩ := hrel
      have HG := Lib.hid hg
      clear hg
      by_cases hlt : k < nd.fs.length
      · obtain ⟨f, hfk⟩ : ∃ f, nd.fs[k]? = some f := ⟨_, List.getElem?_eq_getElem hlt⟩
        obtain ⟨gb, ofb, rfl, _, hcb⟩ := HF3.out (by omega)
        have y2 := HF0.out.cell (hcb k 2 hlt (by omega)) trivial
        rw [show ofb + (5 * k + 2) = ofb + k * 5 + 2 by omega, (HF4.out k f hfk).ty] at y2
        have hcall := HOF.out W0 f.ty HF0.out
        have hbd := HBD.out f.ty
        have HD : Hid (recM n l ((nd.fs.map (·.ty)).drop k) x = if ofM n l f.ty < 0 then -1 else recM n l ((nd.fs.map (·.ty)).drop (k + 1)) (max x (ofM n l f.ty))) := Lib.hid (by
          rw [List.drop_eq_getElem?_toList_append, List.getElem?_map, hfk]; rfl)
        generalize ofM n l f.ty = o at *
        clear hcb hfk
        go_wp2_with fail
        refine hcall.mono ?_
        rintro e w2 ⟨rfl, rfl⟩
        clear hcall
        by_cases ho : o < 0
        · go_wp2
          go_ret
          rw [HM.out, HQ.out, HD.out, if_pos ho]
          exact ⟨rfl, HF0.out⟩
        · by_cases hox : o ≤ x
          · go_wp2
            go_roundg (nd.fs.length - (k + 1))
            case measure => have := HG.out; omega
            case rel => exact ⟨k + 1, x, by omega, by go_num, rfl, by omega, by omega, Lib.hid (by rw [HQ.out, HD.out, if_neg (by omega), Int.max_eq_left hox]), rfl⟩
          · go_wp2
            go_roundg (nd.fs.length - (k + 1))
            case measure => have := HG.out; omega
            case rel => exact ⟨k + 1, o, by omega, by go_num, rfl, by omega, by omega, Lib.hid (by rw [HQ.out, HD.out, if_neg (by omega), Int.max_eq_right (by omega)]), rfl⟩
      · have hk : nd.fs.length = k := by have := HG.out; omega
        have HKK := Lib.hid hk
        clear hk
        have hw : IntKind.i64.wrap (x + 1) = x + 1 := IntWalk.i64_in _ (by omega)
        go_wp2
        go_ret
        rw [HM.out, HQ.out, List.drop_eq_nil_of_le (by rw [List.length_map, HKK.out]; exact Nat.le_refl _)]
        exact ⟨rfl, HF0.out⟩
  · have h9' : (kd == 9) = false := by rw [beq_eq_false_iff_ne]; exact h9
    have H9 := Lib.hid h9
    clear h9
    by_cases h13 : kd = 13
    · subst h13
      have HM : Hid (rankM n (toN nd) l = if bestM n l nd.br (-1) < 0 then -1 else bestM n l nd.br (-1) + 1) := Lib.hid (by unfold rankM; rw [if_neg (by rw [HK.out.1]; decide), if_pos HK.out.1, HK.out.2.2])
      clear e3
      go_wp2
      go_loopg [8, 9] nd.br.length (fun gh t c wr => ∃ (k : Nat) (x : Int), k + gh = nd.br.length ∧ c = .int .i64 (k : Int) ∧ t = .int .i64 x ∧ -1 ≤ x ∧ x ≤ 1000 ∧ Hid (bestM n l nd.br (-1) = bestM n l (nd.br.drop k) x) ∧ W0 = wr)
      case atStart => exact ⟨0, -1, by omega, rfl, rfl, by omega, by omega, Lib.hid rfl, rfl⟩
      case round =>
        obtain ⟨k, x, hg, rfl, rfl, hx0, hx1, HQ, rfl⟩ := hrel
        have HG := Lib.hid hg
        clear hg
        by_cases hlt : k < nd.br.length
        · obtain ⟨f, hfk⟩ : ∃ f, nd.br[k]? = some f := ⟨_, List.getElem?_eq_getElem hlt⟩
          obtain ⟨gb, ofb, rfl, _, hcb⟩ := HB4.out (by omega)
          have y2 := HF0.out.cell (hcb k f hfk) trivial
          have hcall := HOF.out W0 f HF0.out
          have hbd := HBD.out f
          have HD : Hid (bestM n l (nd.br.drop k) x = bestM n l (nd.br.drop (k + 1)) (if 0 ≤ ofM n l f ∧ (x < 0 ∨ ofM n l f < x) then ofM n l f else x)) := Lib.hid (by
            rw [List.drop_eq_getElem?_toList_append, hfk]; rfl)
          generalize ofM n l f = o at *
          clear hcb hfk
          go_wp2_with fail
          refine hcall.mono ?_
          rintro e w2 ⟨rfl, rfl⟩
          clear hcall
          by_cases ho : 0 ≤ o
          · by_cases hx : x < 0
            · go_wp2
              go_roundg (nd.br.length - (k + 1))
              case measure => have := HG.out; omega
              case rel => exact ⟨k + 1, o, by omega, by go_num, rfl, by omega, by omega, Lib.hid (by rw [HQ.out, HD.out, if_pos ⟨ho, .inl hx⟩]), rfl⟩
            · by_cases hox : o < x
              · go_wp2
                go_roundg (nd.br.length - (k + 1))
                case measure => have := HG.out; omega
                case rel => exact ⟨k + 1, o, by omega, by go_num, rfl, by omega, by omega, Lib.hid (by rw [HQ.out, HD.out, if_pos ⟨ho, .inr hox⟩]), rfl⟩
              · go_wp2
                go_roundg (nd.br.length - (k + 1))
                case measure => have := HG.out; omega
                case rel => exact ⟨k + 1, x, by omega, by go_num, rfl, by omega, by omega, Lib.hid (by rw [HQ.out, HD.out, if_neg (by omega)]), rfl⟩
          · go_wp2
            go_roundg (nd.br.length - (k + 1))
            case measure => have := HG.out; omega
            case rel => exact ⟨k + 1, x, by omega, by go_num, rfl, by omega, by omega, Lib.hid (by rw [HQ.out, HD.out, if_neg (by omega)]), rfl⟩
        · have hk : nd.br.length = k := by have := HG.out; omega
          have HKK := Lib.hid hk
          clear hk
          have hbx : Hid (bestM n l nd.br (-1) = x) := Lib.hid (by rw [HQ.out, List.drop_eq_nil_of_le (by rw [HKK.out]; exact Nat.le_refl _)]; rfl)
          have hw : IntKind.i64.wrap (x + 1) = x + 1 := IntWalk.i64_in _ (by omega)
          by_cases hx : x < 0
          · go_wp2
            go_ret
            rw [HM.out, hbx.out, if_pos hx]
            exact ⟨rfl, HF0.out⟩
          · go_wp2
            go_ret
            rw [HM.out, hbx.out, if_neg (by omega)]
            exact ⟨rfl, HF0.out⟩
    · have h13' : (kd == 13) = false := by rw [beq_eq_false_iff_ne]; exact h13
      have H13 := Lib.hid h13
      clear h13
      have HM : Hid (rankM n (toN nd) l = if kd < 1 ∨ 14 < kd then -1 else 0) := Lib.hid (by unfold rankM; rw [if_neg (by rw [HK.out.1]; exact H9.out), if_neg (by rw [HK.out.1]; exact H13.out), HK.out.1])
      by_cases hod : kd < 1
      · go_wp2
        go_ret
        rw [HM.out, if_pos (.inl hod)]
        exact ⟨rfl, HF0.out⟩
      · by_cases hhi : 14 < kd
        · go_wp2
          go_ret
          rw [HM.out, if_pos (.inr hhi)]
          exact ⟨rfl, HF0.out⟩
        · go_wp2
          go_ret
          rw [HM.out, if_neg (by omega)]
          exact ⟨rfl, HF0.out⟩
end Go.Proofs.YtpajccehkcgoaaaDoor
