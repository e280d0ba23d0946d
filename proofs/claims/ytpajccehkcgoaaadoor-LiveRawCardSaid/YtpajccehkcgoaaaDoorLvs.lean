/-
  'some'.
-/
import Derived.Test.YtpajccehkcgoaaaDoorLvk
namespace Go.Proofs.YtpajccehkcgoaaaDoor
open Go.RowKit Go.Shelf Lv

/-- What a schema's blocks are to one that finds ranks. -/
abbrev Far (base g rg wg : Nat) : Nat → Prop := fun b => b < base ∧ b ≠ g ∧ b ≠ rg ∧ b ≠ wg
theorem far_stp {W w : World} {base g rg wg n : Nat} {nsv : Value} {s : St} {vs vs' : Nat → Value} (h : RkAt W base g rg wg n nsv s vs) (hs : Stp W w rg wg n vs vs') : Fr W w (Far base g rg wg) :=
  hs.fr.mono (fun b _ hb => ⟨hb.2.2.1, hb.2.2.2, fun hr => by have := (h.row_lt hr).1; have := hb.1; omega⟩)
theorem own_stp {W : World} {base g rg wg n : Nat} {nsv : Value} {s : St} {vs : Nat → Value} (h : RkAt W base g rg wg n nsv s vs) : ¬ RowOf n vs W.heap.size := fun hr => by have := (h.row_lt hr).2; omega
set_option maxRecDepth 100000 in
set_option maxHeartbeats 4000000 in
theorem some_any (W : World) (base g rg wg n : Nat) (A : Option Addr) (cap : Nat) (s : St) (vs : Nat → Value) (h : RkAt W base g rg wg n (.slice A n cap) s vs) (hn : n ≤ 100000) (rank : Int) (x : Nat × Nat) (br : List Int) (bv : Value) (hbr : IntsAt W (Far base g rg wg) br bv) (hp : x.2 ≤ br.length) (hbl : br.length ≤ 1000) (htot : tot n s + br.length ≤ 1000000000000) :
    Calls Tryd.prog 50 #[.pointer (some ⟨g, 0, none⟩), bv, .int .i64 rank, .agg #[.int .i64 (x.1 : Nat), .int .i64 (x.2 : Nat)]] W (AskP W base g rg wg n (.slice A n cap) vs (someM n rank x.1 x.2 (br.drop x.2) s)) := by
  obtain ⟨node, p⟩ := x
  simp only at *
  obtain ⟨Ab, capb, rfl, hlc, hcm, _, hcc⟩ := hbr
  have hf0 : Fr W (W.alloc (.cells #[.int .i64 (node : Nat), .int .i64 (p : Nat)] 79)) (fun _ => True) := (Fr.refl W _).alloc _
  have hx : (W.alloc (.cells #[.int .i64 (node : Nat), .int .i64 (p : Nat)] 79)).heap[W.heap.size]? = some (.cells #[.int .i64 (node : Nat), .int .i64 (p : Nat)] 79 (0, 0)) := new_at rfl _
  have hnr := own_stp h
  have h0 := h.up hf0
  unfold maxLen at hcm
  go_enter Tryd.func50, Tryd.ntmps50
  go_upto_region 1 with fail
  generalize W.alloc (.cells #[.int .i64 (node : Nat), .int .i64 (p : Nat)] 79) = W0 at *
  have q0 := cell_of_row _ _ 0 _ _ _ hx
  have q1 := cell_of_row _ _ 1 _ _ _ hx
  have HH := Lib.hid h0
  have HF := Lib.hid hf0
  have HX := Lib.hid hx
  have HLT := Lib.hid h.lt
  have HNR := Lib.hid hnr
  have HFAR := Lib.hid (show ∀ wr vk, Stp W0 wr rg wg n vs vk → Fr W wr (Far base g rg wg) ∧ ¬ RowOf n vk W.heap.size from fun wr vk hs => ⟨(hf0.mono (fun _ _ _ => trivial)).trans (far_stp h0 hs), hs.no (blk_lt hx) hnr⟩)
  have HWS : Hid (base ≤ W.heap.size) := h.hb
  clear h h0 hf0 hx
  obtain ⟨m, hm⟩ : ∃ m, br.length - p = m := ⟨_, rfl⟩
  by_cases hcp : capb = p
  · clear hcc
    have hlp : br.length ≤ p := by omega
    have e : br.drop p = [] := List.drop_eq_nil_of_le hlp
    have HE := Lib.hid e
    clear e hm
    go_wp2
    go_loopg [16] 0 (fun _ c wr => c = .int .i64 0 ∧ W0 = wr)
    case atStart => exact ⟨rfl, rfl⟩
    case round =>
      obtain ⟨rfl, rfl⟩ := hrel
      go_wp2
      go_ret
      rw [HE.out]
      exact ⟨rfl, vs, HH.out, Stp.of HF.out⟩
  · have hS : 0 < m → ∃ gb off, Option.map (fun x => x.add p) Ab = some ⟨gb, off, none⟩ ∧ Far base g rg wg gb ∧ ∀ (i : Nat) (b : Int), (br.drop p)[i]? = some b → W.cell? ⟨gb, off + i, none⟩ = some (.int .i64 b) := fun h0 => by
      obtain ⟨gb, off, rfl, hf, hc⟩ := hcc (by omega)
      exact ⟨gb, off + p, by simp [addr_add], hf, fun i b hb => by rw [List.getElem?_drop] at hb; have := hc _ b hb; rwa [← Nat.add_assoc] at this⟩
    clear hcc
    have hmw : m ≤ 1000 := by rw [← hm]; omega
    have HM := Lib.hid hm
    have HSV := Lib.hid hS
    clear hS hm
    go_wp2
    rw [HM.out]
    generalize Option.map (fun x => x.add p) Ab = S at *
    go_loopg [16] m (fun gh c wr => ∃ (k : Nat) (sk : St) (vk : Nat → Value), k + gh = m ∧ c = .int .i64 (k : Int) ∧ Hid (someM n rank node p (br.drop p) s = someM n rank node (p + k) ((br.drop p).drop k) sk) ∧ Hid (tot n sk + gh ≤ 1000000000000) ∧ Hid (RkAt wr base g rg wg n (.slice A n cap) sk vk) ∧ Hid (Stp W0 wr rg wg n vs vk) ∧ wr.heap[W.heap.size]? = some (.cells #[.int .i64 (node : Nat), .int .i64 (p : Nat)] 79 (0, 0)))
    case atStart => exact ⟨0, s, vs, by omega, rfl, Lib.hid rfl, Lib.hid (by have := HM.out; omega), HH, Lib.hid (Stp.refl _ _ _ _ _), HX.out⟩
    case round =>
      obtain ⟨k, sk, vk, hg, rfl, HQ, HT, HR, HST, hbx⟩ := hrel
      have HG := Lib.hid hg
      have q0 := cell_of_row _ _ 0 _ _ _ hbx
      have q1 := cell_of_row _ _ 1 _ _ _ hbx
      have HBX := Lib.hid hbx
      clear hg hbx
      by_cases hlt : k < m
      · obtain ⟨b, hbk⟩ : ∃ b, (br.drop p)[k]? = some b := ⟨_, List.getElem?_eq_getElem (by rw [List.length_drop, HM.out]; exact hlt)⟩
        obtain ⟨gb, off, rfl, hfar, hcc⟩ := HSV.out (by omega)
        have hz := (HFAR.out _ _ HST.out).1.cell (hcc k b hbk) hfar
        have hpk : IntKind.i64.wrap ((p : Int) + (k : Int)) = ((p + k : Nat) : Int) := by rw [IntWalk.i64_in _ (by omega)]; omega
        have hcall := asked_any wr base g rg wg n A cap sk vk HR.out hn b rank (node, p + k) (fun i hi => Nat.le_trans (wt_le_tot hi) (by have := HT.out; omega))
        have hU : someM n rank node (p + k) ((br.drop p).drop k) sk = if (askM n rank (node, p + k) b sk).1 then (true, (askM n rank (node, p + k) b sk).2) else someM n rank node (p + k + 1) ((br.drop p).drop (k + 1)) (askM n rank (node, p + k) b sk).2 := by
          rw [List.drop_eq_getElem?_toList_append, hbk]
          rfl
        have hT2 := ask_tot (n := n) (rank := rank) (node, p + k) b sk
        generalize askM n rank (node, p + k) b sk = R at *
        obtain ⟨r, s2⟩ := R
        have HU := Lib.hid hU
        have HT2 := Lib.hid hT2
        clear hcc hbk hU hT2
        go_wp2_with fail
        refine hcall.mono ?_
        rintro e w2 ⟨rfl, v2, hR2, hS2⟩
        have HR2 := Lib.hid hR2
        have HS2 := Lib.hid (HST.out.trans hS2)
        have HB2 := Lib.hid (hS2.at HBX.out (by have := HR.out.hb; have := HLT.out; have := HWS.out; omega) (by have := HLT.out; have := HWS.out; omega) (HFAR.out _ _ HST.out).2)
        clear hcall hR2 hS2
        cases r with
        | true =>
          go_wp2
          go_ret
          rw [HQ.out, HU.out]
          exact ⟨rfl, v2, HR2.out, (Stp.of HF.out).trans HS2.out⟩
        | false =>
          go_wp2
          go_roundg (m - (k + 1))
          case measure => have := HG.out; omega
          case rel => exact ⟨k + 1, s2, v2, by omega, by go_num, Lib.hid (by rw [HQ.out, HU.out]; rfl), Lib.hid (by have h1 := HT.out; have h2 : tot n s2 ≤ tot n sk + 1 := HT2.out; have h3 := HG.out; omega), HR2, HS2, HB2.out⟩
      · have hk : m = k := by have := HG.out; omega
        have HK := Lib.hid hk
        go_wp2
        go_ret
        have e : (br.drop p).drop k = [] := List.drop_eq_nil_of_le (by rw [List.length_drop, HM.out, HK.out]; exact Nat.le_refl _)
        rw [HQ.out, e]
        exact ⟨rfl, vk, HR.out, (Stp.of HF.out).trans HST.out⟩
end Go.Proofs.YtpajccehkcgoaaaDoor
