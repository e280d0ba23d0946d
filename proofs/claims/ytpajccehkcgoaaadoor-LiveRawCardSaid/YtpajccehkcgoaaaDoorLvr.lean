/-
  'round'.
-/
import Derived.Test.YtpajccehkcgoaaaDoorLvw
namespace Go.Proofs.YtpajccehkcgoaaaDoor
open Go.RowKit Go.Shelf Lv

theorem info3L : (Tryd.prog.info? 3).map (fun i => (i.zero, i.size, i.bytes)) = some (some (.int .i64 0), 1, 8) := by kernel_rfl
/-- A node, plain. -/
def toN (d : Nd) : N := ⟨d.kind, d.fs.map (·.ty), d.br⟩
def nsF (ns : List Nd) (i : Nat) : N := toN (ns.getD i default)
/-- What a round leaves. -/
def RoundP (w : World) (base g rg wg n : Nat) (nsv : Value) (vs : Nat → Value) (r : St × List Nat) : Ending → World → Prop := fun e w' =>
  ∃ vs' v, e = .returned v ∧ RkAt w' base g rg wg n nsv r.1 vs' ∧ Stp w w' rg wg n vs vs' ∧ w'.ownsRow w.heap.size 79 2 v (wokenM r.1 r.2).length (tk (wokenM r.1 r.2)) ∧ ∀ b, v.ownBlock = some b → ¬ RowOf n vs' b
/-- The blocks that a round leaves alone. -/
abbrev Clear (g rg wg n : Nat) (vs : Nat → Value) (b : Nat) : Prop := b ≠ g ∧ b ≠ rg ∧ b ≠ wg ∧ ¬ RowOf n vs b
theorem ranked {w : World} {base g rg wg n i : Nat} {nsv : Value} {s : St} {vs : Nat → Value} (h : RkAt w base g rg wg n nsv s vs) (hi : i < n) (r : Int) :
    RkAt (w.setCell ⟨rg, i, none⟩ (.int .i64 r)) base g rg wg n nsv ⟨upd s.rk i r, s.wt⟩ vs ∧ Stp w (w.setCell ⟨rg, i, none⟩ (.int .i64 r)) rg wg n vs vs := by
  have hf := set_frL w rg i (.int .i64 r)
  obtain ⟨a, ha, h1, h2⟩ := h.rks
  obtain ⟨a', ha', h1', h2'⟩ := h.wts
  obtain ⟨l1, l2, l3, l4, l5, l6⟩ := h.lt
  refine ⟨⟨hf.at h.hdr l4, ⟨a.setIfInBounds i (.int .i64 r), heap_setCell_same w rg i _ _ _ ha, by rw [Array.size_setIfInBounds]; exact h1, fun j hj => ?_⟩, ⟨a', hf.at ha' (fun e => l6 e.symm), h1', h2'⟩, fun j hj => ownsRow_fr (h.rows j hj) hf (fun b hb => ?_), h.apart, h.lt, Nat.le_trans h.hb hf.size⟩, ⟨hf.mono (fun _ _ hb => hb.1), fun _ hb => .inl hb⟩⟩
  · by_cases e : j = i
    · subst e
      simp only [upd_same]
      rw [Array.getElem?_setIfInBounds_self_of_lt (by omega)]
    · simp only [upd_ne _ _ e]
      rw [Array.getElem?_setIfInBounds_ne (fun h => e h.symm)]
      exact h2 j hj
  · have := (h.row_lt ⟨j, hj, hb⟩).1
    omega
/-- Behind an append onto a row of the call's own. -/
theorem found_fin {W wc w5 : World} {base g rg wg n : Nat} {nsv u v' : Value} {s : St} {vs v2 : Nat → Value} {o : Obj} (hR : RkAt wc base g rg wg n nsv s v2) (hS : Stp W wc rg wg n vs v2) (hno : ∀ b, u.ownBlock = some b → ¬ RowOf n v2 b ∧ W.heap.size ≤ b ∧ b < wc.heap.size) (hW : base ≤ W.heap.size)
    (hg : (wc.alloc o).grownBy w5 u.ownBlock) (hv : v'.ownBlock = u.ownBlock ∨ v'.ownBlock = some (wc.alloc o).heap.size) : RkAt w5 base g rg wg n nsv s v2 ∧ Stp W w5 rg wg n vs v2 ∧ ∀ b, v'.ownBlock = some b → ¬ RowOf n v2 b := by
  have hf : Fr wc w5 (fun b => u.ownBlock ≠ some b) := ((fr_allocX (o := o) (Fr.refl wc _)).mono (fun _ _ _ => trivial)).trans (Fr.of hg (fun b _ hb e => hb e.symm))
  obtain ⟨l1, l2, l3, _⟩ := hR.lt
  refine ⟨hR.fr hf (fun b hb e => ?_), ⟨⟨hf.os.trans hS.fr.os, hf.tape.trans hS.fr.tape, hf.output.trans hS.fr.output, Nat.le_trans hS.fr.size hf.size, fun b hb hk => (hf.block b (Nat.lt_of_lt_of_le hb hS.fr.size) (fun e => by have := (hno b e).2.1; omega)).trans (hS.fr.block b hb hk)⟩, hS.new⟩, fun b hb hr => ?_⟩
  · have h1 := hno b e
    rcases hb with rfl | rfl | rfl | hb
    · omega
    · omega
    · omega
    · exact h1.1 hb
  · rcases hv with hv | hv
    · rw [hv] at hb; exact (hno b hb).1 hr
    · rw [hv] at hb
      cases hb
      have := (hR.row_lt hr).2
      simp at this
      omega
theorem own_intsL {w : World} {base k : Nat} {f : List Nat} {v : Value} (h : w.ownsRow base 3 1 v k (f.map fun (i : Nat) => Value.int .i64 (i : Int))) (hk : f.length = k) (hb : ∀ i, i ∈ f → i < 1000000) : IntsAt w (fun b => v.ownBlock = some b) (f.map fun (i : Nat) => (i : Int)) v := by
  subst hk
  obtain ⟨A, cap, rfl, h1, h2, h3⟩ := own_open h (by omega)
  refine ⟨A, cap, by rw [List.length_map], by rw [List.length_map]; exact h1, h2, fun x hx => ?_, fun h0 => ?_⟩
  · obtain ⟨i, hi, rfl⟩ := List.mem_map.1 hx
    have := hb i hi
    have e1 : IntKind.i64.min = -9223372036854775808 := by decide
    have e2 : IntKind.i64.max = 9223372036854775807 := by decide
    simp [Lit.wf, e1, e2]
    omega
  · rw [List.length_map] at h0
    obtain ⟨g, rfl, _, hc⟩ := h3 h0
    refine ⟨g, 0, rfl, rfl, fun i x hx => ?_⟩
    rw [Nat.zero_add]
    refine hc i _ ?_
    rw [List.getElem?_map] at hx ⊢
    obtain ⟨y, hy, rfl⟩ := Option.map_eq_some_iff.1 hx
    rw [hy]; rfl
theorem own_low {w : World} {b b' n sz : Nat} {e : TypeId} {v : Value} {xs : List Value} (h : w.ownsRow b' e sz v n xs) (hb : b ≤ b') : w.ownsRow b e sz v n xs := by
  refine ⟨h.1, ?_⟩
  rcases h.2 with h2 | ⟨g, cap, cur, hv, hg, hr⟩
  · exact .inl h2
  · exact .inr ⟨g, cap, cur, hv, by omega, hr⟩
theorem round_t {n : Nat} {ns : Nat → N} {rank : Int} {x : Nat × Nat} {xs : List (Nat × Nat)} {s s2 : St} {f : List Nat} (h : goM n ns rank x s = (true, s2)) : roundM n ns rank (x :: xs) s f = roundM n ns rank xs ⟨upd s2.rk x.1 rank, s2.wt⟩ (f ++ [x.1]) := by
  rw [roundM, h]; rfl
theorem round_f {n : Nat} {ns : Nat → N} {rank : Int} {x : Nat × Nat} {xs : List (Nat × Nat)} {s s2 : St} {f : List Nat} (h : goM n ns rank x s = (false, s2)) : roundM n ns rank (x :: xs) s f = roundM n ns rank xs s2 f := by
  rw [roundM, h]; rfl
set_option maxRecDepth 100000 in
set_option maxHeartbeats 8000000 in
theorem round_any (W : World) (base g rg wg n : Nat) (A : Option Addr) (cap : Nat) (s : St) (vs : Nat → Value) (h : RkAt W base g rg wg n (.slice A n cap) s vs) (ns : List Nd) (hns : NdsAt W (Far base g rg wg) ns (.slice A n cap)) (hnl : ns.length = n) (hn : n ≤ 100000) (rank : Int)
    (hlens : ∀ i, (nsF ns i).br.length ≤ 20 ∧ (nsF ns i).ft.length ≤ 20) (l : List (Nat × Nat)) (sv : Value) (hl : StepsAt W (fun b => b < W.heap.size ∧ Clear g rg wg n vs b) l sv) (hv : ∀ t, t ∈ l → t.1 < n ∧ t.2 ≤ (parts (nsF ns t.1)).length ∧ ((nsF ns t.1).k = 9 ∨ (nsF ns t.1).k = 13)) (htot : tot n s + 20 * l.length + 20 ≤ 1000000000000) (hll : l.length ≤ 100000000)
    (hfn : ∀ i, i ∈ (roundM n (nsF ns) rank l s []).2 → i < n) (hwb : ∀ k, (wokenM (roundM n (nsF ns) rank l s []).1 ((roundM n (nsF ns) rank l s []).2.take k)).length ≤ 1000000000000) :
    Calls Tryd.prog 28 #[.pointer (some ⟨g, 0, none⟩), sv, .int .i64 rank] W (RoundP W base g rg wg n (.slice A n cap) vs (roundM n (nsF ns) rank l s [])) := by
  obtain ⟨As, caps, rfl, hlc, hcm, hcc⟩ := hl
  obtain ⟨i3, hi3, hz3, hs3, hb3⟩ := info_parts info3L
  unfold maxLen at hcm
  have HH := Lib.hid h
  have HNS := Lib.hid hns
  have HC := Lib.hid hcc
  have HV := Lib.hid hv
  have HLEN := Lib.hid hlens
  have HFN := Lib.hid hfn
  have HWB := Lib.hid hwb
  have HNL := Lib.hid hnl
  clear h hns hcc hv hlens hfn hwb hnl
  obtain ⟨M, hM⟩ : ∃ M, roundM n (nsF ns) rank l s [] = M := ⟨_, rfl⟩
  rw [hM] at HFN HWB
  rw [hM]
  have HM := Lib.hid hM
  clear hM
  go_enter Tryd.func28, Tryd.ntmps28
  go_wp2
  go_step3
  go_wp2
  go_step3
  go_wp2
  go_loopg [7, 15] l.length (fun gh fv c wr => ∃ (k : Nat) (sk : St) (fk : List Nat) (vk : Nat → Value), k + gh = l.length ∧ c = .int .i64 (k : Int) ∧ Hid (M = roundM n (nsF ns) rank (l.drop k) sk fk) ∧ Hid (tot n sk + 20 * gh + 20 ≤ 1000000000000 ∧ fk.length ≤ k) ∧ Hid (RkAt wr base g rg wg n (.slice A n cap) sk vk) ∧ Hid (Stp W wr rg wg n vs vk) ∧
    Hid (wr.ownsRow W.heap.size 3 1 fv fk.length (fk.map fun i => .int .i64 (i : Nat))) ∧ Hid (∀ b, fv.ownBlock = some b → ¬ RowOf n vk b))
  case atStart => exact ⟨0, s, [], vs, by omega, rfl, Lib.hid HM.out.symm, Lib.hid ⟨by omega, by simp⟩, HH, Lib.hid (Stp.refl _ _ _ _ _), Lib.hid (World.ownsRow_nil _ _ _ _), Lib.hid (fun b hb => by cases hb)⟩
  case round =>
    obtain ⟨k, sk, fk, vk, hg, rfl, HQ, HT, HR, HST, HO, HNO⟩ := hrel
    have HG := Lib.hid hg
    clear hg
    by_cases hlt : k < l.length
    · obtain ⟨x, hxk⟩ : ∃ x, l[k]? = some x := ⟨_, List.getElem?_eq_getElem hlt⟩
      have hxm := List.mem_of_getElem? hxk
      obtain ⟨hx1, hx2, hx3⟩ := HV.out x hxm
      obtain ⟨gs, rfl, hfar, hcs⟩ := HC.out (by omega)
      have hsk : Fr W wr (fun b => b < W.heap.size ∧ Clear g rg wg n vs b) := HST.out.fr.mono (fun b _ hb => ⟨hb.2.2.1, hb.2.2.2.1, hb.2.2.2.2⟩)
      have y0 : wr.cell? ⟨gs, k * 2, none⟩ = some (.int .i64 (x.1 : Nat)) := by rw [Nat.mul_comm]; exact hsk.cell (hcs _ _ (tk_at l k x hxk).1) hfar
      have y1 : wr.cell? ⟨gs, k * 2 + 1, none⟩ = some (.int .i64 (x.2 : Nat)) := by rw [Nat.mul_comm]; exact hsk.cell (hcs _ _ (tk_at l k x hxk).2) hfar
      obtain ⟨x1, x2⟩ := x
      simp only at hx1 hx2 hx3 y0 y1
      have hdrop : l.drop k = (x1, x2) :: l.drop (k + 1) := by rw [List.drop_eq_getElem?_toList_append, hxk]; rfl
      have HD := Lib.hid hdrop
      have HHF := Lib.hid (far_stp HH.out HST.out)
      have hns0 := HNS.out.fr HHF.out (fun _ h => h) (fun _ _ hx => hx.fr HHF.out (fun _ h => h))
      obtain ⟨nd, hnd⟩ : ∃ nd, ns[x1]? = some nd := ⟨_, List.getElem?_eq_getElem (by rw [HNL.out]; exact hx1)⟩
      obtain ⟨A', cap', cc, hAe, _, _, hcell, hone⟩ := hns0
      rw [HNL.out] at hAe
      injection hAe with e1 _ e3
      subst e1 e3
      have hN := hone x1 nd hnd
      obtain ⟨gn, off, rfl, hgn, hcz⟩ := hcell (by rw [HNL.out]; omega)
      have HND := Lib.hid (show nsF ns x1 = toN nd by unfold nsF; rw [List.getD_eq_getElem?_getD, hnd]; rfl)
      have HZ := Lib.hid (fun j hj => hcz x1 j (by rw [HNL.out]; exact hx1) hj)
      have HN := Lib.hid hN
      have HGN := Lib.hid hgn
      clear hcs hxk hxm hsk hdrop hcell hone hcz hN hnd
      have hfx : Fr wr (wr.alloc (.cells #[.int .i64 (x1 : Nat), .int .i64 (x2 : Nat)] 79)) (fun _ => True) := fr_allocX (Fr.refl _ _)
      have hX : (wr.alloc (.cells #[.int .i64 (x1 : Nat), .int .i64 (x2 : Nat)] 79)).heap[wr.heap.size]? = some (.cells #[.int .i64 (x1 : Nat), .int .i64 (x2 : Nat)] 79 (0, 0)) := new_at rfl _
      go_upto_region 5 with fail
      generalize wr.alloc (.cells #[.int .i64 (x1 : Nat), .int .i64 (x2 : Nat)] 79) = W1 at *
      have HFX := Lib.hid hfx
      have HX := Lib.hid hX
      have z0 := hfx.cell (HZ.out 0 (by omega)) trivial
      have z1 := hfx.cell (HZ.out 1 (by omega)) trivial
      have z2 := hfx.cell (HZ.out 2 (by omega)) trivial
      have z3 := hfx.cell (HZ.out 3 (by omega)) trivial
      have z4 := hfx.cell (HZ.out 4 (by omega)) trivial
      have z5 := hfx.cell (HZ.out 5 (by omega)) trivial
      have z6 := hfx.cell (HZ.out 6 (by omega)) trivial
      have z7 := hfx.cell (HZ.out 7 (by omega)) trivial
      have z8 := hfx.cell (HZ.out 8 (by omega)) trivial
      have z9 := hfx.cell (HZ.out 9 (by omega)) trivial
      rw [show off + (10 * x1 + 0) = off + x1 * 10 by omega] at z0
      rw [show off + (10 * x1 + 1) = off + x1 * 10 + 1 by omega] at z1
      rw [show off + (10 * x1 + 2) = off + x1 * 10 + 2 by omega] at z2
      rw [show off + (10 * x1 + 3) = off + x1 * 10 + 3 by omega] at z3
      rw [show off + (10 * x1 + 4) = off + x1 * 10 + 4 by omega] at z4
      rw [show off + (10 * x1 + 5) = off + x1 * 10 + 5 by omega] at z5
      rw [show off + (10 * x1 + 6) = off + x1 * 10 + 6 by omega] at z6
      rw [show off + (10 * x1 + 7) = off + x1 * 10 + 7 by omega] at z7
      rw [show off + (10 * x1 + 8) = off + x1 * 10 + 8 by omega] at z8
      rw [show off + (10 * x1 + 9) = off + x1 * 10 + 9 by omega] at z9
      have e0 := HN.out.kind
      obtain ⟨Afs, cfs, ccf, hfe, hf1, hf2, hf3, hf4⟩ := HN.out.fs
      obtain ⟨Abr, cbr, hbe, hb1, hb2, hb3, hb4⟩ := HN.out.br
      have HBE := Lib.hid hbe
      have HFE := Lib.hid hfe
      rw [e0] at z0
      rw [hfe] at z3
      rw [hbe] at z8
      obtain ⟨Aal, cal, hale, _⟩ := HN.out.al
      obtain ⟨Asy, csy, hsye, _⟩ := HN.out.sy
      rw [HN.out.name] at z1
      rw [hale] at z2
      rw [hsye] at z4
      rw [HN.out.has] at z5
      rw [HN.out.dflt] at z6
      rw [HN.out.items] at z7
      rw [HN.out.size] at z9
      clear hale hsye
      have hR1 := HR.out.up hfx
      have q0 := cell_of_row _ _ 0 _ _ _ hR1.hdr
      have x0 := cell_of_row _ _ 0 _ _ _ hX
      clear hfx hX e0 hfe hbe hf3 hf4 hb3 hb4 hR1
      have z0a := fun o => (fr_allocX (o := o) (Fr.refl W1 _)).cell z0 trivial
      have z1a := fun o => (fr_allocX (o := o) (Fr.refl W1 _)).cell z1 trivial
      have z2a := fun o => (fr_allocX (o := o) (Fr.refl W1 _)).cell z2 trivial
      have z3a := fun o => (fr_allocX (o := o) (Fr.refl W1 _)).cell z3 trivial
      have z4a := fun o => (fr_allocX (o := o) (Fr.refl W1 _)).cell z4 trivial
      have z5a := fun o => (fr_allocX (o := o) (Fr.refl W1 _)).cell z5 trivial
      have z6a := fun o => (fr_allocX (o := o) (Fr.refl W1 _)).cell z6 trivial
      have z7a := fun o => (fr_allocX (o := o) (Fr.refl W1 _)).cell z7 trivial
      have z8a := fun o => (fr_allocX (o := o) (Fr.refl W1 _)).cell z8 trivial
      have z9a := fun o => (fr_allocX (o := o) (Fr.refl W1 _)).cell z9 trivial
      have q0a := fun o => (fr_allocX (o := o) (Fr.refl W1 _)).cell q0 trivial
      have x0a := fun o => (fr_allocX (o := o) (Fr.refl W1 _)).cell x0 trivial
      go_cut [10] (fun a wx => a = .pointer (some ⟨W1.heap.size, 0, none⟩) ∧ Fr W1 wx (fun _ => True) ∧ wx.heap[W1.heap.size]? = some (.cells #[.int .i64 nd.kind, .string nd.name, .slice Aal nd.al.length cal, .slice Afs nd.fs.length cfs, .slice Asy nd.sy.length csy, .bool nd.has, .string nd.dflt, .int .i64 nd.items, .slice Abr nd.br.length cbr, .int .i64 nd.size] 30 (0, 0)))
      case first =>
        go_region_law (fail)
        all_goals
          go_wp2_with fail
          go_meet
          exact ⟨rfl, fr_drewX (fr_allocX (Fr.refl _ _)), new_at rfl _⟩
      case rest =>
        obtain ⟨rfl, hfc, hnb⟩ := hcut
        have HFC := Lib.hid (HFX.out.trans hfc)
        have HXC := Lib.hid (hfc.at HX.out trivial)
        have HNB := Lib.hid hnb
        have HRC := Lib.hid (HR.out.up HFC.out)
        have HW1 := Lib.hid (show wr.heap.size < W1.heap.size from blk_lt HX.out)
        clear z0 z1 z2 z3 z4 z5 z6 z7 z8 z9 z0a z1a z2a z3a z4a z5a z6a z7a z8a z9a q0 x0 q0a x0a hfc hnb HX HFX
        obtain ⟨ra, hra, hr1, hr2⟩ := HRC.out.rks
        have q1 := cell_of_row _ _ 1 _ _ _ HRC.out.hdr
        have x0 := cell_of_row _ _ 0 _ _ _ HXC.out
        have r0 : wc.cell? ⟨rg, x1, none⟩ = some (.int .i64 (sk.rk x1)) := by rw [cell_of_row _ _ _ _ _ _ hra]; exact hr2 x1 hx1
        obtain ⟨v, hv⟩ : ∃ v, sk.rk x1 = v := ⟨_, rfl⟩
        rw [hv] at r0
        have HVV := Lib.hid hv
        clear hra hr1 hr2 hv
        by_cases hnv : v = 9223372036854775807
        · subst hnv
          go_upto_region 6 with fail
          go_quiet (fail)
          have hfd : Fr wc (wc.drewN nq) (fun _ => True) := (Fr.refl wc _).drewN nq
          generalize wc.drewN nq = wd at *
          have HXD := Lib.hid (hfd.at HXC.out trivial)
          have HND2 := Lib.hid (hfd.at HNB.out trivial)
          have HRD := Lib.hid (HRC.out.up hfd)
          have HFD := Lib.hid (HFC.out.trans hfd)
          have HW1D := Lib.hid (blk_lt HND2.out)
          clear hfd q1 x0 r0 HXC HNB HRC HFC
          have e0 := cell_of_row _ _ 0 _ _ _ HND2.out
          have x0 := cell_of_row _ _ 0 _ _ _ HXD.out
          have x1c := cell_of_row _ _ 1 _ _ _ HXD.out
          obtain ⟨kd, hkd⟩ : ∃ kd, nd.kind = kd := ⟨_, rfl⟩
          rw [hkd] at e0
          have HKD := Lib.hid hkd
          have HFL := Lib.hid (show (nsF ns x1).k = kd ∧ (nsF ns x1).br = nd.br ∧ (nsF ns x1).ft = nd.fs.map (·.ty) from by rw [HND.out]; exact ⟨hkd, rfl, rfl⟩)
          clear hkd
          have HFB := Lib.hid (show ∀ b, u7.ownBlock = some b → b ≠ rg ∧ b ≠ wg ∧ ¬ RowOf n vk b from fun b hb => by
            have h1 := (HO.out.lt b hb).1
            have h2 := HH.out.hb
            obtain ⟨_, l2, l3, _⟩ := HH.out.lt
            exact ⟨by omega, by omega, HNO.out b hb⟩)
          have HXN := Lib.hid (show wr.heap.size ≠ rg ∧ wr.heap.size ≠ wg ∧ ¬ RowOf n vk wr.heap.size from by
            have h2 := HR.out.hb
            obtain ⟨_, l2, l3, _⟩ := HR.out.lt
            exact ⟨by omega, by omega, own_stp HR.out⟩)
          by_cases h13 : kd = 13
          · subst h13
            have hx2' : x2 ≤ nd.br.length := by
              have := hx2
              unfold parts at this
              rwa [if_pos HFL.out.1, HFL.out.2.1] at this
            have hbl : nd.br.length ≤ 20 := by have := (HLEN.out x1).1; rwa [HFL.out.2.1] at this
            have e8 := cell_of_row _ _ 8 _ _ _ HND2.out
            have hbr : IntsAt wd (Far base g rg wg) nd.br (.slice Abr nd.br.length cbr) := by
              have := (HN.out.br).fr (ok' := fun _ => True) HFD.out (fun _ _ => trivial)
              rwa [HBE.out] at this
            have hcall := some_any wd base g rg wg n (some ⟨gn, off, none⟩) cap sk vk HRD.out hn rank (x1, x2) nd.br _ hbr hx2' (by omega) (by have := HT.out; omega)
            have hgo : goM n (nsF ns) rank (x1, x2) sk = someM n rank x1 x2 (nd.br.drop x2) sk := by
              unfold goM
              rw [if_neg (by rw [HVV.out]; decide), if_pos HFL.out.1, HFL.out.2.1]
            have hgt := go_tot (n := n) (ns := nsF ns) (rank := rank) (fun i => (HLEN.out i).1) (x1, x2) sk
            rw [hgo] at hgt
            simp only at hcall
            generalize someM n rank x1 x2 (nd.br.drop x2) sk = R at *
            obtain ⟨r, s2⟩ := R
            have HGO := Lib.hid hgo
            have HGT := Lib.hid hgt
            clear hbr hgo hgt
            go_wp2_with fail
            refine hcall.mono ?_
            rintro e w2 ⟨rfl, v2, hR2, hS2⟩
            have HX2 := Lib.hid (hS2.at HXD.out HXN.out.1 HXN.out.2.1 HXN.out.2.2)
            have HNX := Lib.hid (show wr.heap.size ≠ rg ∧ wr.heap.size ≠ wg ∧ ¬ RowOf n v2 wr.heap.size from ⟨HXN.out.1, HXN.out.2.1, hS2.no (blk_lt HXD.out) HXN.out.2.2⟩)
            have HSA := Lib.hid ((Stp.of HFD.out).trans hS2)
            have HR2 := Lib.hid hR2
            clear hcall hS2 hR2
            cases r with
            | true =>
              go_upto_region 15 with fail
              have q1 := cell_of_row _ _ 1 _ _ _ HR2.out.hdr
              have x0 := cell_of_row _ _ 0 _ _ _ HX2.out
              obtain ⟨ra2, hra2, hra2s, hra2c⟩ := HR2.out.rks
              have r0 : w2.cell? ⟨rg, x1, none⟩ = some (.int .i64 (s2.rk x1)) := by rw [cell_of_row _ _ _ _ _ _ hra2]; exact hra2c x1 hx1
              have f0 := frozen_of_row _ _ x1 _ _ hra2
              clear hra2 hra2s hra2c
              go_cut [] (fun wx => Hid (RkAt wx base g rg wg n (.slice (some ⟨gn, off, none⟩) n cap) ⟨upd s2.rk x1 rank, s2.wt⟩ v2) ∧ Hid (Stp w2 wx rg wg n v2 v2))
              case first =>
                go_region_law (fail)
                all_goals
                  go_wp2_with fail
                  go_meet
                  first
                    | exact ⟨Lib.hid (ranked (HR2.out.up (fr_drewX (Fr.refl _ _))) hx1 rank).1, Lib.hid ((Stp.of (fr_drewX (Fr.refl _ _))).trans (ranked (HR2.out.up (fr_drewX (Fr.refl _ _))) hx1 rank).2)⟩
                    | exact ⟨Lib.hid ((ranked HR2.out hx1 rank).1.up (fr_drewX (Fr.refl _ _))), Lib.hid ((ranked HR2.out hx1 rank).2.trans (Stp.of (fr_drewX (Fr.refl _ _))))⟩
                    | exact ⟨Lib.hid (ranked HR2.out hx1 rank).1, Lib.hid (ranked HR2.out hx1 rank).2⟩
              case rest =>
                obtain ⟨HR4, HS4⟩ := hcut
                have hx4 := HS4.out.at HX2.out HNX.out.1 HNX.out.2.1 HNX.out.2.2
                have x0' := cell_of_row _ _ 0 _ _ _ hx4
                have HSC := Lib.hid (HSA.out.trans HS4.out)
                have hfo : Fr _ wc (fun b => u7.ownBlock = some b) := HSC.out.fr.mono (fun b _ hb => HFB.out b hb)
                have ho4 := ownsRow_fr HO.out hfo (fun b hb => hb)
                have HO4 := Lib.hid ho4
                have HSZ : Hid (W.heap.size ≤ wc.heap.size) := Nat.le_trans HST.out.fr.size HSC.out.fr.size
                clear q1 x0 r0 f0 hx4 hfo ho4
                go_wp2_with (at_builtin; refine wpList_append_own_at _ rfl _ _ 28 rfl W.heap.size 3 i3 _ 1 8 Tryd.underlying28 hi3 hz3 hs3 hb3 rfl (by decide) _ fk.length _ rfl (HO4.out.alloc _) ⟨wc.heap.size, 0, none⟩ 1 1 [.int .i64 (x1 : Nat)] rfl rfl (cell_one_new _ _ _) (by simp [Value.oneCell']) (by have := HT.out; unfold maxLen; omega) (by have := HT.out; omega) (by have := HSZ.out; simp; omega) ?_; intro v' w5 hown5 hg5 _ hv5)
                have HF5 := Lib.hid (found_fin HR4.out (HST.out.trans HSC.out) (fun b hb => ⟨HSC.out.no (HO.out.lt b hb).2 (HNO.out b hb), (HO.out.lt b hb).1, Nat.lt_of_lt_of_le (HO.out.lt b hb).2 HSC.out.fr.size⟩) HH.out.hb hg5 hv5)
                have HO5 := Lib.hid hown5
                clear hown5 hg5 hv5
                go_wp2
                go_roundg (l.length - (k + 1))
                case measure => have := HG.out; omega
                case rel => exact ⟨k + 1, ⟨upd s2.rk x1 rank, s2.wt⟩, fk ++ [x1], v2, by omega, by go_num, Lib.hid (by rw [HQ.out, HD.out, round_t HGO.out]), Lib.hid ⟨by have h1 := HT.out; have h2 := HG.out; have h3 : tot n s2 ≤ tot n sk + 20 := HGT.out; have h4 : tot n ⟨upd s2.rk x1 rank, s2.wt⟩ = tot n s2 := rfl; omega, by have := HT.out; rw [List.length_append]; simp; omega⟩, Lib.hid HF5.out.1, Lib.hid HF5.out.2.1, Lib.hid (by have := HO5.out; rw [List.length_append, List.map_append]; exact this), Lib.hid HF5.out.2.2⟩
            | false =>
              go_wp2
              go_roundg (l.length - (k + 1))
              case measure => have := HG.out; omega
              case rel => exact ⟨k + 1, s2, fk, v2, by omega, by go_num, Lib.hid (by rw [HQ.out, HD.out, round_f HGO.out]), Lib.hid ⟨by have h1 := HT.out; have h2 := HG.out; have h3 : tot n s2 ≤ tot n sk + 20 := HGT.out; omega, by have := HT.out; omega⟩, HR2, Lib.hid (HST.out.trans HSA.out), Lib.hid (ownsRow_fr HO.out (HSA.out.fr.mono (fun b _ hb => HFB.out b hb)) (fun b hb => hb)), Lib.hid (fun b hb => HSA.out.no (HO.out.lt b hb).2 (HNO.out b hb))⟩
          · have h9 : kd = 9 := by have := hx3; rw [HFL.out.1] at this; omega
            subst h9
            have hx2' : x2 ≤ nd.fs.length := by
              have := hx2
              unfold parts at this
              rwa [if_neg (by rw [HFL.out.1]; decide), HFL.out.2.2, List.length_map] at this
            have hbl : nd.fs.length ≤ 20 := by have := (HLEN.out x1).2; rwa [HFL.out.2.2, List.length_map] at this
            have e3 := cell_of_row _ _ 3 _ _ _ HND2.out
            have hfs : RowsAt 5 (FdIn wd (Far base g rg wg)) wd (Far base g rg wg) nd.fs (.slice Afs nd.fs.length cfs) := by
              have := (HN.out.fr (ok' := fun _ => True) HFD.out (fun _ _ => trivial)).fs
              rwa [HFE.out] at this
            obtain ⟨Aq, capq, cq, hq1, _, _, hqc, hq1e⟩ := hfs
            injection hq1 with hq2 _ hq3
            subst hq2 hq3
            have HQC := Lib.hid hqc
            have HQ1 := Lib.hid hq1e
            have hgo : goM n (nsF ns) rank (x1, x2) sk = allM n rank x1 x2 ((nd.fs.map (·.ty)).drop x2) sk := by
              unfold goM
              rw [if_neg (by rw [HVV.out]; decide), if_neg (by rw [HFL.out.1]; decide), if_pos HFL.out.1, HFL.out.2.2]
            have hgt := go_tot (n := n) (ns := nsF ns) (rank := rank) (fun i => (HLEN.out i).1) (x1, x2) sk
            rw [hgo] at hgt
            obtain ⟨R, hR⟩ : ∃ R, allM n rank x1 x2 ((nd.fs.map (·.ty)).drop x2) sk = R := ⟨_, rfl⟩
            rw [hR] at hgo hgt
            have HRR := Lib.hid hR
            have HGO := Lib.hid hgo
            have HGT := Lib.hid hgt
            clear hqc hq1e hgo hgt hR
            by_cases hcp : cfs = x2
            · have hlp : nd.fs.length ≤ x2 := by omega
              have HE : Hid (R = (true, sk)) := by
                rw [← HRR.out, List.drop_eq_nil_of_le (by rw [List.length_map]; exact hlp)]
                rfl
              obtain rfl := HE.out
              have HSA := Lib.hid (show Stp wr wd rg wg n vk vk from Stp.of HFD.out)
              go_wp2
              go_loopg [58] 0 (fun _ c wx => c = .int .i64 0 ∧ wd = wx)
              case atStart => exact ⟨rfl, rfl⟩
              case round =>
                obtain ⟨rfl, rfl⟩ := hrel
                go_upto_region 15 with fail
                have q1 := cell_of_row _ _ 1 _ _ _ HRD.out.hdr
                have x0 := cell_of_row _ _ 0 _ _ _ HXD.out
                obtain ⟨ra2, hra2, hra2s, hra2c⟩ := HRD.out.rks
                have r0 : wd.cell? ⟨rg, x1, none⟩ = some (.int .i64 (sk.rk x1)) := by rw [cell_of_row _ _ _ _ _ _ hra2]; exact hra2c x1 hx1
                have f0 := frozen_of_row _ _ x1 _ _ hra2
                clear hra2 hra2s hra2c
                go_cut [] (fun wx => Hid (RkAt wx base g rg wg n (.slice (some ⟨gn, off, none⟩) n cap) ⟨upd sk.rk x1 rank, sk.wt⟩ vk) ∧ Hid (Stp wd wx rg wg n vk vk))
                case first =>
                  go_region_law (fail)
                  all_goals
                    go_wp2_with fail
                    go_meet
                    first
                      | exact ⟨Lib.hid (ranked (HRD.out.up (fr_drewX (Fr.refl _ _))) hx1 rank).1, Lib.hid ((Stp.of (fr_drewX (Fr.refl _ _))).trans (ranked (HRD.out.up (fr_drewX (Fr.refl _ _))) hx1 rank).2)⟩
                      | exact ⟨Lib.hid ((ranked HRD.out hx1 rank).1.up (fr_drewX (Fr.refl _ _))), Lib.hid ((ranked HRD.out hx1 rank).2.trans (Stp.of (fr_drewX (Fr.refl _ _))))⟩
                      | exact ⟨Lib.hid (ranked HRD.out hx1 rank).1, Lib.hid (ranked HRD.out hx1 rank).2⟩
                case rest =>
                  obtain ⟨HR4, HS4⟩ := hcut
                  have hx4 := HS4.out.at HXD.out HXN.out.1 HXN.out.2.1 HXN.out.2.2
                  have x0' := cell_of_row _ _ 0 _ _ _ hx4
                  have HSC := Lib.hid (HSA.out.trans HS4.out)
                  have hfo : Fr _ wc (fun b => u7.ownBlock = some b) := HSC.out.fr.mono (fun b _ hb => HFB.out b hb)
                  have ho4 := ownsRow_fr HO.out hfo (fun b hb => hb)
                  have HO4 := Lib.hid ho4
                  have HSZ : Hid (W.heap.size ≤ wc.heap.size) := Nat.le_trans HST.out.fr.size HSC.out.fr.size
                  clear q1 x0 r0 f0 hx4 hfo ho4
                  go_wp2_with (at_builtin; refine wpList_append_own_at _ rfl _ _ 28 rfl W.heap.size 3 i3 _ 1 8 Tryd.underlying28 hi3 hz3 hs3 hb3 rfl (by decide) _ fk.length _ rfl (HO4.out.alloc _) ⟨wc.heap.size, 0, none⟩ 1 1 [.int .i64 (x1 : Nat)] rfl rfl (cell_one_new _ _ _) (by simp [Value.oneCell']) (by have := HT.out; unfold maxLen; omega) (by have := HT.out; omega) (by have := HSZ.out; simp; omega) ?_; intro v' w5 hown5 hg5 _ hv5)
                  have HF5 := Lib.hid (found_fin HR4.out (HST.out.trans HSC.out) (fun b hb => ⟨HSC.out.no (HO.out.lt b hb).2 (HNO.out b hb), (HO.out.lt b hb).1, Nat.lt_of_lt_of_le (HO.out.lt b hb).2 HSC.out.fr.size⟩) HH.out.hb hg5 hv5)
                  have HO5 := Lib.hid hown5
                  clear hown5 hg5 hv5
                  go_wp2
                  go_roundg (l.length - (k + 1))
                  case measure => have := HG.out; omega
                  case rel => exact ⟨k + 1, ⟨upd sk.rk x1 rank, sk.wt⟩, fk ++ [x1], vk, by omega, by go_num, Lib.hid (by rw [HQ.out, HD.out, round_t HGO.out]), Lib.hid ⟨by have h1 := HT.out; have h2 := HG.out; have h3 : tot n sk ≤ tot n sk + 20 := HGT.out; have h4 : tot n ⟨upd sk.rk x1 rank, sk.wt⟩ = tot n sk := rfl; omega, by have := HT.out; rw [List.length_append]; simp; omega⟩, Lib.hid HF5.out.1, Lib.hid HF5.out.2.1, Lib.hid (by have := HO5.out; rw [List.length_append, List.map_append]; exact this), Lib.hid HF5.out.2.2⟩
            · obtain ⟨m, hm⟩ : ∃ m, nd.fs.length - x2 = m := ⟨_, rfl⟩
              have HMM := Lib.hid hm
              have hmw : m ≤ 1000 := by omega
              clear hm
              go_wp2
              rw [HMM.out]
              have hSF : 0 < m → ∃ gb ofb, Option.map (fun x => x.add (x2 * 5)) Afs = some ⟨gb, ofb, none⟩ ∧ Far base g rg wg gb ∧ ∀ (i j : Nat), x2 + i < nd.fs.length → j < 5 → wd.cell? ⟨gb, ofb + (5 * i + j), none⟩ = some (cq (x2 + i) j) := fun h0 => by
                obtain ⟨gb, ofb, rfl, hf, hc⟩ := HQC.out (by have := HMM.out; omega)
                exact ⟨gb, ofb + x2 * 5, by simp [addr_add], hf, fun i j hi hj => by have := hc (x2 + i) j hi hj; rwa [show ofb + (5 * (x2 + i) + j) = ofb + x2 * 5 + (5 * i + j) by omega] at this⟩
              generalize Option.map (fun x => x.add (x2 * 5)) Afs = SF at *
              have HSF := Lib.hid hSF
              clear hSF
              have HFW := Lib.hid (show ∀ wx vx, Stp wr wx rg wg n vk vx → Fr wr wx (Far base g rg wg) from fun wx vx h => far_stp HR.out h)
              have HQW := Lib.hid (show ∀ b, b < wr.heap.size → b < wd.heap.size from fun b hb => Nat.lt_of_lt_of_le hb HFD.out.size)
              go_loopg [58] m (fun gh c w2 => ∃ (j : Nat) (v2 : Nat → Value), j + gh = m ∧ c = .int .i64 (j : Int) ∧ Hid (R = allM n rank x1 (x2 + j) (((nd.fs.map (·.ty)).drop x2).drop j) sk) ∧ Hid (RkAt w2 base g rg wg n (.slice (some ⟨gn, off, none⟩) n cap) sk v2) ∧ Hid (Stp wd w2 rg wg n vk v2) ∧ Hid (w2.heap[wr.heap.size]? = some (.cells #[.int .i64 (x1 : Nat), .int .i64 (x2 : Nat)] 79 (0, 0))))
              case atStart => exact ⟨0, vk, by omega, rfl, Lib.hid HRR.out.symm, HRD, Lib.hid (Stp.refl _ _ _ _ _), HXD⟩
              case round =>
                obtain ⟨j, v2, hg2, rfl, HQ2, HRX, HSX, HXX⟩ := hrel
                have HG2 := Lib.hid hg2
                clear hg2 x0 x1c
                have x0 := cell_of_row _ _ 0 _ _ _ HXX.out
                have x1c := cell_of_row _ _ 1 _ _ _ HXX.out
                by_cases hlt2 : j < m
                · have hjl : x2 + j < nd.fs.length := by have := HMM.out; omega
                  obtain ⟨f, hfk⟩ : ∃ f, nd.fs[x2 + j]? = some f := ⟨_, List.getElem?_eq_getElem hjl⟩
                  have hF := HQ1.out _ f hfk
                  obtain ⟨gb, ofb, rfl, hfar2, hcb⟩ := HSF.out (by omega)
                  have hfw : Fr wd wr (Far base g rg wg) := far_stp HRD.out HSX.out
                  have y0 := hfw.cell (hcb j 0 hjl (by omega)) hfar2
                  have y1 := hfw.cell (hcb j 1 hjl (by omega)) hfar2
                  have y2 := hfw.cell (hcb j 2 hjl (by omega)) hfar2
                  have y3 := hfw.cell (hcb j 3 hjl (by omega)) hfar2
                  have y4 := hfw.cell (hcb j 4 hjl (by omega)) hfar2
                  rw [show ofb + (5 * j + 0) = ofb + j * 5 by omega] at y0
                  rw [show ofb + (5 * j + 1) = ofb + j * 5 + 1 by omega] at y1
                  rw [show ofb + (5 * j + 2) = ofb + j * 5 + 2 by omega] at y2
                  rw [show ofb + (5 * j + 3) = ofb + j * 5 + 3 by omega] at y3
                  rw [show ofb + (5 * j + 4) = ofb + j * 5 + 4 by omega] at y4
                  obtain ⟨Afa, cfa, hfae, _⟩ := hF.al
                  rw [hF.name] at y0
                  rw [hfae] at y1
                  rw [hF.ty] at y2
                  rw [hF.has] at y3
                  rw [hF.dflt] at y4
                  have HDJ : Hid (((nd.fs.map (·.ty)).drop x2).drop j = f.ty :: ((nd.fs.map (·.ty)).drop x2).drop (j + 1)) := Lib.hid (by
                    rw [List.drop_eq_getElem?_toList_append, List.getElem?_drop, List.getElem?_map, hfk]; rfl)
                  clear hfae hfk hcb hfw hF
                  have hpk : IntKind.i64.wrap ((x2 : Int) + (j : Int)) = ((x2 + j : Nat) : Int) := by rw [IntWalk.i64_in _ (by omega)]; omega
                  go_upto_region 13 with fail
                  have hfx2 : Fr wr (wr.alloc (.cells #[.string f.name, .slice Afa f.al.length cfa, .int .i64 f.ty, .bool f.has, .string f.dflt] 60)) (fun _ => True) := fr_allocX (Fr.refl _ _)
                  have hF2 : (wr.alloc (.cells #[.string f.name, .slice Afa f.al.length cfa, .int .i64 f.ty, .bool f.has, .string f.dflt] 60)).heap[wr.heap.size]? = some (.cells #[.string f.name, .slice Afa f.al.length cfa, .int .i64 f.ty, .bool f.has, .string f.dflt] 60 (0, 0)) := new_at rfl _
                  generalize wr.alloc (.cells #[.string f.name, .slice Afa f.al.length cfa, .int .i64 f.ty, .bool f.has, .string f.dflt] 60) = we at *
                  have u2 := cell_of_row _ _ 2 _ _ _ hF2
                  have x0' := hfx2.cell x0 trivial
                  have x1' := hfx2.cell x1c trivial
                  have HXE := Lib.hid (hfx2.at HXX.out trivial)
                  have HSE := Lib.hid (HSX.out.trans (Stp.of hfx2))
                  have hcall := asked_any we base g rg wg n (some ⟨gn, off, none⟩) cap sk v2 (HRX.out.up hfx2) hn f.ty rank (x1, x2 + j) (fun i hi => Nat.le_trans (wt_le_tot hi) (by have := HT.out; omega))
                  obtain ⟨r2, hr2⟩ : ∃ r2, askM n rank (x1, x2 + j) f.ty sk = r2 := ⟨_, rfl⟩
                  rw [hr2] at hcall
                  have HR2E := Lib.hid hr2
                  clear hr2 hF2 hfx2 x0 x1c
                  obtain ⟨b2, s2⟩ := r2
                  simp only at hcall
                  go_wp2_with fail
                  refine hcall.mono ?_
                  rintro e w3 ⟨rfl, v3, hR3, hS3⟩
                  have HR3 := Lib.hid hR3
                  have HS3 := Lib.hid (HSE.out.trans hS3)
                  have HX3 := Lib.hid (hS3.at HXE.out HXN.out.1 HXN.out.2.1 (HSE.out.no (blk_lt HXD.out) HXN.out.2.2))
                  clear hcall hR3 hS3
                  cases b2 with
                  | true =>
                    have hs2 : s2 = sk := by
                      have := (ask_yes (n := n) (rank := rank) (x := (x1, x2 + j)) (a := f.ty) (s := sk) (by rw [HR2E.out])).2
                      rw [HR2E.out] at this
                      exact this
                    subst hs2
                    go_wp2
                    go_roundg (m - (j + 1))
                    case measure => have := HG2.out; omega
                    case rel => exact ⟨j + 1, v3, by omega, by go_num, Lib.hid (by rw [HQ2.out, HDJ.out, allM, HR2E.out]; rfl), HR3, HS3, HX3⟩
                  | false =>
                    have hRf : R = (false, s2) := by rw [HQ2.out, HDJ.out, allM, HR2E.out]; rfl
                    subst hRf
                    have HSA := Lib.hid ((Stp.of HFD.out).trans HS3.out)
                    have HR2 := HR3
                    go_wp2
                    go_roundg (l.length - (k + 1))
                    case measure => have := HG.out; omega
                    case rel => exact ⟨k + 1, s2, fk, v3, by omega, by go_num, Lib.hid (by rw [HQ.out, HD.out, round_f HGO.out]), Lib.hid ⟨by have h1 := HT.out; have h2 := HG.out; have h3 : tot n s2 ≤ tot n sk + 20 := HGT.out; omega, by have := HT.out; omega⟩, HR2, Lib.hid (HST.out.trans HSA.out), Lib.hid (ownsRow_fr HO.out (HSA.out.fr.mono (fun b _ hb => HFB.out b hb)) (fun b hb => hb)), Lib.hid (fun b hb => HSA.out.no (HO.out.lt b hb).2 (HNO.out b hb))⟩
                · have hk2 : m = j := by have := HG2.out; omega
                  have HK2 := Lib.hid hk2
                  clear hk2
                  have hRt : Hid (R = (true, sk)) := Lib.hid (by rw [HQ2.out, List.drop_eq_nil_of_le (by rw [List.length_drop, List.length_map, HMM.out, HK2.out]; exact Nat.le_refl _)]; rfl)
                  obtain rfl := hRt.out
                  have HX2 := HXX
                  have HR2 := HRX
                  have HNX := Lib.hid (And.intro HXN.out.1 (And.intro HXN.out.2.1 (HSX.out.no (blk_lt HXD.out) HXN.out.2.2)))
                  have HSA := Lib.hid ((Stp.of HFD.out).trans HSX.out)
                  clear x0 x1c
                  go_upto_region 15 with fail
                  have q1 := cell_of_row _ _ 1 _ _ _ HR2.out.hdr
                  have x0 := cell_of_row _ _ 0 _ _ _ HX2.out
                  obtain ⟨ra2, hra2, hra2s, hra2c⟩ := HR2.out.rks
                  have r0 : wr.cell? ⟨rg, x1, none⟩ = some (.int .i64 (sk.rk x1)) := by rw [cell_of_row _ _ _ _ _ _ hra2]; exact hra2c x1 hx1
                  have f0 := frozen_of_row _ _ x1 _ _ hra2
                  clear hra2 hra2s hra2c
                  go_cut [] (fun wx => Hid (RkAt wx base g rg wg n (.slice (some ⟨gn, off, none⟩) n cap) ⟨upd sk.rk x1 rank, sk.wt⟩ v2) ∧ Hid (Stp wr wx rg wg n v2 v2))
                  case first =>
                    go_region_law (fail)
                    all_goals
                      go_wp2_with fail
                      go_meet
                      first
                        | exact ⟨Lib.hid (ranked (HR2.out.up (fr_drewX (Fr.refl _ _))) hx1 rank).1, Lib.hid ((Stp.of (fr_drewX (Fr.refl _ _))).trans (ranked (HR2.out.up (fr_drewX (Fr.refl _ _))) hx1 rank).2)⟩
                        | exact ⟨Lib.hid ((ranked HR2.out hx1 rank).1.up (fr_drewX (Fr.refl _ _))), Lib.hid ((ranked HR2.out hx1 rank).2.trans (Stp.of (fr_drewX (Fr.refl _ _))))⟩
                        | exact ⟨Lib.hid (ranked HR2.out hx1 rank).1, Lib.hid (ranked HR2.out hx1 rank).2⟩
                  case rest =>
                    obtain ⟨HR4, HS4⟩ := hcut
                    have hx4 := HS4.out.at HX2.out HNX.out.1 HNX.out.2.1 HNX.out.2.2
                    have x0' := cell_of_row _ _ 0 _ _ _ hx4
                    have HSC := Lib.hid (HSA.out.trans HS4.out)
                    have hfo : Fr _ wc (fun b => u7.ownBlock = some b) := HSC.out.fr.mono (fun b _ hb => HFB.out b hb)
                    have ho4 := ownsRow_fr HO.out hfo (fun b hb => hb)
                    have HO4 := Lib.hid ho4
                    have HSZ : Hid (W.heap.size ≤ wc.heap.size) := Nat.le_trans HST.out.fr.size HSC.out.fr.size
                    clear q1 x0 r0 f0 hx4 hfo ho4
                    go_wp2_with (at_builtin; refine wpList_append_own_at _ rfl _ _ 28 rfl W.heap.size 3 i3 _ 1 8 Tryd.underlying28 hi3 hz3 hs3 hb3 rfl (by decide) _ fk.length _ rfl (HO4.out.alloc _) ⟨wc.heap.size, 0, none⟩ 1 1 [.int .i64 (x1 : Nat)] rfl rfl (cell_one_new _ _ _) (by simp [Value.oneCell']) (by have := HT.out; unfold maxLen; omega) (by have := HT.out; omega) (by have := HSZ.out; simp; omega) ?_; intro v' w5 hown5 hg5 _ hv5)
                    have HF5 := Lib.hid (found_fin HR4.out (HST.out.trans HSC.out) (fun b hb => ⟨HSC.out.no (HO.out.lt b hb).2 (HNO.out b hb), (HO.out.lt b hb).1, Nat.lt_of_lt_of_le (HO.out.lt b hb).2 HSC.out.fr.size⟩) HH.out.hb hg5 hv5)
                    have HO5 := Lib.hid hown5
                    clear hown5 hg5 hv5
                    go_wp2
                    go_roundg (l.length - (k + 1))
                    case measure => have := HG.out; omega
                    case rel => exact ⟨k + 1, ⟨upd sk.rk x1 rank, sk.wt⟩, fk ++ [x1], v2, by omega, by go_num, Lib.hid (by rw [HQ.out, HD.out, round_t HGO.out]), Lib.hid ⟨by have h1 := HT.out; have h2 := HG.out; have h3 : tot n sk ≤ tot n sk + 20 := HGT.out; have h4 : tot n ⟨upd sk.rk x1 rank, sk.wt⟩ = tot n sk := rfl; omega, by have := HT.out; rw [List.length_append]; simp; omega⟩, Lib.hid HF5.out.1, Lib.hid HF5.out.2.1, Lib.hid (by have := HO5.out; rw [List.length_append, List.map_append]; exact this), Lib.hid HF5.out.2.2⟩
        · have HGO := Lib.hid (show goM n (nsF ns) rank (x1, x2) sk = (false, sk) by unfold goM; rw [if_pos]; rw [HVV.out]; exact hnv)
          go_upto_region 6 with fail
          go_quiet (fail)
          go_wp2
          go_roundg (l.length - (k + 1))
          case measure => have := HG.out; omega
          case rel =>
            have hfd : Fr wr (wc.drewN nq) (fun _ => True) := HFC.out.drewN nq
            exact ⟨k + 1, sk, fk, vk, by omega, by go_num, Lib.hid (by rw [HQ.out, HD.out, round_f HGO.out]), Lib.hid ⟨by have := HT.out; have := HG.out; omega, by have := HT.out; omega⟩, Lib.hid (HR.out.up hfd), Lib.hid (HST.out.trans (Stp.of hfd)), Lib.hid (ownsRow_fr HO.out hfd (fun _ _ => trivial)), HNO⟩
    · have hk : l.length = k := by have := HG.out; omega
      have hM : M = (sk, fk) := by rw [HQ.out, List.drop_eq_nil_of_le (by omega)]; rfl
      have HMM := Lib.hid hM
      have hfn := HFN.out
      have hwb := HWB.out
      rw [hM] at hfn hwb
      simp only at hfn hwb
      have hcall := woken_any wr base g rg wg n (.slice A n cap) sk vk HR.out hn fk u7 (own_intsL HO.out rfl (fun i hi => by have := hfn i hi; omega)) (fun b hb => (HO.out.lt b hb).2) hfn (by have := HT.out; omega) hwb (fun i hi => Nat.le_trans (wt_le_tot hi) (by have := HT.out; omega))
      clear hM hfn hwb
      go_wp2_with fail
      refine hcall.mono ?_
      rintro e w2 ⟨v, rfl, hown, hf⟩
      have HO2 := Lib.hid hown
      have HF2 := Lib.hid hf
      clear hcall hown hf
      go_wp2
      rw [Exit.noGoto_ret]
      go_ret
      rw [HMM.out]
      exact ⟨vk, v, rfl, HR.out.up HF2.out, HST.out.trans (Stp.of HF2.out), own_low HO2.out HST.out.fr.size, fun b hb hr => by have h1 := (HR.out.row_lt hr).2; have h2 := (HO2.out.lt b hb).1; omega⟩
end Go.Proofs.YtpajccehkcgoaaaDoor
