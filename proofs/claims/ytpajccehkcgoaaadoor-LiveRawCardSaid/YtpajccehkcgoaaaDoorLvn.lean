/-
  'ranks': of the nodes of a schema.
-/
import Derived.Test.YtpajccehkcgoaaaDoorLvr
import Derived.Deep.OwnRows
namespace Go.Proofs.YtpajccehkcgoaaaDoor
open Go.RowKit Go.Shelf Lv

theorem infoRow : (Tryd.prog.info? 77).map (fun i => (i.zero, i.size, i.bytes)) = some (some (.slice none 0 0), 1, 24) := by kernel_rfl
theorem strs_monoL {w : World} {ok ok' : Nat → Prop} (hk : ∀ b, ok b → ok' b) {ss : List ByteArray} {v : Value} (h : StrsAt w ok ss v) : StrsAt w ok' ss v := by
  obtain ⟨A, cap, h1, h2, h3, h4, h5⟩ := h
  exact ⟨A, cap, h1, h2, h3, h4, fun hp => by obtain ⟨g, off, e, hg, hc⟩ := h5 hp; exact ⟨g, off, e, hk g hg, hc⟩⟩
theorem ints_monoL {w : World} {ok ok' : Nat → Prop} {xs : List Int} {v : Value} (h : IntsAt w ok xs v) (hk : ∀ b, ok b → ok' b) : IntsAt w ok' xs v := by
  obtain ⟨A, cap, e, h1, h2, h3, h4⟩ := h
  exact ⟨A, cap, e, h1, h2, h3, fun hp => by obtain ⟨g, off, e, hg, hc⟩ := h4 hp; exact ⟨g, off, e, hk g hg, hc⟩⟩
theorem rows_monoL {α : Type} {k : Nat} {one one' : α → (Nat → Value) → Prop} {w : World} {ok ok' : Nat → Prop} (hk : ∀ b, ok b → ok' b) (ho : ∀ x c, one x c → one' x c) {xs : List α} {v : Value} (h : RowsAt k one w ok xs v) : RowsAt k one' w ok' xs v := by
  obtain ⟨A, cap, c, h1, h2, h3, h4, h5⟩ := h
  exact ⟨A, cap, c, h1, h2, h3, fun hp => by obtain ⟨g, off, e, hg, hc⟩ := h4 hp; exact ⟨g, off, e, hk g hg, hc⟩, fun i x hx => ho x _ (h5 i x hx)⟩
theorem nds_monoL {w : World} {ok ok' : Nat → Prop} {ns : List Nd} {v : Value} (h : NdsAt w ok ns v) (hk : ∀ b, ok b → ok' b) : NdsAt w ok' ns v :=
  rows_monoL hk (fun _ _ hx => ⟨hx.kind, hx.name, strs_monoL hk hx.al, rows_monoL hk (fun _ _ hf => ⟨hf.name, strs_monoL hk hf.al, hf.ty, hf.has, hf.dflt, hf.tyw, hf.namel, hf.dfltl⟩) hx.fs, strs_monoL hk hx.sy, hx.has, hx.dflt, hx.items, ints_monoL hx.br hk, hx.size, hx.kindw, hx.itemsw, hx.sizew, hx.namel, hx.dfltl⟩) h
theorem made_at (z : Value) (n : Nat) : (madeCells #[z] n).size = n ∧ ∀ i, i < n → (madeCells #[z] n)[i]? = some z := by
  refine ⟨size_madeCells _ _, fun i hi => ?_⟩
  have := toList_madeCells_one z n
  rw [← Array.getElem?_toList, this, List.getElem?_replicate, if_pos hi]
theorem rk_start {w : World} {g rg wg n : Nat} {nsv : Value} (h1 : w.heap[g]? = some (.cells #[nsv, .slice (some ⟨rg, 0, none⟩) n n, .slice (some ⟨wg, 0, none⟩) n n] 76 (0, 0))) (h2 : w.heap[rg]? = some (.cells (madeCells #[.int .i64 0] n) 3 (0, 0))) (h3 : w.heap[wg]? = some (.cells (madeCells #[.slice none 0 0] n) 77 (0, 0)))
    (hne : g ≠ rg ∧ g ≠ wg ∧ rg ≠ wg) (m : Nat → N) : RkAt w w.heap.size g rg wg n nsv (s0 n m 0) (fun _ => .slice none 0 0) :=
  ⟨h1, ⟨_, h2, (made_at _ n).1, fun i hi => by rw [(made_at _ n).2 i hi]; simp [s0]⟩, ⟨_, h3, (made_at _ n).1, fun i hi => (made_at _ n).2 i hi⟩, fun i hi => World.ownsRow_nil _ _ _ _, fun i j _ _ _ b hb => (by cases hb), ⟨blk_lt h1, blk_lt h2, blk_lt h3, hne.1, hne.2.1, hne.2.2⟩, Nat.le_refl _⟩
theorem s0_next (n : Nat) (m : Nat → N) (k : Nat) : s0 n m (k + 1) = ⟨upd (s0 n m k).rk k (rk0 (m k)), (s0 n m k).wt⟩ := by
  unfold s0
  congr 1
  funext i
  by_cases e : i = k
  · subst e
    rw [upd_same, if_pos (by omega)]
  · rw [upd_ne _ _ e]
    by_cases h : i < k
    · simp only [if_pos h, if_pos (show i < k + 1 by omega)]
    · simp only [if_neg h, if_neg (show ¬ i < k + 1 by omega)]
theorem s0_same (n : Nat) (m : Nat → N) (k : Nat) (h : rk0 (m k) = 0) : s0 n m (k + 1) = s0 n m k := by
  rw [s0_next, h]
  unfold s0
  congr 1
  funext i
  by_cases e : i = k
  · subst e
    rw [upd_same, if_neg (by omega)]
  · rw [upd_ne _ _ e]
theorem rows_nilV (n : Nat) (b : Nat) : ¬ RowOf n (fun _ => Value.slice none 0 0) b := fun ⟨i, _, e⟩ => by cases e
/-- What stands behind 'make', 'make' and the one that finds ranks, in either order. -/
def Begun (W0 : World) (n : Nat) (nsv : Value) (m : Nat → N) (p : Value) (wx : World) : Prop :=
  ∃ g rg wg, p = .pointer (some ⟨g, 0, none⟩) ∧ Hid (RkAt wx wx.heap.size g rg wg n nsv (s0 n m 0) (fun _ => .slice none 0 0)) ∧ Hid (W0.heap.size ≤ g ∧ W0.heap.size ≤ rg ∧ W0.heap.size ≤ wg) ∧ Fr W0 wx (fun _ => True)
theorem start1 (W0 : World) (n : Nat) (nsv : Value) (m : Nat → N) : Begun W0 n nsv m (.pointer (some ⟨W0.heap.size + 1 + 1, 0, none⟩)) (((W0.alloc (.cells (madeCells #[.int .i64 0] n) 3)).alloc (.cells (madeCells #[.slice none 0 0] n) 77)).alloc (.cells #[nsv, .slice (some ⟨W0.heap.size, 0, none⟩) n n, .slice (some ⟨W0.heap.size + 1, 0, none⟩) n n] 76)).drew :=
  ⟨W0.heap.size + 1 + 1, W0.heap.size, W0.heap.size + 1, rfl, Lib.hid (rk_start (w := World.drew _) (new_at (by simp) _) (old_at _ (old_at _ (new_at rfl _))) (old_at _ (new_at (by simp) _)) (by omega) m), Lib.hid (by omega), fr_drewX (fr_allocX (fr_allocX (fr_allocX (Fr.refl _ _))))⟩
theorem start2 (W0 : World) (n : Nat) (nsv : Value) (m : Nat → N) : Begun W0 n nsv m (.pointer (some ⟨W0.heap.size + 1 + 1, 0, none⟩)) (((W0.alloc (.cells (madeCells #[.slice none 0 0] n) 77)).alloc (.cells (madeCells #[.int .i64 0] n) 3)).alloc (.cells #[nsv, .slice (some ⟨W0.heap.size + 1, 0, none⟩) n n, .slice (some ⟨W0.heap.size, 0, none⟩) n n] 76)).drew :=
  ⟨W0.heap.size + 1 + 1, W0.heap.size + 1, W0.heap.size, rfl, Lib.hid (rk_start (w := World.drew _) (new_at (by simp) _) (old_at _ (new_at (by simp) _)) (old_at _ (old_at _ (new_at rfl _))) (by omega) m), Lib.hid (by omega), fr_drewX (fr_allocX (fr_allocX (fr_allocX (Fr.refl _ _))))⟩
theorem row_frK {w w3 : World} {row : Option Nat} (hg : w.grownBy w3 row) : Fr w w3 (fun b => row ≠ some b) := Fr.of hg (fun b _ hb e => hb e.symm)
/-- An append onto a row that came behind W leaves all that was there in W. -/
theorem row_frB {W wr w3 : World} {e : TypeId} {sz k B : Nat} {v : Value} {xs : List Value} (h : wr.ownsRow B e sz v k xs) (hf : Fr W wr (fun _ => True)) (hB : W.heap.size ≤ B) (hg : wr.grownBy w3 v.ownBlock) : Fr W w3 (fun _ => True) :=
  below_fr0 ((fr_below hf).trans (gset_belowL hg (fun r e => Nat.le_trans hB (h.lt r e).1) hf.size))
theorem one_step (w : World) (a b : Nat) : StepsAt (w.alloc (.cells #[.int .i64 (a : Nat), .int .i64 (b : Nat)] 79)) (fun _ => True) [(a, b)] (.slice (some ⟨w.heap.size, 0, none⟩) 1 1) :=
  ⟨_, 1, rfl, Nat.le_refl _, by unfold maxLen; omega, fun _ => ⟨_, rfl, trivial, fun j u hu => by
    have h := World.news_of_block (new_at (W := w) rfl (.cells #[.int .i64 (a : Nat), .int .i64 (b : Nat)] 79)) j u (by simpa [tk] using hu)
    rwa [addr_addB, Nat.zero_add] at h⟩⟩
theorem one_step0 (w : World) (a : Nat) : StepsAt (w.alloc (.cells #[.int .i64 (a : Nat), .int .i64 0] 79)) (fun _ => True) [(a, 0)] (.slice (some ⟨w.heap.size, 0, none⟩) 1 1) := one_step w a 0
/-- What 'ranks' answers: of each node whether it has one. -/
def RanksP (W : World) (n : Nat) (m : Nat → N) : Ending → World → Prop := fun e w' =>
  ∃ (rg : Nat) (f : Nat → Int) (a : Array Value), e = .returned (.slice (some ⟨rg, 0, none⟩) n n) ∧ W.heap.size ≤ rg ∧ w'.heap[rg]? = some (.cells a 3 (0, 0)) ∧ a.size = n ∧ (∀ i, i < n → a[i]? = some (.int .i64 (f i))) ∧ (∀ i, i < n → (f i ≠ Lv.nv ↔ Live n m i)) ∧ Fr W w' (fun _ => True)
set_option maxRecDepth 100000 in
set_option maxHeartbeats 8000000 in
theorem ranks_any (W : World) (ns : List Nd) (nsv : Value) (hns : NdsAt W (fun b => b < W.heap.size) ns nsv) (hn : ns.length ≤ 40) (hlens : ∀ i, (nsF ns i).br.length ≤ 20 ∧ (nsF ns i).ft.length ≤ 20) :
    Calls Tryd.prog 15 #[.agg #[nsv]] W (RanksP W ns.length (nsF ns)) := by
  obtain ⟨A, cap, cc, rfl, hc1, hc2, hc3, hc4⟩ := id hns
  unfold maxLen at hc2
  have hmk1 := run_make_row' (P := Tryd.prog) 28 3 (.int .i64 0) 8 Tryd.underlying28 info3L rfl .i64 .i64 ns.length (by omega) (by omega)
  have hmk2 := run_make_row' (P := Tryd.prog) 74 77 (.slice none 0 0) 24 Tryd.underlying74 infoRow rfl .i64 .i64 ns.length (by omega) (by omega)
  have hf0 : Fr W (W.alloc (.cells #[.slice A ns.length cap] 24)) (fun _ => True) := fr_allocX (Fr.refl _ _)
  have hb : (W.alloc (.cells #[.slice A ns.length cap] 24)).heap[W.heap.size]? = some (.cells #[.slice A ns.length cap] 24 (0, 0)) := new_at rfl _
  have HNS := Lib.hid hns
  have HLEN := Lib.hid hlens
  obtain ⟨n, hnn⟩ : ∃ n, ns.length = n := ⟨_, rfl⟩
  rw [hnn] at hmk1 hmk2 hn hf0 hb hc1 hc3 HNS ⊢
  have HNL := Lib.hid hnn
  have HC3 := Lib.hid hc3
  have HC4 := Lib.hid hc4
  clear hns hlens hnn hc3 hc4
  go_enter Tryd.func15, Tryd.ntmps15
  go_upto_region 1 with fail
  generalize W.alloc (.cells #[.slice A n cap] 24) = W0 at *
  have HF0 := Lib.hid hf0
  have HB := Lib.hid hb
  have b0 := cell_of_row _ _ 0 _ _ _ hb
  have b0a := fun o => (fr_allocX (o := o) (Fr.refl W0 _)).cell b0 trivial
  have b0b := fun o o' => (fr_allocX (o := o') (fr_allocX (o := o) (Fr.refl W0 _))).cell b0 trivial
  clear hf0 hb
  go_cut [3] (fun p wx => Begun W0 n (.slice A n cap) (nsF ns) p wx)
  case first =>
    go_region_law (fail)
    all_goals
      go_wp2_with fail
      go_meet
      first
        | exact start1 W0 n _ _
        | exact start2 W0 n _ _
  case rest =>
    obtain ⟨g, rg, wg, rfl, HR0, HLO, hfc⟩ := hcut
    have HFC := Lib.hid (HF0.out.trans hfc)
    have b0 := hfc.cell b0 trivial
    clear b0a b0b hfc hmk1 hmk2
    obtain ⟨B, hB⟩ : ∃ B, wc.heap.size = B := ⟨_, rfl⟩
    rw [hB] at HR0
    have HBB := Lib.hid hB
    clear hB
    go_wp2
    go_loopg [4, 23] n (fun gh sv c wr => ∃ k : Nat, k + gh = n ∧ c = .int .i64 (k : Int) ∧ Hid (RkAt wr B g rg wg n (.slice A n cap) (s0 n (nsF ns) k) (fun _ => .slice none 0 0)) ∧ Hid (Fr W wr (fun _ => True)) ∧ Hid (wr.ownsRow B 79 2 sv (steps0 (nsF ns) k).length (tk (steps0 (nsF ns) k))))
    case atStart => exact ⟨0, by omega, rfl, HR0, HFC, Lib.hid (World.ownsRow_nil _ _ _ _)⟩
    case round =>
      obtain ⟨k, hg, rfl, HR, HFW, HO⟩ := hrel
      have HG := Lib.hid hg
      clear hg
      by_cases hlt : k < n
      · obtain ⟨nd, hnd⟩ : ∃ nd, ns[k]? = some nd := ⟨_, List.getElem?_eq_getElem (by rw [HNL.out]; exact hlt)⟩
        have HN := Lib.hid (HC4.out k nd hnd)
        obtain ⟨gn, off, rfl, hgn, hcz⟩ := HC3.out (by omega)
        have HND := Lib.hid (show nsF ns k = toN nd by unfold nsF; rw [List.getD_eq_getElem?_getD, hnd]; rfl)
        have HZ := Lib.hid (fun j hj => hcz k j hlt hj)
        clear hcz hnd hgn b0
        have z0 := HFW.out.cell (HZ.out 0 (by omega)) trivial
        rw [show off + (10 * k + 0) = off + k * 10 by omega] at z0
        have z1 := HFW.out.cell (HZ.out 1 (by omega)) trivial
        rw [show off + (10 * k + 1) = off + k * 10 + 1 by omega] at z1
        have z2 := HFW.out.cell (HZ.out 2 (by omega)) trivial
        rw [show off + (10 * k + 2) = off + k * 10 + 2 by omega] at z2
        have z3 := HFW.out.cell (HZ.out 3 (by omega)) trivial
        rw [show off + (10 * k + 3) = off + k * 10 + 3 by omega] at z3
        have z4 := HFW.out.cell (HZ.out 4 (by omega)) trivial
        rw [show off + (10 * k + 4) = off + k * 10 + 4 by omega] at z4
        have z5 := HFW.out.cell (HZ.out 5 (by omega)) trivial
        rw [show off + (10 * k + 5) = off + k * 10 + 5 by omega] at z5
        have z6 := HFW.out.cell (HZ.out 6 (by omega)) trivial
        rw [show off + (10 * k + 6) = off + k * 10 + 6 by omega] at z6
        have z7 := HFW.out.cell (HZ.out 7 (by omega)) trivial
        rw [show off + (10 * k + 7) = off + k * 10 + 7 by omega] at z7
        have z8 := HFW.out.cell (HZ.out 8 (by omega)) trivial
        rw [show off + (10 * k + 8) = off + k * 10 + 8 by omega] at z8
        have z9 := HFW.out.cell (HZ.out 9 (by omega)) trivial
        rw [show off + (10 * k + 9) = off + k * 10 + 9 by omega] at z9
        obtain ⟨Afs, cfs, ccf, hfe, _⟩ := HN.out.fs
        obtain ⟨Abr, cbr, hbe, _⟩ := HN.out.br
        obtain ⟨Aal, cal, hale, _⟩ := HN.out.al
        obtain ⟨Asy, csy, hsye, _⟩ := HN.out.sy
        obtain ⟨kd, hkd⟩ : ∃ kd, nd.kind = kd := ⟨_, rfl⟩
        have HKD := Lib.hid (show (nsF ns k).k = kd by rw [HND.out]; exact hkd)
        rw [HN.out.kind, hkd] at z0
        rw [HN.out.name] at z1
        rw [hale] at z2
        rw [hfe] at z3
        rw [hsye] at z4
        rw [HN.out.has] at z5
        rw [HN.out.dflt] at z6
        rw [HN.out.items] at z7
        rw [hbe] at z8
        rw [HN.out.size] at z9
        clear hale hsye hfe hbe hkd
        go_upto_region 6 with fail
        have hfx : Fr wr (wr.alloc (.cells #[.int .i64 kd, .string nd.name, .slice Aal nd.al.length cal, .slice Afs nd.fs.length cfs, .slice Asy nd.sy.length csy, .bool nd.has, .string nd.dflt, .int .i64 nd.items, .slice Abr nd.br.length cbr, .int .i64 nd.size] 30)) (fun _ => True) := fr_allocX (Fr.refl _ _)
        have hX : (wr.alloc (.cells #[.int .i64 kd, .string nd.name, .slice Aal nd.al.length cal, .slice Afs nd.fs.length cfs, .slice Asy nd.sy.length csy, .bool nd.has, .string nd.dflt, .int .i64 nd.items, .slice Abr nd.br.length cbr, .int .i64 nd.size] 30)).heap[wr.heap.size]? = some (.cells #[.int .i64 kd, .string nd.name, .slice Aal nd.al.length cal, .slice Afs nd.fs.length cfs, .slice Asy nd.sy.length csy, .bool nd.has, .string nd.dflt, .int .i64 nd.items, .slice Abr nd.br.length cbr, .int .i64 nd.size] 30 (0, 0)) := new_at rfl _
        generalize wr.alloc (.cells #[.int .i64 kd, .string nd.name, .slice Aal nd.al.length cal, .slice Afs nd.fs.length cfs, .slice Asy nd.sy.length csy, .bool nd.has, .string nd.dflt, .int .i64 nd.items, .slice Abr nd.br.length cbr, .int .i64 nd.size] 30) = W1 at *
        have e0 := cell_of_row _ _ 0 _ _ _ hX
        have HR1 := Lib.hid (HR.out.up hfx)
        have HF1 := Lib.hid (HFW.out.trans hfx)
        have HO1 := Lib.hid (ownsRow_fr HO.out hfx (fun _ _ => trivial))
        have q1 := cell_of_row _ _ 1 _ _ _ HR1.out.hdr
        obtain ⟨ra, hra, hr1, hr2⟩ := HR1.out.rks
        have r0 : W1.cell? ⟨rg, k, none⟩ = some (.int .i64 ((s0 n (nsF ns) k).rk k)) := by rw [cell_of_row _ _ _ _ _ _ hra]; exact hr2 k hlt
        have f0 := frozen_of_row _ _ k _ _ hra
        have HW := Lib.hid (show Fr W (W1.setCell ⟨rg, k, none⟩ (.int .i64 9223372036854775807)) (fun _ => True) from ⟨HF1.out.os, HF1.out.tape, HF1.out.output, Nat.le_trans HF1.out.size (set_frL W1 rg k _).size, fun b hb _ => ((set_frL W1 rg k _).block b (Nat.lt_of_lt_of_le hb HF1.out.size) (by have h1 := HLO.out.2.1; have h2 := HF0.out.size; omega)).trans (HF1.out.block b hb trivial)⟩)
        have HO2 := Lib.hid (ownsRow_fr HO1.out (set_frL W1 rg k (.int .i64 9223372036854775807)) (fun b hb => by have h1 := (HO1.out.lt b hb).1; have h2 := HR1.out.lt.2.1; omega))
        have HRK := Lib.hid (ranked HR1.out hlt 9223372036854775807).1
        clear z0 z1 z2 z3 z4 z5 z6 z7 z8 z9 hfx hra hr1 hr2 hX
        by_cases hrec : kd = 9 ∨ kd = 13
        · have HRC := Lib.hid (show s0 n (nsF ns) (k + 1) = ⟨upd (s0 n (nsF ns) k).rk k 9223372036854775807, (s0 n (nsF ns) k).wt⟩ by rw [s0_next]; unfold rk0; rw [if_pos (by rw [HKD.out]; exact hrec)])
          have HST := Lib.hid (show steps0 (nsF ns) (k + 1) = steps0 (nsF ns) k ++ [(k, 0)] by rw [steps0, if_pos (by rw [HKD.out]; exact hrec)])
          have HOS := Lib.hid (show StepsAt ((W1.setCell ⟨rg, k, none⟩ (.int .i64 9223372036854775807)).alloc (.cells #[.int .i64 (k : Nat), .int .i64 0] 79)) (fun _ => True) [(k, 0)] (.slice (some ⟨W1.heap.size, 0, none⟩) 1 1) by
            have h := one_step0 (W1.setCell ⟨rg, k, none⟩ (.int .i64 9223372036854775807)) k
            rwa [show (W1.setCell ⟨rg, k, none⟩ (.int .i64 9223372036854775807)).heap.size = W1.heap.size by simp] at h)
          rcases hrec with rfl | rfl
          all_goals
            go_wp2_with (at_builtin; refine wpList_append_steps rfl _ _ rfl B (steps0 (nsF ns) k) [(k, 0)] u4 _ rfl rfl (HO2.out.alloc _) (ok := fun _ => True) HOS.out (by have := steps0_len (ns := nsF ns) k; simp; omega) (by have h1 := HR1.out.hb; simp; omega) ?_; intro v' w3 hown3 hg3 hv3)
            have hf3 := row_frB (HO2.out.alloc _) ((HW.out).trans (fr_allocX (Fr.refl _ _))) (by have h1 := HBB.out; have h2 := HFC.out.size; omega) hg3
            have hf4 : Fr (W1.setCell ⟨rg, k, none⟩ (.int .i64 9223372036854775807)) w3 (fun b => u4.ownBlock ≠ some b) := (((Fr.refl _ _).alloc _).mono (fun _ _ _ => trivial)).trans (row_frK hg3)
            have hr3 := HRK.out.fr hf4 (fun b hb e => by
              have h1 := ((HO2.out).lt b e).1
              obtain ⟨l1, l2, l3, _⟩ := HR1.out.lt
              rcases hb with rfl | rfl | rfl | hb
              · omega
              · omega
              · omega
              · exact rows_nilV n b hb)
            have HO3 := Lib.hid hown3
            have HF3 := Lib.hid hf3
            have HR3 := Lib.hid hr3
            clear hown3 hg3 hv3 hf3 hr3
            go_wp2
            go_roundg (n - (k + 1))
            case measure => have := HG.out; omega
            case rel => exact ⟨k + 1, by omega, by go_num, Lib.hid (by rw [HRC.out]; exact HR3.out), HF3, Lib.hid (by rw [HST.out]; exact HO3.out)⟩
        · have h9 : (kd == 9) = false := by rw [beq_eq_false_iff_ne]; exact fun h => hrec (.inl h)
          have h13 : (kd == 13) = false := by rw [beq_eq_false_iff_ne]; exact fun h => hrec (.inr h)
          have HREC := Lib.hid hrec
          clear hrec
          have HST := Lib.hid (show steps0 (nsF ns) (k + 1) = steps0 (nsF ns) k by rw [steps0, if_neg (by rw [HKD.out]; exact HREC.out), List.append_nil])
          by_cases hod : kd < 1 ∨ 14 < kd
          · have HRC := Lib.hid (show s0 n (nsF ns) (k + 1) = ⟨upd (s0 n (nsF ns) k).rk k 9223372036854775807, (s0 n (nsF ns) k).wt⟩ by rw [s0_next]; unfold rk0; rw [if_neg (by rw [HKD.out]; exact HREC.out), if_pos (by rw [HKD.out]; exact hod)])
            rcases hod with hod | hod
            · go_wp2
              go_roundg (n - (k + 1))
              case measure => have := HG.out; omega
              case rel => exact ⟨k + 1, by omega, by go_num, Lib.hid (by rw [HRC.out]; exact HRK.out), HW, Lib.hid (by rw [HST.out]; exact HO2.out)⟩
            · have hod' : ¬ kd < 1 := by omega
              go_wp2
              go_roundg (n - (k + 1))
              case measure => have := HG.out; omega
              case rel => exact ⟨k + 1, by omega, by go_num, Lib.hid (by rw [HRC.out]; exact HRK.out), HW, Lib.hid (by rw [HST.out]; exact HO2.out)⟩
          · have hlo : ¬ kd < 1 := fun h => hod (.inl h)
            have hhi : ¬ 14 < kd := fun h => hod (.inr h)
            have HRC := Lib.hid (show s0 n (nsF ns) (k + 1) = s0 n (nsF ns) k from s0_same _ _ _ (by unfold rk0; rw [if_neg (by rw [HKD.out]; exact HREC.out), if_neg (by rw [HKD.out]; exact hod)]))
            go_wp2
            go_roundg (n - (k + 1))
            case measure => have := HG.out; omega
            case rel => exact ⟨k + 1, by omega, by go_num, Lib.hid (by rw [HRC.out]; exact HR1.out), HF1, Lib.hid (by rw [HST.out]; exact HO1.out)⟩
      · have hk : n = k := by have := HG.out; omega
        subst hk
        go_wp2
        go_loopg [4, 7] (2 * cnt n (never (s0 n (nsF ns) n)) + 1) (fun gh sv c wr => ∃ (r : Nat) (steps : List (Nat × Nat)) (s : St) (vs : Nat → Value), 2 * cnt n (never s) + (if steps = [] then 0 else 1) ≤ gh ∧ c = .int .i64 (r : Int) ∧ Hid (LI n (nsF ns) r steps s) ∧ Hid (RkAt wr B g rg wg n (.slice A n cap) s vs) ∧ Hid (Fr W wr (fun _ => True)) ∧ Hid (wr.ownsRow B 79 2 sv steps.length (tk steps)) ∧ Hid (∀ b, sv.ownBlock = some b → ¬ RowOf n vs b))
        case atStart => exact ⟨1, steps0 (nsF ns) n, s0 n (nsF ns) n, _, by split <;> omega, rfl, Lib.hid (li_0 hn), HR, HFW, HO, Lib.hid (fun b _ => rows_nilV n b)⟩
        case round =>
          obtain ⟨r, steps, s, vs, hg, rfl, HLI, HR2, HF2, HO2, HNO⟩ := hrel
          have HG2 := Lib.hid hg
          clear hg
          have hr1 : r ≤ 100 := by have := HLI.out.up; split at this <;> omega
          by_cases hs : steps = []
          · subst hs
            have q1 := cell_of_row _ _ 1 _ _ _ HR2.out.hdr
            rcases HO2.out.2 with ⟨hv, _⟩ | ⟨gg, cp, cur, hv, _⟩
            · subst hv
              go_wp2
              go_ret
              obtain ⟨ra, h1, h2, h3⟩ := HR2.out.rks
              exact ⟨rg, s.rk, ra, rfl, by have h1 := HLO.out.2.1; have h2 := HF0.out.size; omega, h1, h2, h3, ri_end HLI.out.ri, HF2.out⟩
            · subst hv
              go_wp2
              go_ret
              obtain ⟨ra, h1, h2, h3⟩ := HR2.out.rks
              exact ⟨rg, s.rk, ra, rfl, by have h1 := HLO.out.2.1; have h2 := HF0.out.size; omega, h1, h2, h3, ri_end HLI.out.ri, HF2.out⟩
          · have hnx := LI.next hn (fun i => (HLEN.out i).1) HLI.out hs
            have hlp : 0 < steps.length := List.length_pos_iff.2 hs
            have HS := Lib.hid hs
            clear hs
            obtain ⟨As, cs, e1, e2, e3, e4⟩ := own_steps HO2.out
            subst e1
            have hsteps : StepsAt wr (fun b => b < wr.heap.size ∧ Clear g rg wg n vs b) steps (.slice As steps.length cs) := ⟨As, cs, rfl, e2, e3, fun h0 => by
              obtain ⟨gs, e, hgs, hc⟩ := e4 h0
              have h1 := HO2.out.lt gs hgs
              obtain ⟨l1, l2, l3, _⟩ := HR2.out.lt
              exact ⟨gs, e, ⟨h1.2, by omega, by omega, by omega, HNO.out gs hgs⟩, hc⟩⟩
            have hnsR : NdsAt wr (Far B g rg wg) ns (.slice A n cap) := by
              have h1 := HLO.out
              have h2 := HF0.out.size
              have h3 := HBB.out
              have h4 := HFC.out.size
              exact nds_monoL (nds_fr HF2.out (fun _ _ => trivial) HNS.out) (fun b hb => ⟨by omega, by omega, by omega, by omega⟩)
            have hac := HLI.out.ac
            have htt := HLI.out.tt
            have h800 : tot n s + 20 * steps.length + 20 ≤ 1000000000000 := by omega
            have hcall := round_any wr B g rg wg n A cap s vs HR2.out ns hnsR HNL.out (by omega) r (fun i => HLEN.out i) steps _ hsteps (fun t ht => by
              obtain ⟨h1, h2⟩ := HLI.out.ri.todo t ht
              refine ⟨h1.lt, ?_, h1.kd⟩
              rcases h2 with ⟨h2, _⟩ | ⟨j, _, h2, _⟩
              · omega
              · exact Nat.le_of_lt (List.getElem?_eq_some_iff.1 h2).1) h800 (by omega) hnx.2.2.2.1 (fun k => Nat.le_trans (hnx.2.2.2.2 k) (by omega))
            have HNX := Lib.hid hnx
            obtain ⟨M, hM⟩ : ∃ M, roundM n (nsF ns) r steps s [] = M := ⟨_, rfl⟩
            rw [hM] at hcall HNX
            clear hnx hM hsteps hnsR hac htt e2 e3 e4 h800
            go_wp2_with fail
            refine hcall.mono ?_
            rintro e w2 ⟨vs', v, rfl, hR, hS, hown, hno⟩
            have HR3 := Lib.hid hR
            have HF3 := Lib.hid (show Fr W w2 (fun _ => True) from ⟨hS.fr.os.trans HF2.out.os, hS.fr.tape.trans HF2.out.tape, hS.fr.output.trans HF2.out.output, Nat.le_trans HF2.out.size hS.fr.size, fun b hb _ => (hS.fr.block b (Nat.lt_of_lt_of_le hb HF2.out.size) (by
              have h1 := HLO.out
              have h2 := HF0.out.size
              have h3 := HBB.out
              have h4 := HFC.out.size
              exact ⟨by omega, by omega, fun hr => by have := (HR2.out.row_lt hr).1; omega⟩)).trans (HF2.out.block b hb trivial)⟩)
            have HO3 := Lib.hid (own_low hown HR2.out.hb)
            have HNO3 := Lib.hid hno
            clear hcall hR hS hown hno
            go_wp2
            go_roundg (2 * cnt n (never M.1) + (if wokenM M.1 M.2 = [] then 0 else 1))
            case measure =>
              have h1 := HNX.out.2.1
              have h2 := HNX.out.2.2.1
              have h3 := HG2.out
              rw [if_neg HS.out] at h3
              by_cases h4 : M.2 = []
              · rw [if_pos (h2 h4)]
                rw [h4] at h1
                simp only [List.length_nil] at h1
                omega
              · have : 0 < M.2.length := List.length_pos_iff.2 h4
                split <;> omega
            case rel => exact ⟨r + 1, wokenM M.1 M.2, M.1, vs', Nat.le_refl _, by go_num, Lib.hid HNX.out.1, HR3, HF3, HO3, HNO3⟩
end Go.Proofs.YtpajccehkcgoaaaDoor
