/-
  'couranthelp.Small' of every value: whether it is so small.
-/
import Derived.Test.YtfboecnhakihnaaGreatDoorUaa
namespace Go.Proofs.YtfboecnhakihnaaGreatDoor
open Go.RowKit Go.Shelf

/-- What 'small' answers. -/
def SmC (z : U) : Prop := ∀ (w : World) (p : Nat) (n : Int) (v0 v1 v2 v3 v4 : Value), UIn w (fun g => g ≠ p) z v0 v1 v2 v3 v4 → w.heap[p]? = some (.cells #[.int .i64 n] 3 (0, 0)) → 0 ≤ n → n ≤ 1000000 →
  Calls Tryz.prog 27 #[.agg #[v0, v1, v2, v3, v4], .pointer (some ⟨p, 0, none⟩)] w fun e w' => e = .returned (.bool (decide ((un z : Int) ≤ n))) ∧ (∃ n' : Int, w'.heap[p]? = some (.cells #[.int .i64 n'] 3 (0, 0)) ∧ ((un z : Int) ≤ n → n' = n - un z)) ∧ Fr w w' (fun g => g ≠ p)
set_option maxHeartbeats 1000000 in
set_option maxRecDepth 100000 in
theorem small_step (k nn : Int) (b : List Int) (l : List U) (ks : List ByteArray) (huw : uw (.mk k nn b l ks) ≤ 1048576) (hs : ∀ x, x ∈ l → SmC x) : SmC (.mk k nn b l ks) := by
  intro w p n v0 v1 v2 v3 v4 h hp hn0 hn1
  rw [uw] at huw
  have hll := uwL_len l
  have hkl := kw_len ks
  cases h with
  | mk _ _ _ _ _ B A A' capb cap cap' c h1 h2 h3 h4 hcapb hcap hcap' hB hL hK hE =>
    have hplt := blk_lt hp
    have hB0 := heap_alloc_new w (.cells #[.int .i64 k, .int .i64 nn, .slice B b.length capb, .slice A l.length cap, .slice A' ks.length cap'] 29 (0, 0))
    have hf0 : Fr w (w.alloc (.cells #[.int .i64 k, .int .i64 nn, .slice B b.length capb, .slice A l.length cap, .slice A' ks.length cap'] 29)) (fun g => g ≠ p) := (Fr.refl w _).alloc _
    have hp0 : (w.alloc (.cells #[.int .i64 k, .int .i64 nn, .slice B b.length capb, .slice A l.length cap, .slice A' ks.length cap'] 29)).heap[p]? = some (.cells #[.int .i64 n] 3 (0, 0)) := ((Fr.refl w (fun _ => True)).alloc _).at hp trivial
    obtain ⟨n1, hn1e⟩ : ∃ n1 : Int, n1 = n - 1 - ((b.length / 50 : Nat) : Int) - (ks.length : Int) := ⟨_, rfl⟩
    have hun : (un (.mk k nn b l ks) : Int) = 1 + ((b.length / 50 : Nat) : Int) + (ks.length : Int) + (unL l : Int) := by rw [un]; push_cast; omega
    have HUN := Lib.hid hun
    have HL := Lib.hid hL
    have HE := Lib.hid hE
    have HS := Lib.hid hs
    have HF0 := Lib.hid hf0
    clear hL hK hE hs hun hp hf0 h1 h2 h3
    go_enter Tryz.func27, Tryz.ntmps27
    go_wp2_with fail
    generalize (w.alloc (.cells #[.int .i64 k, .int .i64 nn, .slice B b.length capb, .slice A l.length cap, .slice A' ks.length cap'] 29)) = W0 at *
    obtain ⟨q0, q1, q2, q3, q4⟩ := cells_5 hB0
    have r0 : W0.cell? ⟨p, 0, none⟩ = some (.int .i64 n) := cell_of_row W0 p 0 _ _ _ hp0
    have r1 : W0.frozen? ⟨p, 0, none⟩ = false := frozen_of_row W0 p 0 _ 3 hp0
    go_still_tail 15, (by kernel_rfl)
    have e1 : IntKind.i64.wrap (n - 1) = n - 1 := IntWalk.i64_in _ (by omega)
    have e2 : IntKind.i64.wrap ((b.length : Int) / 50) = (b.length : Int) / 50 := IntWalk.i64_in _ (by omega)
    have e3 : IntKind.i64.wrap (n - 1 - (b.length : Int) / 50) = n - 1 - (b.length : Int) / 50 := IntWalk.i64_in _ (by omega)
    have e4 : IntKind.i64.wrap (n - 1 - (b.length : Int) / 50 - (ks.length : Int)) = n1 := (IntWalk.i64_in _ (by omega)).trans (by omega)
    rw [e1, e2, e3, e4]
    have HN := Lib.hid hn1e
    clear e1 e2 e3 e4 hn1e
    have hw1 : (W0.drew).heap[w.heap.size]? = some (.cells #[.int .i64 k, .int .i64 nn, .slice B b.length capb, .slice A l.length cap, .slice A' ks.length cap'] 29 (0, 0)) := hB0
    have hp1 : (W0.drew).heap[p]? = some (.cells #[.int .i64 n] 3 (0, 0)) := hp0
    have hf1 : Fr w W0.drew (fun g => g ≠ p) := HF0.out.drewN 1
    change wpList _ _ _ _ _ W0.drew
    clear q0 q1 q2 q3 q4 r0 r1 hB0 hp0 HF0
    generalize W0.drew = W1 at *
    have hf2 : Fr w (W1.setCell ⟨p, 0, none⟩ (.int .i64 n1)) (fun g => g ≠ p) := hf1.trans (Fr.of (gset W1 p 0 _) (fun b _ hb e => hb (by cases e; rfl)))
    have hp2 : (W1.setCell ⟨p, 0, none⟩ (.int .i64 n1)).heap[p]? = some (.cells #[.int .i64 n1] 3 (0, 0)) := by rw [heap_setCell_same W1 p 0 _ 3 _ hp1]; rfl
    have hw2 : (W1.setCell ⟨p, 0, none⟩ (.int .i64 n1)).heap[w.heap.size]? = some (.cells #[.int .i64 k, .int .i64 nn, .slice B b.length capb, .slice A l.length cap, .slice A' ks.length cap'] 29 (0, 0)) :=
      (Fr.of (gset W1 p 0 (.int .i64 n1)) (ok := fun g => g ≠ p) (fun b _ hb e => hb (by cases e; rfl))).at hw1 (by omega)
    have r0 : W1.cell? ⟨p, 0, none⟩ = some (.int .i64 n) := cell_of_row W1 p 0 _ _ _ hp1
    have r1 : W1.frozen? ⟨p, 0, none⟩ = false := frozen_of_row W1 p 0 _ 3 hp1
    go_upto_region 2 with fail
    clear r0 r1 hw1 hp1 hf1
    generalize W1.setCell ⟨p, 0, none⟩ (.int .i64 n1) = W2 at *
    have r0 : W2.cell? ⟨p, 0, none⟩ = some (.int .i64 n1) := cell_of_row W2 p 0 _ _ _ hp2
    by_cases hneg : n1 < 0
    · have hd : decide ((un (.mk k nn b l ks) : Int) ≤ n) = false := by rw [decide_eq_false_iff_not, HUN.out]; have := HN.out; omega
      have HD := Lib.hid hd
      clear hd
      go_wp2
      go_ret
      exact ⟨by rw [HD.out]; rfl, ⟨n1, hp2, fun h => by have := HD.out; rw [decide_eq_false_iff_not] at this; exact absurd h this⟩, hf2⟩
    · go_wp2
      clear r0
      have HW := Lib.hid hw2
      have HP := Lib.hid hp2
      have HF := Lib.hid hf2
      clear hw2 hp2 hf2
      go_loopg [5] l.length (fun g i wr => ∃ (q : Nat) (m : Int), q + g = l.length ∧ i = .int .i64 q ∧ wr.heap[p]? = some (.cells #[.int .i64 m] 3 (0, 0)) ∧ m = n1 - (unL (l.take q) : Int) ∧ 0 ≤ m ∧ wr.heap[w.heap.size]? = some (.cells #[.int .i64 k, .int .i64 nn, .slice B b.length capb, .slice A l.length cap, .slice A' ks.length cap'] 29 (0, 0)) ∧ Fr w wr (fun g => g ≠ p))
      case atStart => exact ⟨0, n1, by omega, rfl, HP.out, by simp [unL], by omega, HW.out, HF.out⟩
      case round =>
        obtain ⟨q, m, hqg, rfl, hpw, hm, hm0, hbw, hfw⟩ := hrel
        obtain ⟨p0, p1, p2, p3, p4⟩ := cells_5 hbw
        by_cases hq : q < l.length
        · obtain ⟨x, hx⟩ : ∃ x, l[q]? = some x := ⟨_, List.getElem?_eq_getElem hq⟩
          obtain ⟨g, off, rfl, hgp, hc⟩ := HL.out (by omega)
          have hqi : (q : Int) < (l.length : Int) := by omega
          have x0 : wr.cell? ⟨g, off + q * 5, none⟩ = some (c q 0) := by have := hfw.cell (hc q 0 hq (by omega)) hgp; rwa [show off + (5 * q + 0) = off + q * 5 by omega] at this
          have x1 : wr.cell? ⟨g, off + q * 5 + 1, none⟩ = some (c q 1) := by have := hfw.cell (hc q 1 hq (by omega)) hgp; rwa [show off + (5 * q + 1) = off + q * 5 + 1 by omega] at this
          have x2 : wr.cell? ⟨g, off + q * 5 + 2, none⟩ = some (c q 2) := by have := hfw.cell (hc q 2 hq (by omega)) hgp; rwa [show off + (5 * q + 2) = off + q * 5 + 2 by omega] at this
          have x3 : wr.cell? ⟨g, off + q * 5 + 3, none⟩ = some (c q 3) := by have := hfw.cell (hc q 3 hq (by omega)) hgp; rwa [show off + (5 * q + 3) = off + q * 5 + 3 by omega] at this
          have x4 : wr.cell? ⟨g, off + q * 5 + 4, none⟩ = some (c q 4) := by have := hfw.cell (hc q 4 hq (by omega)) hgp; rwa [show off + (5 * q + 4) = off + q * 5 + 4 by omega] at this
          have hcall := HS.out x (List.mem_of_getElem? hx) wr p m _ _ _ _ _ ((HE.out q x hx).fr hfw (fun _ h => h)) hpw hm0 (by have := HN.out; omega)
          have htk := unL_take l q x hx
          have hle := unL_le l (q + 1)
          have HM := Lib.hid hm
          have HB := Lib.hid hbw
          have HFW := Lib.hid hfw
          obtain ⟨g', hg'⟩ : ∃ g', gk = g' + 1 := ⟨gk - 1, by omega⟩
          subst hg'
          clear hc hx hbw hfw hpw hm
          generalize c q 0 = a0 at *
          generalize c q 1 = a1 at *
          generalize c q 2 = a2 at *
          generalize c q 3 = a3 at *
          generalize c q 4 = a4 at *
          by_cases hfit : (un x : Int) ≤ m
          · rw [decide_eq_true hfit] at hcall
            go_wp2_with fail
            refine hcall.mono ?_
            rintro e w3 ⟨rfl, ⟨n', hpw3, hn'⟩, hf3⟩
            have hnn := hn' hfit
            have hb3 := hf3.at HB.out (by omega)
            clear hcall x0 x1 x2 x3 x4 p0 p1 p2 p3 p4 hn'
            go_wp2
            go_roundg g'
            case measure => omega
            case rel => exact ⟨q + 1, n', by omega, by go_num, hpw3, by rw [htk]; have := HM.out; push_cast; omega, by omega, hb3, HFW.out.trans hf3⟩
          · rw [decide_eq_false hfit] at hcall
            have hd : decide ((un (.mk k nn b l ks) : Int) ≤ n) = false := by
              rw [decide_eq_false_iff_not, HUN.out]; have := HM.out; have := HN.out; omega
            have HD := Lib.hid hd
            clear hd
            go_wp2_with fail
            refine hcall.mono ?_
            rintro e w3 ⟨rfl, ⟨n', hpw3, hn'⟩, hf3⟩
            clear hcall x0 x1 x2 x3 x4 p0 p1 p2 p3 p4 hn'
            go_wp2
            go_ret
            exact ⟨by rw [HD.out]; rfl, ⟨n', hpw3, fun h => by have := HD.out; rw [decide_eq_false_iff_not] at this; exact absurd h this⟩, HFW.out.trans hf3⟩
        · have hqe : l.take q = l := List.take_of_length_le (by omega)
          rw [hqe] at hm
          have hd : decide ((un (.mk k nn b l ks) : Int) ≤ n) = true := by
            rw [decide_eq_true_iff, HUN.out]; have := HN.out; omega
          have HD := Lib.hid hd
          have HM := Lib.hid hm
          clear hd hm
          go_wp2
          go_ret
          exact ⟨by rw [HD.out]; rfl, ⟨m, hpw, fun _ => by have := HM.out; have := HN.out; rw [HUN.out]; omega⟩, hfw⟩
theorem small_u : ∀ (n : Nat) (z : U), SizeOf.sizeOf z < n → uw z ≤ 1048576 → SmC z
  | 0, _, h, _ => by omega
  | n + 1, .mk k nn b l ks, h, hz => by
    refine small_step k nn b l ks hz (fun x hx => small_u n x ?_ ?_)
    · have := List.sizeOf_lt_of_mem hx
      simp only [U.mk.sizeOf_spec] at h
      omega
    · have := uwL_mem hx
      rw [uw] at hz
      omega
set_option maxHeartbeats 1000000 in
set_option maxRecDepth 100000 in
/-- 'Small'. -/
theorem small_any (z : U) (hz : uw z ≤ 1048576) (most : Nat) (hm : most ≤ 3000) (w : World) (v0 v1 v2 v3 v4 : Value) (h : UIn w (fun b => b < w.heap.size) z v0 v1 v2 v3 v4) :
    Calls Tryz.prog 8 #[.agg #[v0, v1, v2, v3, v4], .int .i64 most] w fun e w' => e = .returned (.bool (decide (un z ≤ most))) ∧ Below w.heap.size w w' := by
  obtain ⟨k, n, B, n0, c0, A, n1, c1, A', n2, c2, rfl, rfl, rfl, rfl, rfl⟩ := uin_agg h
  have hb0 : Below w.heap.size w ((w.alloc (.cells #[.int .i64 k, .int .i64 n, .slice B n0 c0, .slice A n1 c1, .slice A' n2 c2] 29)).alloc (.cells #[.int .i64 most] 3)) := ((Below.refl _ _).alloc (Nat.le_refl _) _).alloc (by simp) _
  have hB0 : ((w.alloc (.cells #[.int .i64 k, .int .i64 n, .slice B n0 c0, .slice A n1 c1, .slice A' n2 c2] 29)).alloc (.cells #[.int .i64 most] 3)).heap[w.heap.size]? = some (.cells #[.int .i64 k, .int .i64 n, .slice B n0 c0, .slice A n1 c1, .slice A' n2 c2] 29 (0, 0)) := old_at _ (new_at rfl _)
  have hP0 : ((w.alloc (.cells #[.int .i64 k, .int .i64 n, .slice B n0 c0, .slice A n1 c1, .slice A' n2 c2] 29)).alloc (.cells #[.int .i64 most] 3)).heap[w.heap.size + 1]? = some (.cells #[.int .i64 most] 3 (0, 0)) := new_at (by simp) _
  have hsm := small_u (SizeOf.sizeOf z + 1) z (by omega) hz ((w.alloc (.cells #[.int .i64 k, .int .i64 n, .slice B n0 c0, .slice A n1 c1, .slice A' n2 c2] 29)).alloc (.cells #[.int .i64 most] 3)) (w.heap.size + 1) most _ _ _ _ _
    ((h.fr (below_fr hb0) (fun _ h => h)).mono (fun b _ hb => by omega)) hP0 (by omega) (by omega)
  have hdec : decide ((un z : Int) ≤ (most : Int)) = decide (un z ≤ most) := by simp
  rw [hdec] at hsm
  obtain ⟨p0, p1, p2, p3, p4⟩ := cells_5 hB0
  clear hP0 hdec
  go_enter Tryz.func8, Tryz.ntmps8
  go_wp2_with fail
  generalize ((w.alloc (.cells #[.int .i64 k, .int .i64 n, .slice B n0 c0, .slice A n1 c1, .slice A' n2 c2] 29)).alloc (.cells #[.int .i64 most] 3)) = W0 at *
  refine hsm.mono ?_
  rintro e w1 ⟨rfl, _, hf1⟩
  go_wp2
  go_ret
  exact ⟨rfl, hb0.trans ⟨hf1.os, hf1.tape, hf1.output, hf1.size, fun i hi => hf1.block i (Nat.lt_of_lt_of_le hi hb0.size) (by omega)⟩⟩
end Go.Proofs.YtfboecnhakihnaaGreatDoor
