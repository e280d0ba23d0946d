/-
  'tell': a value's bytes, piece by piece, told to a range's body.
-/
import Derived.Test.YtlkbcdbjmkfkkaaDoorAhd
import Derived.Sort.LoopGhostIn
namespace Go.Proofs.YtlkbcdbjmkfkkaaDoor
open Go.RowKit Go.Shelf
attribute [local go_sem] Oper.semAt_some

theorem ucL_mem : ∀ {l : List U} {z : U}, z ∈ l → uc z ≤ ucL l
  | x :: r, z, h => by
    rw [ucL]
    rcases List.mem_cons.1 h with rfl | h
    · omega
    · have := ucL_mem h; omega
theorem yield_wide {n m : Nat} {P : Program} {l : Nat} {args : Array Value} {w : World} {R : Ending → World → Prop} (h : YieldAt Fence.wide n P l args w R) : YieldAt Fence.wide m P l args w R := by
  obtain ⟨fn, tmps, assign, body, hy, hr⟩ := h
  exact ⟨fn, tmps, assign, body, hy, ⟨trivial, fun c cs _ => hr.2 c cs (room_wide _)⟩⟩
/-- What a round of the body does. -/
def RoundP (J Jx : List (List Int) → (Nat → Prop) → World → Prop) (Rd : Nat → Prop) (B0 : Nat) (pre : List (List Int)) (S : Nat → Prop) (W1 : World) (e : Ending) (W' : World) : Prop :=
  (e = .returned (.bool true) ∧ ∃ S', J pre S' W' ∧ Fr W1 W' (fun k => (Rd k ∨ B0 ≤ k) ∧ ¬ S k) ∧ ∀ k, S' k → (S k ∨ W1.heap.size ≤ k) ∧ k < W'.heap.size) ∨ (e = .returned (.bool false) ∧ ∃ S', Jx pre S' W')
def YieldC (l : Nat) (Rdk : Nat → Prop) (B0 : Nat) (xs : List (List Int)) (J Jx : List (List Int) → (Nat → Prop) → World → Prop) : Prop :=
  ∀ (m : Nat) pre x rest S (W1 : World) (A : Option Addr) (c : Nat), Rd W1 W1.heap.size A x.length c x → J pre S W1 → xs = pre ++ x :: rest → (∀ k, S k → B0 ≤ k ∧ k < W1.heap.size) → B0 ≤ W1.heap.size → YieldAt Fence.wide m Tryd.prog l #[.slice A x.length c] W1 (RoundP J Jx Rdk B0 (pre ++ [x]) S W1)
/-- What 'tell' leaves. -/
def TellQ (J Jx : List (List Int) → (Nat → Prop) → World → Prop) (Rdk : Nat → Prop) (B0 : Nat) (xs pre : List (List Int)) (S : Nat → Prop) (W : World) (e : Ending) (W' : World) : Prop :=
  (e = .returned (.bool true) ∧ ∃ S', J pre S' W' ∧ Fr W W' (fun k => (Rdk k ∨ B0 ≤ k) ∧ ¬ S k) ∧ ∀ k, S' k → (S k ∨ W.heap.size ≤ k) ∧ k < W'.heap.size) ∨ (e = .returned (.bool false) ∧ ∃ p r S', xs = p ++ r ∧ Jx p S' W')
/-- What holds in the loop. -/
def TelI (J : List (List Int) → (Nat → Prop) → World → Prop) (Rdk : Nat → Prop) (B0 : Nat) (pre : List (List Int)) (S : Nat → Prop) (W : World) (bx : Obj) (wr : World) : Prop :=
  ∃ S' : Nat → Prop, J pre S' wr ∧ Fr W wr (fun k => (Rdk k ∨ B0 ≤ k) ∧ ¬ S k) ∧ (∀ k, S' k → (S k ∨ W.heap.size + 1 ≤ k) ∧ k < wr.heap.size) ∧ wr.heap[W.heap.size]? = some bx ∧ W.heap.size + 1 ≤ wr.heap.size
theorem telI_round {J : List (List Int) → (Nat → Prop) → World → Prop} {Rdk : Nat → Prop} {B0 : Nat} {pre' : List (List Int)} {S S1 : Nat → Prop} {W W1 W2 : World} {bx : Obj} (hB : B0 ≤ W.heap.size) (hS : ∀ k, S k → B0 ≤ k ∧ k < W.heap.size)
    (hf : Fr W W1 (fun k => (Rdk k ∨ B0 ≤ k) ∧ ¬ S k)) (h1 : ∀ k, S1 k → (S k ∨ W.heap.size + 1 ≤ k) ∧ k < W1.heap.size) (hw : W.heap.size + 1 ≤ W1.heap.size) (hbx : W1.heap[W.heap.size]? = some bx) {S2 : Nat → Prop} (hJ : J pre' S2 W2) (hf2 : Fr W1 W2 (fun k => (Rdk k ∨ B0 ≤ k) ∧ ¬ S1 k)) (h2 : ∀ k, S2 k → (S1 k ∨ W1.heap.size ≤ k) ∧ k < W2.heap.size) :
    TelI J Rdk B0 pre' S W bx W2 := by
  refine ⟨S2, hJ, ⟨hf2.os.trans hf.os, hf2.tape.trans hf.tape, hf2.output.trans hf.output, Nat.le_trans hf.size hf2.size, fun k hk ho => (hf2.block k (Nat.lt_of_lt_of_le hk hf.size) ⟨ho.1, fun h => ?_⟩).trans (hf.block k hk ho)⟩, fun k h => ⟨?_, (h2 k h).2⟩, hf2.at hbx ⟨.inr hB, fun h => ?_⟩, Nat.le_trans hw hf2.size⟩
  · rcases (h1 k h).1 with h | h
    · exact ho.2 h
    · omega
  · rcases (h2 k h).1 with h' | h'
    · exact (h1 k h').1
    · exact .inr (by omega)
  · rcases (h1 _ h).1 with h | h
    · have := (hS _ h).2; omega
    · omega

theorem telI_box {J : List (List Int) → (Nat → Prop) → World → Prop} {Rdk : Nat → Prop} {B0 : Nat} {pre : List (List Int)} {S : Nat → Prop} {W wr : World} {bx : Obj} (h : TelI J Rdk B0 pre S W bx wr) : wr.heap[W.heap.size]? = some bx := by
  obtain ⟨_, _, _, _, h, _⟩ := h
  exact h

set_option maxHeartbeats 8000000 in
set_option maxRecDepth 100000 in
theorem tell_step (l : Nat) (Rdk : Nat → Prop) (B0 : Nat) (xs : List (List Int)) (J Jx : List (List Int) → (Nat → Prop) → World → Prop) (hRlt : ∀ k, Rdk k → k < B0) (hJ : StW B0 J) (HY : YieldC l Rdk B0 xs J Jx)
    (k n : Int) (b : List Int) (ll : List U) (ks : List ByteArray) (hlen : ll.length ≤ 100000) (hku : kuB (.mk k n b ll ks) = true)
    (IH : ∀ z, z ∈ ll → ∀ (W : World) (S : Nat → Prop) (pre rest : List (List Int)) (v0 v1 v2 v3 v4 : Value), UIn W Rdk z v0 v1 v2 v3 v4 → J pre S W → xs = pre ++ (pcs z ++ rest) → (∀ k, S k → B0 ≤ k ∧ k < W.heap.size) → B0 ≤ W.heap.size →
      Calls Tryd.prog 28 #[.agg #[v0, v1, v2, v3, v4], .func (.yield l) #[] #[]] W (TellQ J Jx Rdk B0 xs (pre ++ pcs z) S W))
    (W : World) (S : Nat → Prop) (pre rest : List (List Int)) (v0 v1 v2 v3 v4 : Value) (hz : UIn W Rdk (.mk k n b ll ks) v0 v1 v2 v3 v4) (hj : J pre S W) (hx : xs = pre ++ (pcs (.mk k n b ll ks) ++ rest)) (hS : ∀ k, S k → B0 ≤ k ∧ k < W.heap.size) (hB : B0 ≤ W.heap.size) :
    Calls Tryd.prog 28 #[.agg #[v0, v1, v2, v3, v4], .func (.yield l) #[] #[]] W (TellQ J Jx Rdk B0 xs (pre ++ pcs (.mk k n b ll ks)) S W) := by
  cases hz with
  | mk _ _ _ _ _ B A A' capb cap cap' c h1 h2 h3 h4 hcapb hcap hcap' hBb hL hK hE =>
  have hk3 : k = 1 ∨ k = 4 ∨ k = 11 := by
    rw [kuB] at hku
    simp only [Bool.and_eq_true, Bool.or_eq_true, beq_iff_eq] at hku
    omega
  have hkl : kuL ll = true := by rw [kuB, Bool.and_eq_true] at hku; exact hku.2
  have hn := wf_I64 h2
  rw [pcs] at hx
  obtain ⟨W0, hW0⟩ : ∃ W0, W.alloc (.cells #[.int .i64 k, .int .i64 n, .slice B b.length capb, .slice A ll.length cap, .slice A' ks.length cap'] 38) = W0 := ⟨_, rfl⟩
  have hf0 : Fr W W0 (fun _ => True) := by rw [← hW0]; exact (Fr.refl W _).alloc _
  have hz0 : W0.heap[W.heap.size]? = some (.cells #[.int .i64 k, .int .i64 n, .slice B b.length capb, .slice A ll.length cap, .slice A' ks.length cap'] 38 (0, 0)) := by rw [← hW0]; exact new_at rfl _
  have hs0 : W0.heap.size = W.heap.size + 1 := by rw [← hW0]; simp
  obtain ⟨z0, z1, z2, z3, z4⟩ := cells_5 hz0
  have hah := ahead_any k n B A A' b.length capb ll.length cap ks.length cap' W0 hk3 hn hlen
  have HW0 := Lib.hid hW0
  have HF0 := Lib.hid hf0
  have HZ0 := Lib.hid hz0
  have HS0 := Lib.hid hs0
  have HL := Lib.hid hL
  have HE := Lib.hid hE
  have HIH := Lib.hid IH
  have HYH := Lib.hid HY
  have HJH := Lib.hid hJ
  have HJ0 := Lib.hid hj
  have HX := Lib.hid hx
  have HX2 : Hid (xs = (pre ++ [aheadM k n ll.length]) ++ (pcsL ll ++ ((if k = 11 then [[0]] else []) ++ rest))) := Lib.hid (by rw [hx]; simp)
  have HPC : Hid (pre ++ pcs (.mk k n b ll ks) = (pre ++ [aheadM k n ll.length]) ++ pcsL ll ++ (if k = 11 then [[0]] else [])) := Lib.hid (by rw [pcs]; simp)
  have hk12 : (k == 12) = false := by rcases hk3 with h | h | h <;> rw [h] <;> rfl
  have HSS := Lib.hid hS
  have HRL := Lib.hid hRlt
  clear hW0 hf0 hz0 hs0 hL hE IH HY hJ hj hx hS hRlt hK hBb h3 h4 hku
  refine (callsIn_wide (n := 10)).1 ?_
  refine callsIn_of_wp Tryd.func28 rfl trivial ?_ rfl
  simp only [Tryd.ntmps28, List.size_toArray, List.length_cons, List.length_nil, Nat.reduceAdd, Nat.reduceSub, Array.replicate_succ, Array.replicate_zero, List.push_toArray, List.append_toArray, List.nil_append, List.cons_append]
  gi_wp2_with fail
  rw [HW0.out]
  refine ⟨trivial, (callsIn_wide.2 hah).mono ?_⟩
  rintro e w1 ⟨A1, c1, rfl, hr1, hb1⟩
  clear hah
  have hf1 : Fr W w1 (fun _ => True) := HF0.out.trans ⟨hb1.os, hb1.tape, hb1.output, hb1.size, fun k hk _ => hb1.block k hk⟩
  have hs1 := hf1.size
  have hs1' : W.heap.size + 1 ≤ w1.heap.size := by rw [← HS0.out]; exact hb1.size
  have hj1 : J pre S w1 := HJH.out _ _ _ _ HJ0.out (hf1.mono (fun _ _ _ => trivial))
  obtain ⟨fn, tmps, assign, body, hy, hR⟩ := HYH.out 9 pre (aheadM k n ll.length) _ S w1 A1 c1 hr1 hj1 (by rw [HX.out]; rfl) (fun k hk => ⟨(HSS.out k hk).1, by have := (HSS.out k hk).2; omega⟩) (by omega)
  have hz1 : w1.heap[W.heap.size]? = some (.cells #[.int .i64 k, .int .i64 n, .slice B b.length capb, .slice A ll.length cap, .slice A' ks.length cap'] 38 (0, 0)) := (hb1.block _ (by rw [HS0.out]; omega)).trans HZ0.out
  have HZ1 := Lib.hid hz1
  have HF1 := Lib.hid hf1
  have HRD := Lib.hid hR
  clear hz1 hf1 hR hb1 hr1 hj1 z0 z1 z2 z3 z4 hs1
  gi_wp2
  refine HRD.out.mono ?_
  rintro e w2 (⟨rfl, S2, hJ2, hf2, hS2⟩ | ⟨rfl, S2, hJ2⟩)
  · have hT : TelI J Rdk B0 (pre ++ [aheadM k n ll.length]) S W (.cells #[.int .i64 k, .int .i64 n, .slice B b.length capb, .slice A ll.length cap, .slice A' ks.length cap'] 38 (0, 0)) w2 := telI_round hB HSS.out (HF1.out.mono (fun _ _ _ => trivial)) (fun q hq => ⟨.inl hq, by have := (HSS.out q hq).2; omega⟩) hs1' HZ1.out hJ2 hf2 hS2
    have HTI := Lib.hid hT
    clear hT hf2 hJ2 hS2
    have hz2 := telI_box HTI.out
    obtain ⟨z0, z1, z2, z3, z4⟩ := cells_5 hz2
    gi_wp2
    clear z0 z1 z2 z3 z4 hz2
    gi_loopg [15] ll.length (fun g v wr => ∃ q : Nat, q + g = ll.length ∧ v = .int .i64 q ∧ TelI J Rdk B0 ((pre ++ [aheadM k n ll.length]) ++ pcsL (ll.take q)) S W (.cells #[.int .i64 k, .int .i64 n, .slice B b.length capb, .slice A ll.length cap, .slice A' ks.length cap'] 38 (0, 0)) wr)
    case atStart => exact ⟨0, by omega, rfl, by simpa [pcsL] using HTI.out⟩
    case round =>
      obtain ⟨q, hq, rfl, hT⟩ := hrel
      have hzr := telI_box hT
      obtain ⟨z0, z1, z2, z3, z4⟩ := cells_5 hzr
      have HT := Lib.hid hT
      clear hT HTI hzr
      by_cases hlt : q < ll.length
      · obtain ⟨z, hz⟩ : ∃ z, ll[q]? = some z := ⟨_, List.getElem?_eq_getElem hlt⟩
        obtain ⟨g, off, rfl, hRg, hc⟩ := HL.out (by omega)
        obtain ⟨S3, hJ3, hf3, hS3, hbx3, hw3⟩ := HT.out
        have hgS : ¬ S g := fun h => by have := (HSS.out g h).1; have := HRL.out g hRg; omega
        have hzin := HE.out q z hz
        obtain ⟨kx, nx, Bx, m0, y0, Ax, m1, y1, Ax', m2, y2, e0, e1, e2, e3, e4⟩ := uin_agg hzin
        have xc : ∀ j, j < 5 → wr.cell? ⟨g, off + q * 5 + j, none⟩ = some (c q j) := fun j hj => by
          have := hf3.cell (hc q j hlt hj) ⟨.inl hRg, hgS⟩
          rwa [show off + (5 * q + j) = off + q * 5 + j by omega] at this
        have x0 := xc 0 (by omega)
        have x1 := xc 1 (by omega)
        have x2 := xc 2 (by omega)
        have x3 := xc 3 (by omega)
        have x4 := xc 4 (by omega)
        rw [Nat.add_zero] at x0
        rw [e0] at x0
        rw [e1] at x1
        rw [e2] at x2
        rw [e3] at x3
        rw [e4] at x4
        rw [e0, e1, e2, e3, e4] at hzin
        have hqi : (q : Int) < (ll.length : Int) := by omega
        obtain ⟨W3, hW3⟩ : ∃ W3, wr.alloc (.cells #[.int .i64 kx, .int .i64 nx, .slice Bx m0 y0, .slice Ax m1 y1, .slice Ax' m2 y2] 38) = W3 := ⟨_, rfl⟩
        have hfa : Fr wr W3 (fun _ => True) := by rw [← hW3]; exact (Fr.refl wr _).alloc _
        have hzW3 : UIn W3 Rdk z (.int .i64 kx) (.int .i64 nx) (.slice Bx m0 y0) (.slice Ax m1 y1) (.slice Ax' m2 y2) := (hzin.fr hf3 (fun b hb => ⟨.inl hb, fun h => by have := (HSS.out b h).1; have := HRL.out b hb; omega⟩)).fr hfa (fun _ _ => trivial)
        have hJ3' : J ((pre ++ [aheadM k n ll.length]) ++ pcsL (ll.take q)) S3 W3 := HJH.out _ _ _ _ hJ3 (hfa.mono (fun _ _ _ => trivial))
        have hS3' : ∀ k, S3 k → B0 ≤ k ∧ k < W3.heap.size := fun k hk => ⟨by rcases (hS3 k hk).1 with h | h; exact (HSS.out k h).1; omega, Nat.lt_of_lt_of_le (hS3 k hk).2 hfa.size⟩
        have hcall := HIH.out z (List.mem_of_getElem? hz) W3 S3 _ (pcsL (ll.drop (q + 1)) ++ ((if k = 11 then [[0]] else []) ++ rest)) _ _ _ _ _ hzW3 hJ3' (by rw [HX2.out, pcsL_split ll q z hz]; simp) hS3' (by have := hfa.size; omega)
        have hTn : ∀ (w4 : World) (S4 : Nat → Prop), J (((pre ++ [aheadM k n ll.length]) ++ pcsL (ll.take q)) ++ pcs z) S4 w4 → Fr W3 w4 (fun k => (Rdk k ∨ B0 ≤ k) ∧ ¬ S3 k) → (∀ k, S4 k → (S3 k ∨ W3.heap.size ≤ k) ∧ k < w4.heap.size) → TelI J Rdk B0 ((pre ++ [aheadM k n ll.length]) ++ pcsL (ll.take (q + 1))) S W (.cells #[.int .i64 k, .int .i64 n, .slice B b.length capb, .slice (some ⟨g, off, none⟩) ll.length cap, .slice A' ks.length cap'] 38 (0, 0)) w4 := by
          intro w4 S4 hj4 hf4 hS4
          rw [pcsL_take ll q z hz, ← List.append_assoc]
          exact telI_round hB HSS.out (hf3.trans (hfa.mono (fun _ _ _ => trivial))) (fun k hk => ⟨(hS3 k hk).1, Nat.lt_of_lt_of_le (hS3 k hk).2 hfa.size⟩) (Nat.le_trans hw3 hfa.size) (hfa.at hbx3 trivial) hj4 hf4 hS4
        have t0 := hfa.cell z0 trivial
        have hxn : W3.heap[wr.heap.size]? = some (.cells #[.int .i64 kx, .int .i64 nx, .slice Bx m0 y0, .slice Ax m1 y1, .slice Ax' m2 y2] 38 (0, 0)) := by rw [← hW3]; exact new_at rfl _
        obtain ⟨o0, o1, o2, o3, o4⟩ := cells_5 hxn
        clear hxn
        have HTN := Lib.hid hTn
        have HCALL := Lib.hid hcall
        have HW3 := Lib.hid hW3
        have HZQ := Lib.hid hz
        obtain ⟨g', hg'⟩ : ∃ g', gk = g' + 1 := ⟨gk - 1, by omega⟩
        subst hg'
        clear xc hc hf3 hS3 hbx3 hJ3 hzin hzW3 hJ3' hS3' hTn hcall hW3 hfa hz e0 e1 e2 e3 e4
        have hW3 := HW3.out
        gi_wp2_with fail
        refine ⟨trivial, ?_⟩
        gi_wp2_with fail
        refine ⟨(fun f hf => by cases hf), ?_⟩
        gi_wp2_with fail
        refine ⟨trivial, (callsIn_wide.2 HCALL.out).mono ?_⟩
        rintro e w4 (⟨rfl, S4, hj4, hf4, hS4⟩ | ⟨rfl, p', r', S4, hx4, hj4⟩)
        · have HT4 := Lib.hid (HTN.out w4 S4 hj4 hf4 hS4)
          clear hj4 hf4 hS4 x0 x1 x2 x3 x4 o0 o1 o2 o3 o4 t0 z0 z1 z2 z3 z4 hW3
          gi_wp2
          gi_roundg g'
          case measure => omega
          case rel => exact ⟨q + 1, by omega, by go_num, HT4.out⟩
        · clear x0 x1 x2 x3 x4 o0 o1 o2 o3 o4 t0 z0 z1 z2 z3 z4 hW3
          gi_wp2
          go_ret
          exact .inr ⟨rfl, p', r', S4, hx4, hj4⟩
      · have hqe : ll.take q = ll := List.take_of_length_le (by omega)
        have hT2 := HT.out
        rw [hqe] at hT2
        obtain ⟨S3, hJ3, hf3, hS3, hbx3, hw3⟩ := hT2
        have hbl := blocked_any k n B A A' b.length capb ll.length cap ks.length cap' wr hk3
        have HJ3 := Lib.hid hJ3
        have HF3 := Lib.hid hf3
        have HS3 := Lib.hid hS3
        clear HT hJ3 hf3 hS3 hbx3 hqe
        gi_wp2_with fail
        refine ⟨trivial, (callsIn_wide.2 hbl).mono ?_⟩
        rintro e w4 ⟨rfl, hb4⟩
        have hf4 : Fr wr w4 (fun _ => True) := ⟨hb4.os, hb4.tape, hb4.output, hb4.size, fun k hk _ => hb4.block k hk⟩
        have hj4 := HJH.out _ _ _ _ HJ3.out (hf4.mono (fun _ _ _ => trivial))
        have HJ4 := Lib.hid hj4
        have HF4 := Lib.hid hf4
        clear hbl hb4 hf4 hj4 z0 z1 z2 z3 z4
        by_cases h11 : k = 11
        · have hh : (k == 11) = true := by simpa using h11
          rw [hh]
          have HP : Hid (pre ++ pcs (.mk k n b ll ks) = ((pre ++ [aheadM k n ll.length]) ++ pcsL ll) ++ [[0]]) := Lib.hid (by rw [HPC.out, if_pos h11])
          have HX3 : Hid (xs = ((pre ++ [aheadM k n ll.length]) ++ pcsL ll) ++ [0] :: rest) := Lib.hid (by rw [HX2.out, if_pos h11]; simp)
          clear h11
          gi_wp2_with fail
          refine ⟨trivial, (callsIn_wide.2 (zig_any 0 (by unfold I64; omega) w4)).mono ?_⟩
          rintro e w5 ⟨A5, c5, rfl, hown5, hb5⟩
          have hr5 : Rd w5 w5.heap.size A5 1 c5 [0] := by
            have h0 : numL (zigN 0) = [0] := by rw [show zigN 0 = 0 by decide, numL_lt 0 (by omega)]; rfl
            rw [h0] at hown5
            exact Rd.of_own hown5 (fun x hx => by simp at hx; omega)
          have hlen0 : (numL (zigN 0)).length = 1 := by rw [show zigN 0 = 0 by decide, numL_lt 0 (by omega)]; rfl
          rw [hlen0]
          have hf5 : Fr wr w5 (fun _ => True) := HF4.out.trans ⟨hb5.os, hb5.tape, hb5.output, hb5.size, fun k hk _ => hb5.block k hk⟩
          have hs5 := hf5.size
          have hs3 : ∀ k, S3 k → B0 ≤ k ∧ k < w5.heap.size := fun k hk => ⟨by rcases (HS3.out k hk).1 with h | h; exact (HSS.out k h).1; omega, by have := (HS3.out k hk).2; omega⟩
          obtain ⟨fn6, tmps6, assign6, body6, hy6, hR6⟩ := HYH.out 9 _ [0] rest S3 w5 A5 c5 hr5 (HJH.out _ _ _ _ HJ3.out (hf5.mono (fun _ _ _ => trivial))) HX3.out hs3 (by omega)
          have HR6 := Lib.hid hR6
          have HF5 := Lib.hid hf5
          clear hown5 hb5 hr5 hf5 hs3 hR6 hlen0 hh HYH
          simp only [List.length_singleton] at hy6
          gi_wp2
          refine HR6.out.mono ?_
          rintro e w6 (⟨rfl, S6, hJ6, hf6, hS6⟩ | ⟨rfl, S6, hJ6⟩)
          · have hfin : TellQ J Jx Rdk B0 xs (pre ++ pcs (.mk k n b ll ks)) S W (.returned (.bool true)) w6 := by
              refine .inl ⟨rfl, S6, by rw [HP.out]; exact hJ6, ?_, fun k hk => ⟨?_, (hS6 k hk).2⟩⟩
              · have h5 := HF3.out.trans (HF5.out.mono (fun _ _ _ => trivial))
                exact ⟨hf6.os.trans h5.os, hf6.tape.trans h5.tape, hf6.output.trans h5.output, Nat.le_trans h5.size hf6.size, fun k hk ho => (hf6.block k (Nat.lt_of_lt_of_le hk h5.size) ⟨ho.1, fun h => by
                  rcases (HS3.out k h).1 with h | h
                  · exact ho.2 h
                  · omega⟩).trans (h5.block k hk ho)⟩
              · rcases (hS6 k hk).1 with h | h
                · rcases (HS3.out k h).1 with h | h
                  · exact .inl h
                  · exact .inr (by omega)
                · exact .inr (by omega)
            have HFIN := Lib.hid hfin
            clear hfin hJ6 hf6 hS6
            gi_wp2
            go_ret
            exact HFIN.out
          · gi_wp2
            go_ret
            exact .inr ⟨rfl, _, rest, S6, by rw [HX3.out]; simp, hJ6⟩
        · have hh : (k == 11) = false := by simpa using h11
          rw [hh]
          have HP : Hid (pre ++ pcs (.mk k n b ll ks) = (pre ++ [aheadM k n ll.length]) ++ pcsL ll) := Lib.hid (by rw [HPC.out, if_neg h11, List.append_nil])
          clear h11 hh
          have hfin : TellQ J Jx Rdk B0 xs (pre ++ pcs (.mk k n b ll ks)) S W (.returned (.bool true)) w4 := by
            refine .inl ⟨rfl, S3, by rw [HP.out]; exact HJ4.out, HF3.out.trans (HF4.out.mono (fun _ _ _ => trivial)), fun k hk => ⟨?_, Nat.lt_of_lt_of_le (HS3.out k hk).2 HF4.out.size⟩⟩
            rcases (HS3.out k hk).1 with h | h
            · exact .inl h
            · exact .inr (by omega)
          have HFIN := Lib.hid hfin
          clear hfin
          gi_wp2_with fail
          refine ⟨trivial, ?_⟩
          gi_wp2_with fail
          refine ⟨(fun f hf => by cases hf), ?_⟩
          gi_wp2
          go_ret
          exact HFIN.out
  · gi_wp2
    go_ret
    exact .inr ⟨rfl, _, _, S2, HX2.out, hJ2⟩

theorem tell_any (l : Nat) (Rdk : Nat → Prop) (B0 : Nat) (xs : List (List Int)) (J Jx : List (List Int) → (Nat → Prop) → World → Prop) (hRlt : ∀ k, Rdk k → k < B0) (hJ : StW B0 J) (HY : YieldC l Rdk B0 xs J Jx) : ∀ (N : Nat) (z : U), SizeOf.sizeOf z < N → kuB z = true → uc z ≤ 100000 →
    ∀ (W : World) (S : Nat → Prop) (pre rest : List (List Int)) (v0 v1 v2 v3 v4 : Value), UIn W Rdk z v0 v1 v2 v3 v4 → J pre S W → xs = pre ++ (pcs z ++ rest) → (∀ k, S k → B0 ≤ k ∧ k < W.heap.size) → B0 ≤ W.heap.size →
      Calls Tryd.prog 28 #[.agg #[v0, v1, v2, v3, v4], .func (.yield l) #[] #[]] W (TellQ J Jx Rdk B0 xs (pre ++ pcs z) S W)
  | 0, _, h, _, _ => by omega
  | N + 1, .mk k n b ll ks, h, hku, hc => by
    have hcl := ucL_len ll
    rw [uc] at hc
    refine tell_step l Rdk B0 xs J Jx hRlt hJ HY k n b ll ks (by omega) hku (fun z hz => ?_)
    have hm := List.sizeOf_lt_of_mem hz
    simp only [U.mk.sizeOf_spec] at h
    refine tell_any l Rdk B0 xs J Jx hRlt hJ HY N z (by omega) (kuL_mem (by rw [kuB, Bool.and_eq_true] at hku; exact hku.2) hz) ?_
    have := ucL_mem hz
    omega
end Go.Proofs.YtlkbcdbjmkfkkaaDoor
