/-
  'Encode' of a value of arrays, longs and nulls that fits, and is not too great.
-/
import Derived.Test.YtlkbcdbjmkfkkaaDoorTel
import Derived.Test.YtlkbcdbjmkfkkaaDoorBia
import Derived.Test.YtlkbcdbjmkfkkaaDoorDec
namespace Go.Proofs.YtlkbcdbjmkfkkaaDoor
open Go.RowKit Go.Shelf
attribute [local go_sem] Oper.semAt_some

def PieceE (W : World) (x : List Int) (args : Array Value) : Prop := ∃ A c, args = #[.slice A x.length c] ∧ Rd W W.heap.size A x.length c x
set_option maxHeartbeats 4000000 in
set_option maxRecDepth 100000 in
theorem pieces_e (n Bv : Nat) (z : U) (w : World) (Rdk : Nat → Prop) (hRlt : ∀ k, Rdk k → k < w.heap.size) (hB : Rdk Bv) (v0 v1 v2 v3 v4 : Value) (hbox : w.heap[Bv]? = some (.cells #[v0, v1, v2, v3, v4] 38 (0, 0))) (hz : UIn w Rdk z v0 v1 v2 v3 v4) (hku : kuB z = true) (hc : uc z ≤ 100000) :
    ItE Fence.wide n Tryd.prog 27 #[.pointer (some ⟨Bv, 0, none⟩)] PieceE (pcs z) Rdk w := by
  intro l J Jx W hW hl hwl hJ hJx hY h0
  have hbx := hW.at hbox hB
  have hzW := hz.fr hW (fun _ h => h)
  have HYC : YieldC l Rdk W.heap.size (pcs z) J Jx := by
    intro m pre x rest S W1 A c hr hj hx hS hw1
    obtain ⟨fn, tmps, assign, body, hy, hR⟩ := hY pre x rest S W1 _ ⟨A, c, rfl, hr⟩ hj hx hS hw1
    refine yield_wide (n := n - 1) ⟨fn, tmps, assign, body, hy, hR.mono ?_⟩
    rintro e W' (⟨rfl, S', h1, h2, h3⟩ | ⟨rfl, S', h1, _⟩)
    · exact .inl ⟨rfl, S', h1, h2, h3⟩
    · exact .inr ⟨rfl, S', h1⟩
  have ht := tell_any l Rdk W.heap.size (pcs z) J Jx (fun k hk => Nat.lt_of_lt_of_le (hRlt k hk) hW.size) hJ HYC (SizeOf.sizeOf z + 1) z (by omega) hku hc W (fun _ => False) [] [] _ _ _ _ _ hzW h0 (by simp) (fun k h => h.elim) (Nat.le_refl _)
  obtain ⟨k, nn, B, n0, c0, A, n1, c1, A', n2, c2, rfl, rfl, rfl, rfl, rfl⟩ := uin_agg hz
  obtain ⟨z0, z1, z2, z3, z4⟩ := cells_5 hbx
  clear hY HYC hJ hJx h0 hbx hzW hz hbox
  refine callsIn_of_wp Tryd.func27 rfl trivial ?_ rfl
  simp only [Tryd.ntmps27, List.size_toArray, List.length_cons, List.length_nil, Nat.reduceAdd, Nat.reduceSub, Array.replicate_succ, Array.replicate_zero, List.push_toArray, List.append_toArray, List.nil_append, List.cons_append]
  gi_wp2_with fail
  refine ⟨trivial, (fun e => by simp [Fence.wide] at e), (callsIn_wide.2 ht).mono ?_⟩
  rintro e w2 (⟨rfl, S', hj, _, _⟩ | ⟨rfl, p, r, S', hx, hj⟩)
  · gi_wp2
    go_end0
    exact ⟨⟨_, rfl⟩, .inl ⟨S', by simpa using hj⟩⟩
  · gi_wp2
    go_end0
    exact ⟨⟨_, rfl⟩, .inr ⟨p, r, S', hx, hj⟩⟩

set_option maxHeartbeats 1000000 in
theorem pieces_call (k m : Int) (B A A' : Option Addr) (n0 c0 n1 c1 n2 c2 : Nat) (w : World) :
    Calls Tryd.prog 18 #[.agg #[.int .i64 k, .int .i64 m, .slice B n0 c0, .slice A n1 c1, .slice A' n2 c2]] w fun e w' => e = .returned (.func (.func 27) #[] #[.pointer (some ⟨w.heap.size, 0, none⟩)]) ∧ w' = w.alloc (.cells #[.int .i64 k, .int .i64 m, .slice B n0 c0, .slice A n1 c1, .slice A' n2 c2] 38) := by
  go_enter Tryd.func18, Tryd.ntmps18
  go_wp2
  go_ret
  exact ⟨rfl, rfl⟩
theorem wpListIn_append_run {F : Fence} {nF : Nat} {P : Program} {w w' : World} {ops : Array Oper} {rest : List Oper} {o : Oper} {a : Act} {Q : Exit → Act → World → Prop} (hgd : o.guard = none) (s x : Operand) (t : TypeId)
    (ho : o.op = .call { callee := .builtin .append, args := #[s, x], argTypes := #[t, t] }) {v sl v' : Value} (hs : a.eval s = v) (hx : a.eval x = sl) (hr : (Builtin.append_ #[t, t] o.type #[v, sl]).run P w = .ok v' w')
    (h : wpListIn F nF P ops Q rest (a.put o.dst v') w') : wpListIn F nF P ops Q (o :: rest) a w := by
  refine wpListIn_plain hgd fun K hK => ?_
  unfold Oper.wpIn
  refine ⟨by simp [Oper.about, ho, resolve, Target.leads, Sem.run_pure], ?_⟩
  rw [Oper.semAt_plain F _ _ (by rw [ho]; intro c hc'; cases hc')]
  simp [execOp, ho, resolve, invoke, builtin, hs, hx, hr, Result.andThen]
  exact hK _ _ h
abbrev aM0 : Nd → U → Bool := aloneV (fun _ => true) (fun _ => true)
theorem alone_c (S : List Nd) (hS : ∀ nd, nd ∈ S → nd.kind ≠ 8 ∧ nd.kind ≠ 12) (w : World) : AloneC aM0 S w := by
  intro W _ nd c x d0 d1 d2 d3 d4 hnd hn hx
  exact alone_any _ _ nd c W _ _ hn x _ _ _ _ _ hx (fun h => absurd h (hS nd hnd).1) (fun h => absurd h (hS nd hnd).2)
/-- What 'Encode' tells of what it takes. -/
def EncP (w : World) (bs : List Int) (e : Ending) (w' : World) : Prop := Below w.heap.size w w' ∧ ∃ A c, e = .returned (.tuple #[.slice A bs.length c, .int .i64 0]) ∧ Rd w' w'.heap.size A bs.length c bs
/-- What holds while the pieces come. -/
def EncI (w : World) (o : Nat) (W0 : World) (pre : List (List Int)) (S : Nat → Prop) (W : World) : Prop :=
  ∃ v, W.heap[o]? = some (.cells #[v] 33 (0, 0)) ∧ W.ownsRow (W0.heap.size + 2) 5 1 v pre.flatten.length (cellsB pre.flatten) ∧ (∀ k, v.ownBlock = some k → S k) ∧ (∀ x ∈ pre.flatten, 0 ≤ x ∧ x < 256) ∧ Fr W0 W (fun k => k < W0.heap.size ∧ k ≠ o)

set_option maxHeartbeats 8000000 in
set_option maxRecDepth 100000 in
theorem encode_ok (S : List Nd) (hS : ∀ nd, nd ∈ S → nd.kind ≠ 8 ∧ nd.kind ≠ 12) (hSl : S.length ≤ 1000000) (z : U) (hku : kuB z = true) (hfit : fitsU aM0 S 0 z = true) (hd : maxD (pu 1 z) ≤ 64) (hc : uc z ≤ 10000) (hlen : (pcs z).flatten.length ≤ 4096)
    (w : World) (vs v0 v1 v2 v3 v4 : Value) (hN : NdsAt w (fun b => b < w.heap.size) S vs) (hz : UIn w (fun b => b < w.heap.size) z v0 v1 v2 v3 v4) :
    Calls Tryd.prog 9 #[.agg #[vs], .agg #[v0, v1, v2, v3, v4]] w (EncP w (pcs z).flatten) := by
  obtain ⟨As, caps, cs, rfl, _⟩ := id hN
  have hz' := hz
  obtain ⟨k, nn, B, n0, c0, A, n1, c1, A', n2, c2, rfl, rfl, rfl, rfl, rfl⟩ := uin_agg hz
  obtain ⟨W0, hW0⟩ : ∃ W0, (((w.alloc (.cells #[.slice As S.length caps] 32)).alloc (.cells #[.int .i64 k, .int .i64 nn, .slice B n0 c0, .slice A n1 c1, .slice A' n2 c2] 38)).alloc (.cells #[.slice none 0 0] 33)).alloc (.cells #[.int .i64 0] 39) = W0 := ⟨_, rfl⟩
  have hb0 : Below w.heap.size w W0 := by rw [← hW0]; exact ((((Below.refl _ w).alloc (Nat.le_refl _) _).alloc (by simp) _).alloc (by simp; omega) _).alloc (by simp; omega) _
  have h0 : W0.heap[w.heap.size]? = some (.cells #[.slice As S.length caps] 32 (0, 0)) := by rw [← hW0]; exact old_at _ (old_at _ (old_at _ (new_at rfl _)))
  have h1 : W0.heap[w.heap.size + 1]? = some (.cells #[.int .i64 k, .int .i64 nn, .slice B n0 c0, .slice A n1 c1, .slice A' n2 c2] 38 (0, 0)) := by rw [← hW0]; exact old_at _ (old_at _ (new_at (by simp) _))
  have h2 : W0.heap[w.heap.size + 2]? = some (.cells #[.slice none 0 0] 33 (0, 0)) := by rw [← hW0]; exact old_at _ (new_at (by simp) _)
  have h3 : W0.heap[w.heap.size + 3]? = some (.cells #[.int .i64 0] 39 (0, 0)) := by rw [← hW0]; exact new_at (by simp) _
  have hs0 : W0.heap.size = w.heap.size + 4 := by rw [← hW0]; simp
  have hzb : ∀ W', Fr W0 W' (fun _ => True) → UIn W' (fun b => b < W'.heap.size) z (.int .i64 k) (.int .i64 nn) (.slice B n0 c0) (.slice A n1 c1) (.slice A' n2 c2) := fun W' hf => ((hz.fr (below_fr0 hb0) (fun _ _ => trivial)).fr hf (fun _ _ => trivial)).mono (fun b hb _ => hb)
  have hN0 := nds_mono (nds_fr (below_fr0 hb0) (fun _ _ => trivial) hN) (ok' := fun b => b < W0.heap.size) (fun b hb => by omega)
  have hfits := fits_any aM0 S (alone_leaves _ _ S) hSl 0 z (by omega) W0 _ _ _ _ _ _ (hzb W0 (Fr.refl _ _)) hN0 (alone_c S hS W0)
  rw [hfit] at hfits
  obtain ⟨z0, z1, z2, z3, z4⟩ := cells_5 h1
  have s0 : W0.cell? ⟨w.heap.size, 0, none⟩ = some (.slice As S.length caps) := cell_of_row _ _ 0 _ _ _ h0
  have HB0 := Lib.hid hb0
  have H1 := Lib.hid h1
  have H2 := Lib.hid h2
  have H3 := Lib.hid h3
  have HS0 := Lib.hid hs0
  have HZ5 : Hid (∀ (w5 : World) (o : Nat), Fr W0 w5 (fun _ => True) → w.heap.size + 4 ≤ o → UIn w5 (fun b => b < w5.heap.size ∧ b ≠ o) z (.int .i64 k) (.int .i64 nn) (.slice B n0 c0) (.slice A n1 c1) (.slice A' n2 c2)) := Lib.hid (fun w5 o hf ho => ((hz.fr (below_fr0 hb0) (fun _ _ => trivial)).fr hf (fun _ _ => trivial)).mono (fun b hb hb2 => ⟨hb, by omega⟩))
  have HZB := Lib.hid hzb
  have HW0 := Lib.hid hW0
  clear hb0 h0 h1 h2 h3 hs0 hzb hN hN0 hz hz' hfit hW0
  refine (callsIn_wide (n := 10)).1 ?_
  refine callsIn_of_wp_marks Tryd.func9 rfl trivial ?_
  simp only [Tryd.ntmps9, List.size_toArray, List.length_cons, List.length_nil, Nat.reduceAdd, Nat.reduceSub, Array.replicate_succ, Array.replicate_zero, List.push_toArray, List.append_toArray, List.nil_append, List.cons_append]
  have hW0 := HW0.out
  gi_wp2_with fail
  refine ⟨trivial, (callsIn_wide.2 hfits).mono ?_⟩
  rintro e w1 ⟨rfl, hb1⟩
  have hf1 : Fr W0 w1 (fun _ => True) := ⟨hb1.os, hb1.tape, hb1.output, hb1.size, fun k hk _ => hb1.block k hk⟩
  have hdep := depth_any z w1 _ _ _ _ _ (HZB.out w1 hf1) (by omega)
  obtain ⟨y0, y1, y2, y3, y4⟩ := cells_5 (hf1.at H1.out trivial)
  have HF1 := Lib.hid hf1
  clear hfits hb1 hf1 s0 z0 z1 z2 z3 z4 hW0
  obtain ⟨D, hD⟩ : ∃ D, maxD (pu 1 z) = D := ⟨_, rfl⟩
  rw [hD] at hdep hd
  have HD := Lib.hid hD
  have hd1 : decide ((64 : Int) < (D : Int)) = false := decide_eq_false (by omega)
  clear hD
  gi_wp2_with fail
  refine ⟨trivial, (callsIn_wide.2 hdep).mono ?_⟩
  rintro e w2 ⟨rfl, hb2⟩
  have hf2 : Fr W0 w2 (fun _ => True) := HF1.out.trans ⟨hb2.os, hb2.tape, hb2.output, hb2.size, fun k hk _ => hb2.block k hk⟩
  have hcnt := count_any z w2 _ _ _ _ _ (HZB.out w2 hf2) (by omega)
  obtain ⟨x0, x1, x2, x3, x4⟩ := cells_5 (hf2.at H1.out trivial)
  have HF2 := Lib.hid hf2
  clear hdep hb2 hf2 y0 y1 y2 y3 y4
  obtain ⟨C, hC⟩ : ∃ C, uc z = C := ⟨_, rfl⟩
  rw [hC] at hcnt
  have hcC : C ≤ 10000 := by omega
  have HC := Lib.hid hc
  have hd2 : decide ((10000 : Int) < (C : Int)) = false := decide_eq_false (by omega)
  have hd3 : decide (64 < D) = false := decide_eq_false (by omega)
  clear hC hc
  gi_wp2_with fail
  refine ⟨trivial, (callsIn_wide.2 hcnt).mono ?_⟩
  rintro e w3 ⟨rfl, hb3⟩
  have hf3 : Fr W0 w3 (fun _ => True) := HF2.out.trans ⟨hb3.os, hb3.tape, hb3.output, hb3.size, fun k hk _ => hb3.block k hk⟩
  obtain ⟨W4, hW4⟩ : ∃ W4, w3.alloc (.cells #[.slice none 0 0] 33) = W4 := ⟨_, rfl⟩
  have hf4 : Fr W0 W4 (fun _ => True) := by rw [← hW4]; exact hf3.alloc _
  have ho4 : W4.heap[w3.heap.size]? = some (.cells #[.slice none 0 0] 33 (0, 0)) := by rw [← hW4]; exact new_at rfl _
  have hs3 := hf3.size
  have hs4 : W4.heap.size = w3.heap.size + 1 := by rw [← hW4]; simp
  obtain ⟨y0, y1, y2, y3, y4⟩ := cells_5 (hf4.at H1.out trivial)
  have HF4 := Lib.hid hf4
  have HO4 := Lib.hid ho4
  have HS4 := Lib.hid hs4
  have HS3 := Lib.hid hs3
  clear hcnt hb3 hf3 hf4 ho4 hs3 hs4 x0 x1 x2 x3 x4
  obtain ⟨o, ho⟩ : ∃ o, w3.heap.size = o := ⟨_, rfl⟩
  gi_wp2_with fail
  refine ⟨trivial, (callsIn_wide.2 (pieces_call k nn B A A' n0 c0 n1 c1 n2 c2 W4)).mono ?_⟩
  rintro e w5 ⟨rfl, hw5⟩
  have hf5 : Fr W4 w5 (fun _ => True) := by rw [hw5]; exact (Fr.refl W4 _).alloc _
  have hbx : w5.heap[W4.heap.size]? = some (.cells #[.int .i64 k, .int .i64 nn, .slice B n0 c0, .slice A n1 c1, .slice A' n2 c2] 38 (0, 0)) := by rw [hw5]; exact new_at rfl _
  have hs5 : w5.heap.size = W4.heap.size + 1 := by rw [hw5]; simp
  have hfw : Fr W0 w5 (fun _ => True) := HF4.out.trans hf5
  have hbw : Below w.heap.size w w5 := HB0.out.trans ⟨hfw.os, hfw.tape, hfw.output, hfw.size, fun i hi => hfw.block i (by have := HS0.out; omega) trivial⟩
  have hoo : o + 1 = W4.heap.size := by have := HS4.out; omega
  have how : w.heap.size + 4 ≤ o := by have := HS3.out; have := HS0.out; omega
  have h2r := hfw.at H2.out trivial
  have h3r := hfw.at H3.out trivial
  have hoc : w5.heap[o]? = some (.cells #[.slice none 0 0] 33 (0, 0)) := by rw [← ho]; exact hf5.at HO4.out trivial
  have hz5 : UIn w5 (fun b => b < w5.heap.size ∧ b ≠ o) z (.int .i64 k) (.int .i64 nn) (.slice B n0 c0) (.slice A n1 c1) (.slice A' n2 c2) := HZ5.out w5 o hfw how
  have HBW := Lib.hid hbw
  have H2R := Lib.hid h2r
  have H3R := Lib.hid h3r
  have hle : ∀ (pre rest : List (List Int)) (x : List Int), pcs z = pre ++ x :: rest → pre.flatten.length + x.length ≤ 4096 := by
    intro pre rest x h
    rw [h] at hlen
    simp only [List.flatten_append, List.flatten_cons, List.length_append] at hlen
    omega
  have HLE := Lib.hid hle
  have HSS := Lib.hid hs5
  have hoo2 : o < w5.heap.size := by omega
  clear hw5 hf5 hfw hbw h2r h3r hle hW4 y0 y1 y2 y3 y4 ho
  gi_wp2
  refine range_e (F := Fence.wide) (n := 10) (ps := #[22]) rfl (by omega) (gf := 27) (lb := #[.pointer (some ⟨W4.heap.size, 0, none⟩)]) rfl trivial (enters_of Tryd.func27 (by kernel_rfl) rfl) (E := PieceE) (fun W x args h => by obtain ⟨A, c, rfl, _⟩ := h; rfl) (xs := pcs z) (Rd := fun k => k < w5.heap.size ∧ k ≠ o)
    (pieces_e 9 W4.heap.size z w5 (fun k => k < w5.heap.size ∧ k ≠ o) (fun k hk => hk.1) ⟨by omega, by omega⟩ _ _ _ _ _ hbx hz5 hku (by have := HC.out; omega)) (fun k hk => hk.1) (EncI w o w5) (fun _ _ _ => False) ?stI (fun _ _ _ _ h _ => h) ?start ?round ?done ?stop
  case stI =>
    rintro s X A A' ⟨v, e1, e2, e3, e4, e5⟩ hf
    exact ⟨v, hf.at e1 (.inr hoo2), ownsRow_fr e2 hf (fun g e => .inl (e3 g e)), e3, e4, e5.trans (hf.mono (fun k _ hk => .inr hk.1))⟩
  case start => exact ⟨.slice none 0 0, hoc, World.ownsRow_nil _ _ _ _, fun k e => by simp [Value.ownBlock] at e, fun x hx => by simp at hx, Fr.refl _ _⟩
  case stop => intro pr rest X W _ hx; exact hx.elim
  case done =>
    intro X W hI hX hd
    obtain ⟨v, e1, e2, e3, e4, e5⟩ := hI
    obtain ⟨Ar, cr, rfl⟩ := own_form e2
    have hbl : Below w.heap.size w W := HBW.out.trans ⟨e5.os, e5.tape, e5.output, e5.size, fun i hi => e5.block i (by omega) ⟨by omega, by omega⟩⟩
    have hr2 := e5.at H2R.out ⟨by omega, by omega⟩
    have hr3 := e5.at H3R.out ⟨by omega, by omega⟩
    have k0 : W.cell? ⟨o, 0, none⟩ = some (.slice Ar (pcs z).flatten.length cr) := cell_of_row _ _ 0 _ _ _ e1
    have k2 : W.cell? ⟨w.heap.size + 2, 0, none⟩ = some (.slice none 0 0) := cell_of_row _ _ 0 _ _ _ hr2
    have k3 : W.cell? ⟨w.heap.size + 3, 0, none⟩ = some (.int .i64 0) := cell_of_row _ _ 0 _ _ _ hr3
    have f2 := frozen_of_row W (w.heap.size + 2) 0 _ _ hr2
    have f3 := frozen_of_row W (w.heap.size + 3) 0 _ _ hr3
    obtain ⟨L, hL⟩ : ∃ L, (pcs z).flatten.length = L := ⟨_, rfl⟩
    have HLL := Lib.hid hL
    have HR2 := Lib.hid hr2
    have HR3 := Lib.hid hr3
    rw [hL] at k0 e2
    have HE2 := Lib.hid e2
    have HE4 := Lib.hid e4
    clear e1 e2 e3 e4 hr2 hr3
    gi_wp2
    have hf6 : Fr W ((W.setCell ⟨w.heap.size + 1 + 1, 0, none⟩ (.slice Ar L cr)).setCell ⟨w.heap.size + 1 + 1 + 1, 0, none⟩ (.int .i64 0)) (fun k => k ≠ w.heap.size + 2 ∧ k ≠ w.heap.size + 3) := ((set_fr W (w.heap.size + 2) 0 _).mono (fun k _ hk => hk.1)).trans ((set_fr _ (w.heap.size + 3) 0 _).mono (fun k _ hk => hk.2))
    have g2 : ((W.setCell ⟨w.heap.size + 1 + 1, 0, none⟩ (.slice Ar L cr)).setCell ⟨w.heap.size + 1 + 1 + 1, 0, none⟩ (.int .i64 0)).heap[w.heap.size + 2]? = some (.cells #[.slice Ar L cr] 33 (0, 0)) :=
      (set_fr _ (w.heap.size + 3) 0 _).at (by simpa using heap_setCell_same W (w.heap.size + 2) 0 _ 33 (.slice Ar L cr) HR2.out) (by omega)
    have g3 : ((W.setCell ⟨w.heap.size + 1 + 1, 0, none⟩ (.slice Ar L cr)).setCell ⟨w.heap.size + 1 + 1 + 1, 0, none⟩ (.int .i64 0)).heap[w.heap.size + 3]? = some (.cells #[.int .i64 0] 39 (0, 0)) := by
      simpa using heap_setCell_same _ (w.heap.size + 3) 0 _ 39 (.int .i64 0) ((set_fr W (w.heap.size + 2) 0 (.slice Ar L cr)).at HR3.out (by omega))
    generalize (W.setCell ⟨w.heap.size + 1 + 1, 0, none⟩ (.slice Ar L cr)).setCell ⟨w.heap.size + 1 + 1 + 1, 0, none⟩ (.int .i64 0) = W6 at *
    have hd' := hf6.at hd ⟨by omega, by omega⟩
    refine ⟨by simp, .inl ⟨_, _, rfl, run_takeDeferred hd', ?_⟩⟩
    refine ⟨.tuple #[.slice Ar L cr, .int .i64 0], ?_, ?_⟩
    · have q2 : ∀ o, (W6.putObj w5.heap.size o).cell? ⟨w.heap.size + 1 + 1, 0, none⟩ = some (.slice Ar L cr) := fun o => cell_of_row _ _ 0 _ _ _ ((put_other (by omega)).trans g2)
      have q3 : ∀ o, (W6.putObj w5.heap.size o).cell? ⟨w.heap.size + 1 + 1 + 1, 0, none⟩ = some (.int .i64 0) := fun o => cell_of_row _ _ 0 _ _ _ ((put_other (by omega)).trans g3)
      simp [results, Tryd.results9, go_sem, q2, q3]
    · have hb6 : Below w.heap.size w W6 := hbl.trans ⟨hf6.os, hf6.tape, hf6.output, hf6.size, fun i hi => hf6.block i (by have := hbl.size; omega) ⟨by omega, by omega⟩⟩
      refine ⟨hb6.grown (grownBy_putObj' _ _ _) hb6.size (fun e h => by cases h; omega), Ar, cr, by rw [HLL.out], ?_⟩
      rw [HLL.out]
      have ho6 := ownsRow_fr (ownsRow_fr HE2.out hf6 (fun g e => by have := (HE2.out.lt g e).1; exact ⟨by omega, by omega⟩)) (fr_put W6 w5.heap.size (.deferred none)) (fun g e => by have := (HE2.out.lt g e).1; omega)
      exact Rd.of_own ho6 HE4.out
  case round =>
    intro pr x rest X W args hE hlo hx hI hX hlt
    obtain ⟨A6, c6, rfl, hr6⟩ := hE
    have hle := HLE.out pr rest x hx
    clear hx hlen
    show Code.wpIn _ _ _ _ _ { tmps := _, defers := _ } _
    gi_wp2
    refine ⟨Fr.refl W _, ?_⟩
    intro W2 hf2 hl1 hl0 ⟨v, e1, e2, e3, e4, e5⟩
    obtain ⟨Ar, cr, rfl⟩ := own_form e2
    have hol : w5.heap.size + 2 ≤ W2.heap.size := by obtain ⟨ob, hb, _⟩ := hl1; have := blk_lt hb; omega
    have hr2 : Rd W2 W2.heap.size A6 x.length c6 x := by
      obtain ⟨a1, a2, a3, a4, a5⟩ := hr6
      refine ⟨a1, a2, a3, a4, fun hn => ?_⟩
      obtain ⟨b, off, e, hb, hc⟩ := a5 hn
      refine ⟨b, off, e, Nat.lt_of_lt_of_le hb hf2.size, fun j u hu => hf2.cell (hc j u hu) (fun e => ?_)⟩
      obtain ⟨ob, hob, hnc⟩ := hlo
      have := hc j u hu
      rw [e] at this
      unfold World.cell? at this
      rw [hob] at this
      cases ob <;> simp_all [Obj.isCells]
    obtain ⟨i0, hi, hz0, hz1, hz2⟩ := info_parts Tryd.info5
    obtain ⟨v', W3, hrun, hown3, hg3, hat3⟩ := run_append_rd (P := Tryd.prog) W2 (w5.heap.size + 2) 33 33 5 i0 Tryd.underlying33 hi hz0 hz1 hz2 _ _ _ e2 _ _ _ _ _ hr2 (by omega) hol
    have q0 : W2.cell? ⟨o, 0, none⟩ = some (.slice Ar pr.flatten.length cr) := cell_of_row _ _ 0 _ _ _ e1
    obtain ⟨L, hL⟩ : ∃ L, pr.flatten.length = L := ⟨_, rfl⟩
    obtain ⟨M, hM⟩ : ∃ M, x.length = M := ⟨_, rfl⟩
    rw [hL] at hrun q0 hle hown3
    rw [hM] at hrun hle hown3 ⊢
    have HL := Lib.hid hL
    have HM := Lib.hid hM
    have HR := Lib.hid hrun
    have hdl : decide ((4096 : Int) - (L : Int) < (M : Int)) = false := decide_eq_false (by omega)
    have hf3 : Fr W2 W3 (fun k => (Value.slice Ar pr.flatten.length cr).ownBlock ≠ some k) := Fr.of hg3 (fun b _ hb e => hb e.symm)
    have hro : ∀ g, (Value.slice Ar pr.flatten.length cr).ownBlock = some g → w5.heap.size + 2 ≤ g ∧ X g := fun g e => ⟨(e2.lt g e).1, e3 g e⟩
    have e13 := hf3.at e1 (fun e => by have := (hro _ e).1; omega)
    have q3 : W3.cell? ⟨o, 0, none⟩ = some (.slice Ar pr.flatten.length cr) := cell_of_row _ _ 0 _ _ _ e13
    have f3 := frozen_of_row W3 o 0 _ _ e13
    obtain ⟨Av, cv, rfl⟩ := own_form hown3
    have HE13 := Lib.hid e13
    have HOWN := Lib.hid hown3
    have HF3' := Lib.hid hf3
    have HRO := Lib.hid hro
    have HAT := Lib.hid hat3
    have HE5 := Lib.hid e5
    have HE4 := Lib.hid e4
    have HBY := Lib.hid hr6.byte
    have HL1 := Lib.hid hl1
    have HL0 := Lib.hid hl0
    clear hL hM hr2 hi hz0 hz1 hz2 e13 hown3 hf3 hro hat3 e1 e2 e3 e4 e5 hg3 hrun hr6 hl1 hl0 hI
    gi_wp2_with (gi_at_builtin; refine wpListIn_append_run rfl _ _ 33 rfl rfl rfl HR.out ?_)
    have hfs := set_fr W3 o 0 (.slice Av (L + M) cv)
    have hof : (W3.setCell ⟨o, 0, none⟩ (.slice Av (L + M) cv)).heap[o]? = some (.cells #[.slice Av (L + M) cv] 33 (0, 0)) := by simpa using heap_setCell_same W3 o 0 _ 33 (.slice Av (L + M) cv) HE13.out
    have hF4 : Fr W2 (W3.setCell ⟨o, 0, none⟩ (.slice Av (L + M) cv)) (fun k => (Value.slice Ar pr.flatten.length cr).ownBlock ≠ some k ∧ k ≠ o) := (HF3'.out.mono (fun k _ hk => hk.1)).trans (hfs.mono (fun k _ hk => hk.2))
    have hown4 : (W3.setCell ⟨o, 0, none⟩ (.slice Av (L + M) cv)).ownsRow (w5.heap.size + 2) 5 1 (.slice Av (L + M) cv) (L + M) (cellsB pr.flatten ++ cellsB x) := ownsRow_fr HOWN.out hfs (fun g e => by have := (HOWN.out.lt g e).1; omega)
    generalize W3.setCell ⟨o, 0, none⟩ (.slice Av (L + M) cv) = W7 at *
    have hfl : (pr ++ [x]).flatten = pr.flatten ++ x := by simp
    have hfll : (pr ++ [x]).flatten.length = L + M := by rw [hfl, List.length_append, HL.out, HM.out]
    have hne1 : ∀ q, q < w5.heap.size + 2 → (Value.slice Ar pr.flatten.length cr).ownBlock ≠ some q := fun q hq e => by have := (HRO.out q e).1; omega
    have hl1s : w5.heap.size + 1 < W2.heap.size := by obtain ⟨ob, hb, _⟩ := HL1.out; exact blk_lt hb
    have hl0s : w5.heap.size < W2.heap.size := by omega
    refine ⟨hF4.mono (fun q _ hq => ⟨fun e => hq.2 (HRO.out q e).2, ?_⟩), hF4.block _ hl1s ⟨hne1 _ (by omega), by omega⟩, by rw [Nat.add_sub_cancel]; exact hF4.block _ hl0s ⟨hne1 _ (by omega), by omega⟩, fun q => (Value.slice Av (L + M) cv).ownBlock = some q, ⟨.slice Av (L + M) cv, hof, ?_, fun q e => e, ?_, HE5.out.trans (hF4.mono (fun q _ hq => ⟨hne1 q (by omega), hq.2⟩))⟩, fun q e => ⟨?_, (hown4.lt q e).2⟩⟩
    · rcases hq.1 with h | h
      · exact h.2
      · omega
    · rw [hfll, hfl]
      simpa [cellsB] using hown4
    · intro y hy
      rw [hfl, List.mem_append] at hy
      rcases hy with h | h
      · exact HE4.out y h
      · exact HBY.out y h
    · rcases HAT.out with h | h
      · rw [h] at e; exact .inl (HRO.out q e).2
      · rw [h] at e; cases e; exact .inr (Nat.le_refl _)
end Go.Proofs.YtlkbcdbjmkfkkaaDoor
