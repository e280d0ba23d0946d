/-
  'Decode' of a schema of arrays, longs and nulls.
-/
import Derived.Test.YtlkbcdbjmkfkkaaDoorTak
namespace Go.Proofs.YtlkbcdbjmkfkkaaDoor
open Go.RowKit Go.Shelf

def decodeM (S : List Nd) (xs : List Int) : Except Nat U :=
  match valueM S 64 0 xs 0 with
  | .error f => .error f
  | .ok (z, ys, _) => if 0 < ys.length then .error 4 else .ok z
def DecP (w : World) (r : Except Nat U) (e : Ending) (w' : World) : Prop :=
  Below w.heap.size w w' ∧ match r with
  | .ok z => ∃ v0 v1 v2 v3 v4, e = .returned (.tuple #[.agg #[v0, v1, v2, v3, v4], .int .i64 0]) ∧ UIn w' (fun b => w.heap.size ≤ b) z v0 v1 v2 v3 v4
  | .error f => 0 < f ∧ e = .returned (.tuple #[.agg #[.int .i64 0, .int .i64 0, .slice none 0 0, .slice none 0 0, .slice none 0 0], .int .i64 f])
theorem decP_err {w : World} {r : Except Nat U} {f : Nat} {w' : World} (hr : r = .error f) (hf : Below w.heap.size w w') (h : 0 < f) : DecP w r (.returned (.tuple #[.agg #[.int .i64 0, .int .i64 0, .slice none 0 0, .slice none 0 0, .slice none 0 0], .int .i64 f])) w' := by
  subst hr; exact ⟨hf, h, rfl⟩
theorem decP_ok {w : World} {r : Except Nat U} {z : U} {v0 v1 v2 v3 v4 : Value} {w' : World} (hr : r = .ok z) (hf : Below w.heap.size w w') (h : UIn w' (fun b => w.heap.size ≤ b) z v0 v1 v2 v3 v4) : DecP w r (.returned (.tuple #[.agg #[v0, v1, v2, v3, v4], .int .i64 0])) w' := by
  subst hr; exact ⟨hf, v0, v1, v2, v3, v4, rfl, h⟩

theorem strs_mono {w : World} {ok ok' : Nat → Prop} (hk : ∀ b, ok b → ok' b) {ss : List ByteArray} {v : Value} (h : StrsAt w ok ss v) : StrsAt w ok' ss v := by
  obtain ⟨A, cap, h1, h2, h3, h4, h5⟩ := h
  exact ⟨A, cap, h1, h2, h3, h4, fun hp => by obtain ⟨g, off, e, hg, hc⟩ := h5 hp; exact ⟨g, off, e, hk g hg, hc⟩⟩
theorem ints_mono {w : World} {ok ok' : Nat → Prop} (hk : ∀ b, ok b → ok' b) {xs : List Int} {v : Value} (h : IntsAt w ok xs v) : IntsAt w ok' xs v := by
  obtain ⟨A, cap, h1, h2, h3, h4, h5⟩ := h
  exact ⟨A, cap, h1, h2, h3, h4, fun hp => by obtain ⟨g, off, e, hg, hc⟩ := h5 hp; exact ⟨g, off, e, hk g hg, hc⟩⟩
theorem rows_mono {α : Type} {k : Nat} {one one' : α → (Nat → Value) → Prop} {w : World} {ok ok' : Nat → Prop} (hk : ∀ b, ok b → ok' b) (ho : ∀ x c, one x c → one' x c) {xs : List α} {v : Value} (h : RowsAt k one w ok xs v) : RowsAt k one' w ok' xs v := by
  obtain ⟨A, cap, c, h1, h2, h3, h4, h5⟩ := h
  exact ⟨A, cap, c, h1, h2, h3, fun hp => by obtain ⟨g, off, e, hg, hc⟩ := h4 hp; exact ⟨g, off, e, hk g hg, hc⟩, fun i x hx => ho x _ (h5 i x hx)⟩
theorem nds_mono {w : World} {ok ok' : Nat → Prop} {ns : List Nd} {v : Value} (h : NdsAt w ok ns v) (hk : ∀ b, ok b → ok' b) : NdsAt w ok' ns v :=
  rows_mono hk (fun _ _ hx => ⟨hx.kind, hx.name, strs_mono hk hx.al, rows_mono hk (fun _ _ hf => ⟨hf.name, strs_mono hk hf.al, hf.ty, hf.has, hf.dflt, hf.tyw, hf.namel, hf.dfltl⟩) hx.fs, strs_mono hk hx.sy, hx.has, hx.dflt, hx.items, ints_mono hk hx.br, hx.size, hx.kindw, hx.itemsw, hx.sizew, hx.namel, hx.dfltl⟩) h

set_option maxHeartbeats 8000000 in
set_option maxRecDepth 100000 in
theorem decode_any (S : List Nd) (hS : Kinds S) (w : World) (vs : Value) (A : Option Addr) (n c : Nat) (xs : List Int) (hN : NdsAt w (fun b => b < w.heap.size) S vs) (hr : Rd w w.heap.size A n c xs) (hn : n ≤ 100000) :
    Calls Tryd.prog 8 #[.agg #[vs], .slice A n c] w (DecP w (decodeM S xs)) := by
  obtain ⟨As, caps, cs, rfl, _⟩ := id hN
  obtain ⟨W0, hW0⟩ : ∃ W0, (w.alloc (.cells #[.slice As S.length caps] 32)).alloc (.cells #[.int .i64 0, .int .i64 0, .slice none 0 0, .slice none 0 0, .slice none 0 0] 38) = W0 := ⟨_, rfl⟩
  have hb0 : Below w.heap.size w W0 := by rw [← hW0]; exact ((Below.refl _ w).alloc (Nat.le_refl _) _).alloc (by simp) _
  have h0 : W0.heap[w.heap.size]? = some (.cells #[.slice As S.length caps] 32 (0, 0)) := by rw [← hW0]; exact old_at _ (new_at rfl _)
  have h1 : W0.heap[w.heap.size + 1]? = some (.cells #[.int .i64 0, .int .i64 0, .slice none 0 0, .slice none 0 0, .slice none 0 0] 38 (0, 0)) := by rw [← hW0]; exact new_at (by simp) _
  have hs0 : W0.heap.size = w.heap.size + 2 := by rw [← hW0]; simp
  have c0 : W0.cell? ⟨w.heap.size, 0, none⟩ = some (.slice As S.length caps) := cell_of_row _ _ 0 _ _ _ h0
  have ht := take_any S hS W0 (.slice As S.length caps) A n c xs (nds_mono (nds_fr (below_fr0 hb0) (fun _ _ => trivial) hN) (fun b hb => by omega)) ((hr.below hb0).more (by omega)) hn
  have hlen := hr.len
  have HB0 := Lib.hid hb0
  have H1 := Lib.hid h1
  have HL := Lib.hid hlen
  clear hN hb0 h0 h1 hr hlen
  go_enter Tryd.func8, Tryd.ntmps8
  go_wp2_with fail
  refine ht.mono ?_
  rintro e w3 ⟨hb3, hr3⟩
  clear ht hW0 c0
  have hz3 : w3.heap[w.heap.size + 1]? = some (.cells #[.int .i64 0, .int .i64 0, .slice none 0 0, .slice none 0 0, .slice none 0 0] 38 (0, 0)) := (hb3.block _ (by omega)).trans H1.out
  have hbb : Below w.heap.size w w3 := HB0.out.trans (hb3.mono (by omega))
  have hs3 := hb3.size
  cases hm : valueM S 64 0 xs 0 with
  | error f =>
    rw [hm] at hr3
    obtain ⟨hf0, rfl⟩ := hr3
    have hfz : ((f : Int) != 0) = true := by simp; omega
    have HM : Hid (decodeM S xs = .error f) := Lib.hid (by unfold decodeM; rw [hm])
    have hfa : Fr w3 (w3.alloc (.cells #[.int .i64 0, .int .i64 0, .slice none 0 0, .slice none 0 0, .slice none 0 0] 38)) (fun _ => True) := (Fr.refl w3 _).alloc _
    have hz4 := hfa.at hz3 trivial
    have hb4 : Below w.heap.size w (w3.alloc (.cells #[.int .i64 0, .int .i64 0, .slice none 0 0, .slice none 0 0, .slice none 0 0] 38)) := hbb.alloc hbb.size _
    clear hm hz3 hbb hb3
    go_upto_region 2 with fail
    generalize w3.alloc (.cells #[.int .i64 0, .int .i64 0, .slice none 0 0, .slice none 0 0, .slice none 0 0] 38) = w4 at *
    obtain ⟨z0, z1, z2, z3, z4⟩ := cells_5 hz4
    have y0 := frozen_of_row w4 (w.heap.size + 1) 0 _ 38 hz4
    have y1 := frozen_of_row w4 (w.heap.size + 1) 1 _ 38 hz4
    have y2 := frozen_of_row w4 (w.heap.size + 1) 2 _ 38 hz4
    have y3 := frozen_of_row w4 (w.heap.size + 1) 3 _ 38 hz4
    have y4 := frozen_of_row w4 (w.heap.size + 1) 4 _ 38 hz4
    have HZ4 := Lib.hid hz4
    have HB4 := Lib.hid hb4
    clear hz4 hb4 hfa
    go_wp2
    have hn5 := set5_new w4 (w.heap.size + 1) _ _ _ _ _ (.int .i64 0) (.int .i64 0) (.slice none 0 0) (.slice none 0 0) (.slice none 0 0) HZ4.out
    have hfn := set5_fr0 w4 (w.heap.size + 1) (.int .i64 0) (.int .i64 0) (.slice none 0 0) (.slice none 0 0) (.slice none 0 0)
    generalize (((((w4.setCell ⟨w.heap.size + 1, 0, none⟩ (.int .i64 0)).setCell ⟨w.heap.size + 1, 1, none⟩ (.int .i64 0)).setCell ⟨w.heap.size + 1, 2, none⟩ (.slice none 0 0)).setCell ⟨w.heap.size + 1, 3, none⟩ (.slice none 0 0)).setCell ⟨w.heap.size + 1, 4, none⟩ (.slice none 0 0)) = W5 at *
    obtain ⟨r0, r1, r2, r3, r4⟩ := cells_5 hn5
    refine bodyPost_ret (v := .tuple #[.agg #[.int .i64 0, .int .i64 0, .slice none 0 0, .slice none 0 0, .slice none 0 0], .int .i64 f]) (by simp [results, Tryd.results8, go_sem, r0, r1, r2, r3, r4]) rfl ?_
    exact decP_err HM.out (HB4.out.trans (fr_below (hfn.mono (fun k _ hk => by omega)) HB4.out.size)) hf0
  | ok v =>
    obtain ⟨z, ys, cc⟩ := v
    rw [hm] at hr3
    obtain ⟨v0, v1, v2, v3, v4, rfl, hz⟩ := hr3
    obtain ⟨k, nn, B, n0, x0, A1, n1, x1, A2, n2, x2, rfl, rfl, rfl, rfl, rfl⟩ := uin_agg hz
    have hyl := (valueM_len S 64 0 _ _ _ _ _ hm).1
    have hfa : Fr w3 (w3.alloc (.cells #[.int .i64 k, .int .i64 nn, .slice B n0 x0, .slice A1 n1 x1, .slice A2 n2 x2] 38)) (fun _ => True) := (Fr.refl w3 _).alloc _
    have hz4 := hfa.at hz3 trivial
    have hb4 : Below w.heap.size w (w3.alloc (.cells #[.int .i64 k, .int .i64 nn, .slice B n0 x0, .slice A1 n1 x1, .slice A2 n2 x2] 38)) := hbb.alloc hbb.size _
    have ho4 : (w3.alloc (.cells #[.int .i64 k, .int .i64 nn, .slice B n0 x0, .slice A1 n1 x1, .slice A2 n2 x2] 38)).heap[w3.heap.size]? = some (.cells #[.int .i64 k, .int .i64 nn, .slice B n0 x0, .slice A1 n1 x1, .slice A2 n2 x2] 38 (0, 0)) := new_at rfl _
    have huz := hz.fr hfa (fun _ _ => trivial)
    have hs0' := hs0
    clear hz3 hbb hb3 hz
    go_upto_region 2 with fail
    generalize w3.alloc (.cells #[.int .i64 k, .int .i64 nn, .slice B n0 x0, .slice A1 n1 x1, .slice A2 n2 x2] 38) = w4 at *
    obtain ⟨z0, z1, z2, z3, z4⟩ := cells_5 hz4
    have y0 := frozen_of_row w4 (w.heap.size + 1) 0 _ 38 hz4
    have y1 := frozen_of_row w4 (w.heap.size + 1) 1 _ 38 hz4
    have y2 := frozen_of_row w4 (w.heap.size + 1) 2 _ 38 hz4
    have y3 := frozen_of_row w4 (w.heap.size + 1) 3 _ 38 hz4
    have y4 := frozen_of_row w4 (w.heap.size + 1) 4 _ 38 hz4
    obtain ⟨u0, u1, u2, u3, u4⟩ := cells_5 ho4
    have HZ4 := Lib.hid hz4
    have HB4 := Lib.hid hb4
    have HUZ := Lib.hid huz
    clear hz4 hb4 hfa ho4 huz hs0 hs3
    by_cases hys : 0 < ys.length
    · have HM : Hid (decodeM S xs = .error 4) := Lib.hid (by unfold decodeM; rw [hm]; simp only [if_pos hys])
      have hd1 : decide (((n - ys.length : Nat) : Int) < (n : Int)) = true := decide_eq_true (by have := HL.out; omega)
      have hd2 : decide (n - ys.length < n) = true := decide_eq_true (by have := HL.out; omega)
      generalize n - ys.length = m at *
      clear hm
      go_wp2
      have hn5 := set5_new w4 (w.heap.size + 1) _ _ _ _ _ (.int .i64 0) (.int .i64 0) (.slice none 0 0) (.slice none 0 0) (.slice none 0 0) HZ4.out
      have hfn := set5_fr0 w4 (w.heap.size + 1) (.int .i64 0) (.int .i64 0) (.slice none 0 0) (.slice none 0 0) (.slice none 0 0)
      generalize (((((w4.setCell ⟨w.heap.size + 1, 0, none⟩ (.int .i64 0)).setCell ⟨w.heap.size + 1, 1, none⟩ (.int .i64 0)).setCell ⟨w.heap.size + 1, 2, none⟩ (.slice none 0 0)).setCell ⟨w.heap.size + 1, 3, none⟩ (.slice none 0 0)).setCell ⟨w.heap.size + 1, 4, none⟩ (.slice none 0 0)) = W5 at *
      obtain ⟨r0, r1, r2, r3, r4⟩ := cells_5 hn5
      refine bodyPost_ret (v := .tuple #[.agg #[.int .i64 0, .int .i64 0, .slice none 0 0, .slice none 0 0, .slice none 0 0], .int .i64 4]) (by simp [results, Tryd.results8, go_sem, r0, r1, r2, r3, r4]) rfl ?_
      exact decP_err (f := 4) HM.out (HB4.out.trans (fr_below (hfn.mono (fun k _ hk => by omega)) HB4.out.size)) (by omega)
    · have HM : Hid (decodeM S xs = .ok z) := Lib.hid (by unfold decodeM; rw [hm]; simp only [if_neg hys])
      have hd1 : decide (((n - ys.length : Nat) : Int) < (n : Int)) = false := decide_eq_false (by omega)
      have hd2 : decide (n - ys.length < n) = false := decide_eq_false (by omega)
      generalize n - ys.length = m at *
      clear hm
      go_wp2
      have hn5 := set5_new w4 (w.heap.size + 1) _ _ _ _ _ (.int .i64 k) (.int .i64 nn) (.slice B n0 x0) (.slice A1 n1 x1) (.slice A2 n2 x2) HZ4.out
      have hfn := set5_fr0 w4 (w.heap.size + 1) (.int .i64 k) (.int .i64 nn) (.slice B n0 x0) (.slice A1 n1 x1) (.slice A2 n2 x2)
      generalize (((((w4.setCell ⟨w.heap.size + 1, 0, none⟩ (.int .i64 k)).setCell ⟨w.heap.size + 1, 1, none⟩ (.int .i64 nn)).setCell ⟨w.heap.size + 1, 2, none⟩ (.slice B n0 x0)).setCell ⟨w.heap.size + 1, 3, none⟩ (.slice A1 n1 x1)).setCell ⟨w.heap.size + 1, 4, none⟩ (.slice A2 n2 x2)) = W5 at *
      obtain ⟨r0, r1, r2, r3, r4⟩ := cells_5 hn5
      refine bodyPost_ret (v := .tuple #[.agg #[.int .i64 k, .int .i64 nn, .slice B n0 x0, .slice A1 n1 x1, .slice A2 n2 x2], .int .i64 0]) (by simp [results, Tryd.results8, go_sem, r0, r1, r2, r3, r4]) rfl ?_
      exact decP_ok HM.out (HB4.out.trans (fr_below (hfn.mono (fun k _ hk => by omega)) HB4.out.size)) ((HUZ.out.fr hfn (fun b hb => by omega)).mono (fun b _ hb => by omega))
end Go.Proofs.YtlkbcdbjmkfkkaaDoor
