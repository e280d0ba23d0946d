/-
  'value' of a schema of arrays, longs and nulls.
-/
import Derived.Test.YtlkbcdbjmkfkkaaDoorItm
namespace Go.Proofs.YtlkbcdbjmkfkkaaDoor
open Go.RowKit Go.Shelf

/-- What 'single' answers. -/
def SingP (w : World) (p q : Nat) (nv : Value) (cnt : Nat) (r : Except Nat (Int × List Int)) (e : Ending) (w' : World) : Prop :=
  Fr w w' (fun k => k ≠ q) ∧ match r with
  | .ok (n, ys) => e = .returned (.tuple #[.agg #[.int .i64 0, .int .i64 n, .slice none 0 0, .slice none 0 0, .slice none 0 0], .int .i64 0]) ∧ Tk w' p q nv ys cnt
  | .error f => 0 < f ∧ ∃ n : Int, e = .returned (.tuple #[.agg #[.int .i64 0, .int .i64 n, .slice none 0 0, .slice none 0 0, .slice none 0 0], .int .i64 f])
def singleM (nd : Nd) (xs : List Int) : Except Nat (Int × List Int) := if nd.kind = 4 then numberM minI maxI xs else .ok (0, xs)

theorem set5_new (W : World) (b : Nat) (a0 a1 a2 a3 a4 v0 v1 v2 v3 v4 : Value) (h : W.heap[b]? = some (.cells #[a0, a1, a2, a3, a4] 38 (0, 0))) :
    (((((W.setCell ⟨b, 0, none⟩ v0).setCell ⟨b, 1, none⟩ v1).setCell ⟨b, 2, none⟩ v2).setCell ⟨b, 3, none⟩ v3).setCell ⟨b, 4, none⟩ v4).heap[b]? = some (.cells #[v0, v1, v2, v3, v4] 38 (0, 0)) := by
  have h1 := heap_setCell_same W b 0 _ 38 v0 h
  have h2 := heap_setCell_same _ b 1 _ 38 v1 h1
  have h3 := heap_setCell_same _ b 2 _ 38 v2 h2
  have h4 := heap_setCell_same _ b 3 _ 38 v3 h3
  have h5 := heap_setCell_same _ b 4 _ 38 v4 h4
  simpa using h5
theorem set5_fr0 (w : World) (g : Nat) (v0 v1 v2 v3 v4 : Value) : Fr w (((((w.setCell ⟨g, 0, none⟩ v0).setCell ⟨g, 1, none⟩ v1).setCell ⟨g, 2, none⟩ v2).setCell ⟨g, 3, none⟩ v3).setCell ⟨g, 4, none⟩ v4) (fun k => k ≠ g) :=
  ((((set_fr w g _ v0).trans (set_fr _ g _ v1)).trans (set_fr _ g _ v2)).trans (set_fr _ g _ v3)).trans (set_fr _ g _ v4)
theorem singP_ok {w : World} {p q : Nat} {nv : Value} {cnt : Nat} {r : Except Nat (Int × List Int)} {n : Int} {ys : List Int} {w' : World} (hr : r = .ok (n, ys)) (hf : Fr w w' (fun k => k ≠ q)) (h : Tk w' p q nv ys cnt) : SingP w p q nv cnt r (.returned (.tuple #[.agg #[.int .i64 0, .int .i64 n, .slice none 0 0, .slice none 0 0, .slice none 0 0], .int .i64 0])) w' := by
  subst hr; exact ⟨hf, rfl, h⟩
theorem singP_err {w : World} {p q : Nat} {nv : Value} {cnt : Nat} {r : Except Nat (Int × List Int)} {n : Int} {f : Nat} {w' : World} (hr : r = .error f) (h : 0 < f) (hf : Fr w w' (fun k => k ≠ q)) : SingP w p q nv cnt r (.returned (.tuple #[.agg #[.int .i64 0, .int .i64 n, .slice none 0 0, .slice none 0 0, .slice none 0 0], .int .i64 f])) w' := by
  subst hr; exact ⟨hf, h, n, rfl⟩

set_option maxHeartbeats 4000000 in
set_option maxRecDepth 100000 in
theorem single_any (w : World) (p q : Nat) (nv : Value) (nd : Nd) (c : Nat → Value) (xs : List Int) (cnt : Nat) (hk : c 0 = .int .i64 nd.kind) (hk14 : nd.kind = 1 ∨ nd.kind = 4) (ht : Tk w p q nv xs cnt) :
    Calls Tryd.prog 36 #[.pointer (some ⟨p, 0, none⟩), ndv c] w (SingP w p q nv cnt (singleM nd xs)) := by
  have hlt := ht.lt
  obtain ⟨W0, hW0⟩ : ∃ W0, (w.alloc (.cells #[c 0, c 1, c 2, c 3, c 4, c 5, c 6, c 7, c 8, c 9] 29)).alloc (.cells #[.int .i64 0, .int .i64 0, .slice none 0 0, .slice none 0 0, .slice none 0 0] 38) = W0 := ⟨_, rfl⟩
  have hf0 : Fr w W0 (fun _ => True) := by rw [← hW0]; exact ((Fr.refl w _).alloc _).alloc _
  have h0 : W0.heap[w.heap.size]? = some (.cells #[c 0, c 1, c 2, c 3, c 4, c 5, c 6, c 7, c 8, c 9] 29 (0, 0)) := by rw [← hW0]; exact old_at _ (new_at rfl _)
  have h1 : W0.heap[w.heap.size + 1]? = some (.cells #[.int .i64 0, .int .i64 0, .slice none 0 0, .slice none 0 0, .slice none 0 0] 38 (0, 0)) := by rw [← hW0]; exact new_at (by simp) _
  have ht0 := ht.fr (N := w.heap.size) hf0 hlt.1 hlt.2 (fun _ _ => trivial)
  have q0 : W0.cell? ⟨w.heap.size, 0, none⟩ = some (.int .i64 nd.kind) := by rw [← hk]; exact cell_of_row _ _ 0 _ _ _ h0
  rcases hk14 with h1k | h4k
  · have HM : Hid (singleM nd xs = .ok (0, xs)) := Lib.hid (by unfold singleM; rw [if_neg (by omega)])
    obtain ⟨p0, p1, p2, p3, p4⟩ := cells_5 h1
    have y0 := frozen_of_row W0 (w.heap.size + 1) 0 _ 38 h1
    have y1 := frozen_of_row W0 (w.heap.size + 1) 1 _ 38 h1
    have y2 := frozen_of_row W0 (w.heap.size + 1) 2 _ 38 h1
    have y3 := frozen_of_row W0 (w.heap.size + 1) 3 _ 38 h1
    have y4 := frozen_of_row W0 (w.heap.size + 1) 4 _ 38 h1
    rw [h1k] at q0
    have HF := Lib.hid (hf0.mono (ok' := fun k => k ≠ q) (fun _ _ _ => trivial))
    have HT := Lib.hid ht0
    have H1 := Lib.hid h1
    clear h0 h1 ht ht0 hf0 h1k hk
    go_enter Tryd.func36, Tryd.ntmps36
    go_wp2
    have hn := set5_new W0 (w.heap.size + 1) _ _ _ _ _ (.int .i64 0) (.int .i64 0) (.slice none 0 0) (.slice none 0 0) (.slice none 0 0) H1.out
    have hfn := set5_fr0 W0 (w.heap.size + 1) (.int .i64 0) (.int .i64 0) (.slice none 0 0) (.slice none 0 0) (.slice none 0 0)
    generalize (((((W0.setCell ⟨w.heap.size + 1, 0, none⟩ (.int .i64 0)).setCell ⟨w.heap.size + 1, 1, none⟩ (.int .i64 0)).setCell ⟨w.heap.size + 1, 2, none⟩ (.slice none 0 0)).setCell ⟨w.heap.size + 1, 3, none⟩ (.slice none 0 0)).setCell ⟨w.heap.size + 1, 4, none⟩ (.slice none 0 0)) = W5 at *
    obtain ⟨r0, r1, r2, r3, r4⟩ := cells_5 hn
    refine bodyPost_ret (v := .tuple #[.agg #[.int .i64 0, .int .i64 0, .slice none 0 0, .slice none 0 0, .slice none 0 0], .int .i64 0]) (by simp [results, Tryd.results36, go_sem, r0, r1, r2, r3, r4]) rfl ?_
    exact singP_ok HM.out (fr_more HF.out hfn (fun k hk _ => by omega)) (HT.out.fr (N := w.heap.size) hfn hlt.1 hlt.2 (fun k hk => by omega))
  · have hn4 := number_tk minI maxI p q nv xs cnt W0 ht0
    have HM : Hid (singleM nd xs = numberM minI maxI xs) := Lib.hid (by unfold singleM; rw [if_pos h4k])
    obtain ⟨p0, p1, p2, p3, p4⟩ := cells_5 h1
    rw [h4k] at q0
    have HF := Lib.hid (hf0.mono (ok' := fun k => k ≠ q) (fun _ _ _ => trivial))
    have H1 := Lib.hid h1
    clear h0 h1 ht ht0 hf0 h4k hk p0 p1 p2 p3 p4
    go_enter Tryd.func36, Tryd.ntmps36
    go_wp2_with fail
    refine hn4.mono ?_
    rintro e w1 ⟨hf1, hr⟩
    have h1 := hf1.at H1.out (by omega)
    have HF1 := Lib.hid (HF.out.trans hf1)
    obtain ⟨p0, p1, p2, p3, p4⟩ := cells_5 h1
    have y0 := frozen_of_row w1 (w.heap.size + 1) 0 _ 38 h1
    have y1 := frozen_of_row w1 (w.heap.size + 1) 1 _ 38 h1
    have y2 := frozen_of_row w1 (w.heap.size + 1) 2 _ 38 h1
    have y3 := frozen_of_row w1 (w.heap.size + 1) 3 _ 38 h1
    have y4 := frozen_of_row w1 (w.heap.size + 1) 4 _ 38 h1
    have H1' := Lib.hid h1
    clear hn4 h1 q0 hf1
    cases hm : numberM minI maxI xs with
    | error f =>
      rw [hm] at hr HM
      have hfe := numberM_err hm
      obtain ⟨n, rfl⟩ := hr
      clear hm
      go_wp2
      have hs1 : (w1.setCell ⟨w.heap.size + 1, 1, none⟩ (.int .i64 n)).heap[w.heap.size + 1]? = some (.cells #[.int .i64 0, .int .i64 n, .slice none 0 0, .slice none 0 0, .slice none 0 0] 38 (0, 0)) := by simpa using heap_setCell_same w1 (w.heap.size + 1) 1 _ 38 (.int .i64 n) H1'.out
      have hn := set5_new _ (w.heap.size + 1) _ _ _ _ _ (.int .i64 0) (.int .i64 n) (.slice none 0 0) (.slice none 0 0) (.slice none 0 0) hs1
      have hfn := (set_fr w1 (w.heap.size + 1) 1 (.int .i64 n)).trans (set5_fr0 _ (w.heap.size + 1) (.int .i64 0) (.int .i64 n) (.slice none 0 0) (.slice none 0 0) (.slice none 0 0))
      generalize ((((((w1.setCell ⟨w.heap.size + 1, 1, none⟩ (.int .i64 n)).setCell ⟨w.heap.size + 1, 0, none⟩ (.int .i64 0)).setCell ⟨w.heap.size + 1, 1, none⟩ (.int .i64 n)).setCell ⟨w.heap.size + 1, 2, none⟩ (.slice none 0 0)).setCell ⟨w.heap.size + 1, 3, none⟩ (.slice none 0 0)).setCell ⟨w.heap.size + 1, 4, none⟩ (.slice none 0 0)) = W5 at *
      obtain ⟨r0, r1, r2, r3, r4⟩ := cells_5 hn
      refine bodyPost_ret (v := .tuple #[.agg #[.int .i64 0, .int .i64 n, .slice none 0 0, .slice none 0 0, .slice none 0 0], .int .i64 f]) (by simp [results, Tryd.results36, go_sem, r0, r1, r2, r3, r4]) rfl ?_
      exact singP_err HM.out hfe.1 (fr_more HF1.out hfn (fun k hk _ => by omega))
    | ok v =>
      obtain ⟨n, ys⟩ := v
      rw [hm] at hr HM
      obtain ⟨rfl, ht1⟩ := hr
      have HT1 := Lib.hid ht1
      clear hm ht1
      go_wp2
      have hs1 : (w1.setCell ⟨w.heap.size + 1, 1, none⟩ (.int .i64 n)).heap[w.heap.size + 1]? = some (.cells #[.int .i64 0, .int .i64 n, .slice none 0 0, .slice none 0 0, .slice none 0 0] 38 (0, 0)) := by simpa using heap_setCell_same w1 (w.heap.size + 1) 1 _ 38 (.int .i64 n) H1'.out
      have hn := set5_new _ (w.heap.size + 1) _ _ _ _ _ (.int .i64 0) (.int .i64 n) (.slice none 0 0) (.slice none 0 0) (.slice none 0 0) hs1
      have hfn := (set_fr w1 (w.heap.size + 1) 1 (.int .i64 n)).trans (set5_fr0 _ (w.heap.size + 1) (.int .i64 0) (.int .i64 n) (.slice none 0 0) (.slice none 0 0) (.slice none 0 0))
      generalize ((((((w1.setCell ⟨w.heap.size + 1, 1, none⟩ (.int .i64 n)).setCell ⟨w.heap.size + 1, 0, none⟩ (.int .i64 0)).setCell ⟨w.heap.size + 1, 1, none⟩ (.int .i64 n)).setCell ⟨w.heap.size + 1, 2, none⟩ (.slice none 0 0)).setCell ⟨w.heap.size + 1, 3, none⟩ (.slice none 0 0)).setCell ⟨w.heap.size + 1, 4, none⟩ (.slice none 0 0)) = W5 at *
      obtain ⟨r0, r1, r2, r3, r4⟩ := cells_5 hn
      refine bodyPost_ret (v := .tuple #[.agg #[.int .i64 0, .int .i64 n, .slice none 0 0, .slice none 0 0, .slice none 0 0], .int .i64 0]) (by simp [results, Tryd.results36, go_sem, r0, r1, r2, r3, r4]) rfl ?_
      exact singP_ok HM.out (fr_more HF1.out hfn (fun k hk _ => by omega)) (HT1.out.fr (N := w.heap.size) hfn hlt.1 hlt.2 (fun k hk => by omega))

theorem valueM_neg {S : List Nd} {d : Nat} {node : Int} {xs : List Int} {cnt : Nat} (h : node < 0) : valueM S d node xs cnt = .error 9 := by
  cases d <;> rw [valueM, if_pos h]
theorem valueM_none {S : List Nd} {d m : Nat} {xs : List Int} {cnt : Nat} (h : S.length ≤ m) : valueM S d m xs cnt = .error 9 := by
  have hn : S[Int.toNat (m : Int)]? = none := List.getElem?_eq_none (by simpa using h)
  cases d <;> rw [valueM, if_neg (by omega), hn]
theorem valueM_zero {S : List Nd} {m : Nat} {nd : Nd} {xs : List Int} {cnt : Nat} (h : S[m]? = some nd) : valueM S 0 m xs cnt = .error 5 := by
  have hn : S[Int.toNat (m : Int)]? = some nd := by simpa using h
  rw [valueM, if_neg (by omega), hn]
theorem valueM_lim {S : List Nd} {d m : Nat} {nd : Nd} {xs : List Int} {cnt : Nat} (h : S[m]? = some nd) (hc : 10000 ≤ cnt) : valueM S (d + 1) m xs cnt = .error 5 := by
  have hn : S[Int.toNat (m : Int)]? = some nd := by simpa using h
  rw [valueM, if_neg (by omega), hn]
  simp only [if_pos hc]
theorem valueM_arr {S : List Nd} {d m : Nat} {nd : Nd} {xs : List Int} {cnt : Nat} (h : S[m]? = some nd) (hc : ¬ 10000 ≤ cnt) (hk : nd.kind = 11) : valueM S (d + 1) m xs cnt = match blocksM (stepM (valueM S d nd.items)) (xs.length + 1) ⟨xs, cnt + 1, []⟩ with
        | .error f => .error f
        | .ok s => .ok (.mk 11 0 [] s.L [], s.xs, s.cnt) := by
  have hn : S[Int.toNat (m : Int)]? = some nd := by simpa using h
  rw [valueM, if_neg (by omega), hn]
  simp only [if_neg hc, if_pos hk]
  rfl
theorem valueM_sing {S : List Nd} {d m : Nat} {nd : Nd} {xs : List Int} {cnt : Nat} (h : S[m]? = some nd) (hc : ¬ 10000 ≤ cnt) (hk : nd.kind = 1 ∨ nd.kind = 4) : valueM S (d + 1) m xs cnt = match singleM nd xs with
        | .error f => .error f
        | .ok (n, ys) => .ok (.mk nd.kind n [] [] [], ys, cnt + 1) := by
  have hn : S[Int.toNat (m : Int)]? = some nd := by simpa using h
  rw [valueM, if_neg (by omega), hn]
  unfold singleM
  rcases hk with hk | hk
  · simp only [if_neg hc, hk]; rfl
  · simp only [if_neg hc, hk]; rfl
theorem valP_err {w : World} {p q : Nat} {nv : Value} {r : Except Nat (U × List Int × Nat)} {f : Nat} {w' : World} (hr : r = .error f) (hf : Fr w w' (fun k => k ≠ p ∧ k ≠ q)) (h : 0 < f) : ValP w p q nv r (.returned (.tuple #[.agg #[.int .i64 0, .int .i64 0, .slice none 0 0, .slice none 0 0, .slice none 0 0], .int .i64 f])) w' := by
  subst hr; exact ⟨hf, h, rfl⟩
theorem valP_ok {w : World} {p q : Nat} {nv : Value} {r : Except Nat (U × List Int × Nat)} {z : U} {ys : List Int} {c : Nat} {v0 v1 v2 v3 v4 : Value} {w' : World} (hr : r = .ok (z, ys, c)) (hf : Fr w w' (fun k => k ≠ p ∧ k ≠ q)) (h : UIn w' (fun b => w.heap.size ≤ b) z v0 v1 v2 v3 v4) (ht : Tk w' p q nv ys c) : ValP w p q nv r (.returned (.tuple #[.agg #[v0, v1, v2, v3, v4], .int .i64 0])) w' := by
  subst hr; exact ⟨hf, v0, v1, v2, v3, v4, rfl, h, ht⟩
theorem rd_far2 {w w' : World} {B n c p : Nat} {A : Option Addr} {ys : List Int} {v0 v1 v2 : Value} (h : Rd w B A n c ys) (hp : w.heap[p]? = some (.cells #[v0, v1, v2] 65 (0, 0))) (hw : ∀ a : Addr, a.block < B → a.block ≠ p → w'.cell? a = w.cell? a) (h0 : ∀ u, v0 ≠ .int .u8 u) (h1 : ∀ u, v1 ≠ .int .u8 u) (h2 : ∀ u, v2 ≠ .int .u8 u) : Rd w' B A n c ys := by
  obtain ⟨a1, a2, a3, a4, h5⟩ := h
  refine ⟨a1, a2, a3, a4, fun hn => ?_⟩
  obtain ⟨b, off, e, hb, hc⟩ := h5 hn
  have hne : b ≠ p := by
    rintro rfl
    obtain ⟨u, hu⟩ : ∃ u, ys[0]? = some u := ⟨ys[0]'(by omega), List.getElem?_eq_getElem _⟩
    have := hc 0 u hu
    rw [cell_of_row w b (off + 0) _ 65 (0, 0) hp] at this
    match off, this with
    | 0, h => simp at h; exact h0 u h
    | 1, h => simp at h; exact h1 u h
    | 2, h => simp at h; exact h2 u h
    | k + 3, h => simp at h
  exact ⟨b, off, e, hb, fun j u hu => (hw _ hb hne).trans (hc j u hu)⟩
/-- The kinds that these schemas have. -/
def Kinds (S : List Nd) : Prop := ∀ nd, nd ∈ S → nd.kind = 1 ∨ nd.kind = 4 ∨ nd.kind = 11

end Go.Proofs.YtlkbcdbjmkfkkaaDoor
