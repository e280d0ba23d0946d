/-
  'Fits' of every value, what one node asks being told by a contract.
-/
import Derived.Test.YtpajccehkcgoaaaDoorFtl
import Derived.BigQuiet
import Derived.Lib.SmallJoins
namespace Go.Proofs.YtpajccehkcgoaaaDoor
open Go.RowKit Go.Shelf
attribute [local go_sem] Oper.semAt_some

/-- What one node asks, told of all that is there. -/
def AloneC (aM : Nd → U → Bool) (S : List Nd) (w : World) : Prop := ∀ W, Below w.heap.size w W → ∀ nd c x d0 d1 d2 d3 d4, nd ∈ S → NdIn W (fun b => b < w.heap.size) nd c → UIn W (fun b => b < w.heap.size) x d0 d1 d2 d3 d4 →
  Calls Tryd.prog 49 #[ndv c, .agg #[d0, d1, d2, d3, d4]] W fun e w' => e = .returned (.bool (aM nd x)) ∧ Below W.heap.size W w'
/-- What holds while a value is gone through. -/
def FitI (aM : Nd → U → Bool) (S : List Nd) (node : Int) (W0 : World) (n : Nat) (pr : List (Nat × UT)) (X : Nat → Prop) (W : World) : Prop :=
  ∃ (way : List Ent) (v7 : Value), foldF aM S node [] (pr.map umap) = some (some way) ∧ W.heap[n + 4]? = some (.cells #[v7] 110 (0, 0)) ∧ W.ownsRow (W0.heap.size + 2) 116 3 v7 way.length (wayV way) ∧ (∀ k, v7.ownBlock = some k → X k) ∧ (way = [] → v7 = .slice none 0 0) ∧ Fr W0 W (fun k => k < W0.heap.size ∧ k ≠ n + 4)
def FitX (aM : Nd → U → Bool) (S : List Nd) (node : Int) (z : U) (w : World) (n : Nat) (_ : List (Nat × UT)) (_ : Nat → Prop) (W : World) : Prop :=
  fitsU aM S node z = false ∧ W.heap[n + 3]? = some (.cells #[.bool false] 4 (0, 0)) ∧ Below n w W
theorem FitI_fr {aM : Nd → U → Bool} {S : List Nd} {node : Int} {W0 W : World} {n : Nat} {pr : List (Nat × UT)} {X : Nat → Prop} (h : FitI aM S node W0 n pr X W) : Fr W0 W (fun k => k < W0.heap.size ∧ k ≠ n + 4) := by
  obtain ⟨_, _, _, _, _, _, _, h⟩ := h
  exact h
mutual
theorem pu_pos : ∀ (z : U) (d : Nat) (p : Nat × U), p ∈ pu d z → d ≤ p.1
  | .mk k n b l ks, d, p, h => by
    rw [pu] at h
    rcases List.mem_cons.1 h with rfl | h
    · exact Nat.le_refl _
    · have := puL_pos l (d + 1) p h
      omega
theorem puL_pos : ∀ (l : List U) (d : Nat) (p : Nat × U), p ∈ puL d l → d ≤ p.1
  | [], d, p, h => by rw [puL] at h; cases h
  | x :: r, d, p, h => by
    rw [puL] at h
    rcases List.mem_append.1 h with h | h
    · exact pu_pos x d p h
    · exact puL_pos r d p h
end
theorem pu_first {z : U} {a b : List (Nat × U)} {x : Nat × U} (h : pu 1 z = a ++ x :: b) (hx : x.1 = 1) : a = [] := by
  cases z with
  | mk k n bb l ks =>
    rw [pu] at h
    cases a with
    | nil => rfl
    | cons y r =>
      simp only [List.cons_append, List.cons.injEq] at h
      have : x ∈ puL 2 l := by rw [h.2]; simp
      have := puL_pos l 2 x this
      omega
theorem uin_num {w : World} {ok : Nat → Prop} {t : U} {a b : Int} {v2 v3 v4 : Value} (h : UIn w ok t (.int .i64 a) (.int .i64 b) v2 v3 v4) : b = t.num := by
  cases h
  rfl
theorem slice_nil (m : Nat) (hm : m = 0) (wx : World) : (Instr.slice 110 (.slice none 0 0) none (some (.int .i64 (m : Int))) none).run Tryd.prog wx = .ok (.slice none 0 0) wx := by
  subst hm
  kernel_rfl
theorem slice_cut (g lw cap m : Nat) (h1 : m ≤ cap) (h2 : cap ≤ maxLen) (wx : World) : (Instr.slice 110 (.slice (some ⟨g, 0, none⟩) lw cap) none (some (.int .i64 (m : Int))) none).run Tryd.prog wx = .ok (.slice (some ⟨g, 0, none⟩) m cap) wx := by
  have h1' : (m : Int) ≤ (cap : Int) := by omega
  unfold maxLen at h2
  have hu := Tryd.underlying110
  go_simp

set_option maxRecDepth 100000 in
set_option maxHeartbeats 8000000 in
theorem fits_any (aM : Nd → U → Bool) (S : List Nd) (hG : Leaves aM S) (hSl : S.length ≤ 1000000) (node : Int) (z : U) (hc : uc z ≤ 100000) (w : World) (v0 v1 v2 v3 v4 vs : Value) (h : UIn w (fun b => b < w.heap.size) z v0 v1 v2 v3 v4) (hs : NdsAt w (fun b => b < w.heap.size) S vs) (HA : AloneC aM S w) :
    Calls Tryd.prog 27 #[.agg #[vs], .int .i64 node, .agg #[v0, v1, v2, v3, v4]] w fun e w' => e = .returned (.bool (fitsU aM S node z)) ∧ Below w.heap.size w w' := by
  obtain ⟨k, m, B, n0, c0, A, n1, c1, A', n2, c2, rfl, rfl, rfl, rfl, rfl⟩ := uin_agg h
  obtain ⟨As, caps, cs, rfl, hs2, hs3, hs4, hs5⟩ := hs
  have HAH := Lib.hid HA
  have HS4 := Lib.hid hs4
  have HS5 := Lib.hid hs5
  clear HA hs4 hs5
  refine (callsIn_wide (n := 10)).1 ?_
  refine callsIn_of_wp_marks Tryd.func27 rfl trivial ?_
  simp only [Tryd.ntmps27, List.size_toArray, List.length_cons, List.length_nil, Nat.reduceAdd, Nat.reduceSub, Array.replicate_succ, Array.replicate_zero, List.push_toArray, List.append_toArray, List.nil_append, List.cons_append]
  gi_wp2_with (refine ⟨trivial, ?_⟩; gi_at_call 47; refine (ueach_call Fence.wide _ trivial rfl _ _ _ _ _ _ _ _ _ _ _ _).mono ?_; rintro e w2 ⟨rfl, rfl⟩)
  obtain ⟨W0, hW0⟩ : ∃ W0, (((((w.alloc (.cells #[.slice As S.length caps] 24)).alloc (.cells #[.int .i64 node] 3)).alloc (.cells #[.int .i64 k, .int .i64 m, .slice B n0 c0, .slice A n1 c1, .slice A' n2 c2] 38)).alloc (.cells #[.bool false] 4)).alloc (.cells #[.slice none 0 0] 110)).alloc (.cells #[.int .i64 k, .int .i64 m, .slice B n0 c0, .slice A n1 c1, .slice A' n2 c2] 38) = W0 := ⟨_, rfl⟩
  have hb0 : Below w.heap.size w W0 := by rw [← hW0]; exact ((((((Below.refl _ w).alloc (Nat.le_refl _) _).alloc (by simp) _).alloc (by simp; omega) _).alloc (by simp; omega) _).alloc (by simp; omega) _).alloc (by simp; omega) _
  have hs0 : W0.heap.size = w.heap.size + 6 := by rw [← hW0]; simp
  have ha0 : W0.heap[w.heap.size]? = some (.cells #[.slice As S.length caps] 24 (0, 0)) := by rw [← hW0]; exact old_at _ (old_at _ (old_at _ (old_at _ (old_at _ (new_at rfl _)))))
  have hn0 : W0.heap[w.heap.size + 1]? = some (.cells #[.int .i64 node] 3 (0, 0)) := by rw [← hW0]; exact old_at _ (old_at _ (old_at _ (old_at _ (new_at (by simp) _))))
  have hr0 : W0.heap[w.heap.size + 3]? = some (.cells #[.bool false] 4 (0, 0)) := by rw [← hW0]; exact old_at _ (old_at _ (new_at (by simp) _))
  have hy0 : W0.heap[w.heap.size + 4]? = some (.cells #[.slice none 0 0] 110 (0, 0)) := by rw [← hW0]; exact old_at _ (new_at (by simp) _)
  have hbx : W0.heap[w.heap.size + 5]? = some (.cells #[.int .i64 k, .int .i64 m, .slice B n0 c0, .slice A n1 c1, .slice A' n2 c2] 38 (0, 0)) := by rw [← hW0]; exact new_at (by simp) _
  rw [hW0]
  clear hW0
  have hbw : ∀ W, Fr W0 W (fun k => k < W0.heap.size ∧ k ≠ w.heap.size + 4) → Below w.heap.size w W := fun W hf => hb0.trans ⟨hf.os, hf.tape, hf.output, hf.size, fun i hi => hf.block i (by omega) (by omega)⟩
  have HBW := Lib.hid hbw
  clear hbw
  have hz0 := h.fr (below_fr hb0) (fun _ h => h)
  obtain ⟨kids, hv⟩ := hz0.vt
  have hmap : (upre 1 (.mk z (.int .i64 k) (.int .i64 m) (.slice B n0 c0) (.slice A n1 c1) (.slice A' n2 c2) kids)).map umap = pu 1 z := upre_map (.mk z (.int .i64 k) (.int .i64 m) (.slice B n0 c0) (.slice A n1 c1) (.slice A' n2 c2) kids) 1 hv
  have hlen := congrArg List.length hmap
  rw [List.length_map, pu_len] at hlen
  refine range_w (F := Fence.wide) (n := 10) (ps := #[14, 15]) rfl (by omega) (gf := 72) (lb := #[.pointer (some ⟨w.heap.size + 5, 0, none⟩)]) rfl trivial (enters_of Tryd.func72 (by kernel_rfl) rfl) (encs := uencN) (fun _ => rfl)
    (each_w Fence.wide 9 trivial rfl (by omega) (w.heap.size + 5) (.mk z (.int .i64 k) (.int .i64 m) (.slice B n0 c0) (.slice A n1 c1) (.slice A' n2 c2) kids) W0 (fun k => k < W0.heap.size ∧ k ≠ w.heap.size + 3 ∧ k ≠ w.heap.size + 4) (fun k hk => hk.1) ⟨by omega, by omega, by omega⟩ hbx (hv.mono (fun k hk => ⟨by omega, by omega, by omega⟩)) (by omega)) (fun k hk => hk.1)
    (FitI aM S node W0 w.heap.size) (FitX aM S node z w w.heap.size) ?stI ?stX ?start ?round ?done ?stop
  case stI =>
    rintro s X A A' ⟨way, v7, h1, h2, h3, h4, h5, h6⟩ hf
    exact ⟨way, v7, h1, hf.at h2 (.inr (by omega)), ownsRow_fr h3 hf (fun g e => .inl (h4 g e)), h4, h5, h6.trans (hf.mono (fun k _ hk => .inr hk.1))⟩
  case stX =>
    rintro s X A A' ⟨h1, h5, h6⟩ hf
    exact ⟨h1, hf.at h5 (.inr (by omega)), h6.trans ⟨hf.os, hf.tape, hf.output, hf.size, fun k hk => hf.block k (by have := h6.size; omega) (.inr (by omega))⟩⟩
  case start => exact ⟨[], .slice none 0 0, rfl, hy0, ⟨rfl, .inl ⟨rfl, rfl⟩⟩, (fun k e => by cases e), fun _ => rfl, Fr.refl _ _⟩
  case stop =>
    intro pr rest X W hx hI hX hd
    obtain ⟨hfit, h5, hb⟩ := hI
    have q0 : W.cell? ⟨w.heap.size + 3, 0, none⟩ = some (.bool false) := cell_of_row W _ 0 _ _ _ h5
    have hlt := blk_lt h5
    gi_wp2
    refine ⟨by simp, .inl ⟨_, _, rfl, run_takeDeferred hd, ?_⟩⟩
    refine ⟨.bool false, ?_, by rw [hfit], ?_⟩
    · have hq : ∀ o, (W.putObj W0.heap.size o).cell? ⟨w.heap.size + 1 + 1 + 1, 0, none⟩ = some (.bool false) := fun o => cell_of_row _ _ 0 _ _ _ ((put_other (by omega)).trans h5)
      simp [results, Tryd.results27, go_sem, hq]
    · exact (hb.grown (grownBy_putObj' _ _ _) hb.size (fun e h => by cases h; omega))
  case done =>
    intro X W hI hX hd
    obtain ⟨way, v7, h1, h2, h3, h4, _, h6⟩ := hI
    have hb := HBW.out W h6
    have h5 := h6.at hr0 ⟨by omega, by omega⟩
    have hfit : fitsU aM S node z = true := by
      rw [hmap] at h1
      have := fold_top (node := node) hG z
      split at this
      · assumption
      · rw [h1] at this; cases this
    have q0 : W.cell? ⟨w.heap.size + 3, 0, none⟩ = some (.bool false) := cell_of_row W _ 0 _ _ _ h5
    have f0 := frozen_of_row W (w.heap.size + 3) 0 _ 4 h5
    have hlt := blk_lt h5
    have hd' : (W.setCell ⟨w.heap.size + 1 + 1 + 1, 0, none⟩ (.bool true)).heap[W0.heap.size]? = some (.deferred (some [])) := (Below.heap_setCell _ _ _ _ (by show W0.heap.size ≠ w.heap.size + 1 + 1 + 1; omega)).trans hd
    clear h1 h2 h3 h4
    gi_wp2
    refine ⟨by simp, .inl ⟨_, _, rfl, run_takeDeferred hd', ?_⟩⟩
    refine ⟨.bool true, ?_, by rw [hfit], ?_⟩
    · have h6 : (W.setCell ⟨w.heap.size + 1 + 1 + 1, 0, none⟩ (.bool true)).heap[w.heap.size + 3]? = some (.cells #[.bool true] 4 (0, 0)) := by rw [heap_setCell_same W (w.heap.size + 3) 0 _ 4 _ h5]; rfl
      have hq : ∀ o, ((W.setCell ⟨w.heap.size + 1 + 1 + 1, 0, none⟩ (.bool true)).putObj W0.heap.size o).cell? ⟨w.heap.size + 1 + 1 + 1, 0, none⟩ = some (.bool true) := fun o => cell_of_row _ _ 0 _ _ _ ((put_other (by omega)).trans h6)
      simp [results, Tryd.results27, go_sem, hq]
    · have hb2 : Below w.heap.size w (W.setCell ⟨w.heap.size + 1 + 1 + 1, 0, none⟩ (.bool true)) := hb.setCell (by show w.heap.size ≤ w.heap.size + 1 + 1 + 1; omega) _
      exact hb2.grown (grownBy_putObj' _ _ _) hb2.size (fun e h => by cases h; omega)
  case round =>
    intro pr x rest X W hx hI hX hlt
    have hxs : pu 1 z = pr.map umap ++ umap x :: rest.map umap := by rw [← hmap, hx, List.map_append, List.map_cons]
    have hxm : x ∈ upre 1 (.mk z (.int .i64 k) (.int .i64 m) (.slice B n0 c0) (.slice A n1 c1) (.slice A' n2 c2) kids) := by rw [hx]; simp
    have hvx := (umem_pre _ 1 hv x hxm).jin
    have hpm : umap x ∈ pu 1 z := by rw [hxs]; simp
    have hx2 : x.1 ≤ 100000 := by have := maxD_le _ _ hpm; have := maxD_pu z 1; simp only [umap] at *; omega
    have hx1 : 1 ≤ x.1 := pu_pos _ _ _ hpm
    obtain ⟨kx, nx, Bx, Ax, Ax', m0, cx0, m1, cx1, m2, cx2, e0, e1, e2, e3, e4⟩ := hvx.forms
    rw [e0, e1, e2, e3, e4] at hvx
    have HNUM := Lib.hid (uin_num hvx)
    have hfm := FitI_fr hI
    have hprl : pr.length ≤ 100000 := by have := congrArg List.length hx; rw [List.length_append] at this; omega
    have HX := Lib.hid hxs
    clear hx hlen hmap hxm hpm hxs
    show Code.wpIn _ _ _ _ _ { tmps := _, defers := _ } _
    simp only [uencN, UT.val, e0, e1, e2, e3, e4]
    clear e0 e1 e2 e3 e4
    gi_wp2
    refine ⟨(Fr.refl W _).alloc _, ?_⟩
    intro W2 hf2 hl1 hl0 ⟨way, v7, g1, g2, g3, g4, gn, gf⟩
    have hlx := blk_lt g2
    have hlW := hfm.size
    have hbx2 : W2.heap[W.heap.size]? = some (.cells #[.int .i64 kx, .int .i64 nx, .slice Bx m0 cx0, .slice Ax m1 cx1, .slice Ax' m2 cx2] 38 (0, 0)) := hf2.at (new_at rfl _) (by omega)
    have g6 := HBW.out W2 gf
    have g5 := gf.at hr0 ⟨by omega, by omega⟩
    have hst := fold_at (node := node) hG HX.out g1
    obtain ⟨hwb, hnb⟩ := fold_bnd _ _ _ 0 g1 (by simp)
    simp only [List.length_nil, List.length_map, Nat.zero_add] at hwb hnb
    have HST := Lib.hid hst
    have hx2v : UIn W2 (fun b => b < w.heap.size) x.2.t (.int .i64 kx) (.int .i64 nx) (.slice Bx m0 cx0) (.slice Ax m1 cx1) (.slice Ax' m2 cx2) := hvx.fr (ok' := fun b => b < w.heap.size) (gf.mono (fun k _ hk => ⟨by omega, by omega⟩)) (fun _ h => h)
    have HV := Lib.hid hx2v
    have a2 := gf.at ha0 ⟨by omega, by omega⟩
    have b2 := gf.at hn0 ⟨by omega, by omega⟩
    clear hx2v hst hvx hI hv hz0
    by_cases hd1 : x.1 = 1
    · have hpr : pr = [] := List.map_eq_nil_iff.1 (pu_first HX.out hd1)
      obtain rfl : way = [] := by
        have g1' := g1
        rw [hpr] at g1'
        simp only [List.map_nil, foldF, Option.some.injEq] at g1'
        exact g1'.symm
      clear hpr
      obtain rfl := gn rfl
      have hstep : nextF S node [] x.1 = some (node, []) := by rw [nextF, if_pos hd1]
      have HN := Lib.hid hstep
      have hdep := HN.out
      obtain ⟨d1, hd1'⟩ : ∃ d1 : Nat, d1 = x.1 - 1 := ⟨_, rfl⟩
      have dd2 : ¬ (1 : Int) < ((x.1 : Nat) : Int) := by omega
      have dd4 : IntKind.i64.wrap (((x.1 : Nat) : Int) - 1) = (d1 : Int) := (IntWalk.i64_in _ (by omega)).trans (by omega)
      have HD1 := Lib.hid hd1'
      have pN : W2.cell? ⟨w.heap.size + 1, 0, none⟩ = some (.int .i64 node) := cell_of_row _ _ 0 _ _ _ b2
      have hd0 : d1 = 0 := by omega
      have HSLC := Lib.hid (slice_nil d1 hd0)
      have HD0 := Lib.hid hd0
      clear hd1' hdep hd1 hstep hd0
      have hdz : ∃ dzz : Int, ((x.1 : Nat) : Int) = dzz := ⟨_, rfl⟩
      obtain ⟨dz, hdz⟩ := hdz
      have HDZ := Lib.hid hdz
      rw [hdz] at dd2 dd4 ⊢
      clear hdz
      gi_wp2
      have hNG : ∀ b, (Value.slice none 0 0).ownBlock = some b → W0.heap.size + 2 ≤ b ∧ b < W.heap.size ∧ X b := fun b e => by cases e
      have hF4 : Fr W2 W2 (fun b => (Value.slice none 0 0).ownBlock ≠ some b) := Fr.refl _ _
      have hR4 : W2.ownsRow (W0.heap.size + 2) 116 3 (.slice none 0 0) 0 (wayV []) := ⟨rfl, .inl ⟨rfl, rfl⟩⟩
      have hR5 : ∀ W5, Fr W2 W5 (fun _ => True) → W5.ownsRow (W0.heap.size + 2) 116 3 (.slice none 0 0) d1 (wayV (([] : List Ent).take d1)) := fun W5 _ => by
        have h0 := HD0.out
        subst h0
        exact ⟨rfl, .inl ⟨rfl, rfl⟩⟩
      have HR5 := Lib.hid hR5
      have HF4 := Lib.hid hF4
      have hgx : (Value.slice none 0 0).ownBlock ≠ some W.heap.size := fun e => by have := hNG _ e; omega
      have hlow : ∀ b, b < W0.heap.size + 2 → (Value.slice none 0 0).ownBlock ≠ some b := fun b hb e => by have := hNG _ e; omega
      have hB4 := hF4.at hbx2 hgx
      have hn4 := hF4.at g2 (hlow _ (by omega))
      have a4 := hF4.at a2 (hlow _ (by omega))
      have x0 : W2.cell? ⟨W.heap.size, 0, none⟩ = some (.int .i64 kx) := cell_of_row _ _ 0 _ _ _ hB4
      have x1 : W2.cell? ⟨W.heap.size, 1, none⟩ = some (.int .i64 nx) := cell_of_row _ _ 1 _ _ _ hB4
      have x2 : W2.cell? ⟨W.heap.size, 2, none⟩ = some (.slice Bx m0 cx0) := cell_of_row _ _ 2 _ _ _ hB4
      have x3 : W2.cell? ⟨W.heap.size, 3, none⟩ = some (.slice Ax m1 cx1) := cell_of_row _ _ 3 _ _ _ hB4
      have x4 : W2.cell? ⟨W.heap.size, 4, none⟩ = some (.slice Ax' m2 cx2) := cell_of_row _ _ 4 _ _ _ hB4
      have pA4 : W2.cell? ⟨w.heap.size, 0, none⟩ = some (.slice As S.length caps) := cell_of_row _ _ 0 _ _ _ a4
      have g54 := hF4.at g5 (hlow _ (by omega))
      have hb4 : Below w.heap.size w W2 := g6.trans ⟨hF4.os, hF4.tape, hF4.output, hF4.size, fun i hi => hF4.block i (by have := g6.size; omega) (hlow _ (by omega))⟩
      have HVV := Lib.hid (HV.out.fr (ok' := fun b => b < w.heap.size) (hF4.mono (fun k _ hk => hlow _ (by omega))) (fun _ h => h))
      have pAp := fun p : Aft W2 => p.fr.cell pA4 trivial
      have hl1' : W2.heap[W0.heap.size + 1]? = W2.heap[W0.heap.size + 1]? := rfl
      have hl0' : W2.heap[W0.heap.size]? = W2.heap[W0.heap.size]? := rfl
      have hl1s : W0.heap.size + 1 < W2.heap.size := by obtain ⟨o, ho, _⟩ := hl1; exact Nat.lt_of_lt_of_le (blk_lt ho) hF4.size
      have FX : stepF aM S node [] (umap x) = some none → ∀ (W5 : World) (a : Act), Fr W2 W5 (fun _ => True) → retPw (W0.heap.size + 1) (W0.heap.size + 2) (fun k => k < W0.heap.size ∧ k ≠ w.heap.size + 3 ∧ k ≠ w.heap.size + 4) (FitI aM S node W0 w.heap.size) (FitX aM S node z w w.heap.size) (pr ++ [x]) X W2 .ret a (W5.setCell ⟨w.heap.size + 1 + 1 + 1, 0, none⟩ (.bool false)) := by
        intro hs W5 a hf5
        have hfit : fitsU aM S node z = false := by
          rcases HST.out with ⟨_, h, _⟩ | ⟨_, h⟩
          · rw [hs] at h; cases h
          · exact h
        have hF5 : Fr W2 (W5.setCell ⟨w.heap.size + 1 + 1 + 1, 0, none⟩ (.bool false)) (fun b => b ≠ w.heap.size + 3) := (hf5.mono (fun _ _ _ => trivial)).trans (Fr.of (gset W5 _ 0 _) (fun b _ hb e => hb (by cases e; rfl)))
        refine ⟨?_, ?_, fun _ => False, ⟨hfit, ?_, ?_⟩, fun k h => h.elim⟩
        · rw [← hl1']; exact hF5.block _ hl1s (by omega)
        · rw [Nat.add_sub_cancel, ← hl0']; exact hF5.block _ (by omega) (by omega)
        · rw [heap_setCell_same W5 (w.heap.size + 3) 0 _ 4 _ (hf5.at g54 trivial)]; rfl
        · exact (hb4.trans ⟨hf5.os, hf5.tape, hf5.output, hf5.size, fun i hi => hf5.block i (by have := hb4.size; omega) trivial⟩).setCell (by show w.heap.size ≤ w.heap.size + 1 + 1 + 1; omega) _
      have HFX := Lib.hid FX
      have G54 := Lib.hid g54
      have HS0 := Lib.hid hs0
      clear FX hs0 g54
      by_cases hA : node < 0
      · have hAd : decide (node < 0) = true := decide_eq_true hA
        have hsn : stepF aM S node [] (umap x) = some none := by
          rw [stepF, show (umap x).1 = x.1 from rfl, HN.out]
          simp only [if_pos hA]
        have HSN := Lib.hid hsn
        clear hsn
        refine rin_aft (by kernel_rfl) (by kernel_rfl) rfl (by rintro ⟨_, _, h⟩; exact h) ?_
        repeat (go_big_quiet_step (fail))
        refine wpQuiet_nil ?_
        rintro ⟨W5, hf5⟩
        have r0 : W5.cell? ⟨w.heap.size + 3, 0, none⟩ = some (.bool false) := cell_of_row _ _ 0 _ _ _ (hf5.at G54.out trivial)
        have r1 := frozen_of_row W5 (w.heap.size + 3) 0 _ 4 (hf5.at G54.out trivial)
        show Exit.then _ _ Exit.normal _ W5
        gi_wp2
        exact HFX.out HSN.out W5 _ hf5
      · have hAd : decide (node < 0) = false := decide_eq_false hA
        cases hSn : S[Int.toNat node]? with
        | none =>
          have hge : S.length ≤ Int.toNat node := List.getElem?_eq_none_iff.1 hSn
          have hBd : decide ((S.length : Int) ≤ node) = true := decide_eq_true (by omega)
          have hsn : stepF aM S node [] (umap x) = some none := by
            rw [stepF, show (umap x).1 = x.1 from rfl, HN.out]
            simp only [if_neg hA, hSn]
          have HSN := Lib.hid hsn
          clear hsn hSn hge
          refine rin_aft (by kernel_rfl) (by kernel_rfl) rfl (by rintro ⟨_, _, h⟩; exact h) ?_
          repeat (go_big_quiet_step (fail))
          refine wpQuiet_nil ?_
          rintro ⟨W5, hf5⟩
          have r0 : W5.cell? ⟨w.heap.size + 3, 0, none⟩ = some (.bool false) := cell_of_row _ _ 0 _ _ _ (hf5.at G54.out trivial)
          have r1 := frozen_of_row W5 (w.heap.size + 3) 0 _ 4 (hf5.at G54.out trivial)
          show Exit.then _ _ Exit.normal _ W5
          gi_wp2
          exact HFX.out HSN.out W5 _ hf5
        | some nd2 =>
          have hlt2 : Int.toNat node < S.length := (List.getElem?_eq_some_iff.1 hSn).1
          obtain ⟨m2n, hm2⟩ : ∃ q : Nat, node = q := ⟨Int.toNat node, by omega⟩
          subst hm2
          simp only [Int.toNat_natCast] at hSn hlt2
          have hBd : decide ((S.length : Int) ≤ (m2n : Int)) = false := decide_eq_false (by omega)
          have hBd2 : decide (S.length ≤ m2n) = false := decide_eq_false (by omega)
          have hBi : (m2n : Int) < (S.length : Int) := by omega
          have HB4 := Lib.hid (below_fr0 hb4)
          obtain ⟨gS', oS', eS, _, hcS⟩ := HS4.out (by omega)
          subst eS
          have zc : ∀ j, j < 10 → W2.cell? ⟨gS', oS' + m2n * 10 + j, none⟩ = some (cs m2n j) := fun j hj => by
            have := HB4.out.cell (hcS m2n j hlt2 hj) trivial
            rwa [show oS' + (10 * m2n + j) = oS' + m2n * 10 + j by omega] at this
          have z0 := zc 0 (by omega)
          rw [Nat.add_zero] at z0
          have z0p := fun p : Aft W2 => p.fr.cell z0 trivial
          have z1p := fun p : Aft W2 => p.fr.cell (zc 1 (by omega)) trivial
          have z2p := fun p : Aft W2 => p.fr.cell (zc 2 (by omega)) trivial
          have z3p := fun p : Aft W2 => p.fr.cell (zc 3 (by omega)) trivial
          have z4p := fun p : Aft W2 => p.fr.cell (zc 4 (by omega)) trivial
          have z5p := fun p : Aft W2 => p.fr.cell (zc 5 (by omega)) trivial
          have z6p := fun p : Aft W2 => p.fr.cell (zc 6 (by omega)) trivial
          have z7p := fun p : Aft W2 => p.fr.cell (zc 7 (by omega)) trivial
          have z8p := fun p : Aft W2 => p.fr.cell (zc 8 (by omega)) trivial
          have z9p := fun p : Aft W2 => p.fr.cell (zc 9 (by omega)) trivial
          have x0p := fun p : Aft W2 => p.fr.cell x0 trivial
          have x1p := fun p : Aft W2 => p.fr.cell x1 trivial
          have x2p := fun p : Aft W2 => p.fr.cell x2 trivial
          have x3p := fun p : Aft W2 => p.fr.cell x3 trivial
          have x4p := fun p : Aft W2 => p.fr.cell x4 trivial
          have HCALL := Lib.hid (show ∀ p : Aft W2, Calls Tryd.prog 49 #[ndv (cs m2n), .agg #[.int .i64 kx, .int .i64 nx, .slice Bx m0 cx0, .slice Ax m1 cx1, .slice Ax' m2 cx2]] p.w fun e w' => e = .returned (.bool (aM nd2 x.2.t)) ∧ ∃ q : Aft W2, w' = q.w from fun p =>
            aft_call ((HAH.out p.w (hb4.trans ⟨p.fr.os, p.fr.tape, p.fr.output, p.fr.size, fun i hi => p.fr.block i (by have := hb4.size; omega) trivial⟩) nd2 (cs m2n) x.2.t _ _ _ _ _ (List.mem_of_getElem? hSn) ((HS5.out _ _ hSn).fr ((below_fr0 hb4).trans p.fr) (fun _ _ => trivial)) (HVV.out.fr p.fr (fun _ _ => trivial))).mono fun _ _ ⟨h1, h2⟩ => ⟨h1, below_fr0 h2⟩))
          clear zc hcS HB4 z0
          cases hM : aM nd2 x.2.t with
          | false =>
            rw [hM] at HCALL
            have hsn : stepF aM S (m2n : Int) [] (umap x) = some none := by
              rw [stepF, show (umap x).1 = x.1 from rfl, HN.out]
              simp only [if_neg hA, Int.toNat_natCast, hSn, show (umap x).2 = x.2.t from rfl, hM]
              rfl
            have HSN := Lib.hid hsn
            clear hsn hSn
            refine rin_aft (by kernel_rfl) (by kernel_rfl) rfl (by rintro ⟨_, _, h⟩; exact h) ?_
            repeat (go_big_quiet_step ((go_at_call 49; exact HCALL.out _)))
            refine wpQuiet_nil ?_
            rintro ⟨W5, hf5⟩
            have r0 : W5.cell? ⟨w.heap.size + 3, 0, none⟩ = some (.bool false) := cell_of_row _ _ 0 _ _ _ (hf5.at G54.out trivial)
            have r1 := frozen_of_row W5 (w.heap.size + 3) 0 _ 4 (hf5.at G54.out trivial)
            show Exit.then _ _ Exit.normal _ W5
            gi_wp2
            exact HFX.out HSN.out W5 _ hf5
          | true =>
            rw [hM] at HCALL
            have hso : stepF aM S (m2n : Int) [] (umap x) = some (some ((([] : List Ent)).take d1 ++ [⟨m2n, nx, 0⟩])) := by
              rw [stepF, show (umap x).1 = x.1 from rfl, HN.out]
              simp only [if_neg hA, Int.toNat_natCast, hSn, show (umap x).2 = x.2.t from rfl, hM, if_true]
              rw [if_pos (by have := HD1.out; have := HD0.out; simp; omega), show x.2.t.num = nx from HNUM.out.symm, HD1.out]
            have HSO := Lib.hid hso
            clear hso hSn
            refine rin_aft (by kernel_rfl) (by kernel_rfl) rfl (by rintro ⟨_, _, h⟩; exact h) ?_
            repeat (go_big_quiet_step ((go_at_call 49; exact HCALL.out _)))
            refine wpQuiet_nil ?_
            rintro ⟨W5, hf5⟩
            show Exit.then _ _ Exit.normal _ W5
            gi_wp2
            have hs0 := HS0.out
            have hl5 := hf5.size
            refine fit_tail _ _ _ _ _ W.heap.size (W0.heap.size + 2) d1 d1 dz _ kx nx (.slice none 0 0) (Value.slice none 0 0) _ _ _ _ W5 _ _ _ _ _ _ _ _ _ _ _ _ _ _ _ _ _ _ _ _ _ _ _ _ _ _ _ _ _ _ _ _ _ _ _ _ _ _ _ _ _ _ _ _ _ _ _ _ _ _ _ _ _ _ _ _ _ dd4 (hf5.at hn4 trivial) (hf5.at hB4 trivial) HSLC.out (HR5.out W5 hf5) (by have := HD1.out; omega) (by omega) (by omega) ?_
            intro v70 a w' hr70 hh4 hf7 hob
            show retPw (W0.heap.size + 1) (W0.heap.size + 2) (fun k => k < W0.heap.size ∧ k ≠ w.heap.size + 3 ∧ k ≠ w.heap.size + 4) (FitI aM S (m2n : Int) W0 w.heap.size) (FitX aM S (m2n : Int) z w w.heap.size) (pr ++ [x]) X W2 .normal a w'
            have hF7 : Fr W2 w' (fun k => (Value.slice none 0 0).ownBlock ≠ some k ∧ k ≠ w.heap.size + 4) := (HF4.out.mono (fun _ _ h => h.1)).trans ((hf5.mono (fun _ _ _ => trivial)).trans hf7)
            have hway : foldF aM S (m2n : Int) [] (((pr ++ [x]) : List (Nat × UT)).map umap) = some (some ((([] : List Ent)).take d1 ++ [⟨m2n, nx, 0⟩])) := by
              rcases HST.out with ⟨w1, h1, h2⟩ | ⟨h1, _⟩
              · rw [HSO.out] at h1
                cases h1
                rw [List.map_append]
                exact h2
              · rw [HSO.out] at h1; cases h1
            have hl1b : W0.heap.size + 1 < W2.heap.size := by obtain ⟨o, ho, _⟩ := hl1; exact blk_lt ho
            refine ⟨hF7.mono (fun k _ hk => ⟨fun e => hk.2 (hNG k e).2.2, by omega⟩), hF7.block _ hl1b ⟨hlow _ (by omega), by omega⟩, hF7.block _ (by omega) ⟨hlow _ (by omega), by omega⟩, fun k => v70.ownBlock = some k, ⟨_, v70, hway, hh4, ?_, fun _ e => e, fun e => by simp at e, gf.trans (hF7.mono (fun k _ hk => ⟨hlow _ (by omega), hk.2⟩))⟩, fun k e => ⟨?_, (hr70.lt k e).2⟩⟩
            · have hl2 : ((([] : List Ent)).take d1).length = d1 := by rw [List.length_take]; have := HD1.out; have := HD0.out; simp; omega
              rw [wayV_app, List.length_append, hl2]
              exact hr70
            · rcases hob with h | ⟨k', h, hk'⟩
              · rw [h] at e; exact .inl (hNG k e).2.2
              · rw [h] at e; cases e; exact .inr (by have := HF4.out.size; omega)
    · have hne : stepF aM S node way (umap x) ≠ none := by
        rcases HST.out with ⟨_, h, _⟩ | ⟨h, _⟩ <;> rw [h] <;> simp
      have hnx : nextF S node way x.1 ≠ none := fun h => hne (by rw [stepF]; simp only [umap, h])
      rw [nextF, if_neg hd1] at hnx
      obtain ⟨e, he⟩ : ∃ e, way[x.1 - 2]? = some e := by
        cases h : way[x.1 - 2]? with
        | none => rw [h] at hnx; simp at hnx
        | some e => exact ⟨e, rfl⟩
      simp only [he] at hnx
      obtain ⟨nd, hnd⟩ : ∃ nd, S[e.at_]? = some nd := by
        cases h : S[e.at_]? with
        | none => rw [h] at hnx; simp at hnx
        | some e => exact ⟨e, rfl⟩
      simp only [hnd] at hnx
      obtain ⟨at2, hin⟩ : ∃ a, innerM nd e.num e.nx = some a := by
        cases h : innerM nd e.num e.nx with
        | none => rw [h] at hnx; simp at hnx
        | some e => exact ⟨e, rfl⟩
      have hstep : nextF S node way x.1 = some (at2, way.set (x.1 - 2) ⟨e.at_, e.num, e.nx + 1⟩) := by
        rw [nextF, if_neg hd1]; simp only [he, hnd, hin]
      have HN := Lib.hid hstep
      have hwl := (List.getElem?_eq_some_iff.1 he).1
      obtain ⟨y0, y1, y2⟩ := wayV_get way _ e he
      obtain ⟨d, hd⟩ : ∃ d : Nat, x.1 = d + 2 := ⟨x.1 - 2, by omega⟩
      have HD := Lib.hid hd
      clear hstep hnx hne
      rw [hd] at y0 y1 y2 hwl he ⊢
      simp only [Nat.add_sub_cancel] at y0 y1 y2 hwl he
      have hdd : (d : Int) < (way.length : Int) := by omega
      obtain ⟨g, cap, rfl⟩ : ∃ g cap, v7 = .slice (some ⟨g, 0, none⟩) way.length cap := by
        obtain ⟨q, hq⟩ : ∃ q, way.length = q + 1 := ⟨way.length - 1, by omega⟩
        rw [hq] at g3 ⊢
        exact ownsRow_succ g3
      have c0' := g3.cells (g := g) rfl (3 * d) _ y0
      have c1' := g3.cells (g := g) rfl (3 * d + 1) _ y1
      have c2' := g3.cells (g := g) rfl (3 * d + 2) _ y2
      rw [addr_add, Nat.zero_add, Nat.mul_comm 3 d] at c0' c1' c2'
      have p7 : W2.cell? ⟨w.heap.size + 4, 0, none⟩ = some (.slice (some ⟨g, 0, none⟩) way.length cap) := cell_of_row _ _ 0 _ _ _ g2
      have pN : W2.cell? ⟨w.heap.size + 1, 0, none⟩ = some (.int .i64 node) := cell_of_row _ _ 0 _ _ _ b2
      have hnx2 : e.nx ≤ 100000 := by have := hnb e (List.mem_of_getElem? he); omega
      have HE := Lib.hid he
      have HW := Lib.hid hwl
      have G3 := Lib.hid g3
      clear y0 y1 y2 he hwl g3 hd1 gn
      generalize hwe : way.length = lw at *
      have dd2 : (1 : Int) < ((d + 2 : Nat) : Int) := by omega
      have dd3 : IntKind.i64.wrap (((d + 2 : Nat) : Int) - 2) = (d : Int) := (IntWalk.i64_in _ (by omega)).trans (by omega)
      obtain ⟨d1, hd1⟩ : ∃ d1 : Nat, d1 = x.1 - 1 := ⟨_, rfl⟩
      have dd4 : IntKind.i64.wrap (((d + 2 : Nat) : Int) - 1) = (d1 : Int) := (IntWalk.i64_in _ (by omega)).trans (by omega)
      have HD1 := Lib.hid hd1
      clear hd1 hd
      generalize ((d + 2 : Nat) : Int) = dz at *
      gi_wp2
      have HIN := Lib.hid hin
      clear hin
      have hndl := (List.getElem?_eq_some_iff.1 hnd).1
      obtain ⟨gS, oS, rfl, hgS, hcS⟩ := HS4.out (by omega)
      have HB2 := Lib.hid (below_fr0 g6)
      have zc : ∀ j, j < 10 → W2.cell? ⟨gS, oS + e.at_ * 10 + j, none⟩ = some (cs e.at_ j) := fun j hj => by
        have := HB2.out.cell (hcS e.at_ j hndl hj) trivial
        rwa [show oS + (10 * e.at_ + j) = oS + e.at_ * 10 + j by omega] at this
      have z0 := zc 0 (by omega)
      rw [Nat.add_zero] at z0
      have pA : W2.cell? ⟨w.heap.size, 0, none⟩ = some (.slice (some ⟨gS, oS, none⟩) S.length caps) := cell_of_row _ _ 0 _ _ _ a2
      have hei : (e.at_ : Int) < (S.length : Int) := by omega
      have HCALL := Lib.hid (show ∀ p : Aft W2, Calls Tryd.prog 48 #[.agg #[.int .i64 e.at_, .int .i64 e.num, .int .i64 e.nx], ndv (cs e.at_)] p.w fun e w' => e = .returned (.int .i64 at2) ∧ ∃ q : Aft W2, w' = q.w from fun p =>
        aft_call ((inner_any nd (cs e.at_) p.w _ ((HS5.out _ _ hnd).fr ((below_fr0 g6).trans p.fr) (fun _ _ => trivial)) e.at_ e.num e.nx at2 HIN.out).mono fun _ _ ⟨h1, h2⟩ => ⟨h1, below_fr0 h2⟩))
      have c0q := fun p : Aft W2 => p.fr.cell c0' trivial
      have c1q := fun p : Aft W2 => p.fr.cell c1' trivial
      have c2q := fun p : Aft W2 => p.fr.cell c2' trivial
      have z0q := fun p : Aft W2 => p.fr.cell z0 trivial
      have z1q := fun p : Aft W2 => p.fr.cell (zc 1 (by omega)) trivial
      have z2q := fun p : Aft W2 => p.fr.cell (zc 2 (by omega)) trivial
      have z3q := fun p : Aft W2 => p.fr.cell (zc 3 (by omega)) trivial
      have z4q := fun p : Aft W2 => p.fr.cell (zc 4 (by omega)) trivial
      have z5q := fun p : Aft W2 => p.fr.cell (zc 5 (by omega)) trivial
      have z6q := fun p : Aft W2 => p.fr.cell (zc 6 (by omega)) trivial
      have z7q := fun p : Aft W2 => p.fr.cell (zc 7 (by omega)) trivial
      have z8q := fun p : Aft W2 => p.fr.cell (zc 8 (by omega)) trivial
      have z9q := fun p : Aft W2 => p.fr.cell (zc 9 (by omega)) trivial
      have pAq := fun p : Aft W2 => p.fr.cell pA trivial
      clear zc hcS HB2 z0
      refine rin_aft (by kernel_rfl) (by kernel_rfl) rfl (by rintro ⟨_, _, h⟩; exact h) ?_
      repeat (go_big_quiet_step ((go_at_call 48; exact HCALL.out _)))
      refine wpQuiet_nil ?_
      rintro ⟨W3, hf3⟩
      obtain ⟨cur, hgb⟩ : ∃ cur, W2.heap[g]? = some (.cells cur 116 (0, 0)) := by
        rcases G3.out.2 with ⟨e, _⟩ | ⟨g', cp', cur, e, _, hgg, _⟩
        · cases e
        · cases e; exact ⟨_, hgg⟩
      have k2 := hf3.cell c2' trivial
      have y2 := frozen_of_row W3 g (d * 3 + 2) cur 116 (hf3.at hgb trivial)
      clear c0' c1' c2' c0q c1q c2q z0q z1q z2q z3q z4q z5q z6q z7q z8q z9q pAq HCALL hnb
      show Exit.then _ _ Exit.normal _ W3
      gi_wp2
      obtain ⟨W4, hW4⟩ : ∃ W4, W3.setCell ⟨g, d * 3 + 2, none⟩ (.int .i64 ((e.nx : Int) + 1)) = W4 := ⟨_, rfl⟩
      rw [hW4]
      have hgB : W0.heap.size + 2 ≤ g := (G3.out.lt g rfl).1
      have hNG : ∀ b, (Value.slice (some ⟨g, 0, none⟩) d1 cap).ownBlock = some b → W0.heap.size + 2 ≤ b ∧ b < W.heap.size ∧ X b := fun b e => by
        cases e
        exact ⟨hgB, (hX g (g4 g rfl)).2, g4 g rfl⟩
      have hF4 : Fr W2 W4 (fun b => (Value.slice (some ⟨g, 0, none⟩) d1 cap).ownBlock ≠ some b) := by rw [← hW4]; exact (hf3.mono (fun _ _ _ => trivial)).trans (Fr.of (gset W3 g _ _) (fun b _ hb e => hb (by cases e; rfl)))
      have hR4 : W4.ownsRow (W0.heap.size + 2) 116 3 (.slice (some ⟨g, 0, none⟩) lw cap) lw (wayV (way.set d ⟨e.at_, e.num, e.nx + 1⟩)) := by
        rw [← hW4, ← wayV_set _ _ _ _ HE.out, Nat.mul_comm 3 d, show ((e.nx + 1 : Nat) : Int) = (e.nx : Int) + 1 from by push_cast; rfl]
        exact own_setj (ownsRow_fr G3.out hf3 (fun _ _ => trivial))
      have hd12 : d1 = d + 1 := by have := HD1.out; have := HD.out; omega
      have hwl2 := HW.out
      have hcapl : lw ≤ cap ∧ cap ≤ maxLen := by
        obtain ⟨A9, cp9, e9, a1, a2, _⟩ := own_open hR4 (by omega)
        cases e9; exact ⟨a1, a2⟩
      have hR5 : ∀ W5, Fr W4 W5 (fun _ => True) → W5.ownsRow (W0.heap.size + 2) 116 3 (.slice (some ⟨g, 0, none⟩) d1 cap) d1 (wayV ((way.set d ⟨e.at_, e.num, e.nx + 1⟩).take d1)) := fun W5 hf5 => by
        rw [← wayV_take, Nat.mul_comm]
        exact own_cut (by omega) (ownsRow_fr hR4 hf5 (fun _ _ => trivial))
      have HSLC := Lib.hid (slice_cut g lw cap d1 (by omega) hcapl.2)
      have HN' : nextF S node way x.1 = some (at2, way.set d ⟨e.at_, e.num, e.nx + 1⟩) := by rw [HN.out, show x.1 - 2 = d by have := HD.out; omega]
      have HN2 := Lib.hid HN'
      have hwle : (way.set d ⟨e.at_, e.num, e.nx + 1⟩).length = lw := by rw [List.length_set, hwe]
      have hdl : d1 ≤ (way.set d ⟨e.at_, e.num, e.nx + 1⟩).length := by omega
      clear hwl2 hcapl HN HN' hd12 y2 k2 p7
      have HR5 := Lib.hid hR5
      have HF4 := Lib.hid hF4
      have hgx : (Value.slice (some ⟨g, 0, none⟩) d1 cap).ownBlock ≠ some W.heap.size := fun e => by have := hNG _ e; omega
      have hlow : ∀ b, b < W0.heap.size + 2 → (Value.slice (some ⟨g, 0, none⟩) d1 cap).ownBlock ≠ some b := fun b hb e => by have := hNG _ e; omega
      have hB4 := hF4.at hbx2 hgx
      have hn4 := hF4.at g2 (hlow _ (by omega))
      have a4 := hF4.at a2 (hlow _ (by omega))
      have x0 : W4.cell? ⟨W.heap.size, 0, none⟩ = some (.int .i64 kx) := cell_of_row _ _ 0 _ _ _ hB4
      have x1 : W4.cell? ⟨W.heap.size, 1, none⟩ = some (.int .i64 nx) := cell_of_row _ _ 1 _ _ _ hB4
      have x2 : W4.cell? ⟨W.heap.size, 2, none⟩ = some (.slice Bx m0 cx0) := cell_of_row _ _ 2 _ _ _ hB4
      have x3 : W4.cell? ⟨W.heap.size, 3, none⟩ = some (.slice Ax m1 cx1) := cell_of_row _ _ 3 _ _ _ hB4
      have x4 : W4.cell? ⟨W.heap.size, 4, none⟩ = some (.slice Ax' m2 cx2) := cell_of_row _ _ 4 _ _ _ hB4
      have pA4 : W4.cell? ⟨w.heap.size, 0, none⟩ = some (.slice (some ⟨gS, oS, none⟩) S.length caps) := cell_of_row _ _ 0 _ _ _ a4
      have g54 := hF4.at g5 (hlow _ (by omega))
      have hb4 : Below w.heap.size w W4 := g6.trans ⟨hF4.os, hF4.tape, hF4.output, hF4.size, fun i hi => hF4.block i (by have := g6.size; omega) (hlow _ (by omega))⟩
      have HVV := Lib.hid (HV.out.fr (ok' := fun b => b < w.heap.size) (hF4.mono (fun k _ hk => hlow _ (by omega))) (fun _ h => h))
      have pAp := fun p : Aft W4 => p.fr.cell pA4 trivial
      have hl1' : W4.heap[W0.heap.size + 1]? = W2.heap[W0.heap.size + 1]? := by obtain ⟨o, ho, _⟩ := hl1; rw [hF4.at ho (hlow _ (by omega)), ho]
      have hl0' : W4.heap[W0.heap.size]? = W2.heap[W0.heap.size]? := by obtain ⟨o, ho, _⟩ := hl0; rw [hF4.at ho (hlow _ (by omega)), ho]
      have hl1s : W0.heap.size + 1 < W4.heap.size := by obtain ⟨o, ho, _⟩ := hl1; exact Nat.lt_of_lt_of_le (blk_lt ho) hF4.size
      have FX : stepF aM S node way (umap x) = some none → ∀ (W5 : World) (a : Act), Fr W4 W5 (fun _ => True) → retPw (W0.heap.size + 1) (W0.heap.size + 2) (fun k => k < W0.heap.size ∧ k ≠ w.heap.size + 3 ∧ k ≠ w.heap.size + 4) (FitI aM S node W0 w.heap.size) (FitX aM S node z w w.heap.size) (pr ++ [x]) X W2 .ret a (W5.setCell ⟨w.heap.size + 1 + 1 + 1, 0, none⟩ (.bool false)) := by
        intro hs W5 a hf5
        have hfit : fitsU aM S node z = false := by
          rcases HST.out with ⟨_, h, _⟩ | ⟨_, h⟩
          · rw [hs] at h; cases h
          · exact h
        have hF5 : Fr W4 (W5.setCell ⟨w.heap.size + 1 + 1 + 1, 0, none⟩ (.bool false)) (fun b => b ≠ w.heap.size + 3) := (hf5.mono (fun _ _ _ => trivial)).trans (Fr.of (gset W5 _ 0 _) (fun b _ hb e => hb (by cases e; rfl)))
        refine ⟨?_, ?_, fun _ => False, ⟨hfit, ?_, ?_⟩, fun k h => h.elim⟩
        · rw [← hl1']; exact hF5.block _ hl1s (by omega)
        · rw [Nat.add_sub_cancel, ← hl0']; exact hF5.block _ (by omega) (by omega)
        · rw [heap_setCell_same W5 (w.heap.size + 3) 0 _ 4 _ (hf5.at g54 trivial)]; rfl
        · exact (hb4.trans ⟨hf5.os, hf5.tape, hf5.output, hf5.size, fun i hi => hf5.block i (by have := hb4.size; omega) trivial⟩).setCell (by show w.heap.size ≤ w.heap.size + 1 + 1 + 1; omega) _
      have HFX := Lib.hid FX
      have G54 := Lib.hid g54
      have HS0 := Lib.hid hs0
      clear FX hs0 g54
      by_cases hA : at2 < 0
      · have hAd : decide (at2 < 0) = true := decide_eq_true hA
        have hsn : stepF aM S node way (umap x) = some none := by
          rw [stepF, show (umap x).1 = x.1 from rfl, HN2.out]
          simp only [if_pos hA]
        have HSN := Lib.hid hsn
        clear hsn
        refine rin_aft (by kernel_rfl) (by kernel_rfl) rfl (by rintro ⟨_, _, h⟩; exact h) ?_
        repeat (go_big_quiet_step (fail))
        refine wpQuiet_nil ?_
        rintro ⟨W5, hf5⟩
        have r0 : W5.cell? ⟨w.heap.size + 3, 0, none⟩ = some (.bool false) := cell_of_row _ _ 0 _ _ _ (hf5.at G54.out trivial)
        have r1 := frozen_of_row W5 (w.heap.size + 3) 0 _ 4 (hf5.at G54.out trivial)
        show Exit.then _ _ Exit.normal _ W5
        gi_wp2
        exact HFX.out HSN.out W5 _ hf5
      · have hAd : decide (at2 < 0) = false := decide_eq_false hA
        cases hSn : S[Int.toNat at2]? with
        | none =>
          have hge : S.length ≤ Int.toNat at2 := List.getElem?_eq_none_iff.1 hSn
          have hBd : decide ((S.length : Int) ≤ at2) = true := decide_eq_true (by omega)
          have hsn : stepF aM S node way (umap x) = some none := by
            rw [stepF, show (umap x).1 = x.1 from rfl, HN2.out]
            simp only [if_neg hA, hSn]
          have HSN := Lib.hid hsn
          clear hsn hSn hge
          refine rin_aft (by kernel_rfl) (by kernel_rfl) rfl (by rintro ⟨_, _, h⟩; exact h) ?_
          repeat (go_big_quiet_step (fail))
          refine wpQuiet_nil ?_
          rintro ⟨W5, hf5⟩
          have r0 : W5.cell? ⟨w.heap.size + 3, 0, none⟩ = some (.bool false) := cell_of_row _ _ 0 _ _ _ (hf5.at G54.out trivial)
          have r1 := frozen_of_row W5 (w.heap.size + 3) 0 _ 4 (hf5.at G54.out trivial)
          show Exit.then _ _ Exit.normal _ W5
          gi_wp2
          exact HFX.out HSN.out W5 _ hf5
        | some nd2 =>
          have hlt2 : Int.toNat at2 < S.length := (List.getElem?_eq_some_iff.1 hSn).1
          obtain ⟨m2n, hm2⟩ : ∃ q : Nat, at2 = q := ⟨Int.toNat at2, by omega⟩
          subst hm2
          simp only [Int.toNat_natCast] at hSn hlt2
          have hBd : decide ((S.length : Int) ≤ (m2n : Int)) = false := decide_eq_false (by omega)
          have hBd2 : decide (S.length ≤ m2n) = false := decide_eq_false (by omega)
          have hBi : (m2n : Int) < (S.length : Int) := by omega
          have HB4 := Lib.hid (below_fr0 hb4)
          obtain ⟨gS', oS', eS, _, hcS⟩ := HS4.out (by omega)
          cases eS
          have zc : ∀ j, j < 10 → W4.cell? ⟨gS, oS + m2n * 10 + j, none⟩ = some (cs m2n j) := fun j hj => by
            have := HB4.out.cell (hcS m2n j hlt2 hj) trivial
            rwa [show oS + (10 * m2n + j) = oS + m2n * 10 + j by omega] at this
          have z0 := zc 0 (by omega)
          rw [Nat.add_zero] at z0
          have z0p := fun p : Aft W4 => p.fr.cell z0 trivial
          have z1p := fun p : Aft W4 => p.fr.cell (zc 1 (by omega)) trivial
          have z2p := fun p : Aft W4 => p.fr.cell (zc 2 (by omega)) trivial
          have z3p := fun p : Aft W4 => p.fr.cell (zc 3 (by omega)) trivial
          have z4p := fun p : Aft W4 => p.fr.cell (zc 4 (by omega)) trivial
          have z5p := fun p : Aft W4 => p.fr.cell (zc 5 (by omega)) trivial
          have z6p := fun p : Aft W4 => p.fr.cell (zc 6 (by omega)) trivial
          have z7p := fun p : Aft W4 => p.fr.cell (zc 7 (by omega)) trivial
          have z8p := fun p : Aft W4 => p.fr.cell (zc 8 (by omega)) trivial
          have z9p := fun p : Aft W4 => p.fr.cell (zc 9 (by omega)) trivial
          have x0p := fun p : Aft W4 => p.fr.cell x0 trivial
          have x1p := fun p : Aft W4 => p.fr.cell x1 trivial
          have x2p := fun p : Aft W4 => p.fr.cell x2 trivial
          have x3p := fun p : Aft W4 => p.fr.cell x3 trivial
          have x4p := fun p : Aft W4 => p.fr.cell x4 trivial
          have HCALL := Lib.hid (show ∀ p : Aft W4, Calls Tryd.prog 49 #[ndv (cs m2n), .agg #[.int .i64 kx, .int .i64 nx, .slice Bx m0 cx0, .slice Ax m1 cx1, .slice Ax' m2 cx2]] p.w fun e w' => e = .returned (.bool (aM nd2 x.2.t)) ∧ ∃ q : Aft W4, w' = q.w from fun p =>
            aft_call ((HAH.out p.w (hb4.trans ⟨p.fr.os, p.fr.tape, p.fr.output, p.fr.size, fun i hi => p.fr.block i (by have := hb4.size; omega) trivial⟩) nd2 (cs m2n) x.2.t _ _ _ _ _ (List.mem_of_getElem? hSn) ((HS5.out _ _ hSn).fr ((below_fr0 hb4).trans p.fr) (fun _ _ => trivial)) (HVV.out.fr p.fr (fun _ _ => trivial))).mono fun _ _ ⟨h1, h2⟩ => ⟨h1, below_fr0 h2⟩))
          clear zc hcS HB4 z0
          cases hM : aM nd2 x.2.t with
          | false =>
            rw [hM] at HCALL
            have hsn : stepF aM S node way (umap x) = some none := by
              rw [stepF, show (umap x).1 = x.1 from rfl, HN2.out]
              simp only [if_neg hA, Int.toNat_natCast, hSn, show (umap x).2 = x.2.t from rfl, hM]
              rfl
            have HSN := Lib.hid hsn
            clear hsn hSn
            refine rin_aft (by kernel_rfl) (by kernel_rfl) rfl (by rintro ⟨_, _, h⟩; exact h) ?_
            repeat (go_big_quiet_step ((go_at_call 49; exact HCALL.out _)))
            refine wpQuiet_nil ?_
            rintro ⟨W5, hf5⟩
            have r0 : W5.cell? ⟨w.heap.size + 3, 0, none⟩ = some (.bool false) := cell_of_row _ _ 0 _ _ _ (hf5.at G54.out trivial)
            have r1 := frozen_of_row W5 (w.heap.size + 3) 0 _ 4 (hf5.at G54.out trivial)
            show Exit.then _ _ Exit.normal _ W5
            gi_wp2
            exact HFX.out HSN.out W5 _ hf5
          | true =>
            rw [hM] at HCALL
            have hso : stepF aM S node way (umap x) = some (some ((way.set d ⟨e.at_, e.num, e.nx + 1⟩).take d1 ++ [⟨m2n, nx, 0⟩])) := by
              rw [stepF, show (umap x).1 = x.1 from rfl, HN2.out]
              simp only [if_neg hA, Int.toNat_natCast, hSn, show (umap x).2 = x.2.t from rfl, hM, if_true]
              rw [if_pos (by have := HD1.out; omega), show x.2.t.num = nx from HNUM.out.symm, HD1.out]
            have HSO := Lib.hid hso
            clear hso hSn
            refine rin_aft (by kernel_rfl) (by kernel_rfl) rfl (by rintro ⟨_, _, h⟩; exact h) ?_
            repeat (go_big_quiet_step ((go_at_call 49; exact HCALL.out _)))
            refine wpQuiet_nil ?_
            rintro ⟨W5, hf5⟩
            show Exit.then _ _ Exit.normal _ W5
            gi_wp2
            have hs0 := HS0.out
            have hl5 := hf5.size
            refine fit_tail _ _ _ _ _ W.heap.size (W0.heap.size + 2) d1 d1 dz _ kx nx (.slice (some ⟨g, 0, none⟩) lw cap) (Value.slice (some ⟨g, 0, none⟩) d1 cap) _ _ _ _ W5 _ _ _ _ _ _ _ _ _ _ _ _ _ _ _ _ _ _ _ _ _ _ _ _ _ _ _ _ _ _ _ _ _ _ _ _ _ _ _ _ _ _ _ _ _ _ _ _ _ _ _ _ _ _ _ _ _ dd4 (hf5.at hn4 trivial) (hf5.at hB4 trivial) HSLC.out (HR5.out W5 hf5) (by have := HD1.out; omega) (by omega) (by omega) ?_
            intro v70 a w' hr70 hh4 hf7 hob
            show retPw (W0.heap.size + 1) (W0.heap.size + 2) (fun k => k < W0.heap.size ∧ k ≠ w.heap.size + 3 ∧ k ≠ w.heap.size + 4) (FitI aM S node W0 w.heap.size) (FitX aM S node z w w.heap.size) (pr ++ [x]) X W2 .normal a w'
            have hF7 : Fr W2 w' (fun k => (Value.slice (some ⟨g, 0, none⟩) d1 cap).ownBlock ≠ some k ∧ k ≠ w.heap.size + 4) := (HF4.out.mono (fun _ _ h => h.1)).trans ((hf5.mono (fun _ _ _ => trivial)).trans hf7)
            have hway : foldF aM S node [] (((pr ++ [x]) : List (Nat × UT)).map umap) = some (some ((way.set d ⟨e.at_, e.num, e.nx + 1⟩).take d1 ++ [⟨m2n, nx, 0⟩])) := by
              rcases HST.out with ⟨w1, h1, h2⟩ | ⟨h1, _⟩
              · rw [HSO.out] at h1
                cases h1
                rw [List.map_append]
                exact h2
              · rw [HSO.out] at h1; cases h1
            have hl1b : W0.heap.size + 1 < W2.heap.size := by obtain ⟨o, ho, _⟩ := hl1; exact blk_lt ho
            refine ⟨hF7.mono (fun k _ hk => ⟨fun e => hk.2 (hNG k e).2.2, by omega⟩), hF7.block _ hl1b ⟨hlow _ (by omega), by omega⟩, hF7.block _ (by omega) ⟨hlow _ (by omega), by omega⟩, fun k => v70.ownBlock = some k, ⟨_, v70, hway, hh4, ?_, fun _ e => e, fun e => by simp at e, gf.trans (hF7.mono (fun k _ hk => ⟨hlow _ (by omega), hk.2⟩))⟩, fun k e => ⟨?_, (hr70.lt k e).2⟩⟩
            · have hl2 : ((way.set d ⟨e.at_, e.num, e.nx + 1⟩).take d1).length = d1 := by rw [List.length_take]; have := HD1.out; omega
              rw [wayV_app, List.length_append, hl2]
              exact hr70
            · rcases hob with h | ⟨k', h, hk'⟩
              · rw [h] at e; exact .inl (hNG k e).2.2
              · rw [h] at e; cases e; exact .inr (by have := HF4.out.size; omega)
end Go.Proofs.YtpajccehkcgoaaaDoor
