/-
  The values as they lie, told to a body that writes, too.
-/
import Derived.Test.YtpajccehkcgoaaaDoorUzt
namespace Go.Proofs.YtpajccehkcgoaaaDoor
open Go.RowKit Go.Shelf
attribute [local go_sem] Oper.semAt_some

/-- What holds in the function's loop. -/
def UEW (xs : List (Nat × UT)) (J : List (Nat × UT) → (Nat → Prop) → World → Prop) (Rd : Nat → Prop) (b1 : Nat) (g : Nat) (v : Value) (wr : World) : Prop :=
  ∃ (pr : List (Nat × UT)) (s : List (List UT)) (vs : List Value) (S : Nat → Prop), xs = pr ++ urem s ∧ 2 * (urem s).length + s.length = g ∧ wr.ownsRow (b1 + 1) 36 1 v s.length vs.reverse ∧ UStk wr (fun k => Rd k ∨ k = b1) vs s ∧ J pr S wr ∧ b1 + 1 ≤ wr.heap.size ∧ s.length ≤ pr.length + 1 ∧
    (∀ k, v.ownBlock = some k → ¬ S k) ∧ ¬ S b1 ∧ (∀ k, S k → b1 ≤ k ∧ k < wr.heap.size)
set_option maxRecDepth 100000 in
set_option maxHeartbeats 4000000 in
theorem each_w (F : Fence) (n : Nat) (h67 : F.fn 72) (hro : F.round = none) (hn : 1 ≤ n) (Bv : Nat) (x0 : UT) (w : World) (Rd : Nat → Prop) (hRlt : ∀ k, Rd k → k < w.heap.size) (hB : Rd Bv) (hbox : w.heap[Bv]? = some (.cells #[x0.v0, x0.v1, x0.v2, x0.v3, x0.v4] 38 (0, 0))) (hv : UVIn w Rd x0) (hsmall : (upre 1 x0).length ≤ 100000) :
    ItW F n Tryd.prog 72 #[.pointer (some ⟨Bv, 0, none⟩)] uencN (upre 1 x0) Rd w := by
  intro l J Jx W hW hl hwl hJ hJx hY h0
  have hbx : W.heap[Bv]? = some (.cells #[x0.v0, x0.v1, x0.v2, x0.v3, x0.v4] 38 (0, 0)) := hW.at hbox hB
  have hv' : UVIn W Rd x0 := hv.fr hW (fun _ h => h)
  have hxs : upre 1 x0 = urem [[x0]] := by rw [urem, upreL, upreL]; simp [urem]
  have HSm := Lib.hid hsmall
  rw [hxs] at HSm hY ⊢
  clear hxs hsmall
  obtain ⟨kk, mm, B, A, A', n0, cap0, n1, cap1, n2, cap2, e0, e1, e2, e3, e4⟩ := hv'.jin.forms
  have c0 : W.cell? ⟨Bv, 0, none⟩ = some (.int .i64 kk) := by rw [cell_of_row _ _ _ _ _ _ hbx, ← e0]; rfl
  have c1 : W.cell? ⟨Bv, 1, none⟩ = some (.int .i64 mm) := by rw [cell_of_row _ _ _ _ _ _ hbx, ← e1]; rfl
  have c2 : W.cell? ⟨Bv, 2, none⟩ = some (.slice B n0 cap0) := by rw [cell_of_row _ _ _ _ _ _ hbx, ← e2]; rfl
  have c3 : W.cell? ⟨Bv, 3, none⟩ = some (.slice A n1 cap1) := by rw [cell_of_row _ _ _ _ _ _ hbx, ← e3]; rfl
  have c4 : W.cell? ⟨Bv, 4, none⟩ = some (.slice A' n2 cap2) := by rw [cell_of_row _ _ _ _ _ _ hbx, ← e4]; rfl
  have hRW : ∀ k, Rd k → k < W.heap.size := fun k h => Nat.lt_of_lt_of_le (hRlt k h) hW.size
  have hrel0 : UEW (urem [[x0]]) J Rd W.heap.size (2 * (urem [[x0]]).length + 1) (.slice (some ⟨W.heap.size + 1, 0, none⟩) 1 1) ((W.alloc (.cells #[.int .i64 kk, .int .i64 mm, .slice B n0 cap0, .slice A n1 cap1, .slice A' n2 cap2] 38)).alloc (.cells #[.slice (some ⟨W.heap.size, 0, none⟩) 1 1] 36)) := by
    have hfa : Fr W ((W.alloc (.cells #[.int .i64 kk, .int .i64 mm, .slice B n0 cap0, .slice A n1 cap1, .slice A' n2 cap2] 38)).alloc (.cells #[.slice (some ⟨W.heap.size, 0, none⟩) 1 1] 36)) (fun _ => True) := ((Fr.refl W _).alloc _).alloc _
    have hb1 : ((W.alloc (.cells #[.int .i64 kk, .int .i64 mm, .slice B n0 cap0, .slice A n1 cap1, .slice A' n2 cap2] 38)).alloc (.cells #[.slice (some ⟨W.heap.size, 0, none⟩) 1 1] 36)).heap[W.heap.size]? = some (.cells #[.int .i64 kk, .int .i64 mm, .slice B n0 cap0, .slice A n1 cap1, .slice A' n2 cap2] 38 (0, 0)) := (Below.heap_alloc _ _ _ (by simp)).trans (heap_alloc_new W _)
    have hb2 : ((W.alloc (.cells #[.int .i64 kk, .int .i64 mm, .slice B n0 cap0, .slice A n1 cap1, .slice A' n2 cap2] 38)).alloc (.cells #[.slice (some ⟨W.heap.size, 0, none⟩) 1 1] 36)).heap[W.heap.size + 1]? = some (.cells #[.slice (some ⟨W.heap.size, 0, none⟩) 1 1] 36 (0, 0)) := by
      have := heap_alloc_new (W.alloc (.cells #[.int .i64 kk, .int .i64 mm, .slice B n0 cap0, .slice A n1 cap1, .slice A' n2 cap2] 38)) (.cells #[.slice (some ⟨W.heap.size, 0, none⟩) 1 1] 36 (0, 0))
      simpa using this
    refine ⟨[], [[x0]], [.slice (some ⟨W.heap.size, 0, none⟩) 1 1], fun _ => False, rfl, rfl, ⟨rfl, .inr ⟨_, 1, _, rfl, Nat.le_refl _, hb2, Nat.le_refl _, by unfold maxLen; omega, rfl, rfl⟩⟩, ⟨⟨_, 1, rfl, Nat.le_refl _, by unfold maxLen; omega, fun _ => ⟨W.heap.size, 0, rfl, .inr rfl, fun i x hx => ?_⟩⟩, fun x hx => ?_, trivial⟩, ?_, by simp, by simp, fun _ _ h => h, fun h => h, fun _ h => h.elim⟩
    · match i, hx with
      | 0, hx =>
        cases hx
        rw [e0, e1, e2, e3, e4]
        exact ⟨by rw [cell_of_row _ _ _ _ _ _ hb1]; rfl, by rw [cell_of_row _ _ _ _ _ _ hb1]; rfl, by rw [cell_of_row _ _ _ _ _ _ hb1]; rfl, by rw [cell_of_row _ _ _ _ _ _ hb1]; rfl, by rw [cell_of_row _ _ _ _ _ _ hb1]; rfl⟩
    · rw [List.mem_singleton] at hx
      subst hx
      exact (hv'.mono (fun k hk => .inl hk)).fr hfa (fun _ _ => trivial)
    · exact hJ _ _ _ _ h0 (hfa.mono (fun _ _ _ => trivial))
  refine callsIn_of_wp Tryd.func72 rfl h67 ?_ hro
  simp only [Tryd.ntmps72, List.size_toArray, List.length_cons, List.length_nil, Nat.reduceAdd, Nat.reduceSub, Array.replicate_succ, Array.replicate_zero, List.push_toArray, List.append_toArray, List.nil_append, List.cons_append]
  have HY := Lib.hid hY
  have HJ := Lib.hid hJ
  clear hY hJ hJx e0 e1 e2 e3 e4 hbx hv'
  gi_wp2
  clear c0 c1 c2 c3 c4
  gi_loopg [3] (2 * (urem [[x0]]).length + 1) (fun g v wr => UEW (urem [[x0]]) J Rd W.heap.size g v wr)
  case atStart => exact hrel0
  case round =>
    obtain ⟨pr, s, vs, S, hx, hg, hown, hstk, hjj, hsz, hpl, hnS, hnb, hSb⟩ := hrel
    clear hrel0
    have HG := Lib.hid hg
    have HX := Lib.hid hx
    clear hg hx
    match s, vs, hstk with
    | [], [], _ =>
      obtain ⟨A0, cp0, rfl, _, _, _⟩ := own_open hown (by omega)
      have hfin : urem [[x0]] = pr := by rw [HX.out, urem, List.append_nil]
      have HF := Lib.hid hfin
      clear hfin hown
      gi_wp2
      go_end0
      exact ⟨⟨_, rfl⟩, .inl ⟨S, by rw [HF.out]; exact hjj⟩⟩
    | r :: s, v :: vs, ⟨hsl, hvin, hstk⟩ =>
      have hvl := hstk.len
      obtain ⟨g, cap, rfl⟩ := ownsRow_succ hown
      have hcap : s.length + 1 ≤ cap ∧ cap ≤ maxLen := by
        obtain ⟨A9, cp9, e9, a1, a2, _⟩ := own_open hown (by omega)
        cases e9; exact ⟨a1, a2⟩
      have hglt := hown.lt g rfl
      rw [List.reverse_cons] at hown
      have htop : wr.cell? ⟨g, s.length, none⟩ = some v := by
        have := hown.cells (g := g) rfl s.length v (by rw [List.getElem?_append_right (by simp; omega)]; simp [hvl])
        rw [addr_add, Nat.zero_add] at this
        exact this
      have hfz : wr.frozen? ⟨g, s.length, none⟩ = false := by
        rcases hown.2 with ⟨e, _⟩ | ⟨g', cp', cur, e, _, hgg, _⟩
        · cases e
        · cases e; exact frozen_of_row wr g s.length _ _ hgg
      have hsml : s.length ≤ 100000 := by
        have h1 := HSm.out
        have h2 := congrArg List.length HX.out
        rw [List.length_append] at h2
        simp only [List.length_cons] at hpl
        omega
      obtain ⟨hcap1, hcap2⟩ := hcap
      unfold maxLen at hcap2
      cases r with
      | nil =>
        obtain ⟨A1, cp1, rfl, hr1, hr2, hr3⟩ := hsl
        have hpop := own_pop hown
        have HP : Hid (UEW (urem [[x0]]) J Rd W.heap.size (2 * (urem s).length + s.length) (.slice (some ⟨g, 0, none⟩) s.length cap) wr) := ⟨pr, s, vs, S, by rw [HX.out, urem_nil], rfl, hpop, hstk, hjj, hsz, by simp at hpl; omega, fun k e => hnS k e, hnb, hSb⟩
        have HG2 : Hid (2 * (urem s).length + s.length < gk) := by
          show _ < _
          have := HG.out
          rw [urem_nil] at this
          simp only [List.length_cons] at this
          omega
        clear hpop hown
        gi_wp2
        gi_roundg (2 * (urem s).length + s.length)
        case measure => exact HG2.out
        case rel => exact HP.out
      | cons x r =>
        obtain ⟨A1, cp1, rfl, hr1, hr2, hr3⟩ := hsl
        obtain ⟨_, hcp, hcpm, g1, off, rfl, hok1, d0, d1, d2, d3, d4, htl⟩ := USlV.tail (x := x) (r := r) ⟨A1, cp1, rfl, hr1, hr2, hr3⟩
        have hxv := hvin x (by simp)
        obtain ⟨kx, nx, Bx, Ax, Ax', m0, cx0, m1, cx1, m2, cx2, e0, e1, e2, e3, e4⟩ := hxv.jin.forms
        rw [e0] at d0
        rw [e1] at d1
        rw [e2] at d2
        rw [e3] at d3
        rw [e4] at d4
        have hg1 : g1 < wr.heap.size := World.block_lt_of_cell? wr ⟨g1, off, none⟩ d0
        have hnSg : ¬ S g := hnS g rfl
        have hgg1 : g1 ≠ g := by
          rcases hok1 with h | h
          · have := hRW g1 h; omega
          · omega
        unfold maxLen at hcpm
        simp only [List.length_cons] at hr1
        clear hr3
        obtain ⟨vt, hvt⟩ : ∃ vt : Value, vt = .slice (if cp1 = 1 then some ⟨g1, off, none⟩ else some ⟨g1, off + 5, none⟩) r.length (cp1 - 1) := ⟨_, rfl⟩
        rw [← hvt] at htl
        have HVT := Lib.hid hvt
        clear hvt
        -- the world in which the round is asked for
        have hlast := own_last (y := vt) hown
        have hf1 : Fr wr (wr.setCell ⟨g, s.length, none⟩ vt) (fun k => k ≠ g) := Fr.of (gset wr g s.length vt) (fun b _ hb e => hb (by cases e; rfl))
        have hfa : Fr wr (wr.setCell ⟨g, s.length, none⟩ vt) (fun k => k ≠ g) := hf1
        have hokg : ∀ k, (Rd k ∨ k = W.heap.size) → k ≠ g := fun k hk => by
          rcases hk with h | h
          · have := hRW k h; omega
          · omega
        have hokl : ∀ k, (Rd k ∨ k = W.heap.size) → (Rd k ∨ W.heap.size ≤ k) ∧ ¬ S k := fun k hk => by
          rcases hk with h | h
          · exact ⟨.inl h, fun hs => by have := (hSb k hs).1; have := hRW k h; omega⟩
          · exact ⟨.inr (by omega), by rw [h]; exact hnb⟩
        have hj1 : J pr S (wr.setCell ⟨g, s.length, none⟩ vt) :=
          HJ.out _ _ _ _ hjj (hfa.mono (fun k _ hk => hk.elim (fun h e => hnSg (e ▸ h)) (fun h => by omega)))
        have hrem : urem [[x0]] = pr ++ (s.length + 1, x) :: urem (x.kids :: r :: s) := HX.out.trans (by rw [urem_cons])
        obtain ⟨fn, tmps, assign, body, hy, hR⟩ := HY.out pr (s.length + 1, x) _ S _ hj1 hrem (fun k hk => ⟨(hSb k hk).1, by have := (hSb k hk).2; simp; omega⟩) (by have := hfa.size; omega)
        have hsize1 : (wr.setCell ⟨g, s.length, none⟩ vt).heap.size = wr.heap.size := by simp [World.setCell]
        have hown1 : (wr.setCell ⟨g, s.length, none⟩ vt).ownsRow (W.heap.size + 1) 36 1 (.slice (some ⟨g, 0, none⟩) (s.length + 1) cap) (s.length + 1) (vs.reverse ++ [vt]) := hlast
        have hstk1 := hstk.fr hfa hokg
        have hsl1 := htl.fr hfa hokg
        have hvin1 : ∀ y, y ∈ r → UVIn (wr.setCell ⟨g, s.length, none⟩ vt) (fun k => Rd k ∨ k = W.heap.size) y := fun y hy' => (hvin y (by simp [hy'])).fr hfa hokg
        have hxv1 := hxv.fr hfa hokg
        have hx31 := hfa.cell d3 hgg1
        simp only [uencN, UT.val, e0, e1, e2, e3, e4] at hy
        push_cast at hy
        -- behind the round
        have hafter : ∀ (S' : Nat → Prop) W3, J (pr ++ [(s.length + 1, x)]) S' W3 → Fr (wr.setCell ⟨g, s.length, none⟩ vt) W3 (fun k => (Rd k ∨ W.heap.size ≤ k) ∧ ¬ S k) → (∀ k, S' k → (S k ∨ wr.heap.size ≤ k) ∧ k < W3.heap.size) →
            W3.cell? ⟨g1, off + 3, none⟩ = some (.slice Ax m1 cx1) ∧ wr.heap.size ≤ W3.heap.size ∧ W3.ownsRow (W.heap.size + 1) 36 1 (.slice (some ⟨g, 0, none⟩) (s.length + 1) cap) (s.length + 1) (vs.reverse ++ [vt]) ∧
            (∀ v5 w5 (o5 : Obj), w5.ownsRow (W.heap.size + 1) 36 1 v5 (s.length + 1 + 1) ((vs.reverse ++ [vt]) ++ [.slice Ax m1 cx1]) → (W3.alloc o5).grownBy w5 (some g) → (v5.ownBlock = some g ∨ v5.ownBlock = some (W3.alloc o5).heap.size) →
              UEW (urem [[x0]]) J Rd W.heap.size (2 * (urem (x.kids :: r :: s)).length + (x.kids :: r :: s).length) v5 w5) := by
          intro S' W3 hj3 hk3 hS3
          have hx33 := hk3.cell hx31 (hokl g1 hok1)
          have hown3 := ownsRow_fr hown1 hk3 (fun g' e => by cases e; exact ⟨.inr (by show W.heap.size ≤ g; omega), hnSg⟩)
          have hnS3 : ¬ S' g := fun h => by
            rcases (hS3 g h).1 with h1 | h1
            · exact hnSg h1
            · omega
          have hnb3 : ¬ S' W.heap.size := fun h => by
            rcases (hS3 _ h).1 with h1 | h1
            · exact hnb h1
            · omega
          refine ⟨hx33, by have := hk3.size; rw [hsize1] at this; exact this, hown3, fun v5 w5 o5 h5 hg5 hb5 => ?_⟩
          have hf5 : Fr W3 w5 (fun k => k ≠ g) := ((Fr.refl W3 _).alloc o5).trans (Fr.of hg5 (fun b _ hb e => hb (by cases e; rfl)))
          refine ⟨pr ++ [(s.length + 1, x)], x.kids :: r :: s, .slice Ax m1 cx1 :: vt :: vs, S', by rw [hrem]; simp, rfl, by simpa using h5, ⟨?_, fun y hy' => ?_, ?_, fun y hy' => ?_, ?_⟩, ?_, ?_, ?_, ?_, hnb3, fun k h => ?_⟩
          · rw [← e3]; exact ((hxv1.sl).fr hk3 hokl).fr hf5 hokg
          · exact ((hxv1.kid y hy').fr hk3 hokl).fr hf5 hokg
          · exact (hsl1.fr hk3 hokl).fr hf5 hokg
          · exact ((hvin1 y hy').fr hk3 hokl).fr hf5 hokg
          · exact (hstk1.fr hk3 hokl).fr hf5 hokg
          · exact HJ.out _ _ _ _ hj3 (hf5.mono (fun k _ hk => hk.elim (fun h e => hnS3 (e ▸ h)) (fun h => by omega)))
          · have := hf5.size; have := hk3.size; rw [hsize1] at this; omega
          · simp only [List.length_cons, List.length_append, List.length_nil] at hpl ⊢; omega
          · intro k e h
            rcases hb5 with e5 | e5
            · rw [e5] at e; cases e; exact hnS3 h
            · rw [e5] at e
              have hk : (W3.alloc o5).heap.size = k := Option.some.inj e
              have := (hS3 k h).2
              simp at hk
              omega
          · have h1 := hS3 k h
            refine ⟨?_, Nat.lt_of_lt_of_le h1.2 hf5.size⟩
            rcases h1.1 with h2 | h2
            · exact (hSb k h2).1
            · omega
        have HAf := Lib.hid hafter
        have HG2 : Hid (2 * (urem (x.kids :: r :: s)).length + (x.kids :: r :: s).length < gk) := by
          show _ < _
          have := HG.out
          rw [urem_cons] at this
          simp only [List.length_cons] at this ⊢
          omega
        have HRd := Lib.hid hR
        have HREM := Lib.hid (show urem [[x0]] = (pr ++ [(s.length + 1, x)]) ++ urem (x.kids :: r :: s) by rw [hrem]; simp)
        have HSZ := Lib.hid hsize1
        clear hrem
        clear hafter hR hj1 hown1 hstk1 hsl1 hvin1 hxv1 hx31 hlast hf1 hfa hsize1 htl hstk hvin hxv hown hjj hokg hokl hnS hnb hSb hnSg
        obtain ⟨i0, hi, hz0, hz1, hz2⟩ := info_parts Tryd.info36
        clear e0 e1 e2 e3 e4
        by_cases hc1 : cp1 = 1
        · obtain rfl : r = [] := List.eq_nil_of_length_eq_zero (by omega)
          subst hc1
          obtain rfl : vt = .slice (some ⟨g1, off, none⟩) 0 0 := by rw [HVT.out]; rfl
          gi_wp2
          refine HRd.out.mono ?_
          rintro e W3 (⟨rfl, S', hJ3, hk3, hS3⟩ | ⟨rfl, S', hJx3⟩)
          · obtain ⟨b2, hlt3, hown3, hfin⟩ := HAf.out S' W3 hJ3 hk3 (by rw [HSZ.out] at hS3; exact hS3)
            have HFin := Lib.hid hfin
            clear hfin hJ3 hk3 hS3 HAf
            gi_wp2_with (gi_at_builtin; refine wpListIn_append_own_at _ rfl _ _ 140 rfl (W.heap.size + 1) 36 i0 _ 1 24 Tryd.underlying140 hi hz0 hz1 hz2 rfl (by decide) _ _ _ rfl (hown3.alloc _) ⟨W3.heap.size, 0, none⟩ 1 1 [.slice Ax m1 cx1] rfl rfl (cell_one_new _ _ _) (by simp [Value.oneCell']) (by unfold maxLen; omega) (by omega) (by simp; omega) ?_; intro v5 w5 hown5 hgrow5 _ hb5)
            gi_roundg (2 * (urem (x.kids :: [] :: s)).length + (x.kids :: [] :: s).length)
            case measure => exact HG2.out
            case rel => exact HFin.out v5 w5 _ hown5 hgrow5 hb5
          · gi_wp2
            refine bodyPost_ret (results_none rfl _ _ _) rfl ?_
            exact ⟨⟨_, rfl⟩, .inr ⟨_, _, S', HREM.out, hJx3.1⟩⟩
        · have hc2 : (cp1 : Int) ≠ 1 := by omega
          obtain rfl : vt = .slice (some ⟨g1, off + 5, none⟩) r.length (cp1 - 1) := by rw [HVT.out, if_neg hc1]
          gi_wp2
          refine HRd.out.mono ?_
          rintro e W3 (⟨rfl, S', hJ3, hk3, hS3⟩ | ⟨rfl, S', hJx3⟩)
          · obtain ⟨b2, hlt3, hown3, hfin⟩ := HAf.out S' W3 hJ3 hk3 (by rw [HSZ.out] at hS3; exact hS3)
            have HFin := Lib.hid hfin
            clear hfin hJ3 hk3 hS3 HAf
            gi_wp2_with (gi_at_builtin; refine wpListIn_append_own_at _ rfl _ _ 140 rfl (W.heap.size + 1) 36 i0 _ 1 24 Tryd.underlying140 hi hz0 hz1 hz2 rfl (by decide) _ _ _ rfl (hown3.alloc _) ⟨W3.heap.size, 0, none⟩ 1 1 [.slice Ax m1 cx1] rfl rfl (cell_one_new _ _ _) (by simp [Value.oneCell']) (by unfold maxLen; omega) (by omega) (by simp; omega) ?_; intro v5 w5 hown5 hgrow5 _ hb5)
            gi_roundg (2 * (urem (x.kids :: r :: s)).length + (x.kids :: r :: s).length)
            case measure => exact HG2.out
            case rel => exact HFin.out v5 w5 _ hown5 hgrow5 hb5
          · gi_wp2
            refine bodyPost_ret (results_none rfl _ _ _) rfl ?_
            exact ⟨⟨_, rfl⟩, .inr ⟨_, _, S', HREM.out, hJx3.1⟩⟩
end Go.Proofs.YtpajccehkcgoaaaDoor
