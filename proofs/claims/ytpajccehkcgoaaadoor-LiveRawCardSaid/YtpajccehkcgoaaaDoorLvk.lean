/-
  'asked'.
-/
import Derived.Test.YtpajccehkcgoaaaDoorLva
namespace Go.Proofs.YtpajccehkcgoaaaDoor
open Go.RowKit Go.Shelf Lv

/-- What asking leaves. -/
def AskP (w : World) (base g rg wg n : Nat) (nsv : Value) (vs : Nat → Value) (r : Bool × St) : Ending → World → Prop := fun e w' =>
  e = .returned (.bool r.1) ∧ ∃ vs', RkAt w' base g rg wg n nsv r.2 vs' ∧ Stp w w' rg wg n vs vs'
theorem fr_drewX {w w1 : World} (h : Fr w w1 (fun _ => True)) : Fr w w1.drew (fun _ => True) := h.drewN 1
theorem fr_allocX {w w1 : World} {o : Obj} (h : Fr w w1 (fun _ => True)) : Fr w (w1.alloc o) (fun _ => True) := h.alloc o
/-- An append of a step onto a row of the ranker's, in a region that draws. -/
theorem step_push {w w1 : World} {ops : Array Oper} {o : Oper} {a : Act} {K : Act → World → Prop} {Q : Exit → Act → World → Prop} {E : Prop} (hgd : o.guard = none) (s x : Operand)
    (ho : o.op = .call { callee := .builtin .append, args := #[s, x], argTypes := #[77, 77] }) {base B L : Nat} {v : Value} {l : List (Nat × Nat)} {y : Nat × Nat} (hs : a.eval s = v) (hrow : w.ownsRow base 79 2 v l.length (tk l)) (hL : Hid (l.length = L)) (hf : Fr w w1 (fun _ => True)) (hb : base ≤ w.heap.size) (hl : L ≤ 1000000000000)
    (cp : Nat) (hx : a.eval x = .slice (some ⟨B, 0, none⟩) 1 cp) (hB : w1.heap[B]? = some (.cells #[.int .i64 (y.1 : Nat), .int .i64 (y.2 : Nat)] 79 (0, 0)))
    (hK : ∀ gg cap w2, w2.ownsRow base 79 2 (.slice (some ⟨gg, 0, none⟩) (L + 1) cap) (l.length + 1) (tk (l ++ [y])) → w1.grownBy w2 v.ownBlock → (v.ownBlock = some gg ∨ gg = w1.heap.size) → K (a.put o.dst (.slice (some ⟨gg, 0, none⟩) (L + 1) cap)) w2) :
    if Region.wanted o (yielded ops a.tmps) = true then Oper.wp Tryd.prog o a w1 K Q else E := by
  obtain ⟨i0, hi, hz0, hz1, hz2⟩ := info_parts infoStep
  obtain rfl := hL.out
  refine step_append_lies w1 hgd s x 77 ho base 79 i0 _ 2 16 Tryd.underlying77 hi hz0 hz1 hz2 rfl (by omega) v l.length (tk l) hs (ownsRow_fr hrow hf (fun _ _ => trivial)) ⟨B, 0, none⟩ 1 cp [.int .i64 (y.1 : Nat), .int .i64 (y.2 : Nat)] hx (by rfl)
    (World.news_of_block hB) (by simp [Value.oneCell']) (by omega) (by unfold maxLen; omega) (by omega) (Nat.le_trans hb hf.size) w1.heap.size rfl ?_
  intro g2 cap w2 ho2 hg2 hat hlt
  exact hK g2 cap w2 (by rw [tk_app]; exact ho2) hg2 hat
/-- What there is behind such an append, and behind the store of it. -/
theorem ask_fin {W0 W1 w2 : World} {base g rg wg n i gg L cap2 : Nat} {nsv : Value} {s : St} {vs : Nat → Value} {x : Nat × Nat} (HH : Hid (RkAt W0 base g rg wg n nsv s vs)) (hf1 : Fr W0 W1 (fun _ => True)) (hi : i < n) (hL : Hid ((s.wt i).length = L))
    (hown2 : w2.ownsRow base 79 2 (.slice (some ⟨gg, 0, none⟩) (L + 1) cap2) ((s.wt i).length + 1) (tk (s.wt i ++ [x]))) (hg2 : W1.grownBy w2 (vs i).ownBlock) (hv2 : (vs i).ownBlock = some gg ∨ gg = W1.heap.size) :
    w2.cell? ⟨g, 2, none⟩ = some (.slice (some ⟨wg, 0, none⟩) n n) ∧ w2.cell? ⟨wg, i, none⟩ = some (vs i) ∧ w2.frozen? ⟨wg, i, none⟩ = false ∧
    RkAt (w2.setCell ⟨wg, i, none⟩ (.slice (some ⟨gg, 0, none⟩) (L + 1) cap2)) base g rg wg n nsv ⟨s.rk, upd s.wt i (s.wt i ++ [x])⟩ (upd vs i (.slice (some ⟨gg, 0, none⟩) (L + 1) cap2)) ∧
    Stp W0 (w2.setCell ⟨wg, i, none⟩ (.slice (some ⟨gg, 0, none⟩) (L + 1) cap2)) rg wg n vs (upd vs i (.slice (some ⟨gg, 0, none⟩) (L + 1) cap2)) := by
  have h1 := HH.out.up hf1
  have hp := pushed h1 hi hown2 hg2 (hv2.imp id (fun h => by rw [h]; rfl))
  have hfr : Fr W1 w2 (fun b => (vs i).ownBlock ≠ some b) := Fr.of hg2 (fun b _ hb e => hb e.symm)
  obtain ⟨l1, l2, l3, l4, l5, l6⟩ := h1.lt
  have hno : ∀ b, b < base → (vs i).ownBlock ≠ some b := fun b hb e => by have := (h1.row_lt ⟨i, hi, e⟩).1; omega
  obtain ⟨wa, hwa, hw1, hw2⟩ := h1.wts
  have h2 := hfr.at hwa (hno wg l3)
  exact ⟨cell_of_row _ _ 2 _ _ _ (hfr.at h1.hdr (hno g l1)), by rw [cell_of_row _ _ _ _ _ _ h2]; exact hw2 i hi, frozen_of_row _ _ _ _ _ h2, hp.1, (Stp.of hf1).trans hp.2⟩
set_option maxRecDepth 100000 in
set_option maxHeartbeats 4000000 in
theorem asked_any (W : World) (base g rg wg n : Nat) (A : Option Addr) (cap : Nat) (s : St) (vs : Nat → Value) (h : RkAt W base g rg wg n (.slice A n cap) s vs) (hn : n ≤ 100000) (a rank : Int) (x : Nat × Nat) (hlen : ∀ i, i < n → (s.wt i).length ≤ 1000000000000) :
    Calls Tryd.prog 51 #[.pointer (some ⟨g, 0, none⟩), .int .i64 a, .int .i64 rank, .agg #[.int .i64 (x.1 : Nat), .int .i64 (x.2 : Nat)]] W (AskP W base g rg wg n (.slice A n cap) vs (askM n rank x a s)) := by
  obtain ⟨W0, hW0⟩ : ∃ W0, W.alloc (.cells #[.int .i64 (x.1 : Nat), .int .i64 (x.2 : Nat)] 79) = W0 := ⟨_, rfl⟩
  have hf0 : Fr W W0 (fun _ => True) := by rw [← hW0]; exact (Fr.refl W _).alloc _
  have h0 := h.up hf0
  have hx : W0.heap[W.heap.size]? = some (.cells #[.int .i64 (x.1 : Nat), .int .i64 (x.2 : Nat)] 79 (0, 0)) := by rw [← hW0]; exact new_at rfl _
  have q0 := cell_of_row _ _ 0 _ _ _ h0.hdr
  have q1 := cell_of_row _ _ 1 _ _ _ h0.hdr
  have q2 := cell_of_row _ _ 2 _ _ _ h0.hdr
  have HH := Lib.hid h0
  have HF := Lib.hid hf0
  have HX := Lib.hid hx
  have HLn := Lib.hid hlen
  clear h h0 hf0 hx hlen
  go_enter Tryd.func51, Tryd.ntmps51
  go_upto_region 1 with fail
  clear hW0
  by_cases hin : 0 ≤ a ∧ a < n
  · obtain ⟨i, rfl⟩ : ∃ i : Nat, a = (i : Int) := ⟨a.toNat, by omega⟩
    have hi : i < n := by omega
    obtain ⟨ra, hra, hr1, hr2⟩ := HH.out.rks
    obtain ⟨wa, hwa, hw1, hw2⟩ := HH.out.wts
    have r0 : W0.cell? ⟨rg, i, none⟩ = some (.int .i64 (s.rk i)) := by rw [cell_of_row _ _ _ _ _ _ hra]; exact hr2 i hi
    have t0 : W0.cell? ⟨wg, i, none⟩ = some (vs i) := by rw [cell_of_row _ _ _ _ _ _ hwa]; exact hw2 i hi
    have hin0 : ¬ ((i : Int) < 0) := by omega
    clear hra hr1 hr2 hwa hw1 hw2
    by_cases hrk : s.rk i < rank
    · have HM : Hid (askM n rank x (i : Int) s = (true, s)) := Lib.hid (by unfold askM; rw [if_pos hin, if_pos (by simpa using hrk)])
      go_wp2
      go_ret
      rw [HM.out]
      exact ⟨rfl, vs, HH.out, Stp.of HF.out⟩
    · have HM : Hid (askM n rank x (i : Int) s = (false, ⟨s.rk, upd s.wt i (s.wt i ++ [x])⟩)) := Lib.hid (by unfold askM; rw [if_pos hin, if_neg (by simpa using hrk)]; rfl)
      obtain ⟨L, hL⟩ : ∃ L, (s.wt i).length = L := ⟨_, rfl⟩
      have HL := Lib.hid hL
      have hLb : L ≤ 1000000000000 := by rw [← hL]; exact HLn.out i hi
      have hrow := HH.out.rows i hi
      have HROW := Lib.hid hrow
      have HBS := Lib.hid HH.out.hb
      clear hL hrow
      have x0 := cell_of_row _ _ 0 _ _ _ HX.out
      have x1 := cell_of_row _ _ 1 _ _ _ HX.out
      have t0a : ∀ o, (W0.alloc o).cell? ⟨wg, i, none⟩ = some (vs i) := fun o => ((Fr.refl W0 (fun _ => True)).alloc o).cell t0 trivial
      have q2a : ∀ o, (W0.alloc o).cell? ⟨g, 2, none⟩ = some (.slice (some ⟨wg, 0, none⟩) n n) := fun o => ((Fr.refl W0 (fun _ => True)).alloc o).cell q2 trivial
      go_upto_region 5 with fail
      go_region_law ((first
        | (apply step_push (w := W0) (base := base) (B := W0.heap.size) (l := s.wt i) (y := x) (hrow := HROW.out) (hL := HL) (hb := HBS.out) (hl := hLb)
           case hgd => rfl
           case ho => rfl
           case hf => ((repeat (first | with_reducible exact Fr.refl _ _ | with_reducible apply fr_drewX | with_reducible apply fr_allocX)); done)
           case hs => rfl
           case hx => rfl
           case hB => exact heap_alloc_new W0 _
           intro gg cap2 w2 hown2 hg2 hv2
           obtain ⟨u2, u4, f4, hfin⟩ := ask_fin HH (fr_drewX (fr_allocX (Fr.refl W0 _))) hi HL hown2 hg2 hv2)
        | fail))
      all_goals (go_wp2; go_ret; rw [HM.out]; exact ⟨rfl, _, hfin.1, (Stp.of HF.out).trans hfin.2⟩)
  · have HM : Hid (askM n rank x a s = (false, s)) := Lib.hid (by unfold askM; rw [if_neg hin])
    by_cases ha : a < 0
    · go_wp2
      go_ret
      rw [HM.out]
      exact ⟨rfl, vs, HH.out, Stp.of HF.out⟩
    · have han : (n : Int) ≤ a := by omega
      go_wp2
      go_ret
      rw [HM.out]
      exact ⟨rfl, vs, HH.out, Stp.of HF.out⟩
end Go.Proofs.YtpajccehkcgoaaaDoor
