/-
  'woken'.
-/
import Derived.Test.YtpajccehkcgoaaaDoorLvs
namespace Go.Proofs.YtpajccehkcgoaaaDoor
open Go.RowKit Go.Shelf Lv

/-- Steps in a row. -/
def StepsAt (w : World) (ok : Nat → Prop) (l : List (Nat × Nat)) (v : Value) : Prop :=
  ∃ (A : Option Addr) (cap : Nat), v = .slice A l.length cap ∧ l.length ≤ cap ∧ cap ≤ maxLen ∧ (0 < l.length → ∃ g, A = some ⟨g, 0, none⟩ ∧ ok g ∧ ∀ j u, (tk l)[j]? = some u → w.cell? ⟨g, j, none⟩ = some u)
theorem StepsAt.fr {w w' : World} {ok ok' : Nat → Prop} (hf : Fr w w' ok') (hk : ∀ b, ok b → ok' b) {l : List (Nat × Nat)} {v : Value} (h : StepsAt w ok l v) : StepsAt w' ok l v := by
  obtain ⟨A, cap, h1, h2, h3, h4⟩ := h
  exact ⟨A, cap, h1, h2, h3, fun h0 => by
    obtain ⟨g, e, hg, hc⟩ := h4 h0
    exact ⟨g, e, hg, fun j u hu => hf.cell (hc j u hu) (hk g hg)⟩⟩
theorem own_steps {w : World} {base : Nat} {l : List (Nat × Nat)} {v : Value} (h : w.ownsRow base 79 2 v l.length (tk l)) : StepsAt w (fun b => v.ownBlock = some b) l v := by
  obtain ⟨A, cap, rfl, h1, h2, h3⟩ := own_open h (by omega)
  exact ⟨A, cap, rfl, h1, h2, fun h0 => by
    obtain ⟨g, rfl, _, hc⟩ := h3 h0
    exact ⟨g, rfl, rfl, hc⟩⟩
theorem tk_one : ∀ (l : List (Nat × Nat)) (u : Value), u ∈ tk l → u.oneCell' = true
  | [], u, h => by simp [tk] at h
  | x :: xs, u, h => by
    have e : tk (x :: xs) = .int .i64 (x.1 : Nat) :: .int .i64 (x.2 : Nat) :: tk xs := by simp [tk]
    rw [e] at h
    rcases List.mem_cons.1 h with rfl | h
    · rfl
    · rcases List.mem_cons.1 h with rfl | h
      · rfl
      · exact tk_one xs u h
theorem run_append_steps (w : World) (base : Nat) (ty : TypeId) (q l : List (Nat × Nat)) (v v2 : Value) (hown : w.ownsRow base 79 2 v q.length (tk q)) {ok : Nat → Prop} (hs : StepsAt w ok l v2) (hb : q.length + l.length ≤ 2000000000000) (hbase : base ≤ w.heap.size) :
    ∃ v' w', (Builtin.append_ #[77, 77] ty #[v, v2]).run Tryd.prog w = .ok v' w' ∧ w'.ownsRow base 79 2 v' (q ++ l).length (tk (q ++ l)) ∧ w.grownBy w' v.ownBlock ∧ (v'.ownBlock = v.ownBlock ∨ v'.ownBlock = some w.heap.size) := by
  obtain ⟨i0, hi, hz0, hz1, hz2⟩ := info_parts infoStep
  obtain ⟨A, cap, rfl, h1, h2, h3⟩ := hs
  cases A with
  | none =>
    have h0 : l.length = 0 := by
      rcases Nat.eq_zero_or_pos l.length with h | h
      · exact h
      · obtain ⟨g, e, _⟩ := h3 h; cases e
    obtain rfl := List.length_eq_zero_iff.1 h0
    refine ⟨v, w, ?_, by rw [List.append_nil]; exact hown, World.grownBy.refl w _, .inl rfl⟩
    exact run_append_nil_src w base 77 ty 79 i0 2 Tryd.underlying77 hi v q.length (tk q) hown cap
  | some a =>
    have hcells : ∀ j u, (tk l)[j]? = some u → w.cell? (a.add j) = some u := fun j u hu => by
      have hj := (List.getElem?_eq_some_iff.1 hu).1
      rw [tk_len] at hj
      obtain ⟨g, e, _, hc⟩ := h3 (by omega)
      cases e
      rw [addr_addB, Nat.zero_add]
      exact hc j u hu
    obtain ⟨v', w', hr, h5, h6, _, h7⟩ := run_append_own_at (P := Tryd.prog) w base 77 ty 79 i0 _ 2 16 Tryd.underlying77 hi hz0 hz1 hz2 rfl (by omega) v q.length (tk q) hown a l.length cap (tk l) (tk_len l) hcells (tk_one l) (by unfold maxLen; omega) (by omega) hbase
    exact ⟨v', w', hr, by rw [List.length_append, tk_app]; exact h5, h6, h7⟩
theorem wpList_append_steps {ops : Array Oper} {rest : List Oper} {o : Oper} {a : Act} {w : World} {Q : Exit → Act → World → Prop} (hgd : o.guard = none) (s x : Operand)
    (ho : o.op = .call { callee := .builtin .append, args := #[s, x], argTypes := #[77, 77] }) (base : Nat) (q l : List (Nat × Nat)) (v v2 : Value) (hs : a.eval s = v) (hx : a.eval x = v2) (hown : w.ownsRow base 79 2 v q.length (tk q)) {ok : Nat → Prop} (hl : StepsAt w ok l v2) (hb : q.length + l.length ≤ 2000000000000) (hbase : base ≤ w.heap.size)
    (h : ∀ v' w', w'.ownsRow base 79 2 v' (q ++ l).length (tk (q ++ l)) → w.grownBy w' v.ownBlock → (v'.ownBlock = v.ownBlock ∨ v'.ownBlock = some w.heap.size) → wpList Tryd.prog ops Q rest (a.put o.dst v') w') :
    wpList Tryd.prog ops Q (o :: rest) a w := by
  refine wpList_plain hgd fun K hK => ?_
  obtain ⟨v', w', hr, h1, h2, h3⟩ := run_append_steps w base o.type q l v v2 hown hl hb hbase
  unfold Oper.wp execOp
  simp only [ho, resolve, invoke, builtin, Sem.run_bind, Sem.run_pure, Result.andThen_ok, List.map_toArray, List.map_cons, List.map_nil, hs, hx, hr]
  exact hK _ _ (h v' w' h1 h2 h3)
theorem gset_belowL {w w' : World} {row : Option Nat} {b : Nat} (h : w.grownBy w' row) (hr : ∀ r, row = some r → b ≤ r) (hb : b ≤ w.heap.size) : Below b w w' :=
  ⟨h.os, h.tape, h.output, h.size, fun i hi => h.block i (by omega) (fun e => by have := hr i e.symm; omega)⟩
/-- An append onto a row that came behind W leaves all that was there in W. -/
theorem row_fr {W wr w3 : World} {e : TypeId} {sz k : Nat} {v : Value} {xs : List Value} (h : wr.ownsRow W.heap.size e sz v k xs) (hf : Fr W wr (fun _ => True)) (hg : wr.grownBy w3 v.ownBlock) : Fr W w3 (fun _ => True) :=
  below_fr0 ((fr_below hf).trans (gset_belowL hg (fun r e => (h.lt r e).1) hf.size))
theorem woken_take (s : St) (f : List Nat) (k i : Nat) (hk : f[k]? = some i) : wokenM s (f.take k) ++ s.wt i = wokenM s (f.take (k + 1)) := by
  unfold wokenM
  rw [List.take_add_one, hk, List.flatMap_append]
  simp
set_option maxRecDepth 100000 in
set_option maxHeartbeats 4000000 in
theorem woken_any (W : World) (base g rg wg n : Nat) (nsv : Value) (s : St) (vs : Nat → Value) (h : RkAt W base g rg wg n nsv s vs) (hn : n ≤ 100000) (f : List Nat) (fv : Value) {ok : Nat → Prop} (hf : IntsAt W ok (f.map fun (i : Nat) => (i : Int)) fv) (hfb : ∀ b, ok b → b < W.heap.size) (hfn : ∀ i, i ∈ f → i < n) (hfl : f.length ≤ 100000000) (hb : ∀ k, (wokenM s (f.take k)).length ≤ 1000000000000) (ht : ∀ i, i < n → (s.wt i).length ≤ 1000000000000) :
    Calls Tryd.prog 52 #[.pointer (some ⟨g, 0, none⟩), fv] W fun e w' => ∃ v, e = .returned v ∧ w'.ownsRow W.heap.size 79 2 v (wokenM s f).length (tk (wokenM s f)) ∧ Fr W w' (fun _ => True) := by
  obtain ⟨Af, capf, rfl, hlc, hcm, _, hcc⟩ := hf
  rw [List.length_map] at *
  unfold maxLen at hcm
  have HH := Lib.hid h
  have HC := Lib.hid hcc
  have HFN := Lib.hid hfn
  have HB := Lib.hid hb
  have HT := Lib.hid ht
  clear h hcc hfn hb ht
  go_enter Tryd.func52, Tryd.ntmps52
  go_wp2
  go_loopg [5, 10] f.length (fun gh ov c wr => ∃ k : Nat, k + gh = f.length ∧ c = .int .i64 (k : Int) ∧ wr.ownsRow W.heap.size 79 2 ov (wokenM s (f.take k)).length (tk (wokenM s (f.take k))) ∧ Fr W wr (fun _ => True))
  case atStart => exact ⟨0, by omega, rfl, World.ownsRow_nil _ _ _ _, Fr.refl _ _⟩
  case round =>
    obtain ⟨k, hg, rfl, hown, hfr⟩ := hrel
    have HG := Lib.hid hg
    have HO := Lib.hid hown
    have HF := Lib.hid hfr
    clear hg hown hfr
    by_cases hlt : k < f.length
    · obtain ⟨i, hik⟩ : ∃ i, f[k]? = some i := ⟨_, List.getElem?_eq_getElem hlt⟩
      have hin := HFN.out i (List.mem_of_getElem? hik)
      obtain ⟨gf, off, rfl, hok, hcf⟩ := HC.out (by omega)
      have hz := HF.out.cell (hcf k (i : Int) (by rw [List.getElem?_map, hik]; rfl)) trivial
      have hR := HH.out.up HF.out
      obtain ⟨wa, hwa, hw1, hw2⟩ := hR.wts
      have q2 := cell_of_row _ _ 2 _ _ _ hR.hdr
      have t0 : wr.cell? ⟨wg, i, none⟩ = some (vs i) := by rw [cell_of_row _ _ _ _ _ _ hwa]; exact hw2 i hin
      have HSRC := Lib.hid (own_steps (hR.rows i hin))
      have HIK := Lib.hid hik
      clear hcf hR hwa hw1 hw2 hik
      go_wp2_with (at_builtin; refine wpList_append_steps rfl _ _ rfl W.heap.size _ _ _ _ rfl rfl HO.out HSRC.out (by have := HB.out k; have := HT.out i hin; omega) HF.out.size ?_; intro v' w3 hown3 hg3 hv3)
      have hf3 : Fr W w3 (fun _ => True) := row_fr HO.out HF.out hg3
      rw [woken_take s f k i HIK.out] at hown3
      have HO3 := Lib.hid hown3
      have HF3 := Lib.hid hf3
      clear hown3 hg3 hv3 hf3
      go_wp2
      go_roundg (f.length - (k + 1))
      case measure => have := HG.out; omega
      case rel => exact ⟨k + 1, by omega, by go_num, HO3.out, HF3.out⟩
    · have hk : f.length = k := by have := HG.out; omega
      have HK := Lib.hid hk
      clear hk
      go_wp2
      go_ret
      have := HO.out
      rw [← HK.out, List.take_length] at this
      exact ⟨_, rfl, this, HF.out⟩
end Go.Proofs.YtpajccehkcgoaaaDoor
