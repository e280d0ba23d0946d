/-
  General lemmas on drawn regions and rows.
-/
import Derived.Test.YtpajccehkcgoaaaDoorUcd
import Derived.Test.YtpajccehkcgoaaaDoorUrq
namespace Go.Proofs.YtpajccehkcgoaaaDoor
open Go.RowKit Go.Shelf
attribute [local go_sem] Oper.semAt_some

theorem own_set {w : World} {b g n cap sz : Nat} {e : TypeId} {xs : List Value} (h : w.ownsRow b e sz (.slice (some ⟨g, 0, none⟩) n cap) n xs) (j : Nat) (y : Value) : (w.setCell ⟨g, j, none⟩ y).ownsRow b e sz (.slice (some ⟨g, 0, none⟩) n cap) n (xs.set j y) := by
  obtain ⟨h1, h2⟩ := h
  refine ⟨by rw [List.length_set]; exact h1, ?_⟩
  rcases h2 with ⟨h2, _⟩ | ⟨g', cap', cur, e1, hb, hg, hn, hm, hs, ht⟩
  · simp at h2
  · cases e1
    refine .inr ⟨g, cap, cur.setIfInBounds j y, rfl, hb, ?_, hn, hm, by simpa using hs, ?_⟩
    · rw [heap_setCell_same w g j _ e y hg]
    · rw [Array.toList_setIfInBounds, List.take_set, ht]
theorem any_rel0 {P : Program} {md : Region.Mode} {ops : Array Oper} {Q : Exit → Act → World → Prop} {R : Nat → Array Bool → Act → World → Prop}
    (h : ∀ f L a w, R f L a w → (Region.ready md ops L = [] → Q .normal a w) ∧ ∀ i ∈ Region.ready md ops L, ∃ g, f = g + 1 ∧ wpOp P ops Q i (R g (L.setIfInBounds i true)) a w) :
    ∀ f L a w, R f L a w → wpAny P md ops Q f L a w
  | 0, L, a, w, hr => by
    have h1 := h _ _ _ _ hr
    have h2 : Region.ready md ops L = [] := List.eq_nil_iff_forall_not_mem.2 fun i hi => by obtain ⟨g, e, _⟩ := h1.2 i hi; cases e
    exact ⟨h2, h1.1 h2⟩
  | f + 1, L, a, w, hr => ⟨(h _ _ _ _ hr).1, fun i hi => by
    obtain ⟨g, e, hw⟩ := (h _ _ _ _ hr).2 i hi
    cases e
    exact wpOp_mono (fun a w hr => any_rel0 h f _ a w hr) hw⟩
def bsel (b : Bool) (v : Value) : Value := if b then v else undef
def bcnt (b : Bool) : Nat := if b then 0 else 1
theorem own_frozen {w : World} {b g n cap sz : Nat} {e : TypeId} {xs : List Value} (h : w.ownsRow b e sz (.slice (some ⟨g, 0, none⟩) n cap) n xs) (j : Nat) : w.frozen? ⟨g, j, none⟩ = false := by
  rcases h.2 with ⟨e, _⟩ | ⟨g', cp', cur, e, _, hgg, _⟩
  · cases e
  · cases e; exact frozen_of_row w g j _ _ hgg
theorem own_cell {w : World} {b g n cap sz : Nat} {e : TypeId} {xs : List Value} (h : w.ownsRow b e sz (.slice (some ⟨g, 0, none⟩) n cap) n xs) {j : Nat} {u : Value} (hu : xs[j]? = some u) : w.cell? ⟨g, j, none⟩ = some u := by
  have := h.cells (g := g) rfl j u hu
  rwa [addr_add, Nat.zero_add] at this
def U.k : U → Int | .mk k _ _ _ _ => k
def U.n : U → Int | .mk _ n _ _ _ => n
theorem UIn.full {w : World} {ok : Nat → Prop} {z : U} {v0 v1 v2 v3 v4 : Value} (h : UIn w ok z v0 v1 v2 v3 v4) : ∃ (B A A' : Option Addr) (capb cap cap' : Nat) (cc : Nat → Nat → Value),
    v0 = .int .i64 z.k ∧ v1 = .int .i64 z.n ∧ v2 = .slice B z.b.length capb ∧ v3 = .slice A z.l.length cap ∧ v4 = .slice A' z.ks.length cap' ∧ (Lit.int .i64 z.k).wf = true ∧ (Lit.int .i64 z.n).wf = true ∧ (∀ x, x ∈ z.b → 0 ≤ x ∧ x < 256) ∧ (∀ s, s ∈ z.ks → s.size ≤ maxLen) ∧ z.b.length ≤ maxLen ∧ z.l.length ≤ maxLen ∧ z.ks.length ≤ maxLen ∧
    (0 < z.b.length → ∃ g off, B = some ⟨g, off, none⟩ ∧ ok g ∧ ∀ i x, z.b[i]? = some x → w.cell? ⟨g, off + i, none⟩ = some (.int .u8 x)) ∧
    (0 < z.l.length → ∃ g off, A = some ⟨g, off, none⟩ ∧ ok g ∧ ∀ i j, i < z.l.length → j < 5 → w.cell? ⟨g, off + (5 * i + j), none⟩ = some (cc i j)) ∧
    (0 < z.ks.length → ∃ g off, A' = some ⟨g, off, none⟩ ∧ ok g ∧ ∀ i s, z.ks[i]? = some s → w.cell? ⟨g, off + i, none⟩ = some (.string s)) ∧
    (∀ i x, z.l[i]? = some x → UIn w ok x (cc i 0) (cc i 1) (cc i 2) (cc i 3) (cc i 4)) := by
  cases h with
  | mk k n b l ks B A A' capb cap cap' cc h1 h2 h3 h4 hcapb hcap hcap' hB hL hK hE => exact ⟨B, A, A', capb, cap, cap', cc, rfl, rfl, rfl, rfl, rfl, h1, h2, h3, h4, Nat.le_trans hcapb.1 hcapb.2, Nat.le_trans hcap.1 hcap.2, Nat.le_trans hcap'.1 hcap'.2, hB, hL, hK, hE⟩
theorem round_wide {n m : Nat} {P : Program} {l l' f : Nat} {tmps : Array Value} {assign body : Code} {w : World} {R : Ending → World → Prop} (h : RoundIn Fence.wide n P l f tmps assign body w R) : RoundIn (Fence.wide.inRound l') m P l f tmps assign body w R :=
  ⟨trivial, fun c cs _ => h.2 c cs (room_wide _)⟩
theorem any_rel {F : Fence} {n : Nat} {P : Program} {md : Region.Mode} {ops : Array Oper} {Q : Exit → Act → World → Prop} {R : Nat → Array Bool → Act → World → Prop}
    (h : ∀ f L a w, R f L a w → (Region.ready md ops L = [] → Q .normal a w) ∧ ∀ i ∈ Region.ready md ops L, ∃ g, f = g + 1 ∧ wpOpIn F n P ops Q i (R g (L.setIfInBounds i true)) a w) :
    ∀ f L a w, R f L a w → wpAnyIn F n P md ops Q f L a w
  | 0, L, a, w, hr => by
    have h1 := h _ _ _ _ hr
    have h2 : Region.ready md ops L = [] := List.eq_nil_iff_forall_not_mem.2 fun i hi => by obtain ⟨g, e, _⟩ := h1.2 i hi; cases e
    exact ⟨h2, h1.1 h2⟩
  | f + 1, L, a, w, hr => ⟨(h _ _ _ _ hr).1, fun i hi => by
    obtain ⟨g, e, hw⟩ := (h _ _ _ _ hr).2 i hi
    cases e
    exact wpOpIn_mono (fun a w hr => any_rel h f _ a w hr) hw⟩
theorem ownsRow_uniq {w : World} {base e s n : Nat} {v : Value} {xs ys : List Value} (h : w.ownsRow base e s v n xs) (h' : w.ownsRow base e s v n ys) : xs = ys := by
  have hl : xs.length = ys.length := h.1.trans h'.1.symm
  rcases h.2 with ⟨rfl, rfl⟩ | ⟨g, cap, cur, rfl, _⟩
  · have h0 : xs.length = 0 := by rw [h.1]; simp
    have hx := List.eq_nil_of_length_eq_zero h0
    have hy := List.eq_nil_of_length_eq_zero (l := ys) (by omega)
    rw [hx, hy]
  · refine List.ext_getElem? fun j => ?_
    by_cases hj : j < xs.length
    · have e1 := List.getElem?_eq_getElem hj
      have e2 := List.getElem?_eq_getElem (hl ▸ hj)
      have c1 := h.cells (g := g) rfl j _ e1
      have c2 := h'.cells (g := g) rfl j _ e2
      rw [c1] at c2
      rw [e1, e2]
      exact c2
    · rw [List.getElem?_eq_none (by omega), List.getElem?_eq_none (by omega)]
theorem wpIn_append_round {l n : Nat} {P : Program} {o : Oper} {a : Act} {w w' : World} {K : Act → World → Prop} {Q : Exit → Act → World → Prop} (s x : Operand) (t : TypeId) (ho : o.op = .call { callee := .builtin .append, args := #[s, x], argTypes := #[t, t] }) {v sl v' : Value} (hs : a.eval s = v) (hx : a.eval x = sl)
    (hr : (Builtin.append_ #[t, t] o.type #[v, sl]).run P w = .ok v' w') (h : K (a.put o.dst v') w') : o.wpIn (Fence.wide.inRound l) n P a w K Q := by
  unfold Oper.wpIn
  refine ⟨fun f _ => trivial, ?_⟩
  have he : o.semAt (Fence.wide.inRound l).round a.eval = execOp a.eval o := Oper.semAt_some l _ _ (by rw [ho]; simp)
  rw [he]
  unfold execOp
  simp only [ho, resolve, invoke, builtin, Sem.run_bind, Sem.run_pure, Result.andThen_ok, List.map_toArray, List.map_cons, List.map_nil, hs, hx, hr, Oper.uponIn]
  exact h
theorem quiet_same {f : FuncId} {args : Array Value} {w : World} {v : Value} (h : ∀ n, Calls Tryd.prog f args (w.drewN n) fun e w' => e = .returned v ∧ w' = w.drewN n) (n : Nat) : Calls Tryd.prog f args (w.drewN n) fun e w'' => e = .returned v ∧ ∃ m, w'' = w.drewN m :=
  Calls.quiet_of_same (h n)
mutual
theorem pu_le : ∀ (z : U) (d : Nat) (p : Nat × U), p ∈ pu d z → uc p.2 ≤ uc z ∧ uk p.2 ≤ uk z ∧ uo p.2 ≤ uo z
  | .mk k n b l ks, d, p, h => by
    rw [pu] at h
    rcases List.mem_cons.1 h with rfl | h
    · exact ⟨Nat.le_refl _, Nat.le_refl _, Nat.le_refl _⟩
    · have ih := puL_le l (d + 1) p h
      rw [show uc (U.mk k n b l ks) = 1 + ucL l from uc_l _, show uk (U.mk k n b l ks) = ks.length + ukL l from uk_l _, show uo (U.mk k n b l ks) = b.length + uoL l from uo_l _]
      omega
theorem puL_le : ∀ (l : List U) (d : Nat) (p : Nat × U), p ∈ puL d l → uc p.2 ≤ ucL l ∧ uk p.2 ≤ ukL l ∧ uo p.2 ≤ uoL l
  | [], d, p, h => by rw [puL] at h; cases h
  | x :: r, d, p, h => by
    rw [puL] at h
    rw [ucL, ukL, uoL]
    rcases List.mem_append.1 h with h | h
    · have := pu_le x d p h; omega
    · have := puL_le r d p h; omega
end
end Go.Proofs.YtpajccehkcgoaaaDoor
