/-
  'items': the things of an array.
-/
import Derived.Test.YtlkbcdbjmkfkkaaDoorItt
namespace Go.Proofs.YtlkbcdbjmkfkkaaDoor
open Go.RowKit Go.Shelf

/-- A row of values that a call has gathered. -/
def URow (base : Nat) (L : List U) (A : Value) (w : World) : Prop :=
  ∃ (xb : List Value) (c : Nat → Nat → Value), w.ownsRow base 38 5 A L.length xb ∧ (∀ i j, i < L.length → j < 5 → xb[5 * i + j]? = some (c i j)) ∧
    ∀ (i : Nat) (z : U), L[i]? = some z → UIn w (fun b => base ≤ b ∧ A.ownBlock ≠ some b) z (c i 0) (c i 1) (c i 2) (c i 3) (c i 4)
theorem urow_nil (base : Nat) (w : World) : URow base [] (.slice none 0 0) w :=
  ⟨[], fun _ _ => undef, World.ownsRow_nil w base 38 5, fun i j h => by simp at h, fun i z h => by simp at h⟩
theorem urow_fr {base : Nat} {L : List U} {A : Value} {w w' : World} {ok : Nat → Prop} (h : URow base L A w) (hf : Fr w w' ok) (hk : ∀ k, base ≤ k → ok k) : URow base L A w' := by
  obtain ⟨xb, c, h1, h2, h3⟩ := h
  exact ⟨xb, c, ownsRow_fr h1 hf (fun g e => hk g (h1.lt g e).1), h2, fun i z hz => (h3 i z hz).fr hf (fun b hb => hk b hb.1)⟩
/-- One more. -/
theorem urow_more {base m : Nat} {L : List U} {A A' c0 c1 c2 c3 c4 : Value} {z : U} {w w' : World} (h : URow base L A w) (hf : Fr w w' (fun k => A.ownBlock ≠ some k ∧ base ≤ k ∧ k < m))
    (h1 : ∀ xb, w.ownsRow base 38 5 A L.length xb → w'.ownsRow base 38 5 A' (L.length + 1) (xb ++ [c0, c1, c2, c3, c4])) (hA : A'.ownBlock = A.ownBlock ∨ ∃ g, A'.ownBlock = some g ∧ m ≤ g)
    (hx : UIn w (fun b => base ≤ b ∧ A.ownBlock ≠ some b ∧ b < m) z c0 c1 c2 c3 c4) (hm : w.heap.size ≤ m) : URow base (L ++ [z]) A' w' := by
  obtain ⟨xb, c, r2, r6, r7⟩ := h
  have hl := r2.1
  have hnA : ∀ b, b < m → A.ownBlock ≠ some b → A'.ownBlock ≠ some b := fun b hb hne e => by
    rcases hA with h | ⟨g', h, hg⟩
    · exact hne (h ▸ e)
    · rw [h] at e; cases e; omega
  refine ⟨xb ++ [c0, c1, c2, c3, c4], fun i j => if i < L.length then c i j else [c0, c1, c2, c3, c4].getD j undef, by rw [List.length_append, List.length_singleton]; exact h1 xb r2, fun i j hi hj => ?_, fun i p hp => ?_⟩
  · rw [List.length_append, List.length_singleton] at hi
    by_cases hlt : i < L.length
    · rw [List.getElem?_append_left (by omega), r6 i j hlt hj]; simp only [if_pos hlt]
    · have : i = L.length := by omega
      subst this
      rw [List.getElem?_append_right (by omega), show 5 * L.length + j - xb.length = j by omega]
      simp only [if_neg (Nat.lt_irrefl _)]
      have : j = 0 ∨ j = 1 ∨ j = 2 ∨ j = 3 ∨ j = 4 := by omega
      rcases this with rfl | rfl | rfl | rfl | rfl <;> rfl
  · by_cases hlt : i < L.length
    · rw [List.getElem?_append_left hlt] at hp
      simp only [if_pos hlt]
      have h7 := (r7 i p hp).mono (ok' := fun b => base ≤ b ∧ A.ownBlock ≠ some b ∧ b < w.heap.size) (fun b hlt hb => ⟨hb.1, hb.2, hlt⟩)
      exact (h7.fr hf (fun b hb => ⟨hb.2.1, hb.1, by omega⟩)).mono (fun b _ hb => ⟨hb.1, hnA b (by omega) hb.2.1⟩)
    · have hi := (List.getElem?_eq_some_iff.1 hp).1
      rw [List.length_append, List.length_singleton] at hi
      have : i = L.length := by omega
      subst this
      rw [List.getElem?_append_right (Nat.le_refl _), Nat.sub_self] at hp
      cases hp
      simp only [if_neg (Nat.lt_irrefl _)]
      exact (hx.fr hf (fun b hb => ⟨hb.2.1, hb.1, hb.2.2⟩)).mono (fun b _ hb => ⟨hb.1, hnA b hb.2.2 hb.2.1⟩)

theorem Tk.fr {w w' : World} {p q N : Nat} {nv : Value} {xs : List Int} {cnt : Nat} {ok : Nat → Prop} (h : Tk w p q nv xs cnt) (hf : Fr w w' ok) (hp : p < N) (hq : q < N) (hk : ∀ k, k < N → ok k) : Tk w' p q nv xs cnt :=
  ⟨hf.at h.box (hk p hp), h.rdr.fr hf (fun k hkq => hk k (by omega)), h.ne⟩
/-- What 'value' answers. -/
def ValP (w : World) (p q : Nat) (nv : Value) (r : Except Nat (U × List Int × Nat)) (e : Ending) (w' : World) : Prop :=
  Fr w w' (fun k => k ≠ p ∧ k ≠ q) ∧ match r with
  | .ok (z, ys, c) => ∃ v0 v1 v2 v3 v4, e = .returned (.tuple #[.agg #[v0, v1, v2, v3, v4], .int .i64 0]) ∧ UIn w' (fun b => w.heap.size ≤ b) z v0 v1 v2 v3 v4 ∧ Tk w' p q nv ys c
  | .error f => 0 < f ∧ e = .returned (.tuple #[.agg #[.int .i64 0, .int .i64 0, .slice none 0 0, .slice none 0 0, .slice none 0 0], .int .i64 f])
def ValC (S : List Nd) (d : Nat) : Prop := ∀ (w : World) (p q dep : Nat) (nv : Value) (node : Int) (xs : List Int) (cnt : Nat) (okN : Nat → Prop), dep + d = 65 → Tk w p q nv xs cnt → NdsAt w okN S nv → (∀ b, okN b → b < w.heap.size ∧ b ≠ p ∧ b ≠ q) → (Lit.int .i64 node).wf = true → cnt ≤ 10000 →
  Calls Tryd.prog 22 #[.pointer (some ⟨p, 0, none⟩), .int .i64 node, .int .i64 dep] w (ValP w p q nv (valueM S d node xs cnt))

/-- What holds while an array's things are taken. -/
structure ISt (w : World) (p q dep : Nat) (nv : Value) (c : Nat → Value) (s : ItS) (W : World) : Prop where
  tk : Tk W p q nv s.xs s.cnt
  b0 : W.heap[w.heap.size]? = some (.cells #[.pointer (some ⟨p, 0, none⟩)] 61 (0, 0))
  b1 : W.heap[w.heap.size + 1]? = some (.cells #[c 0, c 1, c 2, c 3, c 4, c 5, c 6, c 7, c 8, c 9] 29 (0, 0))
  b2 : W.heap[w.heap.size + 2]? = some (.cells #[.int .i64 dep] 3 (0, 0))
  b3 : ∃ A, W.heap[w.heap.size + 3]? = some (.cells #[A] 36 (0, 0)) ∧ URow (w.heap.size + 4) s.L A W
  fr : Fr w W (fun k => k < w.heap.size ∧ k ≠ p ∧ k ≠ q)
  cnt : s.cnt ≤ 10000
  len : s.L.length ≤ s.cnt

/-- What holds when one was refused. -/
def IEr (w : World) (p q : Nat) (W' : World) : Prop := Fr w W' (fun k => k < w.heap.size ∧ k ≠ p ∧ k ≠ q) ∧ ∃ A n c, W'.heap[w.heap.size + 3]? = some (.cells #[.slice A n c] 36 (0, 0))

set_option maxHeartbeats 4000000 in
set_option maxRecDepth 100000 in
theorem items1_any (S : List Nd) (d : Nat) (hV : ValC S d) (w : World) (p q dep : Nat) (nv : Value) (c : Nat → Value) (it : Int) (okN : Nat → Prop) (hd : dep + 1 + d = 65) (hit : c 7 = .int .i64 it) (hiw : (Lit.int .i64 it).wf = true)
    (hpw : p < w.heap.size ∧ q < w.heap.size) (hN : NdsAt w okN S nv) (hok : ∀ b, okN b → b < w.heap.size ∧ b ≠ p ∧ b ≠ q) (s : ItS) (W : World) (h : ISt w p q dep nv c s W) :
    Calls Tryd.prog 45 #[.pointer (some ⟨w.heap.size, 0, none⟩), .pointer (some ⟨w.heap.size + 1, 0, none⟩), .pointer (some ⟨w.heap.size + 2, 0, none⟩), .pointer (some ⟨w.heap.size + 3, 0, none⟩)] W (StepP (ISt w p q dep nv c) (IEr w p q) (stepM (valueM S d it) s)) := by
  have hbl := h.fr.size
  obtain ⟨A, hA, hrow⟩ := h.b3
  have hNW : NdsAt W okN S nv := nds_fr h.fr (fun b hb => hok b hb) hN
  have hcall := hV W p q (dep + 1) nv it s.xs s.cnt okN hd h.tk hNW (fun b hb => ⟨by have := hok b hb; omega, (hok b hb).2⟩) hiw h.cnt
  have q0 : W.cell? ⟨w.heap.size, 0, none⟩ = some (.pointer (some ⟨p, 0, none⟩)) := cell_of_row _ _ 0 _ _ _ h.b0
  have q1 : W.cell? ⟨w.heap.size + 1, 7, none⟩ = some (.int .i64 it) := by rw [← hit]; exact cell_of_row _ _ 7 _ _ _ h.b1
  have q2 : W.cell? ⟨w.heap.size + 2, 0, none⟩ = some (.int .i64 dep) := cell_of_row _ _ 0 _ _ _ h.b2
  have hdep : ((dep + 1 : Nat) : Int) = (dep : Int) + 1 := by push_cast; rfl
  rw [hdep] at hcall
  have HI := Lib.hid h
  have HROW := Lib.hid hrow
  have HA := Lib.hid hA
  clear hV hN hok hit hNW h hrow hA hdep
  go_enter Tryd.func45, Tryd.ntmps45
  go_wp2_with fail
  refine hcall.mono ?_
  rintro e w1 ⟨hf, hr⟩
  clear hcall q0 q1 q2
  have hA1 := hf.at HA.out (by omega)
  have hrow1 := urow_fr HROW.out hf (fun k hk => by omega)
  have hlen1 := HI.out.len
  have hcnt1 := HI.out.cnt
  have HF1 := Lib.hid (HI.out.fr.trans (hf.mono (fun k _ hk => hk.2)))
  have hAlt : ∀ g, A.ownBlock = some g → w.heap.size + 4 ≤ g ∧ g < W.heap.size := by obtain ⟨_, _, h1, _⟩ := HROW.out; exact fun g e => h1.lt g e
  have hWs := blk_lt HA.out
  have HROW1 := Lib.hid hrow1
  obtain ⟨xb, cc0, hown, hxb, hel⟩ := hrow1
  have HALT := Lib.hid hAlt
  clear hAlt
  have HOWN := Lib.hid hown
  have HEL := Lib.hid hel
  have HXB := Lib.hid hxb
  have HB1 := Lib.hid (hf.at HI.out.b1 (by omega))
  have HB0 := Lib.hid (hf.at HI.out.b0 (by omega))
  have HB2 := Lib.hid (hf.at HI.out.b2 (by omega))
  have HSZ := hf.size
  cases hv : valueM S d it s.xs s.cnt with
  | error f =>
    rw [hv] at hr
    obtain ⟨hf0, rfl⟩ := hr
    have HR : Hid (stepM (valueM S d it) s = .error f) := Lib.hid (by rw [stepM, hv])
    clear hv hown hel hxb
    have HA1 := Lib.hid hA1
    clear hA1
    go_wp2
    refine items_tail w _ _ w1.heap.size (w.heap.size + 4) s.L.length 0 0 none none none 0 0 0 0 0 0 A _ _ _ _ _ _ _ _ _ _ _ xb (old_at _ HA1.out) (new_at rfl _) (HOWN.out.alloc _) (by omega) (by simp; omega) (by omega) (fun e => by have := HALT.out _ e; omega) (by omega) ?_
    intro gA capA q19 w3 hr3 h3 hf3 hat
    have HE : Hid (IEr w p q w3) := Lib.hid ⟨HF1.out.trans (((Fr.refl w1 _).alloc _).trans (hf3.mono (fun k _ hk => ⟨fun e => by have := HALT.out k e; omega, by omega⟩))), _, _, _, h3⟩
    clear hr3 h3 hf3 hat
    show Exit.then _ _ Exit.normal _ w3
    go_wp2
    go_ret
    exact stepP_err HR.out hf0 HE.out
  | ok v =>
    obtain ⟨z, ys, cc⟩ := v
    rw [hv] at hr
    obtain ⟨v0, v1, v2, v3, v4, rfl, hz, htk⟩ := hr
    obtain ⟨k, n, B, n0, x0, A1, n1, x1, A2, n2, x2, rfl, rfl, rfl, rfl, rfl⟩ := uin_agg hz
    have HR : Hid (stepM (valueM S d it) s = .ok ⟨ys, cc, s.L ++ [z]⟩) := Lib.hid (by rw [stepM, hv])
    have HV := Lib.hid hv
    clear hv hown hel hxb
    have HA1 := Lib.hid hA1
    clear hA1
    go_wp2
    refine items_tail w _ _ w1.heap.size (w.heap.size + 4) s.L.length k n B A1 A2 n0 x0 n1 x1 n2 x2 A _ _ _ _ _ _ _ _ _ _ _ xb (old_at _ HA1.out) (new_at rfl _) (HOWN.out.alloc _) (by omega) (by simp; omega) (by omega) (fun e => by have := HALT.out _ e; omega) (by omega) ?_
    intro gA capA q19 w3 hr3 h3 hf3 hat
    have hfa : Fr w1 (w1.alloc (.cells #[.int .i64 k, .int .i64 n, .slice B n0 x0, .slice A1 n1 x1, .slice A2 n2 x2] 38)) (fun _ => True) := (Fr.refl w1 _).alloc _
    have hFE := HF1.out.trans (((Fr.refl w1 _).alloc (.cells #[.int .i64 k, .int .i64 n, .slice B n0 x0, .slice A1 n1 x1, .slice A2 n2 x2] 38)).trans (hf3.mono (fun k _ hk => ⟨fun e => by have := HALT.out k e; omega, by omega⟩)))
    have hlow : ∀ k, k < w.heap.size + 3 → A.ownBlock ≠ some k ∧ k ≠ w.heap.size + 3 := fun k hk => ⟨fun e => by have := HALT.out k e; omega, by omega⟩
    have htk3 := (htk.fr (N := w.heap.size) hfa hpw.1 hpw.2 (fun _ _ => trivial)).fr (N := w.heap.size) hf3 hpw.1 hpw.2 (fun k hk => hlow k (by omega))
    have hvl := valueM_len S d it _ _ _ _ _ HV.out
    have hst : ISt w p q dep nv c ⟨ys, cc, s.L ++ [z]⟩ w3 := ⟨htk3, hf3.at (old_at _ HB0.out) (hlow _ (by omega)), hf3.at (old_at _ HB1.out) (hlow _ (by omega)), hf3.at (old_at _ HB2.out) (hlow _ (by omega)),
      ⟨_, h3, urow_more (m := w1.heap.size + 1) (urow_fr HROW1.out hfa (fun _ _ => trivial)) (hf3.mono (fun k _ hk => ⟨hk.1, by omega⟩)) (fun xb' hxb' => by rw [ownsRow_uniq hxb' (HOWN.out.alloc _)]; exact hr3) (hat.elim (fun h => .inl h.symm) (fun h => .inr ⟨gA, rfl, by simpa using h⟩))
        ((hz.fr hfa (fun _ _ => trivial)).mono (fun b hb hb2 => ⟨by omega, fun e => by have := HALT.out b e; omega, by simpa using hb⟩)) (by simp)⟩, hFE, hvl.2.1, by simp only [List.length_append, List.length_singleton]; omega⟩
    have HST := Lib.hid hst
    clear hr3 h3 hf3 hat hfa hFE hlow htk3 hvl hst hz htk
    show Exit.then _ _ Exit.normal _ w3
    go_wp2
    go_ret
    exact stepP_ok HR.out HST.out

/-- What 'items' answers. -/
def ItemsP (w : World) (p q : Nat) (nv : Value) (r : Except Nat ItS) (e : Ending) (w' : World) : Prop :=
  Fr w w' (fun k => k ≠ p ∧ k ≠ q) ∧ match r with
  | .ok s => ∃ A, e = .returned (.tuple #[A, .int .i64 0]) ∧ URow w.heap.size s.L A w' ∧ Tk w' p q nv s.xs s.cnt
  | .error f => 0 < f ∧ ∃ A n c, e = .returned (.tuple #[.slice A n c, .int .i64 f])
theorem itemsP_ok {w : World} {p q : Nat} {nv : Value} {r : Except Nat ItS} {s : ItS} {A : Value} {w' : World} (hr : r = .ok s) (hf : Fr w w' (fun k => k ≠ p ∧ k ≠ q)) (h : URow w.heap.size s.L A w') (ht : Tk w' p q nv s.xs s.cnt) : ItemsP w p q nv r (.returned (.tuple #[A, .int .i64 0])) w' := by
  subst hr; exact ⟨hf, A, rfl, h, ht⟩
theorem itemsP_err {w : World} {p q : Nat} {nv : Value} {r : Except Nat ItS} {f : Nat} {A : Option Addr} {n c : Nat} {w' : World} (hr : r = .error f) (hf : Fr w w' (fun k => k ≠ p ∧ k ≠ q)) (h : 0 < f) : ItemsP w p q nv r (.returned (.tuple #[.slice A n c, .int .i64 f])) w' := by
  subst hr; exact ⟨hf, h, A, n, c, rfl⟩
theorem urow_low {base base' : Nat} {L : List U} {A : Value} {w : World} (h : URow base L A w) (hb : base' ≤ base) : URow base' L A w := by
  obtain ⟨xb, c, h1, h2, h3⟩ := h
  refine ⟨xb, c, ⟨h1.1, ?_⟩, h2, fun i z hz => (h3 i z hz).mono (fun b _ hb' => ⟨by omega, hb'.2⟩)⟩
  rcases h1.2 with h | ⟨g, cap, cur, e, hg, hr⟩
  · exact .inl h
  · exact .inr ⟨g, cap, cur, e, by omega, hr⟩

set_option maxHeartbeats 4000000 in
set_option maxRecDepth 100000 in
theorem items_any (S : List Nd) (d : Nat) (hV : ValC S d) (w : World) (p q dep : Nat) (nv : Value) (c : Nat → Value) (it : Int) (xs : List Int) (cnt : Nat) (okN : Nat → Prop) (hd : dep + 1 + d = 65) (hit : c 7 = .int .i64 it) (hiw : (Lit.int .i64 it).wf = true)
    (ht : Tk w p q nv xs cnt) (hN : NdsAt w okN S nv) (hok : ∀ b, okN b → b < w.heap.size ∧ b ≠ p ∧ b ≠ q) (hcnt : cnt ≤ 10000) :
    Calls Tryd.prog 33 #[.pointer (some ⟨p, 0, none⟩), ndv c, .int .i64 dep] w (ItemsP w p q nv (blocksM (stepM (valueM S d it)) (xs.length + 1) ⟨xs, cnt, []⟩)) := by
  have hlt := ht.lt
  obtain ⟨W0, hW0⟩ : ∃ W0, (((w.alloc (.cells #[.pointer (some ⟨p, 0, none⟩)] 61)).alloc (.cells #[c 0, c 1, c 2, c 3, c 4, c 5, c 6, c 7, c 8, c 9] 29)).alloc (.cells #[.int .i64 dep] 3)).alloc (.cells #[.slice none 0 0] 36) = W0 := ⟨_, rfl⟩
  have hf0 : Fr w W0 (fun _ => True) := by rw [← hW0]; exact ((((Fr.refl w _).alloc _).alloc _).alloc _).alloc _
  have hst0 : ISt w p q dep nv c ⟨xs, cnt, []⟩ W0 := by
    refine ⟨ht.fr (N := w.heap.size) hf0 hlt.1 hlt.2 (fun _ _ => trivial), ?_, ?_, ?_, ⟨.slice none 0 0, ?_, urow_nil _ _⟩, hf0.mono (fun _ _ _ => trivial), hcnt, Nat.zero_le _⟩
    · rw [← hW0]; exact old_at _ (old_at _ (old_at _ (new_at rfl _)))
    · rw [← hW0]; exact old_at _ (old_at _ (new_at (by simp) _))
    · rw [← hW0]; exact old_at _ (new_at (by simp) _)
    · rw [← hW0]; exact new_at (by simp) _
  have hT : Taking p q nv #[.pointer (some ⟨w.heap.size, 0, none⟩), .pointer (some ⟨w.heap.size + 1, 0, none⟩), .pointer (some ⟨w.heap.size + 2, 0, none⟩), .pointer (some ⟨w.heap.size + 3, 0, none⟩)] (stepM (valueM S d it)) (ISt w p q dep nv c) (IEr w p q) := by
    refine ⟨fun s s' h => ?_, fun s W h => h.tk, fun s W W' ys h hf htk => ?_, fun s W W' h hf => ?_, fun s W h => items1_any S d hV w p q dep nv c it okN hd hit hiw hlt hN hok s W h⟩
    · unfold stepM at h
      split at h
      · cases h
      · rename_i z ys c' hv
        cases h
        exact (valueM_len S d _ _ _ _ _ _ hv).1
    · obtain ⟨A, hA, hrow⟩ := h.b3
      exact ⟨htk, hf.at h.b0 (by omega), hf.at h.b1 (by omega), hf.at h.b2 (by omega), ⟨A, hf.at hA (by omega), urow_fr hrow hf (fun k hk => by omega)⟩, h.fr.trans (hf.mono (fun k _ hk => hk.2.2)), h.cnt, h.len⟩
    · obtain ⟨A, hA, hrow⟩ := h.b3
      obtain ⟨_, _, hown, _⟩ := hrow
      obtain ⟨A', c', rfl⟩ := own_form hown
      exact ⟨h.fr.trans (hf.mono (fun k _ hk => hk.2.2)), _, _, _, hf.at hA (by omega)⟩
  have hb := blocks_any hT ⟨xs, cnt, []⟩ W0 hst0
  have HST0 := Lib.hid hst0
  have q0 : W0.cell? ⟨w.heap.size, 0, none⟩ = some (.pointer (some ⟨p, 0, none⟩)) := cell_of_row _ _ 0 _ _ _ hst0.b0
  clear hT hst0 hV hN hok hit ht
  go_enter Tryd.func33, Tryd.ntmps33
  go_wp2_with fail
  refine hb.mono ?_
  rintro e w1 hr
  clear hb q0
  cases hm : blocksM (stepM (valueM S d it)) (xs.length + 1) ⟨xs, cnt, []⟩ with
  | error f =>
    rw [hm] at hr
    obtain ⟨rfl, hf, hfr, A, nA, cA, hA⟩ := hr
    have q1 : w1.cell? ⟨w.heap.size + 3, 0, none⟩ = some (.slice A nA cA) := cell_of_row _ _ 0 _ _ _ hA
    have HF := Lib.hid hfr
    have HM := Lib.hid hm
    clear hm hfr hA
    go_wp2
    go_ret2
    exact itemsP_err HM.out (HF.out.mono (fun k h1 h2 => ⟨h1, h2⟩)) hf
  | ok s =>
    rw [hm] at hr
    obtain ⟨rfl, hst⟩ := hr
    obtain ⟨A, hA, hrow⟩ := hst.b3
    have q1 : w1.cell? ⟨w.heap.size + 3, 0, none⟩ = some A := cell_of_row _ _ 0 _ _ _ hA
    have HF := Lib.hid hst.fr
    have HT := Lib.hid hst.tk
    have HR := Lib.hid (urow_low hrow (show w.heap.size ≤ w.heap.size + 4 by omega))
    have HM := Lib.hid hm
    clear hm hst hA hrow
    go_wp2
    go_ret2
    exact itemsP_ok HM.out (HF.out.mono (fun k h1 h2 => ⟨h1, h2⟩)) HR.out HT.out
end Go.Proofs.YtlkbcdbjmkfkkaaDoor
