/-
  The parser's 'nest': arrays and objects.
-/
import Derived.Test.YtcamaloekanelaaDoorNst
import Derived.RangeFuncBox
namespace Go.Proofs.YtcamaloekanelaaDoor
open Go.RowKit

/-- What 'nest' answers. -/
def NestPost (w : World) (p : Nat) (s : ByteArray) (M : Res) (e : Ending) (w' : World) : Prop :=
  match M with
  | .ok (v, r) => ∃ v0 v1 v2 v3, e = .returned (.tuple #[.agg #[v0, v1, v2, v3], .int .i64 0]) ∧ JIn w' (fun b => w.heap.size ≤ b) v v0 v1 v2 v3 ∧ Step w p s r w'
  | .error er => e = .returned (.tuple #[zero26, .int .i64 er]) ∧ ∃ ys, Step w p s ys w'
/-- What 'value' answers: of a number that begins with 0 and goes on, its 0. -/
def ValPost (w : World) (p : Nat) (s : ByteArray) (M : Res) (e : Ending) (w' : World) : Prop :=
  match M with
  | .ok (v, r) => ∃ v0 v1 v2 v3, e = .returned (.tuple #[.agg #[v0, v1, v2, v3], .int .i64 0]) ∧ JIn w' (fun b => w.heap.size ≤ b) v v0 v1 v2 v3 ∧ Step w p s r w'
  | .error er => (e = .returned (.tuple #[zero26, .int .i64 er]) ∧ (er = 4 ∨ er = 5 ∨ er = 7) ∧ ∃ ys, Step w p s ys w') ∨ (er = 4 ∧ ∃ t d r, e = .returned (.tuple #[leaf 4 t, .int .i64 0]) ∧ isDig d = true ∧ Step w p s (d :: r) w')

set_option maxHeartbeats 400000 in
theorem nest_limit (p : Nat) (s : ByteArray) (xs : Bs) (kind fin d : Int) (hd : 64 ≤ d) (w : World) (h : Par w p s xs) :
    Calls Tryd.prog 57 #[.pointer (some ⟨p, 0, none⟩), .int .i64 kind, .int .u8 fin, .int .i64 d] w (NestPost w p s (.error 5)) := by
  go_enter Tryd.func57, Tryd.ntmps57
  go_wp2
  go_step3
  go_wp2
  refine bodyPost_ret (v := .tuple #[zero26, .int .i64 5]) (by simp [results, Tryd.results57, go_sem]) rfl ?_
  exact ⟨rfl, xs, (Step.refl h).alloc _⟩

theorem Tryd.info26 : (Tryd.prog.info? 26).map (fun i => (i.zero, i.size, i.bytes)) = some (some (.agg #[.int .i64 0, .string ⟨#[]⟩, .slice none 0 0, .slice none 0 0]), 4, 72) := by kernel_rfl
theorem Tryd.info9 : (Tryd.prog.info? 9).map (fun i => (i.zero, i.size, i.bytes)) = some (some (.string ⟨#[]⟩), 1, 16) := by kernel_rfl

/-- What holds at the head of the loop. -/
def NRel (sub : Bs → Res) (obj : Bool) (R : Res) (w : World) (p : Nat) (s : ByteArray) (o b B : Nat) (kind : Int) (g : Nat) (wr : World) : Prop :=
  ∃ (f : Nat) (ks : List ByteArray) (l : List J) (ys : Bs) (vL vK : Value) (c : Nat → Nat → Value), ys.length = g ∧ ys.length < f ∧ loopM sub obj f ks l ys = R ∧ Par wr p s ys ∧ Seen wr b ks.length ks ∧
    l.length + ys.length ≤ 30000 ∧ ks.length + ys.length ≤ 30000 ∧ NSt w wr p o B kind ks l vL vK c

theorem manyM_fin {sub : Bs → Res} {obj : Bool} {r t : Bs} {c : UInt8} (h : white r = c :: t) (hc : c.toNat = finOf obj) : manyM sub obj r = .ok (.mk (kindOf obj) ByteArray.empty [] [], t) := by
  unfold manyM; rw [h]; simp only [if_pos hc]
theorem manyM_loop {sub : Bs → Res} {obj : Bool} {r : Bs} (h : ∀ c t, white r = c :: t → c.toNat ≠ finOf obj) : manyM sub obj r = loopM sub obj ((white r).length + 1) [] [] (white r) := by
  unfold manyM
  cases hw : white r with
  | nil => rfl
  | cons c t => simp only [if_neg (h c t hw)]
theorem NSt.start {w w1 : World} {p o : Nat} {kind : Int} (hf : w.grownBy w1 (some p)) (hres : w1.heap[w.heap.size]? = some (.cells zcells 26 (0, 0))) (hout : w1.heap[o]? = some (.cells #[.int .i64 kind, .string ⟨#[]⟩, .slice none 0 0, .slice none 0 0] 26 (0, 0))) :
    NSt w w1 p o w1.heap.size kind [] [] (.slice none 0 0) (.slice none 0 0) (fun _ _ => undef) :=
  ⟨hf, hres, hout, World.ownsRow_nil _ _ _ _, World.ownsRow_nil _ _ _ _, .inl rfl, (fun i t h => by simp at h), Nat.le_refl _⟩
theorem JIn.forms {w : World} {ok : Nat → Prop} {t : J} {v0 v1 v2 v3 : Value} (h : JIn w ok t v0 v1 v2 v3) : ∃ (k : Nat) (t : ByteArray) (A A' : Option Addr) (n cap n' cap' : Nat), v0 = .int .i64 k ∧ v1 = .string t ∧ v2 = .slice A n cap ∧ v3 = .slice A' n' cap' := by
  cases h with
  | mk k t l ks A A' cap cap' c => exact ⟨k, t, A, A', l.length, cap, ks.length, cap', rfl, rfl, rfl, rfl⟩
theorem cells4_new (w : World) (a b c d : Value) (j : Nat) (u : Value) (h : [a, b, c, d][j]? = some u) : (w.alloc (.cells #[a, b, c, d] 26)).cell? ((⟨w.heap.size, 0, none⟩ : Addr).add j) = some u := by
  rw [addr_add, Nat.zero_add, cell_of_row _ w.heap.size j #[a, b, c, d] 26 (0, 0) (heap_alloc_new w _)]
  simpa using h
/-- A value of the call's own, behind what 'nest' has: apart from its rows. -/
theorem JIn.fresh {w wr w2 : World} {p o B : Nat} {kind : Int} {ks : List ByteArray} {l : List J} {vL vK : Value} {c : Nat → Nat → Value} (hn : NSt w wr p o B kind ks l vL vK c) {t : J} {v0 v1 v2 v3 : Value} (h : JIn w2 (fun b => wr.heap.size ≤ b) t v0 v1 v2 v3) : JIn w2 (okE B vL vK) t v0 v1 v2 v3 :=
  h.mono (fun g _ hg => ⟨Nat.le_trans hn.size hg, fun e => by have := (hn.rowL.lt g e.symm).2; omega, fun e => by have := (hn.rowK.lt g e.symm).2; omega⟩)
theorem NSt.out5 {w wr w1 : World} {p o B : Nat} {kind : Int} {ks : List ByteArray} {l : List J} {vL vK : Value} {c : Nat → Nat → Value} (h : NSt w wr p o B kind ks l vL vK c) (hg : wr.grownBy w1 vL.ownBlock) (hB : o < B) :
    w1.heap[o]? = some (.cells #[.int .i64 kind, .string ⟨#[]⟩, vL, vK] 26 (0, 0)) := (hg.block o h.olt (fun e => by have := (h.rowL.lt o e.symm).1; omega)).trans h.out
theorem NSt.out6 {w wr w1 : World} {p o B : Nat} {kind : Int} {ks : List ByteArray} {l : List J} {vL vK : Value} {c : Nat → Nat → Value} (h : NSt w wr p o B kind ks l vL vK c) (hg : wr.grownBy w1 vK.ownBlock) (hB : o < B) :
    w1.heap[o]? = some (.cells #[.int .i64 kind, .string ⟨#[]⟩, vL, vK] 26 (0, 0)) := (hg.block o h.olt (fun e => by have := (h.rowK.lt o e.symm).1; omega)).trans h.out
theorem Step.set4 {w w' : World} {p b : Nat} {s : ByteArray} {ys : Bs} {a0 a1 a2 a3 : Value} (h : Step w p s ys w') (hb : w.heap.size ≤ b) (hp : p < w.heap.size) :
    Step w p s ys ((((w'.setCell ⟨b, 0, none⟩ a0).setCell ⟨b, 1, none⟩ a1).setCell ⟨b, 2, none⟩ a2).setCell ⟨b, 3, none⟩ a3) := (((h.setNew hb hp).setNew hb hp).setNew hb hp).setNew hb hp
theorem JIn.set4 {w' : World} {b : Nat} {ok : Nat → Prop} {a0 a1 a2 a3 : Value} {t : J} {v0 v1 v2 v3 : Value} (h : JIn w' ok t v0 v1 v2 v3) (hb : ∀ g, ok g → g ≠ b) :
    JIn ((((w'.setCell ⟨b, 0, none⟩ a0).setCell ⟨b, 1, none⟩ a1).setCell ⟨b, 2, none⟩ a2).setCell ⟨b, 3, none⟩ a3) ok t v0 v1 v2 v3 := by
  have key : ∀ (W : World) (j : Nat) (a : Value), Fr W (W.setCell ⟨b, j, none⟩ a) (fun g => g ≠ b) := fun W j a => Fr.of (gset W b j a) (fun g _ hg e => hg (by cases e; rfl))
  exact h.fr (ok' := fun g => g ≠ b) ((((key w' 0 a0).trans (key _ 1 a1)).trans (key _ 2 a2)).trans (key _ 3 a3)) hb
/-- The cells of the result's block and of 'out'. -/
theorem NSt.cells {w wr : World} {p o B : Nat} {kind : Int} {ks : List ByteArray} {l : List J} {vL vK : Value} {c : Nat → Nat → Value} (h : NSt w wr p o B kind ks l vL vK c) :
    (wr.cell? ⟨w.heap.size, 0, none⟩ = some (.int .i64 0) ∧ wr.cell? ⟨w.heap.size, 1, none⟩ = some (.string ⟨#[]⟩) ∧ wr.cell? ⟨w.heap.size, 2, none⟩ = some (.slice none 0 0) ∧ wr.cell? ⟨w.heap.size, 3, none⟩ = some (.slice none 0 0)) ∧
    (wr.frozen? ⟨w.heap.size, 0, none⟩ = false ∧ wr.frozen? ⟨w.heap.size, 1, none⟩ = false ∧ wr.frozen? ⟨w.heap.size, 2, none⟩ = false ∧ wr.frozen? ⟨w.heap.size, 3, none⟩ = false) ∧
    (wr.cell? ⟨o, 0, none⟩ = some (.int .i64 kind) ∧ wr.cell? ⟨o, 1, none⟩ = some (.string ⟨#[]⟩) ∧ wr.cell? ⟨o, 2, none⟩ = some vL ∧ wr.cell? ⟨o, 3, none⟩ = some vK) :=
  ⟨⟨by rw [cell_of_row _ _ _ _ _ _ h.res]; rfl, by rw [cell_of_row _ _ _ _ _ _ h.res]; rfl, by rw [cell_of_row _ _ _ _ _ _ h.res]; rfl, by rw [cell_of_row _ _ _ _ _ _ h.res]; rfl⟩,
   ⟨frozen_of_row wr _ 0 _ 26 h.res, frozen_of_row wr _ 1 _ 26 h.res, frozen_of_row wr _ 2 _ 26 h.res, frozen_of_row wr _ 3 _ 26 h.res⟩,
   ⟨by rw [cell_of_row _ _ _ _ _ _ h.out]; rfl, by rw [cell_of_row _ _ _ _ _ _ h.out]; rfl, by rw [cell_of_row _ _ _ _ _ _ h.out]; rfl, by rw [cell_of_row _ _ _ _ _ _ h.out]; rfl⟩⟩
section
variable {sub : Bs → Res} {obj : Bool} {f er : Nat} {ks ks' : List ByteArray} {l : List J} {xs ys zs q : Bs} {v : J} {c : UInt8}
theorem headM_arr : headM false ks xs = .ok (ks, xs) := by simp [headM]
theorem loopM_head (h : headM obj ks xs = .error er) : loopM sub obj (f + 1) ks l xs = .error er := by simp only [loopM, h]
theorem loopM_err (h : headM obj ks xs = .ok (ks', ys)) (hs : sub ys = .error er) : loopM sub obj (f + 1) ks l xs = .error er := by simp only [loopM, h, hs]
theorem loopM_nil (h : headM obj ks xs = .ok (ks', ys)) (hs : sub ys = .ok (v, zs)) (hw : white zs = []) : loopM sub obj (f + 1) ks l xs = .error 4 := by simp only [loopM, h, hs, hw]
theorem loopM_cons (h : headM obj ks xs = .ok (ks', ys)) (hs : sub ys = .ok (v, zs)) (hw : white zs = c :: q) :
    loopM sub obj (f + 1) ks l xs = if c.toNat = 44 then loopM sub obj f ks' (l ++ [v]) q else if c.toNat = finOf obj then .ok (.mk (kindOf obj) ByteArray.empty (l ++ [v]) ks', q) else .error 4 := by
  simp only [loopM, h, hs, hw]
end
/-- A value was read, as the model reads it; or a number's 0, ahead of a digit. -/
def Got (m : Res) (v : J) (z : Bs) : Prop := m = .ok (v, z) ∨ (m = .error 4 ∧ ∃ d r, z = d :: r ∧ isDig d = true)
theorem ValPost.split {w : World} {p : Nat} {s : ByteArray} {m : Res} {e : Ending} {w' : World} (h : ValPost w p s m e w') :
    (∃ v z v0 v1 v2 v3, e = .returned (.tuple #[.agg #[v0, v1, v2, v3], .int .i64 0]) ∧ Got m v z ∧ JIn w' (fun b => w.heap.size ≤ b) v v0 v1 v2 v3 ∧ Step w p s z w') ∨
    (∃ (er : Nat) (zs : Bs), e = .returned (.tuple #[zero26, .int .i64 er]) ∧ m = .error er ∧ (er = 4 ∨ er = 5 ∨ er = 7) ∧ Step w p s zs w') := by
  cases m with
  | ok vz =>
    obtain ⟨v, z⟩ := vz
    obtain ⟨v0, v1, v2, v3, he, hj, hs⟩ := h
    exact .inl ⟨v, z, v0, v1, v2, v3, he, .inl rfl, hj, hs⟩
  | error er =>
    rcases h with ⟨he, her, ys, hs⟩ | ⟨rfl, t, d, r, he, hd, hs⟩
    · exact .inr ⟨er, ys, he, rfl, her, hs⟩
    · exact .inl ⟨.mk 4 t [] [], d :: r, _, _, _, _, he, .inr ⟨rfl, d, r, rfl, hd⟩, JIn.leaf _ _ 4 t, hs⟩
theorem dig_white {d : UInt8} (h : isDig d = true) : isWhite d = false ∧ d.toNat ≠ 44 ∧ d.toNat ≠ 93 ∧ d.toNat ≠ 125 := by
  have := of_decide_eq_true h
  exact ⟨isWhite_no (by omega), by omega, by omega, by omega⟩
theorem got_facts {sub : Bs → Res} {obj : Bool} {f : Nat} {ks ks' : List ByteArray} {l : List J} {xs ys z ws : Bs} {v : J} {M : Res} (hM : loopM sub obj (f + 1) ks l xs = M) (hh : headM obj ks xs = .ok (ks', ys)) (hl : ∀ ys v zs, sub ys = .ok (v, zs) → zs.length ≤ ys.length) (hg : Got (sub ys) v z) (hw : white z = ws) :
    (ws = [] → M = .error 4) ∧ (∀ c q, ws = c :: q → c.toNat = 44 → M = loopM sub obj f ks' (l ++ [v]) q ∧ q.length < ys.length) ∧
    (∀ c q, ws = c :: q → c.toNat = finOf obj → M = .ok (.mk (kindOf obj) ByteArray.empty (l ++ [v]) ks', q)) ∧ (∀ c q, ws = c :: q → c.toNat ≠ 44 → c.toNat ≠ finOf obj → M = .error 4) := by
  subst hw
  rw [← hM]
  rcases hg with hs | ⟨hs, d, r, rfl, hd⟩
  · have hzl := hl _ _ _ hs
    have hwl := white_le z
    refine ⟨fun e => loopM_nil hh hs e, fun c q e h44 => ?_, fun c q e hc => ?_, fun c q e h1 h2 => ?_⟩
    · rw [e] at hwl
      simp only [List.length_cons] at hwl
      exact ⟨by rw [loopM_cons hh hs e, if_pos h44], by omega⟩
    · have hne : c.toNat ≠ 44 := by rw [hc]; cases obj <;> decide
      rw [loopM_cons hh hs e, if_neg hne, if_pos hc]
    · rw [loopM_cons hh hs e, if_neg h1, if_neg h2]
  · obtain ⟨hw, h1, h2, h3⟩ := dig_white hd
    rw [white_cons_no hw]
    have he := loopM_err (f := f) (l := l) hh hs
    refine ⟨(fun e => by cases e), (fun c q e h44 => by cases e; exact absurd h44 h1), fun c q e hc => ?_, fun c q e _ _ => he⟩
    cases e
    cases obj
    · exact absurd hc h2
    · exact absurd hc h3
set_option maxHeartbeats 2000000 in
set_option maxRecDepth 100000 in
theorem nest_arr (p : Nat) (s : ByteArray) (x : UInt8) (r : Bs) (d : Nat) (hd : d < 64) (sub : Bs → Res) (w : World) (h : Par w p s (x :: r)) (hG : Gl w) (hp4 : 4 ≤ p)
    (hsub : ∀ w1 ys, Par w1 p s ys → Gl w1 → Calls Tryd.prog 35 #[.pointer (some ⟨p, 0, none⟩), .int .i64 ((d : Int) + 1)] w1 (ValPost w1 p s (sub ys)))
    (hlen : ∀ ys v zs, sub ys = .ok (v, zs) → zs.length ≤ ys.length) :
    Calls Tryd.prog 57 #[.pointer (some ⟨p, 0, none⟩), .int .i64 6, .int .u8 93, .int .i64 d] w (NestPost w p s (manyM sub false r)) := by
  obtain ⟨k, c0, c1, f0, f1, ha, hs, _⟩ := h.parts
  have hplt := h.lt
  have hk := ha.lt
  have hrl : r.length ≤ 30000 := by have := ha.len; simp at this; omega
  have hst1 : Step w p s r (((w.setCell ⟨p, 1, none⟩ (.int .i64 ((k : Int) + 1))).alloc (.cells zcells 26)).alloc (.cells #[.int .i64 6, .string ⟨#[]⟩, .slice none 0 0, .slice none 0 0] 26)) := (((Step.refl h).set ha.tail).alloc _).alloc _
  have hres1 : (((w.setCell ⟨p, 1, none⟩ (.int .i64 ((k : Int) + 1))).alloc (.cells zcells 26)).alloc (.cells #[.int .i64 6, .string ⟨#[]⟩, .slice none 0 0, .slice none 0 0] 26)).heap[w.heap.size]? = some (.cells zcells 26 (0, 0)) := by
    rw [Below.heap_alloc _ _ _ (by simp)]
    have := heap_alloc_new (w.setCell ⟨p, 1, none⟩ (.int .i64 ((k : Int) + 1))) (.cells zcells 26 (0, 0))
    simpa using this
  have hout1 : (((w.setCell ⟨p, 1, none⟩ (.int .i64 ((k : Int) + 1))).alloc (.cells zcells 26)).alloc (.cells #[.int .i64 6, .string ⟨#[]⟩, .slice none 0 0, .slice none 0 0] 26)).heap[w.heap.size + 1]? = some (.cells #[.int .i64 6, .string ⟨#[]⟩, .slice none 0 0, .slice none 0 0] 26 (0, 0)) := by
    have := heap_alloc_new ((w.setCell ⟨p, 1, none⟩ (.int .i64 ((k : Int) + 1))).alloc (.cells zcells 26)) (.cells #[.int .i64 6, .string ⟨#[]⟩, .slice none 0 0, .slice none 0 0] 26 (0, 0))
    simpa using this
  have hsg : ∀ w1, Par w1 p s r → _ := fun w1 hp => sign_any p s r w1 hp
  have HS := Lib.hid hsg
  have HSub := Lib.hid hsub
  have HLen := Lib.hid hlen
  have hmm := @run_makeMap Tryd.prog
  clear hsg hsub hlen ha
  have hd64 : (d : Int) < 64 := by omega
  have hwl := white_le r
  have hfin : ∀ c t, white r = c :: t → c.toNat = 93 → manyM sub false r = .ok (.mk 6 ByteArray.empty [] [], t) := fun c t a b => manyM_fin (obj := false) a b
  have hloop : (∀ c t, white r = c :: t → c.toNat ≠ 93) → manyM sub false r = loopM sub false ((white r).length + 1) [] [] (white r) := fun a => manyM_loop (obj := false) a
  generalize white r = ys at *
  generalize manyM sub false r = M at *
  have HFin := Lib.hid hfin
  have HLoop := Lib.hid hloop
  clear hfin hloop
  go_enter Tryd.func57, Tryd.ntmps57
  go_wp2
  go_step3
  go_wp2_with fail
  generalize ((w.setCell ⟨p, 1, none⟩ (.int .i64 ((k : Int) + 1))).alloc (.cells zcells 26)).alloc (.cells #[.int .i64 6, .string ⟨#[]⟩, .slice none 0 0, .slice none 0 0] 26) = W1 at *
  refine (HS.out W1 hst1.1).mono ?_
  rintro e w1 ⟨rfl, hst2⟩
  have hres2 := hst2.fr.at hres1 (show w.heap.size ≠ p by omega)
  have hout2 := hst2.fr.at hout1 (show w.heap.size + 1 ≠ p by omega)
  have hst3 := hst1.of hst2
  clear hres1 hout1 hst1 hst2 HS
  obtain ⟨k2, c02, c12, f02, f12, ha2, _, _⟩ := hst3.1.parts
  have q0 : w1.cell? ⟨w.heap.size, 0, none⟩ = some (.int .i64 0) := by rw [cell_of_row _ _ _ _ _ _ hres2]; rfl
  have q1 : w1.cell? ⟨w.heap.size, 1, none⟩ = some (.string ⟨#[]⟩) := by rw [cell_of_row _ _ _ _ _ _ hres2]; rfl
  have q2 : w1.cell? ⟨w.heap.size, 2, none⟩ = some (.slice none 0 0) := by rw [cell_of_row _ _ _ _ _ _ hres2]; rfl
  have q3 : w1.cell? ⟨w.heap.size, 3, none⟩ = some (.slice none 0 0) := by rw [cell_of_row _ _ _ _ _ _ hres2]; rfl
  have y0 := frozen_of_row w1 w.heap.size 0 _ 26 hres2
  have y1 := frozen_of_row w1 w.heap.size 1 _ 26 hres2
  have y2 := frozen_of_row w1 w.heap.size 2 _ 26 hres2
  have y3 := frozen_of_row w1 w.heap.size 3 _ 26 hres2
  have u0 : w1.cell? ⟨w.heap.size + 1, 0, none⟩ = some (.int .i64 6) := by rw [cell_of_row _ _ _ _ _ _ hout2]; rfl
  have u1 : w1.cell? ⟨w.heap.size + 1, 1, none⟩ = some (.string ⟨#[]⟩) := by rw [cell_of_row _ _ _ _ _ _ hout2]; rfl
  have u2 : w1.cell? ⟨w.heap.size + 1, 2, none⟩ = some (.slice none 0 0) := by rw [cell_of_row _ _ _ _ _ _ hout2]; rfl
  have u3 : w1.cell? ⟨w.heap.size + 1, 3, none⟩ = some (.slice none 0 0) := by rw [cell_of_row _ _ _ _ _ _ hout2]; rfl
  by_cases hend : ∃ c t, ys = c :: t ∧ c.toNat = 93
  · obtain ⟨c, t, rfl, hc⟩ := hend
    have hM := HFin.out c t rfl hc
    have HM := Lib.hid hM
    have hc1 : ((c.toNat : Int) == 93) = true := by simp only [beq_iff_eq]; omega
    have hst4 := hst3.set ha2.tail
    have hlt2 := ha2.lt
    clear hM HFin HLoop HSub HLen hc
    go_wp2
    refine bodyPost_ret (v := .tuple #[leaf 6 ⟨#[]⟩, .int .i64 0]) (by simp [results, Tryd.results57, go_sem, q0, q1, q2, q3]) rfl ?_
    rw [HM.out]
    exact ⟨_, _, _, _, rfl, JIn.leaf _ _ 6 _, (((hst4.setNew (Nat.le_refl _) hplt).setNew (Nat.le_refl _) hplt).setNew (Nat.le_refl _) hplt).setNew (Nat.le_refl _) hplt⟩
  · have hne : ∀ c t, ys = c :: t → c.toNat ≠ 93 := fun c t e hc => hend ⟨c, t, e, hc⟩
    have hM := HLoop.out hne
    have hc1 : ((((List.head? ys).getD 0).toNat : Int) == 93) = false := by
      simp only [beq_eq_false_iff_ne, ne_eq]
      cases ys with
      | nil => decide
      | cons c t => have := hne c t rfl; simp; omega
    have HM := Lib.hid hM
    clear hM HFin HLoop hne hend
    have hsz1 : w.heap.size + 1 < w1.heap.size := blk_lt hout2
    have hns : NSt w (w1.alloc (.map #[] 0)) p (w.heap.size + 1) (w1.heap.size + 1) 6 [] [] (.slice none 0 0) (.slice none 0 0) (fun _ _ => undef) := by
      have := NSt.start (hst3.alloc (.map #[] 0)).2 ((Below.heap_alloc w1 _ _ (blk_lt hres2)).trans hres2) ((Below.heap_alloc w1 _ _ (blk_lt hout2)).trans hout2)
      simpa using this
    have hrel0 : NRel sub false M w p s (w.heap.size + 1) w1.heap.size (w1.heap.size + 1) 6 ys.length (w1.alloc (.map #[] 0)) :=
      ⟨ys.length + 1, [], [], ys, _, _, _, rfl, by omega, HM.out.symm, (hst3.alloc _).1, Seen.made w1, by simp; omega, by simp; omega, hns⟩
    clear q0 q1 q2 q3 y0 y1 y2 y3 u0 u1 u2 u3 c02 c12 f02 f12 ha2 c0 c1 f0 f1 hns HM hst3 hres2 hout2
    go_wp2
    go_step3
    go_wp2
    go_loopg [] ys.length (fun g wr => NRel sub false M w p s (w.heap.size + 1) w1.heap.size (w1.heap.size + 1) 6 g wr)
    case atStart => exact hrel0
    case round =>
      obtain ⟨f, ks, l, zs, vL, vK, c, hg, hf, hR, hpar, hseen, hb1, hb2, hn⟩ := hrel
      obtain ⟨f, rfl⟩ : ∃ f', f = f' + 1 := ⟨f - 1, by omega⟩
      clear hrel0
      have HG := Lib.hid hg
      have hGl := hG.kept hn.frame (fun k e => by cases e; exact hp4)
      have hcall := (HSub.out wr zs hpar hGl).mono fun e w' hv => hv.split
      have HR := Lib.hid hR
      have HSe := Lib.hid hseen
      clear hg hR hseen
      go_wp2_with fail
      refine hcall.mono ?_
      rintro e w2 (⟨v, z, v0, v1, v2, v3, rfl, hgot, hj, hst⟩ | ⟨er, zs', rfl, hsv, her, hst⟩)
      · have HV := Lib.hid hgot
        clear hgot hcall
        have hj2 := hj.fresh hn
        obtain ⟨kk, tt, A, A', n1, cap1, n2, cap2, rfl, rfl, rfl, rfl⟩ := hj.forms
        have hn2 := hn.fr (b := w1.heap.size) (hst.fr.mono (fun _ _ h => h.1)) hplt (by omega) (by omega) (by omega)
        have u2 : w2.cell? ⟨w.heap.size + 1, 2, none⟩ = some vL := by rw [cell_of_row _ _ _ _ _ _ hn2.out]; rfl
        have y2 := frozen_of_row w2 (w.heap.size + 1) 2 _ 26 hn2.out
        have holt := hn2.olt
        obtain ⟨A3, cap3, rfl, _, _, _⟩ := own_open hn2.rowL (by omega)
        have hns := ((hn2.alloc (.cells #[.int .i64 kk, .string tt, .slice A n1 cap1, .slice A' n2 cap2] 26) hplt (by omega) (by omega)).alloc (.cells #[.int .i64 kk, .string tt, .slice A n1 cap1, .slice A' n2 cap2] 26) hplt (by omega) (by omega))
        obtain ⟨i0, hi, hz0, hz1, hz2⟩ := info_parts Tryd.info26
        go_wp2_with (at_builtin; refine wpList_append_own_at _ rfl _ _ 23 rfl (w1.heap.size + 1) 26 i0 _ 4 72 Tryd.underlying23 hi hz0 hz1 hz2 rfl (by decide) _ l.length (cellsJ c l.length) rfl hns.rowL ⟨w2.heap.size + 1, 0, none⟩ 1 1 [.int .i64 kk, .string tt, .slice A n1 cap1, .slice A' n2 cap2] rfl rfl (by have := cells4_new (w2.alloc (.cells #[.int .i64 kk, .string tt, .slice A n1 cap1, .slice A' n2 cap2] 26)) (.int .i64 kk) (.string tt) (.slice A n1 cap1) (.slice A' n2 cap2); simpa using this) (by simp [Value.oneCell']) (by unfold maxLen; omega) (by omega) hns.size ?_; intro v' w5 hown' hgrow _ hblk; obtain ⟨g', cap', rfl⟩ := ownsRow_succ hown'; obtain ⟨c', hns6⟩ := hns.elem (by omega) (by omega) hown' hgrow hblk ((hj2.fr ((Fr.refl w2 (fun _ => True)).alloc _) (fun _ _ => trivial)).fr ((Fr.refl _ (fun _ => True)).alloc _) (fun _ _ => trivial)); have hout5 := hns.out5 hgrow (by omega); have u5 : w5.cell? ⟨w.heap.size + 1, 2, none⟩ = some (.slice A3 l.length cap3) := (by rw [cell_of_row _ _ _ _ _ _ hout5]; rfl); have y5 := frozen_of_row w5 (w.heap.size + 1) 2 _ 26 hout5)
        have hf6 : Fr w2 (w5.setCell ⟨w.heap.size + 1, 2, none⟩ (.slice (some ⟨g', 0, none⟩) (l.length + 1) cap')) (fun g => g < w1.heap.size + 1 ∧ g ≠ w.heap.size + 1) :=
          ((((Fr.refl w2 _).alloc _).alloc _).trans (Fr.of hgrow (fun b _ hb e => by have := (hns.rowL.lt b e.symm).1; omega))).trans (Fr.of (gset w5 (w.heap.size + 1) 2 _) (fun b _ hb e => hb.2 (by cases e; rfl)))
        have hpar6 : Par (w5.setCell ⟨w.heap.size + 1, 2, none⟩ (.slice (some ⟨g', 0, none⟩) (l.length + 1) cap')) p s z := by
          obtain ⟨k6, hh6, hr6⟩ := hst.1
          exact ⟨k6, hf6.at hh6 ⟨by omega, by omega⟩, hr6⟩
        have hseen6 := (HSe.out.fr hst.fr (by omega)).fr hf6 ⟨by omega, by omega⟩
        clear hown' hgrow hblk hout5 u5 y5 hns u2 y2 hn2 hj hj2 hst hf6 hn holt hpar
        generalize w5.setCell ⟨w.heap.size + 1, 2, none⟩ (.slice (some ⟨g', 0, none⟩) (l.length + 1) cap') = W6 at *
        have htk := take_any p s z W6 hpar6
        obtain ⟨hnil, hc44, hcfin, hcels⟩ := got_facts (ws := white z) HR.out headM_arr HLen.out HV.out rfl
        have hfacts := Lib.hid (And.intro hnil (And.intro hc44 (And.intro hcfin hcels)))
        clear hnil hc44 hcfin hcels HR
        generalize white z = ws at *
        refine htk.mono ?_
        rintro e w7 ⟨rfl, hst7⟩
        have hns7 := hns6.fr (b := w1.heap.size) (hst7.fr.mono (fun _ _ h => h.1)) hplt (by omega) (by omega) (by omega)
        have hseen7 := hseen6.fr hst7.fr (show w1.heap.size ≠ p by omega)
        have hstep7 : Step w p s ws.tail w7 := ⟨hst7.1, hns7.frame⟩
        obtain ⟨⟨q0, q1, q2, q3⟩, ⟨y0, y1, y2, y3⟩, ⟨u0, u1, u2, u3⟩⟩ := hns7.cells
        obtain ⟨AK, capK, rfl, _, _, _⟩ := own_open hns7.rowK (by omega)
        clear hns6 hseen6 hpar6 htk HSe
        obtain ⟨hnil, hc44, hcfin, hcels⟩ := hfacts.out
        clear hfacts
        cases ws with
        | nil =>
          have HM := Lib.hid (hnil rfl)
          clear hnil hc44 hcfin hcels
          go_wp2
          refine bodyPost_ret (v := .tuple #[zero26, .int .i64 4]) (by simp [results, Tryd.results57, go_sem, q0, q1, q2, q3]) rfl ?_
          rw [HM.out]
          exact ⟨rfl, _, hstep7.set4 (Nat.le_refl _) hplt⟩
        | cons c q =>
          by_cases h44 : c.toNat = 44
          · have b44 : ((c.toNat : Int) == 44) = true := by simp only [beq_iff_eq]; omega
            obtain ⟨hM, hql⟩ := hc44 c q rfl h44
            have HM := Lib.hid hM
            clear hM hnil hc44 hcfin hcels h44
            go_wp2
            go_roundg q.length
            case measure => have := HG.out; omega
            case rel => exact ⟨f, ks, l ++ [v], q, _, _, c', rfl, by omega, HM.out.symm, hst7.1, hseen7, by simp; omega, by omega, hns7⟩
          · have b44 : ((c.toNat : Int) == 44) = false := by simp only [beq_eq_false_iff_ne, ne_eq]; omega
            by_cases h93 : c.toNat = 93
            · have b93 : ((c.toNat : Int) == 93) = true := by simp only [beq_iff_eq]; omega
              have HM := Lib.hid (hcfin c q rfl h93)
              clear hnil hc44 hcfin hcels h44 h93
              have hjv := hns7.value (k := 6) rfl
              go_wp2
              rw [Exit.noGoto_ret]
              refine bodyPost_ret (v := .tuple #[.agg #[.int .i64 6, .string ⟨#[]⟩, .slice (some ⟨g', 0, none⟩) (l.length + 1) cap', .slice AK ks.length capK], .int .i64 0]) (by simp [results, Tryd.results57, go_sem, q0, q1, q2, q3]) rfl ?_
              rw [HM.out]
              exact ⟨_, _, _, _, rfl, (hjv.set4 (fun g hg => by omega)).mono (fun g _ hg => by omega), hstep7.set4 (Nat.le_refl _) hplt⟩
            · have b93 : ((c.toNat : Int) == 93) = false := by simp only [beq_eq_false_iff_ne, ne_eq]; omega
              have HM := Lib.hid (hcels c q rfl h44 h93)
              clear hnil hc44 hcfin hcels h44 h93
              go_wp2
              refine bodyPost_ret (v := .tuple #[zero26, .int .i64 4]) (by simp [results, Tryd.results57, go_sem, q0, q1, q2, q3]) rfl ?_
              rw [HM.out]
              exact ⟨rfl, _, hstep7.set4 (Nat.le_refl _) hplt⟩
      · have HM := Lib.hid (HR.out.symm.trans (loopM_err (f := f) (ks := ks) (l := l) headM_arr hsv))
        have hn2 := hn.fr (b := w1.heap.size) (hst.fr.mono (fun _ _ h => h.1)) hplt (by omega) (by omega) (by omega)
        have hstep2 : Step w p s zs' w2 := ⟨hst.1, hn2.frame⟩
        obtain ⟨⟨q0, q1, q2, q3⟩, ⟨y0, y1, y2, y3⟩, _⟩ := hn2.cells
        have her' : ((er : Int) == 0) = false := by simp only [beq_eq_false_iff_ne, ne_eq]; omega
        have her2 : ((er : Int) != 0) = true := by simp only [bne, her']; rfl
        have hrlt := blk_lt hn2.res
        clear her hcall hn hpar HR hsv
        go_wp2
        rw [Exit.noGoto_ret]
        refine bodyPost_ret (v := .tuple #[zero26, .int .i64 er]) (by simp [results, Tryd.results57, go_sem, q0, q1, q2, q3, hrlt]) rfl ?_
        rw [HM.out]
        exact ⟨rfl, _, (hstep2.set4 (Nat.le_refl _) hplt).alloc _⟩
end Go.Proofs.YtcamaloekanelaaDoor
