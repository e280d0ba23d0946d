/-
  The reference's reader: 'many', of an array.
-/
import Derived.Test.YtjcnjaebmndeiaaDoorRef8
namespace Go.Proofs.YtjcnjaebmndeiaaDoor
open Go.RowKit

section
variable {w wr w1 : World} {p o B : Nat} {kind : Int} {ks : List ByteArray} {l : List J} {vL vK : Value} {c : Nat → Nat → Value}
theorem NSt.fr0 (h : NSt w wr p o B kind ks l vL vK c) (hf : Fr wr w1 (fun g => g ≠ p)) (hp : p < w.heap.size) (ho : w.heap.size < o) (hB : o < B) : NSt w w1 p o B kind ks l vL vK c where
  frame := (((Fr.of h.frame (ok := fun g => g ≠ p ∧ g < w.heap.size) (fun g _ hg e => hg.1 (by cases e; rfl)))).trans (hf.mono (fun g _ hg => hg.1))).grown (fun g hg hn => ⟨fun e => hn (by rw [e]), hg⟩)
  res := hf.at h.res (by omega)
  out := hf.at h.out (by omega)
  rowL := ownsRow_fr h.rowL hf (fun g e => by have := (h.rowL.lt g e).1; omega)
  rowK := ownsRow_fr h.rowK hf (fun g e => by have := (h.rowK.lt g e).1; omega)
  apart := h.apart
  els := fun i t ht => (h.els i t ht).fr hf (fun g hg => by have := hg.1; omega)
  size := Nat.le_trans h.size hf.size
end
/-- What holds at the head of the loop: it goes on; or it has failed. -/
def RNRel (sub : Bs → Res) (obj : Bool) (R : Res) (w : World) (p : Nat) (s : ByteArray) (o B : Nat) (kind : Int) (g : Nat) (wr : World) : Prop :=
  (∃ (f : Nat) (ks : List ByteArray) (l : List J) (ys : Bs) (vL vK : Value) (c : Nat → Nat → Value), ys.length + 1 = g ∧ ys.length < f ∧ loopM sub obj f ks l ys = R ∧ RRd wr p s ys 0 ∧
    l.length + ys.length ≤ 30000 ∧ ks.length + ys.length ≤ 30000 ∧ NSt w wr p o B kind ks l vL vK c) ∨
  (∃ (er : Nat) (ys : Bs) (ks : List ByteArray) (l : List J) (vL vK : Value) (c : Nat → Nat → Value), er ≠ 0 ∧ R = .error er ∧ RRd wr p s ys er ∧ NSt w wr p o B kind ks l vL vK c)
theorem Gl.rkept {w wr : World} {p o B : Nat} {kind : Int} {ks : List ByteArray} {l : List J} {vL vK : Value} {c : Nat → Nat → Value} (h : Gl w) (hp4 : 4 ≤ p) (hn : NSt w wr p o B kind ks l vL vK c) : Gl wr := h.kept hn.frame (fun k e => by cases e; exact hp4)
abbrev tEnd : ByteArray := ⟨#[93]⟩
abbrev tBra : ByteArray := ⟨#[125]⟩
abbrev tCom : ByteArray := ⟨#[44]⟩
theorem one_pre (a : UInt8) (ys : Bs) : ([a] : Bs).isPrefixOf ys = match ys with | [] => false | c :: _ => a == c := by
  cases ys with
  | nil => rfl
  | cons c r => simp [List.isPrefixOf]

/-- Ahead of the call: what lies in memory, and the reader. -/
def PR (w : World) (p : Nat) (s : ByteArray) (o B : Nat) (kind : Int) (ks : List ByteArray) (l : List J) (vL vK : Value) (c : Nat → Nat → Value) (zs : Bs) (er : Nat) (W : World) : Prop := NSt w W p o B kind ks l vL vK c ∧ RRd W p s zs er ∧ Gl W
/-- Behind it: the value that was read, too, and new blocks. -/
def QR (w : World) (p : Nat) (s : ByteArray) (o B : Nat) (kind : Int) (ks : List ByteArray) (l : List J) (vL vK : Value) (c : Nat → Nat → Value) (ys : Bs) (er : Nat) (t : J) (v0 v1 v2 v3 : Value) (W : World) (gs : List (Nat × Obj)) : Prop :=
  NSt w W p o B kind ks l vL vK c ∧ RRd W p s ys er ∧ JIn W (okE B vL vK) t v0 v1 v2 v3 ∧ ∀ q, q ∈ gs → W.heap[q.1]? = some q.2
section
variable {w W : World} {p o B : Nat} {s : ByteArray} {kind : Int} {ks : List ByteArray} {l : List J} {vL vK : Value} {c : Nat → Nat → Value} {zs ys : Bs} {er : Nat} {t : J} {v0 v1 v2 v3 : Value} {gs : List (Nat × Obj)}
theorem PR.drew (h : PR w p s o B kind ks l vL vK c zs er W) : PR w p s o B kind ks l vL vK c zs er W.drew := ⟨h.1.drewN 1, h.2.1, h.2.2.drewN 1⟩
theorem QR.drew (h : QR w p s o B kind ks l vL vK c ys er t v0 v1 v2 v3 W gs) : QR w p s o B kind ks l vL vK c ys er t v0 v1 v2 v3 W.drew gs :=
  ⟨h.1.drewN 1, h.2.1, h.2.2.1.fr ((Fr.refl W (fun _ => True)).drewN 1) (fun _ _ => trivial), h.2.2.2⟩
theorem NSt.alloc0 (h : NSt w W p o B kind ks l vL vK c) (x : Obj) (hp : p < w.heap.size) (ho : w.heap.size < o) (hB : o < B) : NSt w (W.alloc x) p o B kind ks l vL vK c := h.fr0 ((Fr.refl W _).alloc x) hp ho hB
theorem NSt.facts (h : NSt w W p o B kind ks l vL vK c) : w.heap.size < W.heap.size := blk_lt h.res
end
theorem QR.alloc {w W : World} {p o B : Nat} {s : ByteArray} {kind : Int} {ks : List ByteArray} {l : List J} {vL vK : Value} {c : Nat → Nat → Value} {ys : Bs} {er : Nat} {t : J} {v0 v1 v2 v3 : Value} {gs : List (Nat × Obj)}
    (h : QR w p s o B kind ks l vL vK c ys er t v0 v1 v2 v3 W gs) (hs : Hid (p < w.heap.size ∧ w.heap.size < o ∧ o < B)) (x : Obj) : QR w p s o B kind ks l vL vK c ys er t v0 v1 v2 v3 (W.alloc x) ((W.heap.size, x) :: gs) := by
  obtain ⟨h1, h2, h3, h4⟩ := h
  refine ⟨h1.alloc0 x hs.out.1 hs.out.2.1 hs.out.2.2, h2.kept (World.grownBy_alloc W x none) (by simp), h3.fr ((Fr.refl W (fun _ => True)).alloc x) (fun _ _ => trivial), fun q hq => ?_⟩
  rcases List.mem_cons.mp hq with rfl | hq
  · exact heap_alloc_new W x
  · exact ((World.grownBy_alloc W x none).block q.1 (blk_lt (h4 q hq)) (by simp)).trans (h4 q hq)
theorem call37 {w W : World} {p o B d : Nat} {s : ByteArray} {kind : Int} {ks : List ByteArray} {l : List J} {vL vK : Value} {c : Nat → Nat → Value} {zs : Bs} {er : Nat} {sub : Bs → Res} {Q : Ending → World → Prop}
    (HSub : Hid (∀ w1 ys e1, RRd w1 p s ys e1 → Gl w1 → Calls Tryd.prog 37 #[.pointer (some ⟨p, 0, none⟩), .int .i64 ((d : Int) + 1)] w1 (RVal w1 p s (orE e1 (sub ys)))))
    (hs : Hid (p < w.heap.size ∧ w.heap.size < o ∧ o < B)) (h : PR w p s o B kind ks l vL vK c zs er W)
    (hQ : ∀ t ys e3 kk tt A m1 cap1 A' m2 cap2 w3, QR w p s o B kind ks l vL vK c ys e3 t (.int .i64 (kk : Nat)) (.string tt) (.slice A m1 cap1) (.slice A' m2 cap2) w3 [] → ((orE er (sub zs) = .ok (t, ys) ∧ e3 = 0) ∨ (orE er (sub zs) = .error e3 ∧ e3 ≠ 0)) →
      Q (.returned (.agg #[.int .i64 (kk : Nat), .string tt, .slice A m1 cap1, .slice A' m2 cap2])) w3) :
    Calls Tryd.prog 37 #[.pointer (some ⟨p, 0, none⟩), .int .i64 ((d : Int) + 1)] W Q := by
  refine (HSub.out W zs er h.2.1 h.2.2).mono ?_
  rintro e w3 ⟨t, ys3, er3, v0, v1, v2, v3, rfl, hj, hst3, hM⟩
  obtain ⟨kk, tt, A, A', m1, cap1, m2, cap2, rfl, rfl, rfl, rfl⟩ := hj.forms
  obtain ⟨h1, h2, h3⟩ := hs.out
  exact hQ t ys3 er3 kk tt A m1 cap1 A' m2 cap2 w3 ⟨h.1.fr0 hst3.fr h1 h2 h3, hst3.1, hj.fresh h.1, fun q hq => by cases hq⟩ hM
theorem step_app26 {w W : World} {ops : Array Oper} {op : Oper} {a : Act} {K : Act → World → Prop} {Qx : Exit → Act → World → Prop} {E : Prop} (hgd : op.guard = none) (sl x : Operand)
    (ho : op.op = .call { callee := .builtin .append, args := #[sl, x], argTypes := #[23, 23] }) {p o B : Nat} {s : ByteArray} {kind : Int} {ks : List ByteArray} {l : List J} {vL vK : Value} {c : Nat → Nat → Value} {ys : Bs} {er : Nat} {t : J} {v0 v1 v2 v3 : Value} {gs : List (Nat × Obj)}
    (hs : a.eval sl = vL) (hp : Hid (p < w.heap.size ∧ w.heap.size < o ∧ o < B)) (hl : l.length ≤ 30000) (h : QR w p s o B kind ks l vL vK c ys er t v0 v1 v2 v3 W gs) (h1c : Value.oneCell' v0 = true ∧ Value.oneCell' v1 = true ∧ Value.oneCell' v2 = true ∧ Value.oneCell' v3 = true) (g cp : Nat) (hx : a.eval x = .slice (some ⟨g, 0, none⟩) 1 cp)
    (hm : (g, Obj.cells #[v0, v1, v2, v3] 26 (0, 0)) ∈ gs)
    (hK : ∀ g' cap' w5 c', w5.cell? ⟨o, 2, none⟩ = some vL → w5.frozen? ⟨o, 2, none⟩ = false → o < w5.heap.size →
      NSt w (w5.setCell ⟨o, 2, none⟩ (.slice (some ⟨g', 0, none⟩) (l.length + 1) cap')) p o B kind ks (l ++ [t]) (.slice (some ⟨g', 0, none⟩) (l.length + 1) cap') vK c' →
      RRd (w5.setCell ⟨o, 2, none⟩ (.slice (some ⟨g', 0, none⟩) (l.length + 1) cap')) p s ys er → K (a.put op.dst (.slice (some ⟨g', 0, none⟩) (l.length + 1) cap')) w5) :
    if Region.wanted op (yielded ops a.tmps) = true then Oper.wp Tryd.prog op a W K Qx else E := by
  obtain ⟨i0, hi, hz0, hz1, hz2⟩ := info_parts Tryd.info26
  obtain ⟨hn, hrd, hj, hgs⟩ := h
  obtain ⟨hp1, hp2, hp3⟩ := hp.out
  have hs0 := hn.size
  refine step_append_lies W hgd sl x 23 ho B 26 i0 _ 4 72 Tryd.underlying23 hi hz0 hz1 hz2 rfl (by decide) vL l.length (cellsJ c l.length) hs hn.rowL ⟨g, 0, none⟩ 1 cp [v0, v1, v2, v3] hx (by rfl)
    (World.news_of_block (cs := #[v0, v1, v2, v3]) (hgs _ hm)) (by obtain ⟨a1, a2, a3, a4⟩ := h1c; simp [a1, a2, a3, a4]) (by omega) (by unfold maxLen; omega) (by omega) hs0 W.heap.size rfl ?_
  intro g2 cap w5 ho5 hg5 hat hlt
  have hblk : (Value.slice (some ⟨g2, 0, none⟩) (l.length + 1) cap).ownBlock = vL.ownBlock ∨ (Value.slice (some ⟨g2, 0, none⟩) (l.length + 1) cap).ownBlock = some W.heap.size := by
    rcases hat with e | e
    · exact .inl e.symm
    · exact .inr (by rw [e]; rfl)
  have hout5 := hn.out5 hg5 hp3
  obtain ⟨c', hn6⟩ := hn.elem hp2 hp3 ho5 hg5 hblk hj
  have hvlt := fun k e => (hn.rowL.lt k e).1
  refine hK g2 cap w5 c' (by rw [cell_of_row _ _ _ _ _ _ hout5]; rfl) (frozen_of_row w5 o 2 _ 26 hout5) (blk_lt hout5) hn6 ?_
  exact (hrd.kept hg5 (fun e => by have := hvlt p e.symm; omega)).kept (gset w5 o 2 _) (fun e => by cases e; omega)

theorem pre_one {a : Nat} {c : UInt8} {q : Bs} (h : c.toNat = a) : ([UInt8.ofNat a] : Bs).isPrefixOf (c :: q) = true := by
  rw [one_pre, ← h, UInt8.ofNat_toNat]; simp
theorem pre_not {a : Nat} {ws : Bs} (ha : a < 256) (h : ¬ ∃ c q, ws = c :: q ∧ c.toNat = a) : ([UInt8.ofNat a] : Bs).isPrefixOf ws = false := by
  rw [one_pre]
  cases ws with
  | nil => rfl
  | cons c q =>
    simp only [beq_eq_false_iff_ne, ne_eq]
    intro e
    exact h ⟨c, q, rfl, by rw [← e]; simp; omega⟩
theorem failX {p er : Nat} {s : ByteArray} {xs : Bs} (he : er ≠ 0) (W : World) (h : RRd W p s xs er) : Calls Tryd.prog 39 #[.pointer (some ⟨p, 0, none⟩), .int .i64 4] W fun e w' => e = .returned (.tuple #[]) ∧ RStep W p s xs er w' := by
  have := ref_fail p s xs er 4 W h
  rw [if_neg he] at this
  exact this
set_option maxHeartbeats 2000000 in
set_option maxRecDepth 100000 in
theorem rmany_arr (p : Nat) (s : ByteArray) (x : UInt8) (r : Bs) (hx : x.toNat = 91) (er : Nat) (d : Nat) (hd : d < 64) (sub : Bs → Res) (w : World) (h : RRd w p s (x :: r) er) (hG : Gl w) (hp4 : 4 ≤ p)
    (hsub : ∀ w1 ys e1, RRd w1 p s ys e1 → Gl w1 → Calls Tryd.prog 37 #[.pointer (some ⟨p, 0, none⟩), .int .i64 ((d : Int) + 1)] w1 (RVal w1 p s (orE e1 (sub ys))))
    (hlen : ∀ ys v zs, sub ys = .ok (v, zs) → zs.length ≤ ys.length) :
    Calls Tryd.prog 64 #[.pointer (some ⟨p, 0, none⟩), .int .i64 d] w (RVal w p s (orE er (manyM sub false r))) := by
  obtain ⟨k, c0, c1, c2, f0, f1, f2, ha, hs⟩ := h.parts
  have hplt := h.lt
  have hlt := ha.lt
  have hget := ha.get hlt
  have b123 : ((x.toNat : Int) == 123) = false := by simp only [beq_eq_false_iff_ne, ne_eq]; omega
  have hrl : r.length ≤ 30000 := by have := ha.len; simp at this; omega
  have hst0 : RStep w p s (x :: r) er ((w.alloc (.cells zcells 26)).alloc (.cells #[.int .i64 6, .string ⟨#[]⟩, .slice none 0 0, .slice none 0 0] 26)) := ((RStep.refl h).alloc _).alloc _
  have hres0 : ((w.alloc (.cells zcells 26)).alloc (.cells #[.int .i64 6, .string ⟨#[]⟩, .slice none 0 0, .slice none 0 0] 26)).heap[w.heap.size]? = some (.cells zcells 26 (0, 0)) := by
    rw [Below.heap_alloc _ _ _ (by simp)]
    exact heap_alloc_new w _
  have hout0 : ((w.alloc (.cells zcells 26)).alloc (.cells #[.int .i64 6, .string ⟨#[]⟩, .slice none 0 0, .slice none 0 0] 26)).heap[w.heap.size + 1]? = some (.cells #[.int .i64 6, .string ⟨#[]⟩, .slice none 0 0, .slice none 0 0] 26 (0, 0)) := by
    have := heap_alloc_new (w.alloc (.cells zcells 26)) (.cells #[.int .i64 6, .string ⟨#[]⟩, .slice none 0 0, .slice none 0 0] 26 (0, 0))
    simpa using this
  have HWh : Hid (∀ W, RRd W p s r er → Calls Tryd.prog 38 #[.pointer (some ⟨p, 0, none⟩)] W fun e w' => e = .returned (.tuple #[]) ∧ RStep W p s (white r) er w') := fun W hW => ref_white p s r er W hW
  have hwl := white_le r
  have hfin : ∀ c t, white r = c :: t → c.toNat = 93 → manyM sub false r = .ok (.mk 6 ByteArray.empty [] [], t) := fun c t a b => manyM_fin (obj := false) a b
  have hloop : (∀ c t, white r = c :: t → c.toNat ≠ 93) → manyM sub false r = loopM sub false ((white r).length + 1) [] [] (white r) := fun a => manyM_loop (obj := false) a
  generalize white r = ys at *
  generalize manyM sub false r = M at *
  have HFin := Lib.hid hfin
  have HLoop := Lib.hid hloop
  have HSub := Lib.hid hsub
  have HLen := Lib.hid hlen
  clear hfin hloop hsub hlen ha hx
  go_enter Tryd.func64, Tryd.ntmps64
  go_wp2
  generalize (w.alloc (.cells zcells 26)).alloc (.cells #[.int .i64 6, .string ⟨#[]⟩, .slice none 0 0, .slice none 0 0] 26) = W0 at *
  clear c0 c1 c2 f0 f1 f2 hget hlt
  obtain ⟨k, c0, c1, c2, f0, f1, f2, ha, hs⟩ := hst0.1.parts
  have hlt := ha.lt
  have hget := ha.get hlt
  have hst1 := hst0.set ha.tail
  clear ha
  go_quiet (fail)
  go_wp2_with fail
  generalize hW : (W0.drewN _).setCell _ _ = W1
  have hst2 : RStep w p s r er W1 := by rw [← hW]; exact hst1.drewN _
  have hfr : Fr W0 W1 (fun b => b ≠ p) := by rw [← hW]; exact ((Fr.refl W0 _).drewN _).trans (Fr.of (gset _ p 1 _) (fun b _ hb e => hb (by cases e; rfl)))
  have hres1 := hfr.at hres0 (show w.heap.size ≠ p by omega)
  have hout1 := hfr.at hout0 (show w.heap.size + 1 ≠ p by omega)
  clear hW hfr hst0 hst1 hres0 hout0 c0 c1 c2 f0 f1 f2 hget hlt
  refine (HWh.out _ hst2.1).mono ?_
  rintro e w1 ⟨rfl, hst3⟩
  have hres := hst3.fr.at hres1 (show w.heap.size ≠ p by omega)
  have hout := hst3.fr.at hout1 (show w.heap.size + 1 ≠ p by omega)
  have hst := hst2.of hst3
  clear hres1 hout1 hst2 hst3 HWh
  by_cases hend : ∃ c t, ys = c :: t ∧ c.toNat = 93
  · obtain ⟨c, t, rfl, hc⟩ := hend
    have HM := Lib.hid (HFin.out c t rfl hc)
    have his := is_yes (t := tEnd) (by decide) (show ([93] : Bs).isPrefixOf (c :: t) = true by rw [one_pre]; simp [UInt8.toNat.inj (show (93 : UInt8).toNat = c.toNat by rw [hc]; rfl)]) w1 hst.1
    clear HFin HLoop HSub HLen hc
    go_wp2_with fail
    refine his.mono ?_
    rintro e w2 ⟨rfl, hst4⟩
    have hres2 := hst4.fr.at hres (show w.heap.size ≠ p by omega)
    have hout2 := hst4.fr.at hout (show w.heap.size + 1 ≠ p by omega)
    have hst5 := hst.of hst4
    obtain ⟨q0, q1, q2, q3, y0, y1, y2, y3⟩ := res_cells hres2
    have u0 : w2.cell? ⟨w.heap.size + 1, 0, none⟩ = some (.int .i64 6) := by rw [cell_of_row _ _ _ _ _ _ hout2]; rfl
    have u1 : w2.cell? ⟨w.heap.size + 1, 1, none⟩ = some (.string ⟨#[]⟩) := by rw [cell_of_row _ _ _ _ _ _ hout2]; rfl
    have u2 : w2.cell? ⟨w.heap.size + 1, 2, none⟩ = some (.slice none 0 0) := by rw [cell_of_row _ _ _ _ _ _ hout2]; rfl
    have u3 : w2.cell? ⟨w.heap.size + 1, 3, none⟩ = some (.slice none 0 0) := by rw [cell_of_row _ _ _ _ _ _ hout2]; rfl
    clear his hst4
    go_wp2
    refine bodyPost_ret (v := leaf 6 ⟨#[]⟩) (by simp [results, Tryd.results64, go_sem, q0, q1, q2, q3]) rfl ?_
    rw [HM.out]
    exact ⟨_, _, _, _, _, _, _, rfl, JIn.leaf _ _ 6 _, hst5.set4 (Nat.le_refl _) hplt, orE_ok _ _ _⟩
  · have hne : ∀ c t, ys = c :: t → c.toNat ≠ 93 := fun c t e hc => hend ⟨c, t, e, hc⟩
    have HM := Lib.hid (HLoop.out hne)
    have hpn : ([93] : Bs).isPrefixOf ys = false := by
      rw [one_pre]
      cases ys with
      | nil => rfl
      | cons c t =>
        simp only [beq_eq_false_iff_ne, ne_eq]
        intro e
        exact hne c t rfl (by rw [← e]; rfl)
    have his := is_no (t := tEnd) (by decide) hpn w1 hst.1
    clear HFin HLoop hne hend hpn
    go_wp2_with fail
    refine his.mono ?_
    rintro e w2 ⟨rfl, hst4⟩
    have hres2 := hst4.fr.at hres (show w.heap.size ≠ p by omega)
    have hout2 := hst4.fr.at hout (show w.heap.size + 1 ≠ p by omega)
    have hst5 := hst.of hst4
    have hsz2 : w.heap.size + 1 < w2.heap.size := blk_lt hout2
    have hns : NSt w w2 p (w.heap.size + 1) w2.heap.size 6 [] [] (.slice none 0 0) (.slice none 0 0) (fun _ _ => undef) := NSt.start hst5.2 hres2 hout2
    have hrel0 : RNRel sub false (orE er M) w p s (w.heap.size + 1) w2.heap.size 6 (ys.length + 1) w2 := by
      by_cases he : er = 0
      · subst he
        exact .inl ⟨ys.length + 1, [], [], ys, _, _, _, rfl, by omega, HM.out.symm, hst5.1, by simp; omega, by simp; omega, hns⟩
      · exact .inr ⟨er, ys, _, _, _, _, _, he, by rw [orE, if_neg he], hst5.1, hns⟩
    clear his hst4 hst5 hres2 hout2 hst hres hout hns HM
    generalize orE er M = R at *
    go_wp2
    go_loopg [] (ys.length + 1) (fun g wr => RNRel sub false R w p s (w.heap.size + 1) w2.heap.size 6 g wr)
    case atStart => exact hrel0
    case round =>
      clear hrel0
      rcases hrel with ⟨f, ks, l, zs, vL, vK, c, hg, hf, hR, hrd, hb1, hb2, hn⟩ | ⟨er', zs, ks, l, vL, vK, c, he, hR, hrd, hn⟩
      · obtain ⟨f, rfl⟩ : ∃ f', f = f' + 1 := ⟨f - 1, by omega⟩
        obtain ⟨k, c0, c1, c2, f0, f1, f2, ha, hs⟩ := hrd.parts
        obtain ⟨A3, cap3, rfl, _, _, _⟩ := own_open hn.rowL (by omega)
        obtain ⟨AK, capK, rfl, _, _, _⟩ := own_open hn.rowK (by omega)
        obtain ⟨⟨q0, q1, q2, q3⟩, ⟨y0, y1, y2, y3⟩, ⟨u0, u1, u2, u3⟩⟩ := hn.cells
        have hpr : PR w p s (w.heap.size + 1) w2.heap.size 6 ks l (.slice A3 l.length cap3) (.slice AK ks.length capK) c zs 0 wr := ⟨hn, hrd, hG.rkept hp4 hn⟩
        have HP3 : Hid (p < w.heap.size ∧ w.heap.size < w.heap.size + 1 ∧ w.heap.size + 1 < w2.heap.size) := ⟨hplt, by omega, hsz2⟩
        have HG := Lib.hid hg
        have HR := Lib.hid hR
        have hl1 : l.length ≤ 30000 := by omega
        have hd1 : IntKind.i64.wrap ((d : Int) + 1) = (d : Int) + 1 := IntWalk.i64_in _ (by omega)
        clear hg hR ha
        go_wp2
        go_region_law ((first
          | (apply step_app26 (hp := HP3) (hl := hl1)
             case hgd => rfl
             case ho => rfl
             case h => ((repeat (first | with_reducible assumption | with_reducible apply QR.drew | (with_reducible apply QR.alloc; with_reducible assumption))); done)
             case hs => rfl
             case h1c => (simp [Value.oneCell']; done)
             case hx => rfl
             case hm => (simp; done)
             intro g' cap' w5 c' u25 y25 hl5 hn5 hrd5)
          | (go_simp
             apply call37 HSub HP3
             case h => ((repeat (first | with_reducible assumption | with_reducible apply PR.drew)); done)
             intro t ys3 er3 kk tt A m1 cap1 A' m2 cap2 w3 hq3 hM3
             have u23 := hq3.1.cells.2.2.2.2.1
             have hl3 := blk_lt hq3.1.out)
          | fail))
        all_goals
          clear u23 hl3 u25 y25 hl5 hq3 hpr hd1 q0 q1 q2 q3 y0 y1 y2 y3 u0 u1 u2 u3 c0 c1 c2 f0 f1 f2 hn hrd HSub
          generalize w5.setCell ⟨w.heap.size + 1, 2, none⟩ (.slice (some ⟨g', 0, none⟩) (l.length + 1) cap') = W6 at *
          have hwh := ref_white p s ys3 er3 W6 hrd5
          rcases hM3 with ⟨hM, rfl⟩ | ⟨hM, her⟩
          · obtain ⟨hnil, hc44, hcfin, hcels⟩ := got_facts (ws := white ys3) HR.out headM_arr HLen.out (.inl hM) rfl
            have hfacts := Lib.hid (And.intro hnil (And.intro hc44 (And.intro hcfin hcels)))
            clear hnil hc44 hcfin hcels HR hM
            generalize white ys3 = ws at *
            go_wp2_with fail
            refine hwh.mono ?_
            rintro e w7 ⟨rfl, hst7⟩
            have hn7 := hn5.fr0 hst7.fr hplt (by omega) (by omega)
            clear hwh hn5 hrd5
            by_cases h93 : ∃ c1 q, ws = c1 :: q ∧ c1.toNat = 93
            · obtain ⟨c1, q, rfl, hc1⟩ := h93
              have HM := Lib.hid (hfacts.out.2.2.1 c1 q rfl hc1)
              have his := is_yes (t := tEnd) (by decide) (pre_one (a := 93) hc1) w7 hst7.1
              clear hfacts hc1 HLen
              go_wp2_with fail
              refine his.mono ?_
              rintro e w8 ⟨rfl, hst8⟩
              have hn8 := hn7.fr0 hst8.fr hplt (by omega) (by omega)
              obtain ⟨⟨q0, q1, q2, q3⟩, ⟨y0, y1, y2, y3⟩, ⟨u0, u1, u2, u3⟩⟩ := hn8.cells
              have hjv := hn8.value (k := 6) rfl
              have hrd8 := hst8.1
              clear his hn7 hst7 hst8
              go_wp2
              refine bodyPost_ret (v := .agg #[.int .i64 6, .string ⟨#[]⟩, .slice (some ⟨g', 0, none⟩) (l.length + 1) cap', .slice AK ks.length capK]) (by simp [results, Tryd.results64, go_sem, q0, q1, q2, q3]) rfl ?_
              rw [HM.out]
              exact ⟨_, _, _, _, _, _, _, rfl, (hjv.set4 (fun g hg => by omega)).mono (fun g _ hg => by omega), RStep.set4 ⟨hrd8, hn8.frame⟩ (Nat.le_refl _) hplt, .inl ⟨rfl, rfl⟩⟩
            · have his := is_no (t := tEnd) (er := 0) (by decide) (pre_not (a := 93) (by decide) h93) w7 hst7.1
              go_wp2_with fail
              refine his.mono ?_
              rintro e w8 ⟨rfl, hst8⟩
              have hn8 := hn7.fr0 hst8.fr hplt (by omega) (by omega)
              clear his hn7 hst7
              by_cases h44 : ∃ c1 q, ws = c1 :: q ∧ c1.toNat = 44
              · obtain ⟨c1, q, rfl, hc1⟩ := h44
                obtain ⟨hM2, hql⟩ := hfacts.out.2.1 c1 q rfl hc1
                have HM := Lib.hid hM2
                have hi2 := is_yes (t := tCom) (by decide) (pre_one (a := 44) hc1) w8 hst8.1
                clear hfacts hc1 hM2 h93
                go_wp2_with fail
                refine hi2.mono ?_
                rintro e w9 ⟨rfl, hst9⟩
                have hn9 := hn8.fr0 hst9.fr hplt (by omega) (by omega)
                have hrd9 := hst9.1
                clear hi2 hn8 hst8 hst9
                go_wp2
                go_roundg (q.length + 1)
                case measure => have := HG.out; omega
                case rel => exact .inl ⟨f, ks, l ++ [t], q, _, _, c', rfl, by omega, HM.out.symm, hrd9, by simp; omega, by omega, hn9⟩
              · have hi2 := is_no (t := tCom) (er := 0) (by decide) (pre_not (a := 44) (by decide) h44) w8 hst8.1
                have hM2 : R = .error 4 := by
                  cases hws : ws with
                  | nil => exact hfacts.out.1 hws
                  | cons c1 q => exact hfacts.out.2.2.2 c1 q hws (fun e => h44 ⟨c1, q, hws, e⟩) (fun e => h93 ⟨c1, q, hws, e⟩)
                have HM := Lib.hid hM2
                clear hfacts h44 h93 hM2
                go_wp2_with fail
                refine hi2.mono ?_
                rintro e w9 ⟨rfl, hst9⟩
                have hfl := fail4N w9 hst9.1
                have hn9 := hn8.fr0 hst9.fr hplt (by omega) (by omega)
                clear hi2 hn8 hst8 hst9
                go_wp2_with fail
                refine hfl.mono ?_
                rintro e w10 ⟨rfl, hst10⟩
                have hn10 := hn9.fr0 hst10.fr hplt (by omega) (by omega)
                have hrd10 := hst10.1
                clear hfl hn9 hst10
                go_wp2
                go_roundg 0
                case measure => have := HG.out; omega
                case rel => exact .inr ⟨4, ws, _, _, _, _, _, by omega, HM.out, hrd10, hn10⟩
          · have HM := Lib.hid (show R = .error er3 from HR.out.symm.trans (loopM_err (f := f) (ks := ks) (l := l) headM_arr hM))
            have HE := Lib.hid her
            clear HR hM her HLen
            generalize white ys3 = ws at *
            go_wp2_with fail
            refine hwh.mono ?_
            rintro e w7 ⟨rfl, hst7⟩
            have hn7 := hn5.fr0 hst7.fr hplt (by omega) (by omega)
            clear hwh hn5 hrd5
            by_cases h93 : ∃ c1 q, ws = c1 :: q ∧ c1.toNat = 93
            · obtain ⟨c1, q, rfl, hc1⟩ := h93
              have his := is_yes (t := tEnd) (by decide) (pre_one (a := 93) hc1) w7 hst7.1
              clear hc1
              go_wp2_with fail
              refine his.mono ?_
              rintro e w8 ⟨rfl, hst8⟩
              have hn8 := hn7.fr0 hst8.fr hplt (by omega) (by omega)
              obtain ⟨⟨q0, q1, q2, q3⟩, ⟨y0, y1, y2, y3⟩, ⟨u0, u1, u2, u3⟩⟩ := hn8.cells
              have hjv := hn8.value (k := 6) rfl
              have hrd8 := hst8.1
              clear his hn7 hst7 hst8
              go_wp2
              refine bodyPost_ret (v := .agg #[.int .i64 6, .string ⟨#[]⟩, .slice (some ⟨g', 0, none⟩) (l.length + 1) cap', .slice AK ks.length capK]) (by simp [results, Tryd.results64, go_sem, q0, q1, q2, q3]) rfl ?_
              rw [HM.out]
              exact ⟨_, _, _, _, _, _, _, rfl, (hjv.set4 (fun g hg => by omega)).mono (fun g _ hg => by omega), RStep.set4 ⟨hrd8, hn8.frame⟩ (Nat.le_refl _) hplt, .inr ⟨rfl, HE.out⟩⟩
            · have his := is_no (t := tEnd) (er := er3) (by decide) (pre_not (a := 93) (by decide) h93) w7 hst7.1
              clear h93
              go_wp2_with fail
              refine his.mono ?_
              rintro e w8 ⟨rfl, hst8⟩
              have hn8 := hn7.fr0 hst8.fr hplt (by omega) (by omega)
              clear his hn7 hst7
              by_cases h44 : ∃ c1 q, ws = c1 :: q ∧ c1.toNat = 44
              · obtain ⟨c1, q, rfl, hc1⟩ := h44
                have hi2 := is_yes (t := tCom) (by decide) (pre_one (a := 44) hc1) w8 hst8.1
                clear hc1
                go_wp2_with fail
                refine hi2.mono ?_
                rintro e w9 ⟨rfl, hst9⟩
                have hn9 := hn8.fr0 hst9.fr hplt (by omega) (by omega)
                have hrd9 := hst9.1
                clear hi2 hn8 hst8 hst9
                go_wp2
                go_roundg 0
                case measure => have := HG.out; omega
                case rel => exact .inr ⟨er3, _, _, _, _, _, _, HE.out, HM.out, hrd9, hn9⟩
              · have hi2 := is_no (t := tCom) (er := er3) (by decide) (pre_not (a := 44) (by decide) h44) w8 hst8.1
                clear h44
                go_wp2_with fail
                refine hi2.mono ?_
                rintro e w9 ⟨rfl, hst9⟩
                have hfl := failX (er := er3) HE.out w9 hst9.1
                have hn9 := hn8.fr0 hst9.fr hplt (by omega) (by omega)
                clear hi2 hn8 hst8 hst9
                go_wp2_with fail
                refine hfl.mono ?_
                rintro e w10 ⟨rfl, hst10⟩
                have hn10 := hn9.fr0 hst10.fr hplt (by omega) (by omega)
                have hrd10 := hst10.1
                clear hfl hn9 hst10
                go_wp2
                go_roundg 0
                case measure => have := HG.out; omega
                case rel => exact .inr ⟨er3, _, _, _, _, _, _, HE.out, HM.out, hrd10, hn10⟩
      · obtain ⟨k, c0, c1, c2, f0, f1, f2, ha, hs⟩ := hrd.parts
        obtain ⟨⟨q0, q1, q2, q3⟩, ⟨y0, y1, y2, y3⟩, ⟨u0, u1, u2, u3⟩⟩ := hn.cells
        have he' : ((er' : Int) == 0) = false := by simp; omega
        have HR := Lib.hid hR
        have HE := Lib.hid he
        have hst : RStep w p s zs er' wr := ⟨hrd, hn.frame⟩
        clear hR he ha HSub
        go_wp2
        refine bodyPost_ret (v := zero26) (by simp [results, Tryd.results64, go_sem, q0, q1, q2, q3]) rfl ?_
        rw [HR.out]
        exact ⟨_, _, _, _, _, _, _, rfl, JIn.leaf _ _ 0 _, hst.set4 (Nat.le_refl _) hplt, .inr ⟨rfl, HE.out⟩⟩
end Go.Proofs.YtjcnjaebmndeiaaDoor
