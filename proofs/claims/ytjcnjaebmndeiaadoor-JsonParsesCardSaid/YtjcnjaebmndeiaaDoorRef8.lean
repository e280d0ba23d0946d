/-
  The reference's reader: 'value'.
-/
import Derived.Test.YtjcnjaebmndeiaaDoorRfq
namespace Go.Proofs.YtjcnjaebmndeiaaDoor
open Go.RowKit

/-- Behind a fault nothing else counts. -/
def orF (er e' : Nat) : Nat := if er = 0 then e' else er
theorem orF_ne {er e' : Nat} (h : e' ≠ 0) : orF er e' ≠ 0 := by unfold orF; split <;> omega
def orE (er : Nat) (M : Res) : Res := if er = 0 then M else .error er
/-- What 'value' and 'many' answer: a value, and the reader behind it; behind a fault whatever value. -/
def RVal (w : World) (p : Nat) (s : ByteArray) (M : Res) (e : Ending) (w' : World) : Prop :=
  ∃ (t : J) (ys : Bs) (er : Nat) (v0 v1 v2 v3 : Value), e = .returned (.agg #[v0, v1, v2, v3]) ∧ JIn w' (fun b => w.heap.size ≤ b) t v0 v1 v2 v3 ∧ RStep w p s ys er w' ∧ ((M = .ok (t, ys) ∧ er = 0) ∨ (M = .error er ∧ er ≠ 0))
def txtM (er : Nat) (xs : Bs) : Except Nat (Bs × Bs) := if er = 0 then (match qstr xs with | some (t, r) => .ok (t, r) | none => .error 4) else .error er
def TxtG (w : World) (p : Nat) (s : ByteArray) (M : Except Nat (Bs × Bs)) (e : Ending) (w' : World) : Prop :=
  ∃ (t : ByteArray) (ys : Bs) (er : Nat), e = .returned (.string t) ∧ RStep w p s ys er w' ∧ ((∃ t', M = .ok (t', ys) ∧ t = str t' ∧ er = 0) ∨ (M = .error er ∧ er ≠ 0))
theorem ref_txt (p : Nat) (s : ByteArray) (xs : Bs) (er : Nat) (w : World) (h : RRd w p s xs er) (hG : Gl w) (hp4 : 4 ≤ p) : Calls Tryd.prog 63 #[.pointer (some ⟨p, 0, none⟩)] w (TxtG w p s (txtM er xs)) := by
  by_cases he : er = 0
  · subst he
    refine (ref_text p s xs w h hG hp4).mono ?_
    intro e w' hp
    unfold txtM
    rw [if_pos rfl]
    cases hq : qstr xs with
    | none =>
      rw [hq] at hp
      obtain ⟨rfl, ys, hs⟩ := hp
      exact ⟨_, ys, 4, rfl, hs, .inr ⟨rfl, by omega⟩⟩
    | some tr =>
      obtain ⟨t, r⟩ := tr
      rw [hq] at hp
      obtain ⟨rfl, hs⟩ := hp
      exact ⟨_, r, 0, rfl, hs, .inl ⟨t, rfl, rfl, rfl⟩⟩
  · refine (text_bad p s xs er he w h).mono ?_
    rintro e w' ⟨rfl, rfl⟩
    unfold txtM
    rw [if_neg he]
    exact ⟨_, xs, er, rfl, RStep.refl h, .inr ⟨rfl, he⟩⟩
def numE (er : Nat) (xs : Bs) : Except Nat (Bs × Bs) := match numM xs with | some (t, r) => if er = 0 then .ok (t, r) else .error er | none => .error (if er = 0 then 4 else er)
theorem ref_num (p : Nat) (s : ByteArray) (xs : Bs) (er : Nat) (w : World) (h : RRd w p s xs er) : Calls Tryd.prog 65 #[.pointer (some ⟨p, 0, none⟩)] w (TxtG w p s (numE er xs)) := by
  refine (ref_number p s xs er w h).mono ?_
  intro e w' hp
  unfold numE
  cases hq : numM xs with
  | none =>
    rw [hq] at hp
    obtain ⟨rfl, ys, hs⟩ := hp
    exact ⟨_, ys, _, rfl, hs, .inr ⟨rfl, by split <;> omega⟩⟩
  | some tr =>
    obtain ⟨t, r⟩ := tr
    rw [hq] at hp
    obtain ⟨rfl, hs⟩ := hp
    by_cases he : er = 0
    · subst he; exact ⟨_, r, 0, rfl, hs, .inl ⟨t, rfl, rfl, rfl⟩⟩
    · exact ⟨_, r, er, rfl, hs, .inr ⟨by simp only [if_neg he], he⟩⟩
theorem is_no {p er : Nat} {s t : ByteArray} {xs : Bs} (ht : t.size ≤ 100) (hp : t.data.toList.isPrefixOf xs = false) (w : World) (h : RRd w p s xs er) :
    Calls Tryd.prog 62 #[.pointer (some ⟨p, 0, none⟩), .string t] w fun e w' => e = .returned (.bool false) ∧ RStep w p s xs er w' := by
  have := ref_is p s xs er t ht w h
  rw [isRest, hp, if_neg (by simp)] at this
  exact this
theorem is_yes {p er : Nat} {s t : ByteArray} {xs : Bs} (ht : t.size ≤ 100) (hp : t.data.toList.isPrefixOf xs = true) (w : World) (h : RRd w p s xs er) :
    Calls Tryd.prog 62 #[.pointer (some ⟨p, 0, none⟩), .string t] w fun e w' => e = .returned (.bool true) ∧ RStep w p s (xs.drop t.size) er w' := by
  have := ref_is p s xs er t ht w h
  rw [isRest, hp, if_pos rfl] at this
  exact this
theorem RStep.set4 {w w' : World} {p b er : Nat} {s : ByteArray} {ys : Bs} {a0 a1 a2 a3 : Value} (h : RStep w p s ys er w') (hb : w.heap.size ≤ b) (hp : p < w.heap.size) :
    RStep w p s ys er ((((w'.setCell ⟨b, 0, none⟩ a0).setCell ⟨b, 1, none⟩ a1).setCell ⟨b, 2, none⟩ a2).setCell ⟨b, 3, none⟩ a3) := (((h.setNew hb hp).setNew hb hp).setNew hb hp).setNew hb hp
abbrev tNull : ByteArray := ⟨#[110, 117, 108, 108]⟩
abbrev tFalse : ByteArray := ⟨#[102, 97, 108, 115, 101]⟩
abbrev tTrue : ByteArray := ⟨#[116, 114, 117, 101]⟩
abbrev tQuo : ByteArray := ⟨#[34]⟩

set_option maxHeartbeats 1000000 in
set_option maxRecDepth 100000 in
/-- At the end there is no value. -/
theorem rvalue_nil (p : Nat) (s : ByteArray) (xs : Bs) (er : Nat) (d : Int) (hw : white xs = []) (w : World) (h : RRd w p s xs er) :
    Calls Tryd.prog 37 #[.pointer (some ⟨p, 0, none⟩), .int .i64 d] w (RVal w p s (.error (orF er 4))) := by
  have hplt := h.lt
  have hst0 := (RStep.refl h).alloc (.cells zcells 26)
  have hres0 : (w.alloc (.cells zcells 26)).heap[w.heap.size]? = some (.cells zcells 26 (0, 0)) := heap_alloc_new w _
  have hwh := ref_white p s xs er _ hst0.1
  rw [hw] at hwh
  have HF : Hid (∀ W, RRd W p s [] er → Calls Tryd.prog 39 #[.pointer (some ⟨p, 0, none⟩), .int .i64 4] W fun e w' => e = .returned (.tuple #[]) ∧ RStep W p s [] (orF er 4) w') := fun W hW => ref_fail p s [] er 4 W hW
  clear hw
  go_enter Tryd.func37, Tryd.ntmps37
  go_wp2_with fail
  refine hwh.mono ?_
  rintro e w1 ⟨rfl, hst1⟩
  have hres1 := hst1.fr.at hres0 (show w.heap.size ≠ p by omega)
  have hst := hst0.of hst1
  obtain ⟨k, c0, c1, c2, f0, f1, f2, ha, hs⟩ := hst.1.parts
  have hk : decide (s.size ≤ k) = true := by have := ha.nil; simp; omega
  clear ha hwh
  go_wp2
  go_quiet (fail)
  go_wp2_with fail
  generalize hW : w1.drewN _ = W1
  have hst2 : RStep w p s [] er W1 := by rw [← hW]; exact hst.drewN _
  have hres2 : W1.heap[w.heap.size]? = some (.cells zcells 26 (0, 0)) := by rw [← hW]; exact hres1
  clear hW
  refine (HF.out _ hst2.1).mono ?_
  rintro e w2 ⟨rfl, hst3⟩
  have hres3 := hst3.fr.at hres2 (show w.heap.size ≠ p by omega)
  obtain ⟨q0, q1, q2, q3, y0, y1, y2, y3⟩ := res_cells hres3
  have hst4 := hst2.of hst3
  go_wp2
  refine bodyPost_ret (v := zero26) (by simp [results, Tryd.results37, go_sem, q0, q1, q2, q3]) rfl ?_
  exact ⟨_, _, _, _, _, _, _, rfl, JIn.leaf _ _ 0 _, hst4.set4 (Nat.le_refl _) hplt, .inr ⟨rfl, orF_ne (by omega)⟩⟩

theorem orE_ok (er : Nat) (t : J) (ys : Bs) : (orE er (.ok (t, ys)) = .ok (t, ys) ∧ er = 0) ∨ (orE er (.ok (t, ys)) = .error er ∧ er ≠ 0) := by
  unfold orE
  by_cases h : er = 0
  · exact .inl ⟨by rw [if_pos h], h⟩
  · exact .inr ⟨by rw [if_neg h], h⟩
def wrapM (k : Nat) (M : Except Nat (Bs × Bs)) : Res := match M with
  | .ok (t, r) => .ok (.mk k (str t) [] [], r)
  | .error e => .error e
theorem TxtG.wrap {w0 : World} {p k : Nat} {s : ByteArray} {M : Except Nat (Bs × Bs)} {er : Nat} {ys : Bs} {t : ByteArray} {w' : World} (hs : RStep w0 p s ys er w') (h : (∃ t', M = .ok (t', ys) ∧ t = str t' ∧ er = 0) ∨ (M = .error er ∧ er ≠ 0)) :
    RVal w0 p s (wrapM k M) (.returned (leaf k t)) w' := by
  refine ⟨.mk k t [] [], ys, er, _, _, _, _, rfl, JIn.leaf _ _ k t, hs, ?_⟩
  rcases h with ⟨t', rfl, rfl, rfl⟩ | ⟨rfl, he⟩
  · exact .inl ⟨rfl, rfl⟩
  · exact .inr ⟨rfl, he⟩

set_option maxHeartbeats 1000000 in
set_option maxRecDepth 100000 in
theorem rvalue_null (p : Nat) (s : ByteArray) (xs : Bs) (er : Nat) (d : Int) (c : UInt8) (r : Bs) (hw : white xs = c :: r) (ny : wordNull.isPrefixOf (c :: r) = true) (w : World) (h : RRd w p s xs er)  :
    Calls Tryd.prog 37 #[.pointer (some ⟨p, 0, none⟩), .int .i64 d] w (RVal w p s (orE er (.ok (.mk 1 ⟨#[]⟩ [] [], (c :: r).drop 4)))) := by
  have hplt := h.lt
  have hst0 := (RStep.refl h).alloc (.cells zcells 26)
  have hres0 : (w.alloc (.cells zcells 26)).heap[w.heap.size]? = some (.cells zcells 26 (0, 0)) := heap_alloc_new w _
  have hwh := ref_white p s xs er _ hst0.1
  rw [hw] at hwh
  have HY : Hid (∀ W, RRd W p s (c :: r) er → Calls Tryd.prog 62 #[.pointer (some ⟨p, 0, none⟩), .string tNull] W fun e w' => e = .returned (.bool true) ∧ RStep W p s ((c :: r).drop (tNull).size) er w') := fun W hW => is_yes (t := tNull) (by decide) ny W hW
  clear hw  ny
  go_enter Tryd.func37, Tryd.ntmps37
  go_wp2_with fail
  refine hwh.mono ?_
  rintro e w1 ⟨rfl, hst1⟩
  have hres := hst1.fr.at hres0 (show w.heap.size ≠ p by omega)
  have hst := hst0.of hst1
  obtain ⟨k, c0, c1, c2, f0, f1, f2, ha, hs⟩ := hst.1.parts
  have hk : decide (s.size ≤ k) = false := by have := ha.lt; simp; omega
  clear ha hwh hst1 hst0 hres0
  go_wp2
  go_quiet (fail)
  go_wp2_with fail
  generalize hW : w1.drewN _ = W1
  have hst2 : RStep w p s (c :: r) er W1 := by rw [← hW]; exact hst.drewN _
  have hres2 : W1.heap[w.heap.size]? = some (.cells zcells 26 (0, 0)) := by rw [← hW]; exact hres
  clear hW hst hres c0 c1 c2 f0 f1 f2 hk
  refine (HY.out _ hst2.1).mono ?_
  rintro e w2 ⟨rfl, hst3⟩
  replace hres2 := hst3.fr.at hres2 (show w.heap.size ≠ p by omega)
  replace hst2 := hst2.of hst3
  clear hst3
  obtain ⟨q0, q1, q2, q3, y0, y1, y2, y3⟩ := res_cells hres2
  go_wp2
  refine bodyPost_ret (v := leaf 1 ⟨#[]⟩) (by simp [results, Tryd.results37, go_sem, q0, q1, q2, q3]) rfl ?_
  exact ⟨_, _, _, _, _, _, _, rfl, JIn.leaf _ _ 1 _, hst2.set4 (Nat.le_refl _) hplt, orE_ok _ _ _⟩

set_option maxHeartbeats 1000000 in
set_option maxRecDepth 100000 in
theorem rvalue_false (p : Nat) (s : ByteArray) (xs : Bs) (er : Nat) (d : Int) (c : UInt8) (r : Bs) (hw : white xs = c :: r) (nNull : wordNull.isPrefixOf (c :: r) = false) (ny : wordFalse.isPrefixOf (c :: r) = true) (w : World) (h : RRd w p s xs er)  :
    Calls Tryd.prog 37 #[.pointer (some ⟨p, 0, none⟩), .int .i64 d] w (RVal w p s (orE er (.ok (.mk 2 ⟨#[]⟩ [] [], (c :: r).drop 5)))) := by
  have hplt := h.lt
  have hst0 := (RStep.refl h).alloc (.cells zcells 26)
  have hres0 : (w.alloc (.cells zcells 26)).heap[w.heap.size]? = some (.cells zcells 26 (0, 0)) := heap_alloc_new w _
  have hwh := ref_white p s xs er _ hst0.1
  rw [hw] at hwh
  have HINull : Hid (∀ W, RRd W p s (c :: r) er → Calls Tryd.prog 62 #[.pointer (some ⟨p, 0, none⟩), .string tNull] W fun e w' => e = .returned (.bool false) ∧ RStep W p s (c :: r) er w') := fun W hW => is_no (t := tNull) (by decide) nNull W hW
  have HY : Hid (∀ W, RRd W p s (c :: r) er → Calls Tryd.prog 62 #[.pointer (some ⟨p, 0, none⟩), .string tFalse] W fun e w' => e = .returned (.bool true) ∧ RStep W p s ((c :: r).drop (tFalse).size) er w') := fun W hW => is_yes (t := tFalse) (by decide) ny W hW
  clear hw nNull ny
  go_enter Tryd.func37, Tryd.ntmps37
  go_wp2_with fail
  refine hwh.mono ?_
  rintro e w1 ⟨rfl, hst1⟩
  have hres := hst1.fr.at hres0 (show w.heap.size ≠ p by omega)
  have hst := hst0.of hst1
  obtain ⟨k, c0, c1, c2, f0, f1, f2, ha, hs⟩ := hst.1.parts
  have hk : decide (s.size ≤ k) = false := by have := ha.lt; simp; omega
  clear ha hwh hst1 hst0 hres0
  go_wp2
  go_quiet (fail)
  go_wp2_with fail
  generalize hW : w1.drewN _ = W1
  have hst2 : RStep w p s (c :: r) er W1 := by rw [← hW]; exact hst.drewN _
  have hres2 : W1.heap[w.heap.size]? = some (.cells zcells 26 (0, 0)) := by rw [← hW]; exact hres
  clear hW hst hres c0 c1 c2 f0 f1 f2 hk
  refine (HINull.out _ hst2.1).mono ?_
  rintro e w2 ⟨rfl, hst3⟩
  replace hres2 := hst3.fr.at hres2 (show w.heap.size ≠ p by omega)
  replace hst2 := hst2.of hst3
  clear hst3
  go_wp2_with fail
  refine (HY.out _ hst2.1).mono ?_
  rintro e w2 ⟨rfl, hst3⟩
  replace hres2 := hst3.fr.at hres2 (show w.heap.size ≠ p by omega)
  replace hst2 := hst2.of hst3
  clear hst3
  obtain ⟨q0, q1, q2, q3, y0, y1, y2, y3⟩ := res_cells hres2
  go_wp2
  refine bodyPost_ret (v := leaf 2 ⟨#[]⟩) (by simp [results, Tryd.results37, go_sem, q0, q1, q2, q3]) rfl ?_
  exact ⟨_, _, _, _, _, _, _, rfl, JIn.leaf _ _ 2 _, hst2.set4 (Nat.le_refl _) hplt, orE_ok _ _ _⟩

set_option maxHeartbeats 1000000 in
set_option maxRecDepth 100000 in
theorem rvalue_true (p : Nat) (s : ByteArray) (xs : Bs) (er : Nat) (d : Int) (c : UInt8) (r : Bs) (hw : white xs = c :: r) (nNull : wordNull.isPrefixOf (c :: r) = false) (nFalse : wordFalse.isPrefixOf (c :: r) = false) (ny : wordTrue.isPrefixOf (c :: r) = true) (w : World) (h : RRd w p s xs er)  :
    Calls Tryd.prog 37 #[.pointer (some ⟨p, 0, none⟩), .int .i64 d] w (RVal w p s (orE er (.ok (.mk 3 ⟨#[]⟩ [] [], (c :: r).drop 4)))) := by
  have hplt := h.lt
  have hst0 := (RStep.refl h).alloc (.cells zcells 26)
  have hres0 : (w.alloc (.cells zcells 26)).heap[w.heap.size]? = some (.cells zcells 26 (0, 0)) := heap_alloc_new w _
  have hwh := ref_white p s xs er _ hst0.1
  rw [hw] at hwh
  have HINull : Hid (∀ W, RRd W p s (c :: r) er → Calls Tryd.prog 62 #[.pointer (some ⟨p, 0, none⟩), .string tNull] W fun e w' => e = .returned (.bool false) ∧ RStep W p s (c :: r) er w') := fun W hW => is_no (t := tNull) (by decide) nNull W hW
  have HIFalse : Hid (∀ W, RRd W p s (c :: r) er → Calls Tryd.prog 62 #[.pointer (some ⟨p, 0, none⟩), .string tFalse] W fun e w' => e = .returned (.bool false) ∧ RStep W p s (c :: r) er w') := fun W hW => is_no (t := tFalse) (by decide) nFalse W hW
  have HY : Hid (∀ W, RRd W p s (c :: r) er → Calls Tryd.prog 62 #[.pointer (some ⟨p, 0, none⟩), .string tTrue] W fun e w' => e = .returned (.bool true) ∧ RStep W p s ((c :: r).drop (tTrue).size) er w') := fun W hW => is_yes (t := tTrue) (by decide) ny W hW
  clear hw nNull nFalse ny
  go_enter Tryd.func37, Tryd.ntmps37
  go_wp2_with fail
  refine hwh.mono ?_
  rintro e w1 ⟨rfl, hst1⟩
  have hres := hst1.fr.at hres0 (show w.heap.size ≠ p by omega)
  have hst := hst0.of hst1
  obtain ⟨k, c0, c1, c2, f0, f1, f2, ha, hs⟩ := hst.1.parts
  have hk : decide (s.size ≤ k) = false := by have := ha.lt; simp; omega
  clear ha hwh hst1 hst0 hres0
  go_wp2
  go_quiet (fail)
  go_wp2_with fail
  generalize hW : w1.drewN _ = W1
  have hst2 : RStep w p s (c :: r) er W1 := by rw [← hW]; exact hst.drewN _
  have hres2 : W1.heap[w.heap.size]? = some (.cells zcells 26 (0, 0)) := by rw [← hW]; exact hres
  clear hW hst hres c0 c1 c2 f0 f1 f2 hk
  refine (HINull.out _ hst2.1).mono ?_
  rintro e w2 ⟨rfl, hst3⟩
  replace hres2 := hst3.fr.at hres2 (show w.heap.size ≠ p by omega)
  replace hst2 := hst2.of hst3
  clear hst3
  go_wp2_with fail
  refine (HIFalse.out _ hst2.1).mono ?_
  rintro e w2 ⟨rfl, hst3⟩
  replace hres2 := hst3.fr.at hres2 (show w.heap.size ≠ p by omega)
  replace hst2 := hst2.of hst3
  clear hst3
  go_wp2_with fail
  refine (HY.out _ hst2.1).mono ?_
  rintro e w2 ⟨rfl, hst3⟩
  replace hres2 := hst3.fr.at hres2 (show w.heap.size ≠ p by omega)
  replace hst2 := hst2.of hst3
  clear hst3
  obtain ⟨q0, q1, q2, q3, y0, y1, y2, y3⟩ := res_cells hres2
  go_wp2
  refine bodyPost_ret (v := leaf 3 ⟨#[]⟩) (by simp [results, Tryd.results37, go_sem, q0, q1, q2, q3]) rfl ?_
  exact ⟨_, _, _, _, _, _, _, rfl, JIn.leaf _ _ 3 _, hst2.set4 (Nat.le_refl _) hplt, orE_ok _ _ _⟩

set_option maxHeartbeats 1000000 in
set_option maxRecDepth 100000 in
theorem rvalue_str (p : Nat) (s : ByteArray) (xs : Bs) (er : Nat) (d : Int) (c : UInt8) (r : Bs) (hw : white xs = c :: r) (nNull : wordNull.isPrefixOf (c :: r) = false) (nFalse : wordFalse.isPrefixOf (c :: r) = false) (nTrue : wordTrue.isPrefixOf (c :: r) = false) (ny : ([34] : Bs).isPrefixOf (c :: r) = true) (w : World) (h : RRd w p s xs er) (hG : Gl w) (hp4 : 4 ≤ p) :
    Calls Tryd.prog 37 #[.pointer (some ⟨p, 0, none⟩), .int .i64 d] w (RVal w p s (wrapM 5 (txtM er r))) := by
  have hplt := h.lt
  have hst0 := (RStep.refl h).alloc (.cells zcells 26)
  have hres0 : (w.alloc (.cells zcells 26)).heap[w.heap.size]? = some (.cells zcells 26 (0, 0)) := heap_alloc_new w _
  have hwh := ref_white p s xs er _ hst0.1
  rw [hw] at hwh
  have HINull : Hid (∀ W, RRd W p s (c :: r) er → Calls Tryd.prog 62 #[.pointer (some ⟨p, 0, none⟩), .string tNull] W fun e w' => e = .returned (.bool false) ∧ RStep W p s (c :: r) er w') := fun W hW => is_no (t := tNull) (by decide) nNull W hW
  have HIFalse : Hid (∀ W, RRd W p s (c :: r) er → Calls Tryd.prog 62 #[.pointer (some ⟨p, 0, none⟩), .string tFalse] W fun e w' => e = .returned (.bool false) ∧ RStep W p s (c :: r) er w') := fun W hW => is_no (t := tFalse) (by decide) nFalse W hW
  have HITrue : Hid (∀ W, RRd W p s (c :: r) er → Calls Tryd.prog 62 #[.pointer (some ⟨p, 0, none⟩), .string tTrue] W fun e w' => e = .returned (.bool false) ∧ RStep W p s (c :: r) er w') := fun W hW => is_no (t := tTrue) (by decide) nTrue W hW
  have HY : Hid (∀ W, RRd W p s (c :: r) er → Calls Tryd.prog 62 #[.pointer (some ⟨p, 0, none⟩), .string tQuo] W fun e w' => e = .returned (.bool true) ∧ RStep W p s ((c :: r).drop (tQuo).size) er w') := fun W hW => is_yes (t := tQuo) (by decide) ny W hW
  clear hw nNull nFalse nTrue ny
  go_enter Tryd.func37, Tryd.ntmps37
  go_wp2_with fail
  refine hwh.mono ?_
  rintro e w1 ⟨rfl, hst1⟩
  have hres := hst1.fr.at hres0 (show w.heap.size ≠ p by omega)
  have hst := hst0.of hst1
  obtain ⟨k, c0, c1, c2, f0, f1, f2, ha, hs⟩ := hst.1.parts
  have hk : decide (s.size ≤ k) = false := by have := ha.lt; simp; omega
  clear ha hwh hst1 hst0 hres0
  go_wp2
  go_quiet (fail)
  go_wp2_with fail
  generalize hW : w1.drewN _ = W1
  have hst2 : RStep w p s (c :: r) er W1 := by rw [← hW]; exact hst.drewN _
  have hres2 : W1.heap[w.heap.size]? = some (.cells zcells 26 (0, 0)) := by rw [← hW]; exact hres
  clear hW hst hres c0 c1 c2 f0 f1 f2 hk
  refine (HINull.out _ hst2.1).mono ?_
  rintro e w2 ⟨rfl, hst3⟩
  replace hres2 := hst3.fr.at hres2 (show w.heap.size ≠ p by omega)
  replace hst2 := hst2.of hst3
  clear hst3
  go_wp2_with fail
  refine (HIFalse.out _ hst2.1).mono ?_
  rintro e w2 ⟨rfl, hst3⟩
  replace hres2 := hst3.fr.at hres2 (show w.heap.size ≠ p by omega)
  replace hst2 := hst2.of hst3
  clear hst3
  go_wp2_with fail
  refine (HITrue.out _ hst2.1).mono ?_
  rintro e w2 ⟨rfl, hst3⟩
  replace hres2 := hst3.fr.at hres2 (show w.heap.size ≠ p by omega)
  replace hst2 := hst2.of hst3
  clear hst3
  go_wp2_with fail
  refine (HY.out _ hst2.1).mono ?_
  rintro e w2 ⟨rfl, hst3⟩
  replace hres2 := hst3.fr.at hres2 (show w.heap.size ≠ p by omega)
  replace hst2 := hst2.of hst3
  clear hst3
  have hcall := ref_txt p s r er _ hst2.1 (hG.rstep hp4 hst2) hp4
  go_wp2_with fail
  refine hcall.mono ?_
  rintro e w3 ⟨t, ys, er', rfl, hst3, hM⟩
  have hst4 := hst2.of hst3
  have HM := Lib.hid hM
  replace hres2 := hst3.fr.at hres2 (show w.heap.size ≠ p by omega)
  obtain ⟨q0, q1, q2, q3, y0, y1, y2, y3⟩ := res_cells hres2
  clear hst3 hM hcall
  go_wp2
  refine bodyPost_ret (v := leaf 5 t) (by simp [results, Tryd.results37, go_sem, q0, q1, q2, q3]) rfl ?_
  exact TxtG.wrap (hst4.set4 (Nat.le_refl _) hplt) HM.out

set_option maxHeartbeats 1000000 in
set_option maxRecDepth 100000 in
theorem rvalue_num (p : Nat) (s : ByteArray) (xs : Bs) (er : Nat) (d : Int) (c : UInt8) (r : Bs) (hw : white xs = c :: r) (nNull : wordNull.isPrefixOf (c :: r) = false) (nFalse : wordFalse.isPrefixOf (c :: r) = false) (nTrue : wordTrue.isPrefixOf (c :: r) = false) (nQuo : ([34] : Bs).isPrefixOf (c :: r) = false) (h91 : ((c.toNat : Int) == 91) = false) (h123 : ((c.toNat : Int) == 123) = false) (w : World) (h : RRd w p s xs er)  :
    Calls Tryd.prog 37 #[.pointer (some ⟨p, 0, none⟩), .int .i64 d] w (RVal w p s (wrapM 4 (numE er (c :: r)))) := by
  have hplt := h.lt
  have hst0 := (RStep.refl h).alloc (.cells zcells 26)
  have hres0 : (w.alloc (.cells zcells 26)).heap[w.heap.size]? = some (.cells zcells 26 (0, 0)) := heap_alloc_new w _
  have hwh := ref_white p s xs er _ hst0.1
  rw [hw] at hwh
  have HINull : Hid (∀ W, RRd W p s (c :: r) er → Calls Tryd.prog 62 #[.pointer (some ⟨p, 0, none⟩), .string tNull] W fun e w' => e = .returned (.bool false) ∧ RStep W p s (c :: r) er w') := fun W hW => is_no (t := tNull) (by decide) nNull W hW
  have HIFalse : Hid (∀ W, RRd W p s (c :: r) er → Calls Tryd.prog 62 #[.pointer (some ⟨p, 0, none⟩), .string tFalse] W fun e w' => e = .returned (.bool false) ∧ RStep W p s (c :: r) er w') := fun W hW => is_no (t := tFalse) (by decide) nFalse W hW
  have HITrue : Hid (∀ W, RRd W p s (c :: r) er → Calls Tryd.prog 62 #[.pointer (some ⟨p, 0, none⟩), .string tTrue] W fun e w' => e = .returned (.bool false) ∧ RStep W p s (c :: r) er w') := fun W hW => is_no (t := tTrue) (by decide) nTrue W hW
  have HIQuo : Hid (∀ W, RRd W p s (c :: r) er → Calls Tryd.prog 62 #[.pointer (some ⟨p, 0, none⟩), .string tQuo] W fun e w' => e = .returned (.bool false) ∧ RStep W p s (c :: r) er w') := fun W hW => is_no (t := tQuo) (by decide) nQuo W hW
  clear hw nNull nFalse nTrue nQuo 
  go_enter Tryd.func37, Tryd.ntmps37
  go_wp2_with fail
  refine hwh.mono ?_
  rintro e w1 ⟨rfl, hst1⟩
  have hres := hst1.fr.at hres0 (show w.heap.size ≠ p by omega)
  have hst := hst0.of hst1
  obtain ⟨k, c0, c1, c2, f0, f1, f2, ha, hs⟩ := hst.1.parts
  have hk : decide (s.size ≤ k) = false := by have := ha.lt; simp; omega
  clear ha hwh hst1 hst0 hres0
  go_wp2
  go_quiet (fail)
  go_wp2_with fail
  generalize hW : w1.drewN _ = W1
  have hst2 : RStep w p s (c :: r) er W1 := by rw [← hW]; exact hst.drewN _
  have hres2 : W1.heap[w.heap.size]? = some (.cells zcells 26 (0, 0)) := by rw [← hW]; exact hres
  clear hW hst hres c0 c1 c2 f0 f1 f2 hk
  refine (HINull.out _ hst2.1).mono ?_
  rintro e w2 ⟨rfl, hst3⟩
  replace hres2 := hst3.fr.at hres2 (show w.heap.size ≠ p by omega)
  replace hst2 := hst2.of hst3
  clear hst3
  go_wp2_with fail
  refine (HIFalse.out _ hst2.1).mono ?_
  rintro e w2 ⟨rfl, hst3⟩
  replace hres2 := hst3.fr.at hres2 (show w.heap.size ≠ p by omega)
  replace hst2 := hst2.of hst3
  clear hst3
  go_wp2_with fail
  refine (HITrue.out _ hst2.1).mono ?_
  rintro e w2 ⟨rfl, hst3⟩
  replace hres2 := hst3.fr.at hres2 (show w.heap.size ≠ p by omega)
  replace hst2 := hst2.of hst3
  clear hst3
  go_wp2_with fail
  refine (HIQuo.out _ hst2.1).mono ?_
  rintro e w2 ⟨rfl, hst3⟩
  replace hres2 := hst3.fr.at hres2 (show w.heap.size ≠ p by omega)
  replace hst2 := hst2.of hst3
  clear hst3
  obtain ⟨k, c0, c1, c2, f0, f1, f2, ha, hs⟩ := hst2.1.parts
  have hlt := ha.lt
  have hget := ha.get hlt
  clear ha
  go_wp2
  go_quiet (fail)
  go_wp2_with fail
  generalize hW : w2.drewN _ = W1
  replace hst2 : RStep w p s (c :: r) er W1 := by rw [← hW]; exact hst2.drewN _
  replace hres2 : W1.heap[w.heap.size]? = some (.cells zcells 26 (0, 0)) := by rw [← hW]; exact hres2
  clear hW
  have hcall := ref_num p s (c :: r) er _ hst2.1
  refine hcall.mono ?_
  rintro e w3 ⟨t, ys, er', rfl, hst3, hM⟩
  have hst4 := hst2.of hst3
  have HM := Lib.hid hM
  replace hres2 := hst3.fr.at hres2 (show w.heap.size ≠ p by omega)
  obtain ⟨q0, q1, q2, q3, y0, y1, y2, y3⟩ := res_cells hres2
  clear hst3 hM hcall
  go_wp2
  refine bodyPost_ret (v := leaf 4 t) (by simp [results, Tryd.results37, go_sem, q0, q1, q2, q3]) rfl ?_
  exact TxtG.wrap (hst4.set4 (Nat.le_refl _) hplt) HM.out

set_option maxHeartbeats 1000000 in
set_option maxRecDepth 100000 in
theorem rvalue_lim_arr (p : Nat) (s : ByteArray) (xs : Bs) (er : Nat) (d : Int) (c : UInt8) (r : Bs) (hw : white xs = c :: r) (nNull : wordNull.isPrefixOf (c :: r) = false) (nFalse : wordFalse.isPrefixOf (c :: r) = false) (nTrue : wordTrue.isPrefixOf (c :: r) = false) (nQuo : ([34] : Bs).isPrefixOf (c :: r) = false) (h91 : ((c.toNat : Int) == 91) = true) (hd : 64 ≤ d) (w : World) (h : RRd w p s xs er)  :
    Calls Tryd.prog 37 #[.pointer (some ⟨p, 0, none⟩), .int .i64 d] w (RVal w p s (.error (orF er 5))) := by
  have hplt := h.lt
  have hst0 := (RStep.refl h).alloc (.cells zcells 26)
  have hres0 : (w.alloc (.cells zcells 26)).heap[w.heap.size]? = some (.cells zcells 26 (0, 0)) := heap_alloc_new w _
  have hwh := ref_white p s xs er _ hst0.1
  rw [hw] at hwh
  have HINull : Hid (∀ W, RRd W p s (c :: r) er → Calls Tryd.prog 62 #[.pointer (some ⟨p, 0, none⟩), .string tNull] W fun e w' => e = .returned (.bool false) ∧ RStep W p s (c :: r) er w') := fun W hW => is_no (t := tNull) (by decide) nNull W hW
  have HIFalse : Hid (∀ W, RRd W p s (c :: r) er → Calls Tryd.prog 62 #[.pointer (some ⟨p, 0, none⟩), .string tFalse] W fun e w' => e = .returned (.bool false) ∧ RStep W p s (c :: r) er w') := fun W hW => is_no (t := tFalse) (by decide) nFalse W hW
  have HITrue : Hid (∀ W, RRd W p s (c :: r) er → Calls Tryd.prog 62 #[.pointer (some ⟨p, 0, none⟩), .string tTrue] W fun e w' => e = .returned (.bool false) ∧ RStep W p s (c :: r) er w') := fun W hW => is_no (t := tTrue) (by decide) nTrue W hW
  have HIQuo : Hid (∀ W, RRd W p s (c :: r) er → Calls Tryd.prog 62 #[.pointer (some ⟨p, 0, none⟩), .string tQuo] W fun e w' => e = .returned (.bool false) ∧ RStep W p s (c :: r) er w') := fun W hW => is_no (t := tQuo) (by decide) nQuo W hW
  have HF : Hid (∀ W, RRd W p s (c :: r) er → Calls Tryd.prog 39 #[.pointer (some ⟨p, 0, none⟩), .int .i64 5] W fun e w' => e = .returned (.tuple #[]) ∧ RStep W p s (c :: r) (orF er 5) w') := fun W hW => ref_fail p s (c :: r) er 5 W hW
  clear hw nNull nFalse nTrue nQuo 
  go_enter Tryd.func37, Tryd.ntmps37
  go_wp2_with fail
  refine hwh.mono ?_
  rintro e w1 ⟨rfl, hst1⟩
  have hres := hst1.fr.at hres0 (show w.heap.size ≠ p by omega)
  have hst := hst0.of hst1
  obtain ⟨k, c0, c1, c2, f0, f1, f2, ha, hs⟩ := hst.1.parts
  have hk : decide (s.size ≤ k) = false := by have := ha.lt; simp; omega
  clear ha hwh hst1 hst0 hres0
  go_wp2
  go_quiet (fail)
  go_wp2_with fail
  generalize hW : w1.drewN _ = W1
  have hst2 : RStep w p s (c :: r) er W1 := by rw [← hW]; exact hst.drewN _
  have hres2 : W1.heap[w.heap.size]? = some (.cells zcells 26 (0, 0)) := by rw [← hW]; exact hres
  clear hW hst hres c0 c1 c2 f0 f1 f2 hk
  refine (HINull.out _ hst2.1).mono ?_
  rintro e w2 ⟨rfl, hst3⟩
  replace hres2 := hst3.fr.at hres2 (show w.heap.size ≠ p by omega)
  replace hst2 := hst2.of hst3
  clear hst3
  go_wp2_with fail
  refine (HIFalse.out _ hst2.1).mono ?_
  rintro e w2 ⟨rfl, hst3⟩
  replace hres2 := hst3.fr.at hres2 (show w.heap.size ≠ p by omega)
  replace hst2 := hst2.of hst3
  clear hst3
  go_wp2_with fail
  refine (HITrue.out _ hst2.1).mono ?_
  rintro e w2 ⟨rfl, hst3⟩
  replace hres2 := hst3.fr.at hres2 (show w.heap.size ≠ p by omega)
  replace hst2 := hst2.of hst3
  clear hst3
  go_wp2_with fail
  refine (HIQuo.out _ hst2.1).mono ?_
  rintro e w2 ⟨rfl, hst3⟩
  replace hres2 := hst3.fr.at hres2 (show w.heap.size ≠ p by omega)
  replace hst2 := hst2.of hst3
  clear hst3
  obtain ⟨k, c0, c1, c2, f0, f1, f2, ha, hs⟩ := hst2.1.parts
  have hlt := ha.lt
  have hget := ha.get hlt
  clear ha
  go_wp2
  go_quiet (fail)
  go_wp2_with fail
  generalize hW : w2.drewN _ = W1
  replace hst2 : RStep w p s (c :: r) er W1 := by rw [← hW]; exact hst2.drewN _
  replace hres2 : W1.heap[w.heap.size]? = some (.cells zcells 26 (0, 0)) := by rw [← hW]; exact hres2
  clear hW
  refine (HF.out _ hst2.1).mono ?_
  rintro e w3 ⟨rfl, hst3⟩
  have hst4 := hst2.of hst3
  replace hres2 := hst3.fr.at hres2 (show w.heap.size ≠ p by omega)
  obtain ⟨q0, q1, q2, q3, y0, y1, y2, y3⟩ := res_cells hres2
  clear hst3
  go_wp2
  refine bodyPost_ret (v := zero26) (by simp [results, Tryd.results37, go_sem, q0, q1, q2, q3]) rfl ?_
  exact ⟨_, _, _, _, _, _, _, rfl, JIn.leaf _ _ 0 _, hst4.set4 (Nat.le_refl _) hplt, .inr ⟨rfl, orF_ne (by omega)⟩⟩

set_option maxHeartbeats 1000000 in
set_option maxRecDepth 100000 in
theorem rvalue_arr (p : Nat) (s : ByteArray) (xs : Bs) (er : Nat) (d : Int) (c : UInt8) (r : Bs) (hw : white xs = c :: r) (nNull : wordNull.isPrefixOf (c :: r) = false) (nFalse : wordFalse.isPrefixOf (c :: r) = false) (nTrue : wordTrue.isPrefixOf (c :: r) = false) (nQuo : ([34] : Bs).isPrefixOf (c :: r) = false) (h91 : ((c.toNat : Int) == 91) = true) (hd : d < 64) (M : Res) (w : World) (h : RRd w p s xs er) (hmany : ∀ W, RStep w p s (c :: r) er W → Calls Tryd.prog 64 #[.pointer (some ⟨p, 0, none⟩), .int .i64 d] W (RVal W p s M)) :
    Calls Tryd.prog 37 #[.pointer (some ⟨p, 0, none⟩), .int .i64 d] w (RVal w p s M) := by
  have hplt := h.lt
  have hst0 := (RStep.refl h).alloc (.cells zcells 26)
  have hres0 : (w.alloc (.cells zcells 26)).heap[w.heap.size]? = some (.cells zcells 26 (0, 0)) := heap_alloc_new w _
  have hwh := ref_white p s xs er _ hst0.1
  rw [hw] at hwh
  have HINull : Hid (∀ W, RRd W p s (c :: r) er → Calls Tryd.prog 62 #[.pointer (some ⟨p, 0, none⟩), .string tNull] W fun e w' => e = .returned (.bool false) ∧ RStep W p s (c :: r) er w') := fun W hW => is_no (t := tNull) (by decide) nNull W hW
  have HIFalse : Hid (∀ W, RRd W p s (c :: r) er → Calls Tryd.prog 62 #[.pointer (some ⟨p, 0, none⟩), .string tFalse] W fun e w' => e = .returned (.bool false) ∧ RStep W p s (c :: r) er w') := fun W hW => is_no (t := tFalse) (by decide) nFalse W hW
  have HITrue : Hid (∀ W, RRd W p s (c :: r) er → Calls Tryd.prog 62 #[.pointer (some ⟨p, 0, none⟩), .string tTrue] W fun e w' => e = .returned (.bool false) ∧ RStep W p s (c :: r) er w') := fun W hW => is_no (t := tTrue) (by decide) nTrue W hW
  have HIQuo : Hid (∀ W, RRd W p s (c :: r) er → Calls Tryd.prog 62 #[.pointer (some ⟨p, 0, none⟩), .string tQuo] W fun e w' => e = .returned (.bool false) ∧ RStep W p s (c :: r) er w') := fun W hW => is_no (t := tQuo) (by decide) nQuo W hW
  have HMany := Lib.hid hmany
  clear hmany
  clear hw nNull nFalse nTrue nQuo 
  go_enter Tryd.func37, Tryd.ntmps37
  go_wp2_with fail
  refine hwh.mono ?_
  rintro e w1 ⟨rfl, hst1⟩
  have hres := hst1.fr.at hres0 (show w.heap.size ≠ p by omega)
  have hst := hst0.of hst1
  obtain ⟨k, c0, c1, c2, f0, f1, f2, ha, hs⟩ := hst.1.parts
  have hk : decide (s.size ≤ k) = false := by have := ha.lt; simp; omega
  clear ha hwh hst1 hst0 hres0
  go_wp2
  go_quiet (fail)
  go_wp2_with fail
  generalize hW : w1.drewN _ = W1
  have hst2 : RStep w p s (c :: r) er W1 := by rw [← hW]; exact hst.drewN _
  have hres2 : W1.heap[w.heap.size]? = some (.cells zcells 26 (0, 0)) := by rw [← hW]; exact hres
  clear hW hst hres c0 c1 c2 f0 f1 f2 hk
  refine (HINull.out _ hst2.1).mono ?_
  rintro e w2 ⟨rfl, hst3⟩
  replace hres2 := hst3.fr.at hres2 (show w.heap.size ≠ p by omega)
  replace hst2 := hst2.of hst3
  clear hst3
  go_wp2_with fail
  refine (HIFalse.out _ hst2.1).mono ?_
  rintro e w2 ⟨rfl, hst3⟩
  replace hres2 := hst3.fr.at hres2 (show w.heap.size ≠ p by omega)
  replace hst2 := hst2.of hst3
  clear hst3
  go_wp2_with fail
  refine (HITrue.out _ hst2.1).mono ?_
  rintro e w2 ⟨rfl, hst3⟩
  replace hres2 := hst3.fr.at hres2 (show w.heap.size ≠ p by omega)
  replace hst2 := hst2.of hst3
  clear hst3
  go_wp2_with fail
  refine (HIQuo.out _ hst2.1).mono ?_
  rintro e w2 ⟨rfl, hst3⟩
  replace hres2 := hst3.fr.at hres2 (show w.heap.size ≠ p by omega)
  replace hst2 := hst2.of hst3
  clear hst3
  obtain ⟨k, c0, c1, c2, f0, f1, f2, ha, hs⟩ := hst2.1.parts
  have hlt := ha.lt
  have hget := ha.get hlt
  clear ha
  go_wp2
  go_quiet (fail)
  go_wp2_with fail
  generalize hW : w2.drewN _ = W1
  replace hst2 : RStep w p s (c :: r) er W1 := by rw [← hW]; exact hst2.drewN _
  replace hres2 : W1.heap[w.heap.size]? = some (.cells zcells 26 (0, 0)) := by rw [← hW]; exact hres2
  clear hW
  refine (HMany.out _ hst2).mono ?_
  rintro e w3 ⟨t, ys, er', v0, v1, v2, v3, rfl, hj, hst3, hM⟩
  have hst4 := hst2.of hst3
  have hsz := hst2.2.size
  have HM := Lib.hid hM
  have hrl0 := blk_lt hres2
  replace hres2 := hst3.fr.at hres2 (show w.heap.size ≠ p by omega)
  obtain ⟨q0, q1, q2, q3, y0, y1, y2, y3⟩ := res_cells hres2
  obtain ⟨kk, tt, A, A', m1, cap1, m2, cap2, rfl, rfl, rfl, rfl⟩ := hj.forms
  clear hst3 hM
  go_wp2
  refine bodyPost_ret (v := .agg #[.int .i64 kk, .string tt, .slice A m1 cap1, .slice A' m2 cap2]) (by simp [results, Tryd.results37, go_sem, q0, q1, q2, q3]) rfl ?_
  exact ⟨t, ys, er', _, _, _, _, rfl, (hj.set4 (fun g hg => by omega)).mono (fun g _ hg => by omega), hst4.set4 (Nat.le_refl _) hplt, HM.out⟩

set_option maxHeartbeats 1000000 in
set_option maxRecDepth 100000 in
theorem rvalue_lim_obj (p : Nat) (s : ByteArray) (xs : Bs) (er : Nat) (d : Int) (c : UInt8) (r : Bs) (hw : white xs = c :: r) (nNull : wordNull.isPrefixOf (c :: r) = false) (nFalse : wordFalse.isPrefixOf (c :: r) = false) (nTrue : wordTrue.isPrefixOf (c :: r) = false) (nQuo : ([34] : Bs).isPrefixOf (c :: r) = false) (h91 : ((c.toNat : Int) == 91) = false) (h123 : ((c.toNat : Int) == 123) = true) (hd : 64 ≤ d) (w : World) (h : RRd w p s xs er)  :
    Calls Tryd.prog 37 #[.pointer (some ⟨p, 0, none⟩), .int .i64 d] w (RVal w p s (.error (orF er 5))) := by
  have hplt := h.lt
  have hst0 := (RStep.refl h).alloc (.cells zcells 26)
  have hres0 : (w.alloc (.cells zcells 26)).heap[w.heap.size]? = some (.cells zcells 26 (0, 0)) := heap_alloc_new w _
  have hwh := ref_white p s xs er _ hst0.1
  rw [hw] at hwh
  have HINull : Hid (∀ W, RRd W p s (c :: r) er → Calls Tryd.prog 62 #[.pointer (some ⟨p, 0, none⟩), .string tNull] W fun e w' => e = .returned (.bool false) ∧ RStep W p s (c :: r) er w') := fun W hW => is_no (t := tNull) (by decide) nNull W hW
  have HIFalse : Hid (∀ W, RRd W p s (c :: r) er → Calls Tryd.prog 62 #[.pointer (some ⟨p, 0, none⟩), .string tFalse] W fun e w' => e = .returned (.bool false) ∧ RStep W p s (c :: r) er w') := fun W hW => is_no (t := tFalse) (by decide) nFalse W hW
  have HITrue : Hid (∀ W, RRd W p s (c :: r) er → Calls Tryd.prog 62 #[.pointer (some ⟨p, 0, none⟩), .string tTrue] W fun e w' => e = .returned (.bool false) ∧ RStep W p s (c :: r) er w') := fun W hW => is_no (t := tTrue) (by decide) nTrue W hW
  have HIQuo : Hid (∀ W, RRd W p s (c :: r) er → Calls Tryd.prog 62 #[.pointer (some ⟨p, 0, none⟩), .string tQuo] W fun e w' => e = .returned (.bool false) ∧ RStep W p s (c :: r) er w') := fun W hW => is_no (t := tQuo) (by decide) nQuo W hW
  have HF : Hid (∀ W, RRd W p s (c :: r) er → Calls Tryd.prog 39 #[.pointer (some ⟨p, 0, none⟩), .int .i64 5] W fun e w' => e = .returned (.tuple #[]) ∧ RStep W p s (c :: r) (orF er 5) w') := fun W hW => ref_fail p s (c :: r) er 5 W hW
  clear hw nNull nFalse nTrue nQuo 
  go_enter Tryd.func37, Tryd.ntmps37
  go_wp2_with fail
  refine hwh.mono ?_
  rintro e w1 ⟨rfl, hst1⟩
  have hres := hst1.fr.at hres0 (show w.heap.size ≠ p by omega)
  have hst := hst0.of hst1
  obtain ⟨k, c0, c1, c2, f0, f1, f2, ha, hs⟩ := hst.1.parts
  have hk : decide (s.size ≤ k) = false := by have := ha.lt; simp; omega
  clear ha hwh hst1 hst0 hres0
  go_wp2
  go_quiet (fail)
  go_wp2_with fail
  generalize hW : w1.drewN _ = W1
  have hst2 : RStep w p s (c :: r) er W1 := by rw [← hW]; exact hst.drewN _
  have hres2 : W1.heap[w.heap.size]? = some (.cells zcells 26 (0, 0)) := by rw [← hW]; exact hres
  clear hW hst hres c0 c1 c2 f0 f1 f2 hk
  refine (HINull.out _ hst2.1).mono ?_
  rintro e w2 ⟨rfl, hst3⟩
  replace hres2 := hst3.fr.at hres2 (show w.heap.size ≠ p by omega)
  replace hst2 := hst2.of hst3
  clear hst3
  go_wp2_with fail
  refine (HIFalse.out _ hst2.1).mono ?_
  rintro e w2 ⟨rfl, hst3⟩
  replace hres2 := hst3.fr.at hres2 (show w.heap.size ≠ p by omega)
  replace hst2 := hst2.of hst3
  clear hst3
  go_wp2_with fail
  refine (HITrue.out _ hst2.1).mono ?_
  rintro e w2 ⟨rfl, hst3⟩
  replace hres2 := hst3.fr.at hres2 (show w.heap.size ≠ p by omega)
  replace hst2 := hst2.of hst3
  clear hst3
  go_wp2_with fail
  refine (HIQuo.out _ hst2.1).mono ?_
  rintro e w2 ⟨rfl, hst3⟩
  replace hres2 := hst3.fr.at hres2 (show w.heap.size ≠ p by omega)
  replace hst2 := hst2.of hst3
  clear hst3
  obtain ⟨k, c0, c1, c2, f0, f1, f2, ha, hs⟩ := hst2.1.parts
  have hlt := ha.lt
  have hget := ha.get hlt
  clear ha
  go_wp2
  go_quiet (fail)
  go_wp2_with fail
  generalize hW : w2.drewN _ = W1
  replace hst2 : RStep w p s (c :: r) er W1 := by rw [← hW]; exact hst2.drewN _
  replace hres2 : W1.heap[w.heap.size]? = some (.cells zcells 26 (0, 0)) := by rw [← hW]; exact hres2
  clear hW
  refine (HF.out _ hst2.1).mono ?_
  rintro e w3 ⟨rfl, hst3⟩
  have hst4 := hst2.of hst3
  replace hres2 := hst3.fr.at hres2 (show w.heap.size ≠ p by omega)
  obtain ⟨q0, q1, q2, q3, y0, y1, y2, y3⟩ := res_cells hres2
  clear hst3
  go_wp2
  refine bodyPost_ret (v := zero26) (by simp [results, Tryd.results37, go_sem, q0, q1, q2, q3]) rfl ?_
  exact ⟨_, _, _, _, _, _, _, rfl, JIn.leaf _ _ 0 _, hst4.set4 (Nat.le_refl _) hplt, .inr ⟨rfl, orF_ne (by omega)⟩⟩

set_option maxHeartbeats 1000000 in
set_option maxRecDepth 100000 in
theorem rvalue_obj (p : Nat) (s : ByteArray) (xs : Bs) (er : Nat) (d : Int) (c : UInt8) (r : Bs) (hw : white xs = c :: r) (nNull : wordNull.isPrefixOf (c :: r) = false) (nFalse : wordFalse.isPrefixOf (c :: r) = false) (nTrue : wordTrue.isPrefixOf (c :: r) = false) (nQuo : ([34] : Bs).isPrefixOf (c :: r) = false) (h91 : ((c.toNat : Int) == 91) = false) (h123 : ((c.toNat : Int) == 123) = true) (hd : d < 64) (M : Res) (w : World) (h : RRd w p s xs er) (hmany : ∀ W, RStep w p s (c :: r) er W → Calls Tryd.prog 64 #[.pointer (some ⟨p, 0, none⟩), .int .i64 d] W (RVal W p s M)) :
    Calls Tryd.prog 37 #[.pointer (some ⟨p, 0, none⟩), .int .i64 d] w (RVal w p s M) := by
  have hplt := h.lt
  have hst0 := (RStep.refl h).alloc (.cells zcells 26)
  have hres0 : (w.alloc (.cells zcells 26)).heap[w.heap.size]? = some (.cells zcells 26 (0, 0)) := heap_alloc_new w _
  have hwh := ref_white p s xs er _ hst0.1
  rw [hw] at hwh
  have HINull : Hid (∀ W, RRd W p s (c :: r) er → Calls Tryd.prog 62 #[.pointer (some ⟨p, 0, none⟩), .string tNull] W fun e w' => e = .returned (.bool false) ∧ RStep W p s (c :: r) er w') := fun W hW => is_no (t := tNull) (by decide) nNull W hW
  have HIFalse : Hid (∀ W, RRd W p s (c :: r) er → Calls Tryd.prog 62 #[.pointer (some ⟨p, 0, none⟩), .string tFalse] W fun e w' => e = .returned (.bool false) ∧ RStep W p s (c :: r) er w') := fun W hW => is_no (t := tFalse) (by decide) nFalse W hW
  have HITrue : Hid (∀ W, RRd W p s (c :: r) er → Calls Tryd.prog 62 #[.pointer (some ⟨p, 0, none⟩), .string tTrue] W fun e w' => e = .returned (.bool false) ∧ RStep W p s (c :: r) er w') := fun W hW => is_no (t := tTrue) (by decide) nTrue W hW
  have HIQuo : Hid (∀ W, RRd W p s (c :: r) er → Calls Tryd.prog 62 #[.pointer (some ⟨p, 0, none⟩), .string tQuo] W fun e w' => e = .returned (.bool false) ∧ RStep W p s (c :: r) er w') := fun W hW => is_no (t := tQuo) (by decide) nQuo W hW
  have HMany := Lib.hid hmany
  clear hmany
  clear hw nNull nFalse nTrue nQuo 
  go_enter Tryd.func37, Tryd.ntmps37
  go_wp2_with fail
  refine hwh.mono ?_
  rintro e w1 ⟨rfl, hst1⟩
  have hres := hst1.fr.at hres0 (show w.heap.size ≠ p by omega)
  have hst := hst0.of hst1
  obtain ⟨k, c0, c1, c2, f0, f1, f2, ha, hs⟩ := hst.1.parts
  have hk : decide (s.size ≤ k) = false := by have := ha.lt; simp; omega
  clear ha hwh hst1 hst0 hres0
  go_wp2
  go_quiet (fail)
  go_wp2_with fail
  generalize hW : w1.drewN _ = W1
  have hst2 : RStep w p s (c :: r) er W1 := by rw [← hW]; exact hst.drewN _
  have hres2 : W1.heap[w.heap.size]? = some (.cells zcells 26 (0, 0)) := by rw [← hW]; exact hres
  clear hW hst hres c0 c1 c2 f0 f1 f2 hk
  refine (HINull.out _ hst2.1).mono ?_
  rintro e w2 ⟨rfl, hst3⟩
  replace hres2 := hst3.fr.at hres2 (show w.heap.size ≠ p by omega)
  replace hst2 := hst2.of hst3
  clear hst3
  go_wp2_with fail
  refine (HIFalse.out _ hst2.1).mono ?_
  rintro e w2 ⟨rfl, hst3⟩
  replace hres2 := hst3.fr.at hres2 (show w.heap.size ≠ p by omega)
  replace hst2 := hst2.of hst3
  clear hst3
  go_wp2_with fail
  refine (HITrue.out _ hst2.1).mono ?_
  rintro e w2 ⟨rfl, hst3⟩
  replace hres2 := hst3.fr.at hres2 (show w.heap.size ≠ p by omega)
  replace hst2 := hst2.of hst3
  clear hst3
  go_wp2_with fail
  refine (HIQuo.out _ hst2.1).mono ?_
  rintro e w2 ⟨rfl, hst3⟩
  replace hres2 := hst3.fr.at hres2 (show w.heap.size ≠ p by omega)
  replace hst2 := hst2.of hst3
  clear hst3
  obtain ⟨k, c0, c1, c2, f0, f1, f2, ha, hs⟩ := hst2.1.parts
  have hlt := ha.lt
  have hget := ha.get hlt
  clear ha
  go_wp2
  go_quiet (fail)
  go_wp2_with fail
  generalize hW : w2.drewN _ = W1
  replace hst2 : RStep w p s (c :: r) er W1 := by rw [← hW]; exact hst2.drewN _
  replace hres2 : W1.heap[w.heap.size]? = some (.cells zcells 26 (0, 0)) := by rw [← hW]; exact hres2
  clear hW
  refine (HMany.out _ hst2).mono ?_
  rintro e w3 ⟨t, ys, er', v0, v1, v2, v3, rfl, hj, hst3, hM⟩
  have hst4 := hst2.of hst3
  have hsz := hst2.2.size
  have HM := Lib.hid hM
  have hrl0 := blk_lt hres2
  replace hres2 := hst3.fr.at hres2 (show w.heap.size ≠ p by omega)
  obtain ⟨q0, q1, q2, q3, y0, y1, y2, y3⟩ := res_cells hres2
  obtain ⟨kk, tt, A, A', m1, cap1, m2, cap2, rfl, rfl, rfl, rfl⟩ := hj.forms
  clear hst3 hM
  go_wp2
  refine bodyPost_ret (v := .agg #[.int .i64 kk, .string tt, .slice A m1 cap1, .slice A' m2 cap2]) (by simp [results, Tryd.results37, go_sem, q0, q1, q2, q3]) rfl ?_
  exact ⟨t, ys, er', _, _, _, _, rfl, (hj.set4 (fun g hg => by omega)).mono (fun g _ hg => by omega), hst4.set4 (Nat.le_refl _) hplt, HM.out⟩
end Go.Proofs.YtjcnjaebmndeiaaDoor
