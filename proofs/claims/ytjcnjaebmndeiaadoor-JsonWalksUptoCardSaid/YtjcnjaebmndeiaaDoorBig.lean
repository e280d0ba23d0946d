/-
  Longer texts: the program's 'numeral', the reference's 'number', 'numeral' and 'Quote'.
-/
import Derived.Test.YtjcnjaebmndeiaaDoorZaa
import Derived.Test.YtjcnjaebmndeiaaDoorRfq
import Derived.Test.YtjcnjaebmndeiaaDoorQtr
namespace Go.Proofs.YtjcnjaebmndeiaaDoor.big
open Go.Proofs.YtjcnjaebmndeiaaDoor
open Go.RowKit

set_option maxHeartbeats 1000000 in
theorem numeral_any (t : ByteArray) (w : World) (hs : t.size ≤ 1060000) :
    Calls Tryd.prog 59 #[.string t] w fun e w' => e = .returned (.int .i64 (numN t.data.toList)) ∧ w = w' := by
  have hat0 := (At.start t).drop (neg t.data.toList) (neg_le _).2
  have hend : ∀ {j : Nat}, (t.data.toList.drop (neg t.data.toList)).head? ≠ some 48 → _ → _ := fun {j} h0 hj => numN_end (xs := t.data.toList) h0 (j := j) hj
  have hzer := numN_zero (xs := t.data.toList)
  have htr := trim_any t w
  have hf1 := (neg_le t.data.toList).1
  generalize neg t.data.toList = f at *
  generalize numN t.data.toList = R at *
  generalize t.data.toList.drop f = ys at *
  have HE : Hid (∀ {j : Nat}, ys.head? ≠ some 48 → (digs ys = j ∨ j = 20 ∧ 20 ≤ digs ys) → (j = 0 ∨ 19 < j → R = 0) ∧ (0 < j → j ≤ 19 → R = f + j)) := hend
  have HZ := Lib.hid hzer
  clear hend hzer
  go_enter Tryd.func59, Tryd.ntmps59
  go_wp2
  go_step3
  go_wp2_with fail
  refine htr.mono ?_
  rintro e w1 ⟨u, rfl, HU, rfl⟩
  clear htr
  have hu : u.size ≤ t.size := by have := HU.out; omega
  go_wp2
  go_step3
  go_wp2
  have e1 : ((t.size : Int) - (u.size : Int)) = (f : Int) := by have := HU.out; omega
  simp only [e1]
  clear e1 hu HU
  go_loopg [4] ys.length (fun g i wr => ∃ (j : Nat) (zs : Bs), zs.length = g ∧ i = .int .i64 ((f + j : Nat) : Int) ∧ At t (f + j) zs ∧ j ≤ 20 ∧ Hid (digs ys = j + digs zs) ∧ Hid (ys.head? = some 48 → j = 0) ∧ Hid (j = 0 → zs = ys) ∧ w = wr)
  case atStart => exact ⟨0, ys, rfl, rfl, by simpa using hat0, by omega, (by show _ = _; omega), fun _ => rfl, fun _ => rfl, rfl⟩
  case round =>
    obtain ⟨j, zs, hg, rfl, ha, hj, HD, H48, HZs, rfl⟩ := hrel
    have HG := Lib.hid hg
    clear hg
    cases zs with
    | nil =>
      have hk : ¬ f + j < t.size := by have := ha.nil; omega
      have h48 : ys.head? ≠ some 48 := by
        intro e
        have := HZs.out (H48.out e)
        rw [← this] at e; cases e
      obtain ⟨hz, hp⟩ := HE.out h48 (j := j) (.inl (by rw [HD.out, digs_nil]; rfl))
      have HF := Lib.hid (And.intro hz hp)
      clear hz hp HE HZ HD H48 HZs h48
      go_wp2
      all_goals
        go_ret
        refine ⟨ret_int ?_, rfl⟩
        obtain ⟨hz, hp⟩ := HF.out
        (try simp only [beq_iff_eq, beq_eq_false_iff_ne, ne_eq] at *)
        omega
    | cons c r =>
      have hlt := ha.lt
      have hget := ha.get hlt
      have hk : f + j < t.size := hlt
      have h1 : ¬ (48 ≤ c.toNat ∧ c.toNat ≤ 57) → ((j = 0 ∨ 19 < j) → R = 0) ∧ (0 < j → j ≤ 19 → R = f + j) := by
        intro hd
        refine HE.out ?_ (.inl (by rw [HD.out, digs_no (isDig_no hd)]; rfl))
        intro e
        have h0 := H48.out e
        rw [← HZs.out h0] at e
        have := toNat48 (Option.some.inj e)
        omega
      have h2 : c.toNat = 48 → j = 0 → R = f + 1 := by
        intro hc h0
        have := HZs.out h0
        exact HZ.out (by rw [← this]; simp [of48 hc])
      have h3 : j = 20 → R = 0 := by
        intro h20
        refine (HE.out (j := 20) ?_ (.inr ⟨rfl, by rw [HD.out]; omega⟩)).1 (by omega)
        intro e
        have := H48.out e
        omega
      have HF := Lib.hid (And.intro h1 (And.intro h2 h3))
      clear h1 h2 h3
      go_wp2
      all_goals first
        | ((try rw [Exit.noGoto_ret])
           go_ret
           refine ⟨ret_int ?_, rfl⟩
           obtain ⟨h1, h2, h3⟩ := HF.out
           (try simp only [beq_iff_eq, beq_eq_false_iff_ne, ne_eq] at *)
           omega)
        | (go_roundg r.length
           case measure => have := HG.out; simp at this; omega
           case rel =>
             have hd : 48 ≤ c.toNat ∧ c.toNat ≤ 57 := by (try simp only [beq_iff_eq, beq_eq_false_iff_ne, ne_eq] at *); omega
             refine ⟨j + 1, r, rfl, by go_num, by have := ha.tail; simpa [Nat.add_assoc] using this, ?_, ?_, ?_, ?_, rfl⟩
             · (try simp only [beq_iff_eq, beq_eq_false_iff_ne, ne_eq] at *); omega
             · show _ = _; rw [HD.out, digs_yes (isDig_yes hd)]; omega
             · intro e
               have h0 := H48.out e
               rw [← HZs.out h0] at e
               have := toNat48 (Option.some.inj e)
               (try simp only [beq_iff_eq, beq_eq_false_iff_ne, ne_eq] at *); omega
             · intro e; omega)
/-- The reference's reader at block p stands before these bytes of s; its first fault is er. -/
def RRd (w : World) (p : Nat) (s : ByteArray) (xs : Bs) (er : Nat) : Prop :=
  ∃ k : Nat, w.heap[p]? = some (.cells #[.string s, .int .i64 k, .int .i64 er] 68 (0, 0)) ∧ At s k xs ∧ s.size ≤ 1060000
section
variable {w w' : World} {p : Nat} {s : ByteArray} {xs : Bs} {er : Nat}
theorem RRd.parts (h : RRd w p s xs er) : ∃ k : Nat, w.cell? ⟨p, 0, none⟩ = some (.string s) ∧ w.cell? ⟨p, 1, none⟩ = some (.int .i64 k) ∧ w.cell? ⟨p, 2, none⟩ = some (.int .i64 er) ∧
    w.frozen? ⟨p, 0, none⟩ = false ∧ w.frozen? ⟨p, 1, none⟩ = false ∧ w.frozen? ⟨p, 2, none⟩ = false ∧ At s k xs ∧ s.size ≤ 1060000 := by
  obtain ⟨k, hh, hr, hl⟩ := h
  exact ⟨k, by rw [cell_of_row w p 0 _ 68 (0, 0) hh]; rfl, by rw [cell_of_row w p 1 _ 68 (0, 0) hh]; rfl, by rw [cell_of_row w p 2 _ 68 (0, 0) hh]; rfl, frozen_of_row w p 0 _ 68 hh, frozen_of_row w p 1 _ 68 hh, frozen_of_row w p 2 _ 68 hh, hr, hl⟩
theorem RRd.set {k' : Nat} {ys : Bs} (h : RRd w p s xs er) (ha : At s k' ys) : RRd (w.setCell ⟨p, 1, none⟩ (.int .i64 k')) p s ys er := by
  obtain ⟨k, hh, hr', hl⟩ := h
  refine ⟨k', ?_, ha, hl⟩
  rw [heap_setCell_same w p 1 _ 68 _ hh]
  rfl
theorem RRd.err (h : RRd w p s xs er) (e' : Nat) : RRd (w.setCell ⟨p, 2, none⟩ (.int .i64 e')) p s xs e' := by
  obtain ⟨k, hh, hr', hl⟩ := h
  refine ⟨k, ?_, hr', hl⟩
  rw [heap_setCell_same w p 2 _ 68 _ hh]
  rfl
theorem RRd.drewN (h : RRd w p s xs er) (n : Nat) : RRd (w.drewN n) p s xs er := h
theorem RRd.kept {row : Option Nat} (h : RRd w p s xs er) (hg : w.grownBy w' row) (hr : some p ≠ row) : RRd w' p s xs er := by
  obtain ⟨k, hh, hr', hl⟩ := h
  exact ⟨k, (hg.block p (blk_lt hh) hr).trans hh, hr', hl⟩
end
def RStep (w : World) (p : Nat) (s : ByteArray) (ys : Bs) (er : Nat) (w' : World) : Prop := RRd w' p s ys er ∧ w.grownBy w' (some p)

set_option maxHeartbeats 400000 in
theorem ref_fail (p : Nat) (s : ByteArray) (xs : Bs) (er e' : Nat) (w : World) (h : RRd w p s xs er) :
    Calls Tryd.prog 39 #[.pointer (some ⟨p, 0, none⟩), .int .i64 e'] w fun e w' => e = .returned (.tuple #[]) ∧ RStep w p s xs (if er = 0 then e' else er) w' := by
  obtain ⟨k, c0, c1, c2, f0, f1, f2, ha, hs⟩ := h.parts
  have hR := Lib.hid h
  by_cases he : er = 0
  · have hset := h.err e'
    have hk : ((er : Int) == 0) = true := by simp; omega
    have HE := Lib.hid he
    clear he
    go_enter Tryd.func39, Tryd.ntmps39
    go_wp2
    go_end0
    refine ⟨rfl, ?_⟩
    exact ⟨hset, gset w p 2 _⟩
  · have hk : ((er : Int) == 0) = false := by simp; omega
    go_enter Tryd.func39, Tryd.ntmps39
    go_wp2
    go_end0
    refine ⟨rfl, ?_⟩
    exact ⟨hR.out, grefl _ _⟩
theorem RStep.drewN {w w' : World} {p : Nat} {s : ByteArray} {ys : Bs} {er : Nat} (h : RStep w p s ys er w') (n : Nat) : RStep w p s ys er (w'.drewN n) := ⟨h.1, gdrewN h.2 n⟩
theorem RStep.of {w w1 w' : World} {p : Nat} {s : ByteArray} {ys zs : Bs} {er er' : Nat} (h : RStep w p s ys er w1) (k : RStep w1 p s zs er' w') : RStep w p s zs er' w' := ⟨k.1, gtrans h.2 k.2⟩
theorem RStep.set {w w' : World} {p k er : Nat} {s : ByteArray} {ys zs : Bs} (h : RStep w p s ys er w') (ha : At s k zs) : RStep w p s zs er (w'.setCell ⟨p, 1, none⟩ (.int .i64 k)) := ⟨h.1.set ha, gtrans h.2 (gset w' p 1 _)⟩
theorem RStep.refl {w : World} {p er : Nat} {s : ByteArray} {xs : Bs} (h : RRd w p s xs er) : RStep w p s xs er w := ⟨h, grefl _ _⟩
theorem RRd.lt {w : World} {p er : Nat} {s : ByteArray} {xs : Bs} (h : RRd w p s xs er) : p < w.heap.size := by obtain ⟨k, hh, _⟩ := h; exact blk_lt hh

theorem RStep.alloc {w w' : World} {p er : Nat} {s : ByteArray} {ys : Bs} (h : RStep w p s ys er w') (o : Obj) : RStep w p s ys er (w'.alloc o) :=
  ⟨h.1.kept (World.grownBy_alloc w' o none) (by simp), gmore h.2 (World.grownBy_alloc w' o none) (fun _ e => by cases e)⟩
theorem RStep.setNew {w w' : World} {p b j er : Nat} {s : ByteArray} {ys : Bs} {v : Value} (h : RStep w p s ys er w') (hb : w.heap.size ≤ b) (hp : p < w.heap.size) : RStep w p s ys er (w'.setCell ⟨b, j, none⟩ v) :=
  ⟨h.1.kept (gset w' b j v) (fun e => by cases e; omega), gmore h.2 (gset w' b j v) (fun g e => by cases e; exact hb)⟩
theorem RStep.fr {w w' : World} {p er : Nat} {s : ByteArray} {ys : Bs} (h : RStep w p s ys er w') : Fr w w' (fun b => b ≠ p) := Fr.of h.2 (fun b _ hb e => hb (by cases e; rfl))
theorem RStep.below {w w1 w' : World} {p er : Nat} {s : ByteArray} {ys : Bs} (h : RStep w p s ys er w1) (hb : Below w1.heap.size w1 w') : RStep w p s ys er w' :=
  ⟨h.1.kept (new_grown hb none) (by simp), gmore h.2 (new_grown hb none) (fun _ e => by cases e)⟩

/-- Is t a beginning, told by bytes. -/
theorem pre_take (t xs : Bs) : (xs.take t.length == t) = t.isPrefixOf xs := by
  rw [Bool.eq_iff_iff, beq_iff_eq, List.isPrefixOf_iff_prefix, List.prefix_iff_eq_take]
  exact ⟨fun e => e.symm, fun e => e.symm⟩
theorem pre_short (t xs : Bs) (h : xs.length < t.length) : t.isPrefixOf xs = false := by
  rw [Bool.eq_false_iff]
  intro e
  have := (List.isPrefixOf_iff_prefix.1 e).length_le
  omega
def isRest (t : ByteArray) (xs : Bs) : Bs := if t.data.toList.isPrefixOf xs then xs.drop t.size else xs

set_option maxHeartbeats 1000000 in
theorem ref_is (p : Nat) (s : ByteArray) (xs : Bs) (er : Nat) (t : ByteArray) (ht : t.size ≤ 100) (w : World) (h : RRd w p s xs er) :
    Calls Tryd.prog 62 #[.pointer (some ⟨p, 0, none⟩), .string t] w fun e w' => e = .returned (.bool (t.data.toList.isPrefixOf xs)) ∧ RStep w p s (isRest t xs) er w' := by
  obtain ⟨k, c0, c1, c2, f0, f1, f2, ha, hs⟩ := h.parts
  have hlen := ha.len
  have hle := ha.le
  by_cases hl : xs.length < t.size
  · have hp : t.data.toList.isPrefixOf xs = false := pre_short _ _ (by rw [← size_len]; exact hl)
    have hi : isRest t xs = xs := by rw [isRest, if_neg (by rw [hp]; simp)]
    rw [hp, hi]
    have hst := RStep.refl h
    have e0 : IntKind.i64.wrap ((s.size : Int) - (k : Int)) = (s.size : Int) - (k : Int) := IntWalk.i64_in _ (by omega)
    have hlt : decide ((t.size : Int) ≤ (s.size : Int) - (k : Int)) = false := by simp; omega
    clear hp hi hlen hl ha
    go_enter Tryd.func62, Tryd.ntmps62
    go_wp2
    go_quiet (fail)
    go_wp2
    go_ret
    exact ⟨rfl, hst.drewN _⟩
  · have hat := ha.drop t.size (by omega)
    have hpiece : (s.extract k (k + t.size)).data.toList = xs.take t.size := by rw [ext_list, List.drop_take, ha.eq, Nat.add_sub_cancel_left]
    have hpt : ((s.extract k (k + t.size)).toList == t.toList) = t.data.toList.isPrefixOf xs := by
      rw [Lib.toList_data, Lib.toList_data, hpiece]
      have := pre_take t.data.toList xs
      rw [← size_len] at this
      exact this
    have e0 : IntKind.i64.wrap ((s.size : Int) - (k : Int)) = (s.size : Int) - (k : Int) := IntWalk.i64_in _ (by omega)
    have hge : decide ((t.size : Int) ≤ (s.size : Int) - (k : Int)) = true := by simp; omega
    have hle2 := hat.le
    have hrs : isRest t xs = if t.data.toList.isPrefixOf xs then xs.drop t.size else xs := rfl
    generalize t.data.toList.isPrefixOf xs = b at *
    generalize isRest t xs = R at *
    have HR := Lib.hid hrs
    clear hrs
    have hst := RStep.refl h
    have hst2 := hst.set hat
    clear hlen ha hpiece hat
    have HP := Lib.hid hpt
    clear hpt
    have e1 : IntKind.i64.wrap ((k : Int) + (t.size : Int)) = (k : Int) + (t.size : Int) := IntWalk.i64_in _ (by omega)
    have e2 : ((k : Int) + (t.size : Int)).toNat = k + t.size := by omega
    have e3 : (0 : Int) ≤ (k : Int) + (t.size : Int) := by omega
    have e4 : (k : Int) ≤ (k : Int) + (t.size : Int) := by omega
    have e5 : (k : Int) + (t.size : Int) ≤ (s.size : Int) := by omega
    have e6 : k ≤ k + t.size := by omega
    cases b
    · go_enter Tryd.func62, Tryd.ntmps62
      have hq := HP.out
      go_wp2
      go_quiet (fail)
      go_wp2
      go_ret
      exact ⟨rfl, by rw [HR.out]; exact (hst.drewN _)⟩
    · go_enter Tryd.func62, Tryd.ntmps62
      have hq := HP.out
      go_wp2
      go_quiet (fail)
      go_wp2
      go_ret
      exact ⟨rfl, by rw [HR.out]; exact (hst2.drewN _)⟩
/-- What 'number' answers. -/
def NumPost (w : World) (p : Nat) (s : ByteArray) (er : Nat) (o : Option (Bs × Bs)) (e : Ending) (w' : World) : Prop :=
  match o with
  | some (t, r) => e = .returned (.string (str t)) ∧ RStep w p s r er w'
  | none => e = .returned (.string ⟨#[]⟩) ∧ ∃ ys, RStep w p s ys (if er = 0 then 4 else er) w'
theorem isRest_minus (xs : Bs) : isRest ⟨#[45]⟩ xs = xs.drop (neg xs) := by
  cases xs with
  | nil => rfl
  | cons c r =>
    by_cases h : c = 45
    · subst h; rfl
    · have h1 : ([45] : Bs).isPrefixOf (c :: r) = false := by simp [List.isPrefixOf, Ne.symm h]
      have h2 : neg (c :: r) = 0 := by simp [neg, h]
      rw [isRest, h2, if_neg (by show ¬ ([45] : Bs).isPrefixOf (c :: r) = true; rw [h1]; simp)]
      rfl
theorem At.uniq {s : ByteArray} {k j : Nat} {xs : Bs} (h : At s k xs) (g : At s j xs) : k = j := by
  have := h.len; have := g.len; have := h.le; have := g.le; omega
def NLRel (w : World) (p : Nat) (s : ByteArray) (er : Nat) (zs : Bs) (g : Nat) (wr : World) : Prop :=
  ∃ (j : Nat), j ≤ zs.length ∧ (zs.drop j).length = g ∧ digs zs = j + digs (zs.drop j) ∧ RStep w p s (zs.drop j) er wr

theorem numM_none {xs : Bs} (h : digs (xs.drop (neg xs)) < 1 ∨ 19 < digs (xs.drop (neg xs)) ∨ (1 < digs (xs.drop (neg xs)) ∧ (xs.drop (neg xs)).head? = some 48)) : numM xs = none := by rw [numM, if_pos h]
theorem numM_some {xs : Bs} (h : ¬ (digs (xs.drop (neg xs)) < 1 ∨ 19 < digs (xs.drop (neg xs)) ∨ (1 < digs (xs.drop (neg xs)) ∧ (xs.drop (neg xs)).head? = some 48))) :
    numM xs = some (numT (xs.take (neg xs + digs (xs.drop (neg xs)))), xs.drop (neg xs + digs (xs.drop (neg xs)))) := by rw [numM, if_neg h]; rfl
theorem digs_drop {zs : Bs} {j : Nat} (hj : j ≤ zs.length) (hd : digs zs = j + digs (zs.drop j)) {c : UInt8} {r : Bs} (h : zs.drop j = c :: r) : zs.drop (j + 1) = r ∧ j + 1 ≤ zs.length := by
  constructor
  · rw [← List.drop_drop, h]; rfl
  · have := congrArg List.length h; rw [List.length_drop] at this; simp only [List.length_cons] at this; omega

set_option maxHeartbeats 2000000 in
set_option maxRecDepth 100000 in
theorem ref_number (p : Nat) (s : ByteArray) (xs : Bs) (er : Nat) (w : World) (h : RRd w p s xs er) :
    Calls Tryd.prog 65 #[.pointer (some ⟨p, 0, none⟩)] w (NumPost w p s er (numM xs)) := by
  obtain ⟨k, c0, c1, c2, f0, f1, f2, ha, hs⟩ := h.parts
  have hplt := h.lt
  have hk := ha.le
  have hlen := ha.len
  have his := ref_is p s xs er ⟨#[45]⟩ (by decide) w h
  rw [isRest_minus] at his
  have hn1 := (neg_le xs).1
  have hn2 := (neg_le xs).2
  have hatd := ha.drop (neg xs) hn2
  have hnone := numM_none (xs := xs)
  have hsome := numM_some (xs := xs)
  have htd : xs.drop (neg xs + digs (xs.drop (neg xs))) = (xs.drop (neg xs)).drop (digs (xs.drop (neg xs))) := by rw [List.drop_drop]
  rw [htd] at hsome
  clear htd
  generalize numM xs = M at *
  generalize neg xs = ng at *
  generalize hzs : xs.drop ng = zs at *
  have HNone := Lib.hid hnone
  have HSome := Lib.hid hsome
  have HZ := Lib.hid hzs
  have HAt := Lib.hid ha
  clear hnone hsome hzs ha
  have hle2 := hatd.le
  have hlen2 := hatd.len
  have HAtd := Lib.hid hatd
  clear hatd hlen hlen2
  go_enter Tryd.func65, Tryd.ntmps65
  go_wp2_with fail
  refine his.mono ?_
  rintro e w1 ⟨rfl, hst1⟩
  clear his
  obtain ⟨kd, c01, c11, c21, f01, f11, f21, ha1, _⟩ := hst1.1.parts
  have HKd := Lib.hid (ha1.uniq HAtd.out)
  clear ha1 c0 c1 c2 f0 f1 f2
  go_wp2
  go_loopg [] zs.length (fun g wr => NLRel w p s er zs g wr)
  case atStart => exact ⟨0, by omega, rfl, by simp, hst1⟩
  case round =>
    obtain ⟨j, hj, hg, hd, hst⟩ := hrel
    clear hst1 c01 c11 c21 f01 f11 f21
    obtain ⟨k1, c01, c11, c21, f01, f11, f21, ha1, _⟩ := hst.1.parts
    have HK := Lib.hid (ha1.uniq (HAtd.out.drop j hj))
    have HG := Lib.hid hg
    have HD := Lib.hid hd
    clear hg hd
    by_cases hdig : ∃ c r, zs.drop j = c :: r ∧ 48 ≤ c.toNat ∧ c.toNat ≤ 57
    · obtain ⟨c, r, hcr, hc1, hc2⟩ := hdig
      obtain ⟨hdr, hj1⟩ := digs_drop hj HD.out hcr
      rw [hcr] at ha1
      have hlt := ha1.lt
      have hget := ha1.get hlt
      have hst' := hst.set ha1.tail
      have hk' : decide (k1 < s.size) = true := by simp; omega
      have hdd : digs zs = (j + 1) + digs (zs.drop (j + 1)) := by rw [HD.out, hcr, hdr, digs_yes (isDig_yes ⟨hc1, hc2⟩)]; omega
      have HDD := Lib.hid hdd
      have HC := Lib.hid hcr
      have HR := Lib.hid hdr
      have hi1 : (48 : Int) ≤ (c.toNat : Int) := by omega
      have hi2 : (c.toNat : Int) ≤ 57 := by omega
      clear hdd hcr hdr ha1 hc1 hc2
      go_wp2
      go_quiet (fail)
      go_wp2
      go_roundg (zs.drop (j + 1)).length
      case measure => have := HG.out; rw [HC.out] at this; rw [HR.out]; simp only [List.length_cons] at this; omega
      case rel => exact ⟨j + 1, hj1, rfl, HDD.out, by rw [HR.out]; exact hst'.drewN _⟩
    · have hdz : digs (zs.drop j) = 0 := by
        cases hz : zs.drop j with
        | nil => rfl
        | cons c r => exact digs_no (isDig_no (fun hh => hdig ⟨c, r, hz, hh⟩))
      have HJ := Lib.hid (show digs zs = j by have := HD.out; omega)
      have hle1 := ha1.le
      have hkk : kd ≤ k1 := by rw [HK.out, HKd.out]; omega
      have hk1e : (k1 : Int) - (kd : Int) = (j : Int) := by rw [HK.out, HKd.out]; omega
      have hkl : k ≤ k1 := by rw [HK.out]; omega
      have hpiece : s.extract k k1 = str (xs.take (ng + j)) := ba_ext (by rw [ext_list, HK.out, Nat.add_assoc, List.drop_take, HAt.out.eq, Nat.add_sub_cancel_left]; rfl)
      have hex : (decide (k1 < s.size) = false) ∨ (∃ c : UInt8, ∃ h : k1 < s.size, decide (k1 < s.size) = true ∧ s[k1] = c ∧ decide ((48 : Int) ≤ (c.toNat : Int)) = false) ∨
          (∃ c : UInt8, ∃ h : k1 < s.size, decide (k1 < s.size) = true ∧ s[k1] = c ∧ decide ((48 : Int) ≤ (c.toNat : Int)) = true ∧ decide ((c.toNat : Int) ≤ 57) = false) := by
        cases hz : zs.drop j with
        | nil => rw [hz] at ha1; left; have := ha1.nil; simp; omega
        | cons c r =>
          rw [hz] at ha1
          have hlt := ha1.lt
          have hget := ha1.get hlt
          have hnd : ¬ (48 ≤ c.toNat ∧ c.toNat ≤ 57) := fun hh => hdig ⟨c, r, hz, hh⟩
          by_cases h48 : c.toNat < 48
          · exact .inr (.inl ⟨c, hlt, by simpa using hlt, hget, by simp; omega⟩)
          · exact .inr (.inr ⟨c, hlt, by simpa using hlt, hget, by simp; omega, by simp; omega⟩)
      have hjs : (decide ((j : Int) < 1) = true ∧ M = none) ∨ (decide ((j : Int) < 1) = false ∧ decide (19 < (j : Int)) = true ∧ M = none) ∨
          (decide ((j : Int) < 1) = false ∧ decide (19 < (j : Int)) = false ∧ decide (1 < (j : Int)) = true ∧ (∃ c : UInt8, ∃ h : kd < s.size, s[kd] = c ∧ ((c.toNat : Int) == 48) = true) ∧ M = none) ∨
          (decide ((j : Int) < 1) = false ∧ decide (19 < (j : Int)) = false ∧ decide (1 < (j : Int)) = true ∧ (∃ c : UInt8, ∃ h : kd < s.size, s[kd] = c ∧ ((c.toNat : Int) == 48) = false) ∧ M = some (numT (xs.take (ng + j)), zs.drop j)) ∨
          (decide ((j : Int) < 1) = false ∧ decide (19 < (j : Int)) = false ∧ decide (1 < (j : Int)) = false ∧ M = some (numT (xs.take (ng + j)), zs.drop j)) := by
        have hN := HNone.out
        have hS := HSome.out
        rw [HJ.out] at hN hS
        by_cases h1 : j < 1
        · exact .inl ⟨by simp; omega, hN (.inl h1)⟩
        · by_cases h19 : 19 < j
          · exact .inr (.inl ⟨by simp; omega, by simp; omega, hN (.inr (.inl h19))⟩)
          · have d1 : decide ((j : Int) < 1) = false := by simp; omega
            have d2 : decide (19 < (j : Int)) = false := by simp; omega
            by_cases hj1 : 1 < j
            · have d3 : decide (1 < (j : Int)) = true := by simp; omega
              have hat := HAtd.out
              cases hz : zs with
              | nil => have := HJ.out; rw [hz, digs_nil] at this; omega
              | cons c r =>
                rw [hz] at hat
                have hlt := hat.lt
                have hget := hat.get hlt
                have hkd := HKd.out
                subst hkd
                rw [hz] at hN hS
                by_cases h48 : c.toNat = 48
                · exact .inr (.inr (.inl ⟨d1, d2, d3, ⟨c, hlt, hget, by simp only [beq_iff_eq]; omega⟩, hN (.inr (.inr ⟨hj1, by simp [of48 h48]⟩))⟩))
                · exact .inr (.inr (.inr (.inl ⟨d1, d2, d3, ⟨c, hlt, hget, by simp only [beq_eq_false_iff_ne, ne_eq]; omega⟩, hS (by
                    rintro (h | h | ⟨_, h⟩)
                    · omega
                    · omega
                    · simp only [List.head?_cons, Option.some.injEq] at h; exact h48 (toNat48 h))⟩)))
            · exact .inr (.inr (.inr (.inr ⟨d1, d2, by simp; omega, hS (by omega)⟩)))
      have HPi := Lib.hid hpiece
      have hfl : ∀ W, RRd W p s (zs.drop j) er → Calls Tryd.prog 39 #[.pointer (some ⟨p, 0, none⟩), .int .i64 4] W fun e w' => e = .returned (.tuple #[]) ∧ RStep W p s (zs.drop j) (if er = 0 then 4 else er) w' := fun W hW => ref_fail p s (zs.drop j) er 4 W hW
      have HFl := Lib.hid hfl
      clear hdig hdz HD HG ha1 hpiece hfl HNone HSome HZ HAt HAtd HK HKd HJ hle2 hn1 hn2
      generalize xs.take (ng + j) = X at *
      rcases hjs with ⟨d1, hM⟩ | ⟨d1, d2, hM⟩ | ⟨d1, d2, d3, ⟨c', hlt', hget', d4⟩, hM⟩ | ⟨d1, d2, d3, ⟨c', hlt', hget', d4⟩, hM⟩ | ⟨d1, d2, d3, hM⟩
      · have HM := Lib.hid hM
        clear hM
        rcases hex with hx | ⟨c, hlt, hx, hget, hc⟩ | ⟨c, hlt, hx, hget, hc, hc'⟩
        all_goals
          go_wp2
          go_quiet (fail)
          go_wp2_with fail
          generalize hW : wr.drewN _ = W1
          have hst2 : RStep w p s (zs.drop j) er W1 := by rw [← hW]; exact hst.drewN _
          clear hW
          refine (HFl.out _ hst2.1).mono ?_
          rintro e w3 ⟨rfl, hst3⟩
          go_wp2
          go_ret
          show NumPost w p s er M _ _
          rw [HM.out]
          exact ⟨rfl, _, hst2.of hst3⟩
      · have HM := Lib.hid hM
        clear hM
        rcases hex with hx | ⟨c, hlt, hx, hget, hc⟩ | ⟨c, hlt, hx, hget, hc, hc'⟩
        all_goals
          go_wp2
          go_quiet (fail)
          go_wp2_with fail
          generalize hW : wr.drewN _ = W1
          have hst2 : RStep w p s (zs.drop j) er W1 := by rw [← hW]; exact hst.drewN _
          clear hW
          refine (HFl.out _ hst2.1).mono ?_
          rintro e w3 ⟨rfl, hst3⟩
          go_wp2
          go_ret
          show NumPost w p s er M _ _
          rw [HM.out]
          exact ⟨rfl, _, hst2.of hst3⟩
      · have HM := Lib.hid hM
        clear hM
        rcases hex with hx | ⟨c, hlt, hx, hget, hc⟩ | ⟨c, hlt, hx, hget, hc, hc'⟩
        all_goals
          go_wp2
          go_quiet (fail)
          go_wp2_with fail
          generalize hW : wr.drewN _ = W1
          have hst2 : RStep w p s (zs.drop j) er W1 := by rw [← hW]; exact hst.drewN _
          clear hW
          refine (HFl.out _ hst2.1).mono ?_
          rintro e w3 ⟨rfl, hst3⟩
          go_wp2
          go_ret
          show NumPost w p s er M _ _
          rw [HM.out]
          exact ⟨rfl, _, hst2.of hst3⟩
      · have HM := Lib.hid hM
        clear hM HFl
        by_cases h0 : X = [45, 48]
        · have hb : ((s.extract k k1).toList == [45, 48]) = true := by rw [HPi.out, Lib.toList_data, h0]; rfl
          have HT := Lib.hid (show numT X = [48] by rw [numT, if_pos h0])
          clear h0
          rcases hex with hx | ⟨c, hlt, hx, hget, hc⟩ | ⟨c, hlt, hx, hget, hc, hc'⟩
          all_goals
            go_wp2
            go_quiet (fail)
            go_wp2
            go_quiet (fail)
            go_wp2
            go_ret
            show NumPost w p s er M _ _
            rw [HM.out, HT.out]
            exact ⟨rfl, (hst.drewN _).drewN _⟩
        · have hb : ((s.extract k k1).toList == [45, 48]) = false := by
            rw [HPi.out, Lib.toList_data, beq_eq_false_iff_ne]
            exact h0
          have HT := Lib.hid (show numT X = X by rw [numT, if_neg h0])
          clear h0
          rcases hex with hx | ⟨c, hlt, hx, hget, hc⟩ | ⟨c, hlt, hx, hget, hc, hc'⟩
          all_goals
            go_wp2
            go_quiet (fail)
            go_wp2
            go_quiet (fail)
            go_wp2
            go_quiet (fail)
            go_wp2
            go_ret
            show NumPost w p s er M _ _
            rw [HM.out, HT.out]
            exact ⟨congrArg (fun x => Ending.returned (.string x)) HPi.out, ((hst.drewN _).drewN _).drewN _⟩
      · have HM := Lib.hid hM
        clear hM HFl
        by_cases h0 : X = [45, 48]
        · have hb : ((s.extract k k1).toList == [45, 48]) = true := by rw [HPi.out, Lib.toList_data, h0]; rfl
          have HT := Lib.hid (show numT X = [48] by rw [numT, if_pos h0])
          clear h0
          rcases hex with hx | ⟨c, hlt, hx, hget, hc⟩ | ⟨c, hlt, hx, hget, hc, hc'⟩
          all_goals
            go_wp2
            go_quiet (fail)
            go_wp2
            go_quiet (fail)
            go_wp2
            go_ret
            show NumPost w p s er M _ _
            rw [HM.out, HT.out]
            exact ⟨rfl, (hst.drewN _).drewN _⟩
        · have hb : ((s.extract k k1).toList == [45, 48]) = false := by
            rw [HPi.out, Lib.toList_data, beq_eq_false_iff_ne]
            exact h0
          have HT := Lib.hid (show numT X = X by rw [numT, if_neg h0])
          clear h0
          rcases hex with hx | ⟨c, hlt, hx, hget, hc⟩ | ⟨c, hlt, hx, hget, hc, hc'⟩
          all_goals
            go_wp2
            go_quiet (fail)
            go_wp2
            go_quiet (fail)
            go_wp2
            go_quiet (fail)
            go_wp2
            go_ret
            show NumPost w p s er M _ _
            rw [HM.out, HT.out]
            exact ⟨congrArg (fun x => Ending.returned (.string x)) HPi.out, ((hst.drewN _).drewN _).drewN _⟩
set_option maxHeartbeats 1000000 in
set_option maxRecDepth 100000 in
theorem ref_numeral (s : ByteArray) (hs : s.size ≤ 1060000) (w : World) :
    Calls Tryd.prog 70 #[.string s] w fun e w' => ∃ b : Bool, e = .returned (.bool b) ∧ (b = true ↔ NumT s) ∧ Below w.heap.size w w' := by
  have hpar : RRd (w.alloc (.cells #[.string s, .int .i64 0, .int .i64 0] 68)) w.heap.size s s.data.toList 0 := ⟨0, heap_alloc_new w _, At.start s, hs⟩
  have hnum := ref_number w.heap.size s s.data.toList 0 _ hpar
  have hb0 : Below w.heap.size w (w.alloc (.cells #[.string s, .int .i64 0, .int .i64 0] 68)) := (Below.refl _ _).alloc (Nat.le_refl _) _
  have hNT : NumT s ↔ numM s.data.toList = some (s.data.toList, []) := Iff.rfl
  generalize numM s.data.toList = M at *
  have HNT := Lib.hid hNT
  clear hNT hpar
  go_enter Tryd.func70, Tryd.ntmps70
  go_wp2_with fail
  generalize (w.alloc (.cells #[.string s, .int .i64 0, .int .i64 0] 68)) = W0 at *
  refine hnum.mono ?_
  intro e w1 hp
  cases M with
  | none =>
    obtain ⟨rfl, ys, hst⟩ := hp
    obtain ⟨k, c0, c1, c2, _, _, _, ha, _⟩ := hst.1.parts
    simp only [if_true] at c2
    have hbe : Below w.heap.size w w1 := hb0.grown hst.2 hb0.size (fun r e => by cases e; exact Nat.le_refl _)
    have hno : ¬ NumT s := fun h => by have := HNT.out.1 h; cases this
    have HNO := Lib.hid hno
    clear hst ha hno
    go_wp2
    go_ret
    exact ⟨false, rfl, ⟨fun h => (by cases h), fun h => absurd h HNO.out⟩, hbe⟩
  | some tr =>
    obtain ⟨t, r⟩ := tr
    obtain ⟨rfl, hst⟩ := hp
    obtain ⟨k, c0, c1, c2, _, _, _, ha, _⟩ := hst.1.parts
    have hbe : Below w.heap.size w w1 := hb0.grown hst.2 hb0.size (fun r e => by cases e; exact Nat.le_refl _)
    have hal := ha.len
    have hle := ha.le
    by_cases hr : r = []
    · subst hr
      have hk := ha.nil
      subst hk
      by_cases ht : str t = s
      · have hyes : NumT s := HNT.out.2 (by rw [← ht]; rfl)
        rw [ht]
        clear hst ha
        go_wp2
        go_ret
        exact ⟨true, rfl, ⟨fun _ => hyes, fun _ => rfl⟩, hbe⟩
      · have hno : ¬ NumT s := fun h => by
          have := HNT.out.1 h
          simp only [Option.some.injEq, Prod.mk.injEq, and_true] at this
          exact ht (by rw [this]; exact str_id s)
        have hb : ((str t).toList == s.toList) = false := by rw [ba_beq]; exact decide_eq_false ht
        have HNO := Lib.hid hno
        generalize str t = u at *
        clear hst ha hno ht
        go_wp2
        go_ret
        exact ⟨false, rfl, ⟨fun h => (by cases h), fun h => absurd h HNO.out⟩, hbe⟩
    · have hno : ¬ NumT s := fun h => by
        have := HNT.out.1 h
        simp only [Option.some.injEq, Prod.mk.injEq] at this
        exact hr this.2
      have hpos : 0 < r.length := List.length_pos_iff.2 hr
      have hb : ((k : Int) == (s.size : Int)) = false := by simp only [beq_eq_false_iff_ne, ne_eq]; omega
      have HNO := Lib.hid hno
      clear hst ha hno hr
      go_wp2
      go_ret
      exact ⟨false, rfl, ⟨fun h => (by cases h), fun h => absurd h HNO.out⟩, hbe⟩
end Go.Proofs.YtjcnjaebmndeiaaDoor.big
namespace Go.Proofs.YtjcnjaebmndeiaaDoor
open Go.RowKit

set_option maxHeartbeats 1000000 in
set_option maxRecDepth 100000 in
theorem quote_big (s : ByteArray) (w : World) (hs : s.size ≤ 1100000) :
    Calls Tryd.prog 30 #[.string s] w fun e w' => e = .returned (.string (str (34 :: (quoL s.data.toList ++ [34])))) ∧ ∃ n, w' = w.drewN n := by
  have hrel0 : QtRel w s s.size (.string ⟨#[34]⟩) (.int .i64 0) w := ⟨0, 0, [], s.data.toList, by omega, rfl, rfl, At.start s, rfl, rfl, rfl⟩
  generalize hP : (fun (e : Ending) (w' : World) => e = .returned (.string (str (34 :: (quoL s.data.toList ++ [34])))) ∧ ∃ n, w' = w.drewN n) = POST
  have HP := Lib.hid hP
  clear hP
  go_enter Tryd.func30, Tryd.ntmps30
  go_wp2
  go_loopg [3, 4] s.size (fun g v i wr => QtRel w s g v i wr)
  case atStart => exact hrel0
  case round =>
    clear hrel0
    obtain ⟨k, n, a, b, hk, hab, hal, hat, rfl, rfl, hW⟩ := hrel
    have HW := Lib.hid hW
    have HAB := Lib.hid hab
    have hql := (quoL_len a).2
    have hsz : (str (34 :: quoL a)).size ≤ 7000000 := by rw [qstr_size]; simp; omega
    clear hW hab
    cases b with
    | nil =>
      have hk' : ¬ k < s.size := by have := hat.nil; omega
      have s1 : ¬ (9223372036854775807 < (str (34 :: quoL a)).size + 1) := by omega
      clear hat
      go_wp2
      rw [← HP.out]
      refine ⟨?_, n, HW.out.symm⟩
      have e : s.data.toList = a := by rw [HAB.out, List.append_nil]
      rw [e]
      exact congrArg (fun x => Ending.returned (.string x)) (qstr_cat (34 :: quoL a) ⟨#[34]⟩)
    | cons c r =>
      have hlt := hat.lt
      have hget := hat.get hlt
      have hone : s.extract k (k + 1) = ⟨#[c]⟩ := ba_ext (by rw [ext_list, List.drop_take, hat.eq, Nat.add_sub_cancel_left]; rfl)
      have HO := Lib.hid hone
      have hosz : (s.extract k (k + 1)).size = 1 := by rw [hone]; rfl
      have HAt := Lib.hid hat
      obtain ⟨g', hg'⟩ : ∃ g', gk = g' + 1 := ⟨gk - 1, by omega⟩
      subst hg'
      have s1 : ¬ (9223372036854775807 < (str (34 :: quoL a)).size + 1) := by omega
      have s2 : ¬ (9223372036854775807 < (str (34 :: quoL a)).size + (s.extract k (k + 1)).size) := by omega
      clear hone hat
      by_cases he : c.toNat = 34 ∨ c.toNat = 92
      · have hq : quoC c = [92, c] := by rw [quoC, if_pos he]
        have HQ := Lib.hid hq
        have s3 : ¬ (9223372036854775807 < (str (34 :: quoL a) ++ (⟨#[92]⟩ : ByteArray)).size + (s.extract k (k + 1)).size) := by rw [qstr_cat, qstr_size, hosz]; simp; omega
        have hb' : ((c.toNat : Int) == 34) = true ∨ (((c.toNat : Int) == 34) = false ∧ ((c.toNat : Int) == 92) = true) := by
          simp only [beq_iff_eq, beq_eq_false_iff_ne, ne_eq]; omega
        clear hq he hosz
        rcases hb' with b1 | ⟨b1, b2⟩
        all_goals
          go_wp2
          go_roundg g'
          case measure => omega
          case rel => exact QtRel.next HAB.out (by omega) hal HAt.out (by go_num) (by rw [HQ.out, HO.out, qstr_cat, qstr_cat]; simp) HW.out
      · have b1 : ((c.toNat : Int) == 34) = false := by simp only [beq_eq_false_iff_ne, ne_eq]; omega
        have b2 : ((c.toNat : Int) == 92) = false := by simp only [beq_eq_false_iff_ne, ne_eq]; omega
        by_cases hlo : c.toNat < 32
        · have hq : quoC c = [92, 117, 48, 48, hexS (c.toNat / 16), hexS (c.toNat % 16)] := by rw [quoC, if_neg he, if_pos hlo]
          have HQ := Lib.hid hq
          have b3 : (c.toNat : Int) < 32 := by omega
          clear hq he hosz
          go_wp2
          go_quiet (fail)
          go_wp2
          go_roundg g'
          case measure => omega
          case rel => exact QtRel.next (n := n + nq) HAB.out (by omega) hal HAt.out (by go_num) (by rw [HQ.out, hex_one (c.toNat / 16) (by omega), hex_one (c.toNat % 16) (by omega), qstr_cat, qstr_cat, qstr_cat]; simp) (by rw [← HW.out]; simp)
        · have hq : quoC c = [c] := by rw [quoC, if_neg he, if_neg hlo]
          have HQ := Lib.hid hq
          have b3 : ¬ (c.toNat : Int) < 32 := by omega
          clear hq he hosz
          go_wp2
          go_roundg g'
          case measure => omega
          case rel => exact QtRel.next HAB.out (by omega) hal HAt.out (by go_num) (by rw [HQ.out, HO.out, qstr_cat]) HW.out
end Go.Proofs.YtjcnjaebmndeiaaDoor
