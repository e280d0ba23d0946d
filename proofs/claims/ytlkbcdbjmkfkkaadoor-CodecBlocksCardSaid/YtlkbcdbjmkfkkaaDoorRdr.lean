/-
  The program's reader: what its calls answer, and where it stands behind them, as functions on the bytes that are left and the fault.
-/
import Derived.Test.YtlkbcdbjmkfkkaaDoorRea
import Derived.Test.YtlkbcdbjmkfkkaaDoorBas
namespace Go.Proofs.YtlkbcdbjmkfkkaaDoor
open Go.RowKit

/-- The reader at block p has these bytes left, and this fault. -/
def Rdr (w : World) (p : Nat) (xs : List Int) (f : Nat) : Prop :=
  ∃ A c, w.heap[p]? = some (.cells #[.slice A xs.length c, .int .i64 f] 83 (0, 0)) ∧ Rd w p A xs.length c xs ∧ xs.length ≤ 100000

section
variable {w w' : World} {p : Nat} {xs ys : List Int} {f f' : Nat}
theorem Rdr.lt (h : Rdr w p xs f) : p < w.heap.size := by
  obtain ⟨A, c, hh, _⟩ := h
  exact blk_lt hh
/-- What the walk is told of a reader. -/
theorem Rdr.parts (h : Rdr w p xs f) : ∃ A c, w.cell? ⟨p, 0, none⟩ = some (.slice A xs.length c) ∧ w.cell? ⟨p, 1, none⟩ = some (.int .i64 f) ∧ w.frozen? ⟨p, 0, none⟩ = false ∧ w.frozen? ⟨p, 1, none⟩ = false ∧
    Rd w p A xs.length c xs ∧ xs.length ≤ 100000 ∧ w.heap[p]? = some (.cells #[.slice A xs.length c, .int .i64 f] 83 (0, 0)) := by
  obtain ⟨A, c, hh, hr, hl⟩ := h
  exact ⟨A, c, by rw [cell_of_row w p 0 _ 83 (0, 0) hh]; rfl, by rw [cell_of_row w p 1 _ 83 (0, 0) hh]; rfl, frozen_of_row w p 0 _ 83 hh, frozen_of_row w p 1 _ 83 hh, hr, hl, hh⟩
/-- Bytes do not lie in a reader's own block. -/
theorem rd_far {B n c : Nat} {A A' : Option Addr} {n' c' : Nat} {f : Nat} (h : Rd w B A n c ys) (hp : w.heap[p]? = some (.cells #[.slice A' n' c', .int .i64 f] 83 (0, 0))) (hw : ∀ q : Addr, q.block < B → q.block ≠ p → w'.cell? q = w.cell? q) : Rd w' B A n c ys := by
  obtain ⟨h1, h2, h3, h4, h5⟩ := h
  refine ⟨h1, h2, h3, h4, fun hn => ?_⟩
  obtain ⟨b, off, e, hb, hc⟩ := h5 hn
  have hne : b ≠ p := by
    rintro rfl
    obtain ⟨u, hu⟩ : ∃ u, ys[0]? = some u := ⟨ys[0]'(by omega), List.getElem?_eq_getElem _⟩
    have := hc 0 u hu
    rw [cell_of_row w b (off + 0) _ 83 (0, 0) hp] at this
    match off, this with
    | 0, h => simp at h
    | 1, h => simp at h
    | k + 2, h => simp at h
  exact ⟨b, off, e, hb, fun j u hu => (hw _ hb hne).trans (hc j u hu)⟩
theorem Rdr.below {B : Nat} (h : Rdr w p xs f) (hb : Below B w w') (hB : w.heap.size ≤ B) : Rdr w' p xs f := by
  obtain ⟨A, c, hh, hr, hl⟩ := h
  exact ⟨A, c, (hb.block p (by have := blk_lt hh; omega)).trans hh, hr.below (hb.mono (by have := blk_lt hh; omega)), hl⟩
end


set_option maxHeartbeats 400000 in
theorem clone_any (B : Nat) (A : Option Addr) (n c : Nat) (xs : List Int) (w : World) (hr : Rd w B A n c xs) (hn : n ≤ 1000000) : Calls Tryd.prog 31 #[.slice A n c] w (NewRow w xs) := by
  obtain ⟨i0, hi, hz0, hz1, hz2⟩ := info_parts Tryd.info5
  go_enter Tryd.func31, Tryd.ntmps31
  go_wp2_with (at_builtin; refine wpList_append_rd _ rfl _ _ 33 rfl w.heap.size 5 i0 Tryd.underlying33 hi hz0 hz1 hz2 _ _ _ rfl (World.ownsRow_nil _ _ _ _) B _ _ _ _ rfl hr (by omega) (Nat.le_refl _) ?_)
  intro v' w2 hown' hg _
  have hb2 : Below w.heap.size w w2 := (Below.refl _ _).grown hg (Nat.le_refl _) (fun k hk => by cases hk)
  clear hg hr
  go_wp2
  go_ret
  exact newRow_of hown' hb2 rfl (by simp)

set_option maxHeartbeats 400000 in
theorem new_any (B : Nat) (A : Option Addr) (n c : Nat) (xs : List Int) (w : World) (hr : Rd w B A n c xs) (hn : n ≤ 100000) :
    Calls Tryd.prog 21 #[.slice A n c] w fun e w' => ∃ p, e = .returned (.pointer (some ⟨p, 0, none⟩)) ∧ w.heap.size ≤ p ∧ Rdr w' p xs 0 ∧ Below w.heap.size w w' := by
  have HL := Lib.hid hr.len
  have hx := hr.byte
  have HX := Lib.hid hx
  clear hx
  go_enter Tryd.func21, Tryd.ntmps21
  go_wp2_with fail
  refine (clone_any B A n c xs w hr (by omega)).mono ?_
  rintro e w1 ⟨A1, c1, rfl, hown, hb⟩
  go_wp2
  go_ret
  refine ⟨w1.heap.size, rfl, hb.size, ⟨A1, c1, ?_, ?_, by have := HL.out; omega⟩, hb.alloc hb.size _⟩
  · exact heap_alloc_new w1 _
  · exact (Rd.of_own hown HX.out).alloc (Nat.le_refl _) (.cells #[.slice A1 xs.length c1, .int .i64 0] 83)

set_option maxHeartbeats 400000 in
theorem err_rd (p : Nat) (xs : List Int) (f : Nat) (w : World) (h : Rdr w p xs f) : Calls Tryd.prog 58 #[.pointer (some ⟨p, 0, none⟩)] w fun e w' => e = .returned (.int .i64 f) ∧ w = w' := by
  obtain ⟨A, c, c0, c1, _, _, _, _, _⟩ := h.parts
  clear h
  go_enter Tryd.func58, Tryd.ntmps58
  go_wp2
  go_ret
  exact ⟨rfl, rfl⟩
set_option maxHeartbeats 400000 in
theorem left_rd (p : Nat) (xs : List Int) (f : Nat) (w : World) (h : Rdr w p xs f) : Calls Tryd.prog 23 #[.pointer (some ⟨p, 0, none⟩)] w fun e w' => e = .returned (.int .i64 xs.length) ∧ w = w' := by
  obtain ⟨A, c, c0, c1, _, _, _, hl, _⟩ := h.parts
  clear h
  go_enter Tryd.func23, Tryd.ntmps23
  go_wp2
  go_ret
  exact ⟨rfl, rfl⟩

/-- What 'Num' answers, and where the reader then stands. -/
def rNum (xs : List Int) (f : Nat) : Nat × List Int × Nat := if f ≠ 0 then (0, xs, f) else ((scan 0 0 xs).1, xs.drop (scan 0 0 xs).2.1, (scan 0 0 xs).2.2)
def NumPost (w : World) (p : Nat) (r : Nat × List Int × Nat) (e : Ending) (w' : World) : Prop :=
  e = .returned (.int .u64 r.1) ∧ Rdr w' p r.2.1 r.2.2 ∧ w.grownBy w' (some p)
theorem scan_size : ∀ (xs : List Int) (i acc : Nat), (scan i acc xs).2.1 ≤ i + xs.length
  | [], i, acc => by simp [scan]
  | c :: r, i, acc => by
    rw [scan]
    split
    · simp
    · split
      · simp
      · have := scan_size r (i + 1) (acc + (c.toNat - 128) * 128 ^ i)
        simp; omega
theorem scan_fault : ∀ (xs : List Int) (i acc : Nat), (scan i acc xs).2.2 ≤ 4
  | [], i, acc => by simp [scan]
  | c :: r, i, acc => by
    rw [scan]
    split
    · simp
    · split
      · simp
      · exact scan_fault r (i + 1) _

/-- 's[k:]' of bytes. -/
theorem Rd.cut {w : World} {B n c k : Nat} {A : Option Addr} {xs : List Int} (h : Rd w B A n c xs) (hk : k ≤ n) : Rd w B (if c = k then A else A.map (·.add k)) (n - k) (c - k) (xs.drop k) := by
  obtain ⟨h1, h2, h3, h4, h5⟩ := h
  refine ⟨by simp; omega, by omega, by omega, fun x hx => h4 x (List.mem_of_mem_drop hx), fun hn => ?_⟩
  obtain ⟨b, off, rfl, hb, hc⟩ := h5 (by omega)
  rw [if_neg (by omega)]
  refine ⟨b, off + k, by simp [addr_add], hb, fun j u hu => ?_⟩
  rw [List.getElem?_drop] at hu
  have := hc _ u hu
  rwa [Nat.add_assoc]

theorem grown_set {w w' : World} {p : Nat} (h : w.grownBy w' (some p)) (j : Nat) (u : Value) : w.grownBy (w'.setCell ⟨p, j, none⟩ u) (some p) :=
  ⟨h.os, h.tape, h.output, by simpa using h.size, fun k hk hne => (heap_setCell_other w' ⟨p, j, none⟩ k u (fun e => hne (by rw [e]))).trans (h.block k hk hne)⟩
/-- Both of a reader's fields stored anew. -/
theorem Rdr.put {w : World} {p n c n2 c2 f f2 : Nat} {A A2 : Option Addr} {ys : List Int} (hh : w.heap[p]? = some (.cells #[.slice A n c, .int .i64 f] 83 (0, 0))) (hr : Rd w p A2 n2 c2 ys) (hl : ys.length ≤ 100000) :
    Rdr ((w.setCell ⟨p, 0, none⟩ (.slice A2 n2 c2)).setCell ⟨p, 1, none⟩ (.int .i64 f2)) p ys f2 ∧ w.grownBy ((w.setCell ⟨p, 0, none⟩ (.slice A2 n2 c2)).setCell ⟨p, 1, none⟩ (.int .i64 f2)) (some p) := by
  obtain rfl : ys.length = n2 := hr.1
  have h1 := heap_setCell_same w p 0 _ 83 (.slice A2 ys.length c2) hh
  have h2 := heap_setCell_same _ p 1 _ 83 (.int .i64 f2) h1
  have hg : w.grownBy ((w.setCell ⟨p, 0, none⟩ (.slice A2 ys.length c2)).setCell ⟨p, 1, none⟩ (.int .i64 f2)) (some p) := grown_set (grown_set (World.grownBy.refl _ _) _ _) _ _
  refine ⟨⟨A2, c2, by simpa using h2, rd_far hr hh fun q hq hne => World.cell?_of_block (hg.block _ (Nat.lt_trans hq (blk_lt hh)) (fun e => hne (by injection e))), hl⟩, hg⟩
/-- The fault alone stored anew. -/
theorem Rdr.putF {w : World} {p f f2 : Nat} {xs : List Int} (h : Rdr w p xs f) : Rdr (w.setCell ⟨p, 1, none⟩ (.int .i64 f2)) p xs f2 ∧ w.grownBy (w.setCell ⟨p, 1, none⟩ (.int .i64 f2)) (some p) := by
  obtain ⟨A, c, hh, hr, hl⟩ := h
  have h2 := heap_setCell_same _ p 1 _ 83 (.int .i64 f2) hh
  have hg : w.grownBy (w.setCell ⟨p, 1, none⟩ (.int .i64 f2)) (some p) := grown_set (World.grownBy.refl _ _) _ _
  refine ⟨⟨A, c, by simpa using h2, rd_far hr hh fun q hq hne => World.cell?_of_block (hg.block _ (Nat.lt_trans hq (blk_lt hh)) (fun e => hne (by injection e))), hl⟩, hg⟩
theorem Rdr.putR {w : World} {p n2 c2 f : Nat} {A2 : Option Addr} {xs ys : List Int} (h : Rdr w p xs f) (hr : Rd w p A2 n2 c2 ys) (hl : ys.length ≤ 100000) :
    Rdr (w.setCell ⟨p, 0, none⟩ (.slice A2 n2 c2)) p ys f ∧ w.grownBy (w.setCell ⟨p, 0, none⟩ (.slice A2 n2 c2)) (some p) := by
  obtain ⟨A, c, hh, _, _⟩ := h
  obtain rfl : ys.length = n2 := hr.1
  have h2 := heap_setCell_same _ p 0 _ 83 (.slice A2 ys.length c2) hh
  have hg : w.grownBy (w.setCell ⟨p, 0, none⟩ (.slice A2 ys.length c2)) (some p) := grown_set (World.grownBy.refl _ _) _ _
  refine ⟨⟨A2, c2, by simpa using h2, rd_far hr hh fun q hq hne => World.cell?_of_block (hg.block _ (Nat.lt_trans hq (blk_lt hh)) (fun e => hne (by injection e))), hl⟩, hg⟩

set_option maxHeartbeats 400000 in
theorem num_rd (p : Nat) (xs : List Int) (f : Nat) (w : World) (h : Rdr w p xs f) : Calls Tryd.prog 65 #[.pointer (some ⟨p, 0, none⟩)] w (NumPost w p (rNum xs f)) := by
  by_cases hf : f = 0
  · subst hf
    obtain ⟨A, c, c0, c1, f0, f1, hr, hl, hh⟩ := h.parts
    have HH := Lib.hid hh
    clear hh
    have hsz := scan_size xs 0 0
    go_enter Tryd.func65, Tryd.ntmps65
    go_wp2_with fail
    refine (err_rd p xs 0 w h).mono ?_
    rintro e w1 ⟨rfl, rfl⟩
    go_wp2_with fail
    refine (number_any _ _ _ _ xs w hr (by omega)).mono ?_
    rintro e w1 ⟨rfl, rfl⟩
    have hrc := hr.cut (k := (scan 0 0 xs).2.1) (by omega)
    have HR := Lib.hid hrc
    clear hrc
    go_wp2
    · have hck : c = (scan 0 0 xs).2.1 := by assumption
      go_ret
      have hrc := HR.out
      rw [if_pos hck, hck, Nat.sub_self] at hrc
      have h2 := Rdr.put (f2 := (scan 0 0 xs).2.2) HH.out hrc (by simp; omega)
      simp only [rNum, NumPost]
      exact ⟨rfl, h2.1, h2.2⟩
    · have hck : ¬ c = (scan 0 0 xs).2.1 := by assumption
      go_ret
      have hrc := HR.out
      rw [if_neg hck] at hrc
      have h2 := Rdr.put (f2 := (scan 0 0 xs).2.2) HH.out hrc (by simp; omega)
      simp only [rNum, NumPost]
      exact ⟨rfl, h2.1, h2.2⟩
  · have hf' : ((f : Int) == 0) = false := by simp; omega
    have hf'' : ((f : Int) != 0) = true := by simp; omega
    go_enter Tryd.func65, Tryd.ntmps65
    go_wp2_with fail
    refine (err_rd p xs f w h).mono ?_
    rintro e w1 ⟨rfl, rfl⟩
    go_wp2
    go_ret
    have hr : rNum xs f = (0, xs, f) := by unfold rNum; rw [if_pos hf]
    rw [hr]
    exact ⟨rfl, h, World.grownBy.refl _ _⟩
end Go.Proofs.YtlkbcdbjmkfkkaaDoor
