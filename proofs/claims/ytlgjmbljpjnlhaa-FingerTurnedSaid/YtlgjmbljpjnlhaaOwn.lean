/-
  The statements' own helpers: a copy with spare room ('Own'), whether it stayed as it was ('Kept', 'Plain', 'Same'), and bytes turned ('Spoil').
-/
import Derived.Test.YtlgjmbljpjnlhaaRow
import Derived.Test.YtlgjmbljpjnlhaaRows
import Derived.Deep.QuietTactic
import Derived.BigQuiet
namespace Go.Proofs.Ytlgjmbljpjnlhaa
open Go.RowKit

theorem Try.info5 : (Try.prog.info? 5).map (fun i => (i.zero, i.size, i.bytes)) = some (some (.int .u8 0), 1, 1) := by kernel_rfl

/-- Block g is a row of just these bytes, none frozen. -/
def Row (w : World) (g : Nat) (xs : List Int) : Prop := w.heap[g]? = some (.cells (cellsB xs).toArray 5 (0, 0))

section
variable {w w' : World} {g B : Nat} {xs : List Int}
theorem Row.lt (h : Row w g xs) : g < w.heap.size := by
  rcases Nat.lt_or_ge g w.heap.size with hlt | hge
  · exact hlt
  · unfold Row at h; rw [Array.getElem?_eq_none hge] at h; cases h
theorem Row.cell (h : Row w g xs) {j : Nat} (hj : j < xs.length) : w.cell? ⟨g, j, none⟩ = some (.int .u8 (xs.getD j 0)) := by
  rw [cell_of_row w g j _ 5 (0, 0) h]
  simp [cellsB, hj]
theorem Row.frozen (h : Row w g xs) (j : Nat) : w.frozen? ⟨g, j, none⟩ = false := frozen_of_row w g j _ 5 h
theorem Row.below (h : Row w g xs) (hb : Below B w w') (hg : g < B) : Row w' g xs := (hb.block g hg).trans h
theorem Row.set (h : Row w g xs) (j : Nat) (u : Int) : Row (w.setCell ⟨g, j, none⟩ (.int .u8 u)) g (xs.set j u) := by
  have := heap_setCell_same w g j _ 5 (.int .u8 u) h
  unfold Row
  rw [this]
  simp [cellsB]
theorem Row.rd (h : Row w g xs) (hx : ∀ x ∈ xs, 0 ≤ x ∧ x < 256) (n c : Nat) (hn : n ≤ xs.length) (hc : n ≤ c) (hm : c ≤ maxLen) : Rd w w.heap.size (some ⟨g, 0, none⟩) n c (xs.take n) := by
  refine ⟨by simp; omega, hc, hm, fun x hx' => hx x (List.mem_of_mem_take hx'), fun _ => ⟨g, 0, rfl, h.lt, fun j u hu => ?_⟩⟩
  rw [List.getElem?_take] at hu
  split at hu
  · rename_i hj
    rw [Nat.zero_add, h.cell (by omega), List.getD_eq_getElem?_getD, hu]; rfl
  · cases hu
theorem Row.of_own {base n cap : Nat} {vs : List Value} (h : w.ownsRow base 5 1 (.slice (some ⟨g, 0, none⟩) n cap) n vs) : ∃ cur : Array Value, w.heap[g]? = some (.cells cur 5 (0, 0)) ∧ n ≤ cap ∧ cap ≤ maxLen ∧ cur.size = cap ∧ cur.toList.take n = vs := by
  rcases h.2 with ⟨h', _⟩ | ⟨g', cap', cur, h', _, hg, hnc, hcm, hcs, htake⟩
  · simp at h'
  · simp only [Value.slice.injEq, Option.some.injEq, Addr.mk.injEq, and_true, true_and] at h'
    obtain ⟨rfl, rfl⟩ := h'
    exact ⟨cur, hg, hnc, hcm, by simpa using hcs, by simpa using htake⟩
end

theorem wpList_append_fits_rd {P : Program} (w : World) {ops : Array Oper} {rest : List Oper} {o : Oper} {a : Act} {Q : Exit → Act → World → Prop}
    (hg : o.guard = none) (s x : Operand) (t : TypeId) (hop : o.op = Op.call { callee := Callee.builtin Builtin.append, args := #[s, x], argTypes := #[t, t] })
    (base : Nat) (e : TypeId) (i : TypeInfo) (h1 : P.underlying t = some (.slice e)) (h2 : P.info? e = some i) (h4 : i.size = 1)
    (g k cap : Nat) (xs : List Value) (hs : a.eval s = .slice (some ⟨g, 0, none⟩) k cap) (hown : w.ownsRow base e 1 (.slice (some ⟨g, 0, none⟩) k cap) k xs)
    (B : Nat) (A : Option Addr) (m c : Nat) (ys : List Int) (hx : a.eval x = .slice A m c) (hr : Rd w B A m c ys) (b1 : k + m ≤ cap)
    (hK : ∀ w', w'.ownsRow base e 1 (.slice (some ⟨g, 0, none⟩) (k + m) cap) (k + m) (xs ++ cellsB ys) → w.grownBy w' (some g) → wpList P ops Q rest (a.put o.dst (.slice (some ⟨g, 0, none⟩) (k + m) cap)) w') :
    wpList P ops Q (o :: rest) a w := by
  have hl := hr.1
  cases A with
  | some ad =>
    have hcells : ∀ j u, (cellsB ys)[j]? = some u → w.cell? (ad.add j) = some u := by
      intro j u hu
      rcases Nat.eq_zero_or_pos m with h0 | h0
      · subst h0
        have hn : ys = [] := List.eq_nil_of_length_eq_zero hl
        subst hn
        simp at hu
      · obtain ⟨b, off, h, _, hc⟩ := hr.2.2.2.2 h0
        injection h with h
        subst h
        rw [addr_add]
        simp only [cellsB, List.getElem?_map, Option.map_eq_some_iff] at hu
        obtain ⟨y, hy, rfl⟩ := hu
        exact hc j y hy
    exact wpList_append_fits w hg s x t hop base e i 1 h1 h2 h4 g k cap xs hs hown ad m c (cellsB ys) hx (by simpa using hl) hcells (ints_oneCell _ _) b1 hK
  | none =>
    have hm : m = 0 := by
      rcases Nat.eq_zero_or_pos m with h0 | h0
      · exact h0
      · obtain ⟨_, _, h, _⟩ := hr.2.2.2.2 h0
        cases h
    subst hm
    have hn : ys = [] := List.eq_nil_of_length_eq_zero hl
    subst hn
    refine wpList_plain hg fun K hK' => ?_
    have hrun := run_append_nil_src (P := P) w base t o.type e i 1 h1 h2 _ k xs hown c
    unfold Oper.wp
    simp [execOp, hop, resolve, invoke, builtin, hs, hx, hrun, Result.andThen]
    exact hK' _ _ (by simpa using hK w (by simpa using hown) (World.grownBy.refl _ _))

/-- The row that 'Own' fills, k of its last three cells done. -/
def OwnRel (w : World) (n : Nat) (xs : List Int) (f : Int) (k : Nat) (wr : World) : Prop :=
  ∃ vs : List Value, wr.heap[w.heap.size]? = some (.cells vs.toArray 5 (0, 0)) ∧ vs.length = n + 3 ∧ vs.take (n + k) = cellsB (xs ++ List.replicate k f) ∧ Below w.heap.size w wr
theorem OwnRel.cell {w wr : World} {n k : Nat} {xs : List Int} {f : Int} (h : OwnRel w n xs f k wr) (hk : k < 3) : ∃ v, wr.cell? ⟨w.heap.size, n + k, none⟩ = some v ∧ wr.frozen? ⟨w.heap.size, n + k, none⟩ = false := by
  obtain ⟨vs, hh, hl, _, _⟩ := h
  refine ⟨vs[n + k]'(by omega), ?_, frozen_of_row _ _ _ _ _ hh⟩
  rw [cell_of_row _ _ _ _ _ _ hh]
  simp
theorem OwnRel.step {w wr : World} {n k : Nat} {xs : List Int} {f : Int} (h : OwnRel w n xs f k wr) (hk : k < 3) : OwnRel w n xs f (k + 1) (wr.setCell ⟨w.heap.size, n + k, none⟩ (.int .u8 f)) := by
  obtain ⟨vs, hh, hl, ht, hb⟩ := h
  refine ⟨vs.set (n + k) (.int .u8 f), ?_, by simpa using hl, ?_, hb.setCell (Nat.le_refl _) _⟩
  · rw [heap_setCell_same _ _ _ _ _ _ hh]; simp
  · rw [show n + (k + 1) = (n + k) + 1 from by omega, List.take_succ_eq_append_getElem (by simp; omega), List.take_set_of_le (Nat.le_refl _), ht, List.getElem_set_self, List.replicate_succ']
    simp [cellsB]
theorem OwnRel.row {w wr : World} {n k : Nat} {xs : List Int} {f : Int} (h : OwnRel w n xs f k wr) (hk : ¬ k < 3) (hk3 : k ≤ 3) : Row wr w.heap.size (xs ++ [f, f, f]) ∧ Below w.heap.size w wr := by
  obtain rfl : k = 3 := by omega
  obtain ⟨vs, hh, hl, ht, hb⟩ := h
  rw [List.take_of_length_le (by omega)] at ht
  subst ht
  exact ⟨hh, hb⟩

/-- What 'Own' leaves: a copy at the head of a new block, three bytes of room behind it, filled. -/
def OwnPost (w : World) (n : Nat) (xs : List Int) (f : Int) (e : Ending) (w' : World) : Prop :=
  ∃ g, e = .returned (.slice (some ⟨g, 0, none⟩) n (n + 3)) ∧ w.heap.size ≤ g ∧ Row w' g (xs ++ [f, f, f]) ∧ Below w.heap.size w w'

set_option maxHeartbeats 400000 in
set_option maxRecDepth 100000 in
theorem own_any (B : Nat) (A : Option Addr) (n c : Nat) (xs : List Int) (f : Int) (w : World) (hr : Rd w B A n c xs) (hB : B ≤ w.heap.size) (hn : n ≤ 100000) :
    Calls Try.prog 6 #[.slice A n c, .int .u8 f] w (OwnPost w n xs f) := by
  obtain ⟨i0, hi, hz0, hz1, hz2⟩ := info_parts Try.info5
  have HL := Lib.hid hr.len
  go_enter Try.func6, Try.ntmps6
  go_wp2_with (first
   | (at_make; refine wpList_make_own _ rfl _ _ 22 rfl w.heap.size 5 i0 (.int .u8 0) 1 Try.underlying22 hi hz0 hz1 .i64 .i64 _ (n + 3) rfl rfl (by omega) (by rw [hz2]; omega) (by unfold maxLen; omega) (Nat.le_refl _) ?_; intro w1 hown1 hg1; have hb1 : Below w.heap.size w w1 := (Below.refl _ _).grown hg1 (Nat.le_refl _) (fun _ h => by cases h); have hr1 : Rd w1 B A n c xs := hr.below (hb1.mono hB); clear hg1 hr)
   | (at_builtin; refine wpList_append_fits_rd _ rfl _ _ 22 rfl w.heap.size 5 i0 Try.underlying22 hi hz1 w.heap.size 0 (n + 3) [] rfl hown1 B A n c xs rfl hr1 (by omega) ?_; simp only [Nat.zero_add, List.nil_append]; intro w2 hown2 hg2; have hb2 : Below w.heap.size w w2 := hb1.grown hg2 hb1.size (fun k h => by cases h; exact Nat.le_refl _); clear hg2 hown1 hr1 hb1; obtain ⟨cur, hcur, _, _, hcs, hct⟩ := Row.of_own hown2))
  have hrel0 : OwnRel w n xs f 0 w2 := ⟨cur.toList, by simpa using hcur, by simpa using hcs, by simpa using hct, hb2⟩
  clear hcur hcs hct hown2 hb2
  go_loopw [7] (fun i wr => ∃ k : Nat, k ≤ 3 ∧ i = .int .i64 ((n + k : Nat) : Int) ∧ OwnRel w n xs f k wr) (fun i _ => n + 3 - (intOf i).toNat)
  case atStart => exact ⟨0, by omega, rfl, hrel0⟩
  case round =>
    obtain ⟨k, hk, rfl, hrel⟩ := hrel
    by_cases hlt : k < 3
    · obtain ⟨v0, hc, hf⟩ := hrel.cell hlt
      go_wp2
      go_roundw
      case rel => exact ⟨k + 1, by omega, by go_num, hrel.step hlt⟩
      case measure => simp [intOf]; omega
    · go_wp2
      go_ret
      exact ⟨w.heap.size, rfl, Nat.le_refl _, hrel.row hlt hk⟩

set_option maxHeartbeats 400000 in
theorem eqb_same (x : Int) (w : World) : Calls Try.prog 18 #[.int .u8 x, .int .u8 x] w fun e w' => e = .returned (.bool true) ∧ w' = w := by
  go_enter Try.func18, Try.ntmps18
  go_wp2
  go_ret
  exact ⟨rfl, rfl⟩

set_option maxHeartbeats 400000 in
set_option maxRecDepth 100000 in
theorem same_same (B : Nat) (A A' : Option Addr) (n c c' : Nat) (xs : List Int) (w : World) (hr : Rd w B A n c xs) (hr' : Rd w B A' n c' xs) (hB : B ≤ w.heap.size) (hn : n ≤ 100000) :
    Calls Try.prog 17 #[.slice A n c, .slice A' n c', .func (.func 18) #[] #[]] w fun e w' => e = .returned (.bool true) ∧ Below w.heap.size w w' := by
  go_enter Try.func17, Try.ntmps17
  go_wp2
  go_loopw [7] (fun i wr => ∃ k : Nat, k ≤ n ∧ i = .int .i64 k ∧ Below w.heap.size w wr) (fun i _ => n - (intOf i).toNat)
  case atStart => exact ⟨0, by omega, rfl, Below.refl _ _⟩
  case round =>
    obtain ⟨k, hk, rfl, hb⟩ := hrel
    by_cases hlt : k < n
    · obtain ⟨b, off, rfl, _, hc⟩ := (hr.below (hb.mono hB)).at_ hlt
      obtain ⟨b', off', rfl, _, hc'⟩ := (hr'.below (hb.mono hB)).at_ hlt
      generalize xs.getD k 0 = x at hc hc'
      clear hr hr'
      go_wp2_with fail
      go_quiet ((go_at_call 18; exact Calls.quiet_of_same (eqb_same _ _)))
      go_wp2
      go_roundw
      case rel => exact ⟨k + 1, by omega, by go_num, below_drewN hb _⟩
      case measure => simp [intOf]; omega
    · go_wp2
      go_ret
      exact ⟨rfl, hb⟩

set_option maxHeartbeats 400000 in
theorem plain_same (B : Nat) (A A' : Option Addr) (n c c' : Nat) (xs : List Int) (w : World) (hr : Rd w B A n c xs) (hr' : Rd w B A' n c' xs) (hB : B ≤ w.heap.size) (hn : n ≤ 100000) :
    Calls Try.prog 14 #[.slice A n c, .slice A' n c'] w fun e w' => e = .returned (.bool true) ∧ Below w.heap.size w w' := by
  go_enter Try.func14, Try.ntmps14
  go_wp2_with fail
  refine (same_same B A A' n c c' xs w hr hr' hB hn).mono ?_
  rintro e w' ⟨rfl, hb⟩
  go_wp2
  go_ret
  exact ⟨rfl, hb⟩

set_option maxHeartbeats 400000 in
set_option maxRecDepth 100000 in
theorem kept_true (A : Option Addr) (g n c : Nat) (xs : List Int) (f : Int) (w : World) (hrow : Row w g (xs ++ [f, f, f])) (hf : 0 ≤ f ∧ f < 256) (hr : Rd w w.heap.size A n c xs) (hn : n ≤ 100000) :
    Calls Try.prog 11 #[.slice (some ⟨g, 0, none⟩) n (n + 3), .slice A n c, .int .u8 f] w fun e w' => e = .returned (.bool true) ∧ Below w.heap.size w w' := by
  have HL := Lib.hid hr.len
  have hr1 : Rd w w.heap.size (some ⟨g, 0, none⟩) n (n + 3) xs := by
    have := hrow.rd (n := n) (c := n + 3) (fun x hx => by
      rw [List.mem_append] at hx
      rcases hx with hx | hx
      · exact hr.byte x hx
      · simp at hx; subst hx; exact hf) (by simp; have := HL.out; omega) (by omega) (by unfold maxLen; omega)
    rwa [List.take_left' HL.out] at this
  go_enter Try.func11, Try.ntmps11
  go_wp2_with fail
  refine (plain_same w.heap.size _ _ n _ _ xs w hr1 hr (Nat.le_refl _) hn).mono ?_
  rintro e w1 ⟨rfl, hb1⟩
  have hrow1 := hrow.below hb1 hrow.lt
  clear hr1 hrow
  go_wp2
  go_loop [8] (fun i => ∃ k : Nat, k ≤ 3 ∧ i = .int .i64 ((n + k : Nat) : Int)) (fun i => n + 3 - (intOf i).toNat)
  case atStart => exact ⟨0, by omega, rfl⟩
  case round =>
    obtain ⟨k, hk, rfl⟩ := hrel
    by_cases hlt : k < 3
    · have hc : w1.cell? ⟨g, n + k, none⟩ = some (.int .u8 f) := by
        have := hrow1.cell (j := n + k) (by simp; have := HL.out; omega)
        rw [this, List.getD_eq_getElem?_getD, List.getElem?_append_right (by have := HL.out; omega)]
        have : n + k - xs.length = k := by have := HL.out; omega
        rw [this]
        match k, hlt with
        | 0, _ => rfl
        | 1, _ => rfl
        | 2, _ => rfl
      go_wp2
      go_round
      case rel => exact ⟨k + 1, by omega, by go_num⟩
      case measure => simp [intOf]; omega
    · go_wp2
      go_ret
      exact ⟨rfl, hb1⟩

theorem Row.own {w : World} {g B n c : Nat} {xs ys : List Int} (h : Row w g (xs ++ ys)) (hB : B ≤ g) (hn : xs.length = n) (hc : c = n + ys.length) (hm : c ≤ maxLen) : w.ownsRow B 5 1 (.slice (some ⟨g, 0, none⟩) n c) n (cellsB xs) :=
  ⟨by simpa using hn, .inr ⟨g, c, _, rfl, hB, h, by omega, hm, by simp; omega, by simp [hn]⟩⟩

end Go.Proofs.Ytlgjmbljpjnlhaa
