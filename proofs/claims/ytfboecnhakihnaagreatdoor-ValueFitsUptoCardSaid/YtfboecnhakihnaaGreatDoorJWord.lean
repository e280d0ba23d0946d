/-
  The parser's 'number' and 'word'.
-/
import Derived.Test.YtfboecnhakihnaaGreatDoorJQuo
namespace Go.Proofs.YtfboecnhakihnaaGreatDoor.js
open Go.RowKit

theorem ba_ext {a b : ByteArray} (h : a.data.toList = b.data.toList) : a = b := by
  have e : a.data = b.data := by rw [← Array.toList_inj]; exact h
  cases a; cases b; cases e; rfl
/-- A JSON value without parts. -/
abbrev leaf (k : Int) (t : ByteArray) : Value := .agg #[.int .i64 k, .string t, .slice none 0 0, .slice none 0 0]
abbrev zero26 : Value := leaf 0 ⟨#[]⟩
def numT (l : Bs) : Bs := if l = [45, 48] then [48] else l

theorem Step.alloc {w w' : World} {p : Nat} {s : ByteArray} {ys : Bs} (h : Step w p s ys w') (o : Obj) : Step w p s ys (w'.alloc o) :=
  ⟨h.1.kept (World.grownBy_alloc w' o none) (by simp), gmore h.2 (World.grownBy_alloc w' o none) (fun _ e => by cases e)⟩
theorem Step.setNew {w w' : World} {p b j : Nat} {s : ByteArray} {ys : Bs} {v : Value} (h : Step w p s ys w') (hb : w.heap.size ≤ b) (hp : p < w.heap.size) : Step w p s ys (w'.setCell ⟨b, j, none⟩ v) :=
  ⟨h.1.kept (gset w' b j v) (fun e => by cases e; omega), gmore h.2 (gset w' b j v) (fun g e => by cases e; exact hb)⟩

set_option maxHeartbeats 1000000 in
set_option maxRecDepth 100000 in
theorem number_any (p : Nat) (s : ByteArray) (xs : Bs) (n : Nat) (hn : n ≤ xs.length) (w : World) (h : Par w p s xs) :
    Calls Tryz.prog 130 #[.pointer (some ⟨p, 0, none⟩), .int .i64 n] w fun e w' => e = .returned (leaf 4 (str (numT (xs.take n)))) ∧ Step w p s (xs.drop n) w' := by
  obtain ⟨k, c0, c1, f0, f1, ha, hs, _⟩ := h.parts
  have hplt := h.lt
  have hk := ha.le
  have hat := ha.drop n hn
  have hle := hat.le
  have hst := (Step.refl h).set hat
  have hpiece : s.extract k (k + n) = str (xs.take n) := ba_ext (by rw [ext_list, List.drop_take, ha.eq, Nat.add_sub_cancel_left]; rfl)
  have HPi := Lib.hid hpiece
  clear hpiece ha
  by_cases h0 : xs.take n = [45, 48]
  · rw [numT, if_pos h0]
    rw [h0] at HPi
    go_enter Tryz.func130, Tryz.ntmps130
    go_wp2
    have e1 : IntKind.i64.wrap ((k : Int) + (n : Int)) = (k : Int) + (n : Int) := IntWalk.i64_in _ (by omega)
    have e2 : ((k : Int) + (n : Int)).toNat = k + n := by omega
    have e3 : (0 : Int) ≤ (k : Int) + (n : Int) := by omega
    have e4 : (k : Int) ≤ (k : Int) + (n : Int) := by omega
    have e5 : (k : Int) + (n : Int) ≤ (s.size : Int) := by omega
    have e6 : k ≤ k + n := by omega
    go_quiet (fail)
    clear e1 e2 e3 e4 e5 e6
    have hb : ((s.extract k (k + n)).toList == [45, 48]) = true := by rw [HPi.out, Lib.toList_data]; rfl
    go_wp2
    refine bodyPost_ret (v := leaf 4 ⟨#[48]⟩) (by simp [results, Tryz.results130, go_sem]) rfl ⟨rfl, ?_⟩
    exact (((((((Step.refl h).alloc _).drewN _).set hat).setNew (Nat.le_refl _) hplt).setNew (Nat.le_refl _) hplt).setNew (Nat.le_refl _) hplt).setNew (Nat.le_refl _) hplt
  · have hb0 : ((str (xs.take n)).toList == [45, 48]) = false := by
      rw [Lib.toList_data, beq_eq_false_iff_ne]
      exact h0
    rw [numT, if_neg h0]
    generalize str (xs.take n) = T at *
    go_enter Tryz.func130, Tryz.ntmps130
    go_wp2
    have e1 : IntKind.i64.wrap ((k : Int) + (n : Int)) = (k : Int) + (n : Int) := IntWalk.i64_in _ (by omega)
    have e2 : ((k : Int) + (n : Int)).toNat = k + n := by omega
    have e3 : (0 : Int) ≤ (k : Int) + (n : Int) := by omega
    have e4 : (k : Int) ≤ (k : Int) + (n : Int) := by omega
    have e5 : (k : Int) + (n : Int) ≤ (s.size : Int) := by omega
    have e6 : k ≤ k + n := by omega
    go_quiet (fail)
    clear e1 e2 e3 e4 e5 e6
    rw [HPi.out]
    go_wp2
    refine bodyPost_ret (v := leaf 4 T) (by simp [results, Tryz.results130, go_sem]) rfl ⟨rfl, ?_⟩
    exact (((((((Step.refl h).alloc _).drewN _).set hat).setNew (Nat.le_refl _) hplt).setNew (Nat.le_refl _) hplt).setNew (Nat.le_refl _) hplt).setNew (Nat.le_refl _) hplt

abbrev wordsV : Value := .agg #[.string ⟨#[]⟩, .string ⟨#[110, 117, 108, 108]⟩, .string ⟨#[102, 97, 108, 115, 101]⟩, .string ⟨#[116, 114, 117, 101]⟩]
theorem idx0 (W : World) : (Instr.index 213 wordsV (.int .i64 0)).run Tryz.prog W = .ok (.string ⟨#[]⟩) W := by kernel_rfl
theorem idx1 (W : World) : (Instr.index 213 wordsV (.int .i64 1)).run Tryz.prog W = .ok (.string ⟨#[110, 117, 108, 108]⟩) W := by kernel_rfl
theorem idx2 (W : World) : (Instr.index 213 wordsV (.int .i64 2)).run Tryz.prog W = .ok (.string ⟨#[102, 97, 108, 115, 101]⟩) W := by kernel_rfl
theorem idx3 (W : World) : (Instr.index 213 wordsV (.int .i64 3)).run Tryz.prog W = .ok (.string ⟨#[116, 114, 117, 101]⟩) W := by kernel_rfl
/-- What 'word' answers. -/
def WordPost (w : World) (p : Nat) (s : ByteArray) (xs : Bs) (e : Ending) (w' : World) : Prop :=
  (if wordNull.isPrefixOf xs then e = .returned (.tuple #[leaf 1 ⟨#[]⟩, .int .i64 0]) ∧ Step w p s (xs.drop 4) w'
  else if wordFalse.isPrefixOf xs then e = .returned (.tuple #[leaf 2 ⟨#[]⟩, .int .i64 0]) ∧ Step w p s (xs.drop 5) w'
  else if wordTrue.isPrefixOf xs then e = .returned (.tuple #[leaf 3 ⟨#[]⟩, .int .i64 0]) ∧ Step w p s (xs.drop 4) w'
  else e = .returned (.tuple #[zero26, .int .i64 4]) ∧ Step w p s xs w')
abbrev zcells : Array Value := #[.int .i64 0, .string ⟨#[]⟩, .slice none 0 0, .slice none 0 0]
def WRel (w : World) (p : Nat) (s : ByteArray) (xs : Bs) (wr : World) : Prop := Step w p s xs wr ∧ wr.heap[w.heap.size]? = some (.cells zcells 37 (0, 0))
theorem WRel.drewN {w wr : World} {p : Nat} {s : ByteArray} {xs : Bs} (h : WRel w p s xs wr) (n : Nat) : WRel w p s xs (wr.drewN n) := ⟨h.1.drewN n, h.2⟩
theorem quiet_same {f : FuncId} {args : Array Value} {w : World} {v : Value} (h : ∀ n, Calls Tryz.prog f args (w.drewN n) fun e w' => e = .returned v ∧ w' = w.drewN n) (n : Nat) : Calls Tryz.prog f args (w.drewN n) fun e w'' => e = .returned v ∧ ∃ m, w'' = w.drewN m :=
  Calls.quiet_of_same (h n)
/-- One word that is asked for: it stands there, or not. -/
theorem pre_word {s : ByteArray} {k : Nat} {xs : Bs} (ha : At s k xs) (t : ByteArray) (w1 : World) : Calls Tryz.prog 147 #[.string (s.extract k s.size), .string t] w1 fun e w' => e = .returned (.bool (t.data.toList.isPrefixOf xs)) ∧ w' = w1 := by
  have := Tryz.strings_HasPrefix (s.extract k s.size) t w1
  rw [ha.rest] at this
  exact this
theorem pre_len {l xs : Bs} (h : l.isPrefixOf xs = true) : l.length ≤ xs.length := (List.isPrefixOf_iff_prefix.1 h).length_le

set_option maxHeartbeats 1000000 in
set_option maxRecDepth 100000 in
theorem word_any (p : Nat) (s : ByteArray) (xs : Bs) (w : World) (h : Par w p s xs) (hG : Gl w) :
    Calls Tryz.prog 131 #[.pointer (some ⟨p, 0, none⟩)] w (WordPost w p s xs) := by
  obtain ⟨k, c0, c1, f0, f1, ha, hs, _⟩ := h.parts
  have hplt := h.lt
  obtain ⟨_, g0, g1, g2, g3, _⟩ := hG
  have hz2 : 2 < w.heap.size := World.block_lt_of_cell? w ⟨2, 0, none⟩ g0
  have hrel0 : WRel w p s xs (w.alloc (.cells zcells 37)) := ⟨(Step.refl h).alloc _, heap_alloc_new w _⟩
  go_enter Tryz.func131, Tryz.ntmps131
  go_wp2
  go_step3
  go_wp2
  go_step3
  go_wp2
  clear g0 g1 g2 g3 c0 c1 f0 f1 ha
  go_loopg [7] 4 (fun g i wr => ∃ (j : Nat), j + g = 4 ∧ i = .int .i64 j ∧ Hid (2 ≤ j → wordNull.isPrefixOf xs = false) ∧ Hid (3 ≤ j → wordFalse.isPrefixOf xs = false) ∧ Hid (4 ≤ j → wordTrue.isPrefixOf xs = false) ∧ WRel w p s xs wr)
  case atStart => exact ⟨0, rfl, rfl, (fun h => by omega), (fun h => by omega), (fun h => by omega), hrel0⟩
  case round =>
    obtain ⟨j, hj, rfl, H1, H2, H3, hst, hz⟩ := hrel
    clear hrel0
    obtain ⟨k, c0, c1, f0, f1, ha, hs', _⟩ := hst.1.parts
    have hk := ha.le
    have i0 := idx0
    have i1 := idx1
    have i2 := idx2
    have i3 := idx3
    have z0 : wr.cell? ⟨w.heap.size, 0, none⟩ = some (.int .i64 0) := by rw [cell_of_row _ _ _ _ _ _ hz]; rfl
    have z1 : wr.cell? ⟨w.heap.size, 1, none⟩ = some (.string ⟨#[]⟩) := by rw [cell_of_row _ _ _ _ _ _ hz]; rfl
    have z2 : wr.cell? ⟨w.heap.size, 2, none⟩ = some (.slice none 0 0) := by rw [cell_of_row _ _ _ _ _ _ hz]; rfl
    have z3 : wr.cell? ⟨w.heap.size, 3, none⟩ = some (.slice none 0 0) := by rw [cell_of_row _ _ _ _ _ _ hz]; rfl
    have y0 := frozen_of_row wr w.heap.size 0 _ 37 hz
    have y1 := frozen_of_row wr w.heap.size 1 _ 37 hz
    have y2 := frozen_of_row wr w.heap.size 2 _ 37 hz
    have y3 := frozen_of_row wr w.heap.size 3 _ 37 hz
    match j, hj, H1, H2, H3 with
    | 0, hj, _, _, _ =>
      go_wp2
      go_roundg 3
      case measure => omega
      case rel => exact ⟨1, rfl, rfl, (fun h => by omega), (fun h => by omega), (fun h => by omega), hst, hz⟩
    | 1, hj, _, _, _ =>
      have hpre := pre_word ha ⟨#[110, 117, 108, 108]⟩
      have hat := fun hp : wordNull.isPrefixOf xs = true => ha.drop 4 (pre_len hp)
      change ∀ w1, Calls Tryz.prog 147 #[.string (s.extract k s.size), .string ⟨#[110, 117, 108, 108]⟩] w1 fun e w' => e = .returned (.bool (wordNull.isPrefixOf xs)) ∧ w' = w1 at hpre
      have HPre := Lib.hid hpre
      clear hpre
      cases hb : wordNull.isPrefixOf xs with
      | true =>
        have hat' := hat hb
        have hle := hat'.le
        rw [hb] at HPre
        have HB := Lib.hid hb
        clear hat hb ha
        go_wp2
        go_quiet ((go_at_call 147; exact quiet_same (fun n => HPre.out _) _))
        go_wp2
        refine bodyPost_ret (v := .tuple #[leaf 1 ⟨#[]⟩, .int .i64 0]) (by simp [results, Tryz.results131, go_sem, z0, z1, z2, z3]) rfl ?_
        unfold WordPost
        rw [if_pos HB.out]
        refine ⟨rfl, ?_⟩
        exact (((((hst.drewN _).set hat').setNew (Nat.le_refl _) hplt).setNew (Nat.le_refl _) hplt).setNew (Nat.le_refl _) hplt).setNew (Nat.le_refl _) hplt
      | false =>
        rw [hb] at HPre
        clear hat ha
        have HB := Lib.hid hb
        clear hb
        go_wp2
        go_quiet ((go_at_call 147; exact quiet_same (fun n => HPre.out _) _))
        go_wp2
        go_roundg 2
        case measure => omega
        case rel => exact ⟨2, rfl, rfl, (fun h => HB.out), (fun h => by omega), (fun h => by omega), hst.drewN _, hz⟩
    | 2, hj, H1, _, _ =>
      have hpre := pre_word ha ⟨#[102, 97, 108, 115, 101]⟩
      have hat := fun hp : wordFalse.isPrefixOf xs = true => ha.drop 5 (pre_len hp)
      change ∀ w1, Calls Tryz.prog 147 #[.string (s.extract k s.size), .string ⟨#[102, 97, 108, 115, 101]⟩] w1 fun e w' => e = .returned (.bool (wordFalse.isPrefixOf xs)) ∧ w' = w1 at hpre
      have HPre := Lib.hid hpre
      clear hpre
      cases hb : wordFalse.isPrefixOf xs with
      | true =>
        have hat' := hat hb
        have hle := hat'.le
        rw [hb] at HPre
        have HB := Lib.hid hb
        clear hat hb ha
        go_wp2
        go_quiet ((go_at_call 147; exact quiet_same (fun n => HPre.out _) _))
        go_wp2
        refine bodyPost_ret (v := .tuple #[leaf 2 ⟨#[]⟩, .int .i64 0]) (by simp [results, Tryz.results131, go_sem, z0, z1, z2, z3]) rfl ?_
        unfold WordPost
        rw [if_neg (by rw [H1.out (by omega)]; simp), if_pos HB.out]
        refine ⟨rfl, ?_⟩
        exact (((((hst.drewN _).set hat').setNew (Nat.le_refl _) hplt).setNew (Nat.le_refl _) hplt).setNew (Nat.le_refl _) hplt).setNew (Nat.le_refl _) hplt
      | false =>
        rw [hb] at HPre
        clear hat ha
        have HB := Lib.hid hb
        clear hb
        go_wp2
        go_quiet ((go_at_call 147; exact quiet_same (fun n => HPre.out _) _))
        go_wp2
        go_roundg 1
        case measure => omega
        case rel => exact ⟨3, rfl, rfl, (fun h => H1.out (by omega)), (fun h => HB.out), (fun h => by omega), hst.drewN _, hz⟩
    | 3, hj, H1, H2, _ =>
      have hpre := pre_word ha ⟨#[116, 114, 117, 101]⟩
      have hat := fun hp : wordTrue.isPrefixOf xs = true => ha.drop 4 (pre_len hp)
      change ∀ w1, Calls Tryz.prog 147 #[.string (s.extract k s.size), .string ⟨#[116, 114, 117, 101]⟩] w1 fun e w' => e = .returned (.bool (wordTrue.isPrefixOf xs)) ∧ w' = w1 at hpre
      have HPre := Lib.hid hpre
      clear hpre
      cases hb : wordTrue.isPrefixOf xs with
      | true =>
        have hat' := hat hb
        have hle := hat'.le
        rw [hb] at HPre
        have HB := Lib.hid hb
        clear hat hb ha
        go_wp2
        go_quiet ((go_at_call 147; exact quiet_same (fun n => HPre.out _) _))
        go_wp2
        refine bodyPost_ret (v := .tuple #[leaf 3 ⟨#[]⟩, .int .i64 0]) (by simp [results, Tryz.results131, go_sem, z0, z1, z2, z3]) rfl ?_
        unfold WordPost
        rw [if_neg (by rw [H1.out (by omega)]; simp), if_neg (by rw [H2.out (by omega)]; simp), if_pos HB.out]
        refine ⟨rfl, ?_⟩
        exact (((((hst.drewN _).set hat').setNew (Nat.le_refl _) hplt).setNew (Nat.le_refl _) hplt).setNew (Nat.le_refl _) hplt).setNew (Nat.le_refl _) hplt
      | false =>
        rw [hb] at HPre
        clear hat ha
        have HB := Lib.hid hb
        clear hb
        go_wp2
        go_quiet ((go_at_call 147; exact quiet_same (fun n => HPre.out _) _))
        go_wp2
        go_roundg 0
        case measure => omega
        case rel => exact ⟨4, rfl, rfl, (fun h => H1.out (by omega)), (fun h => H2.out (by omega)), (fun h => HB.out), hst.drewN _, hz⟩
    | 4, hj, H1, H2, H3 =>
      go_wp2
      refine bodyPost_ret (v := .tuple #[zero26, .int .i64 4]) (by simp [results, Tryz.results131, go_sem, z0, z1, z2, z3]) rfl ?_
      unfold WordPost
      rw [if_neg (by rw [H1.out (by omega)]; simp), if_neg (by rw [H2.out (by omega)]; simp), if_neg (by rw [H3.out (by omega)]; simp)]
      refine ⟨rfl, ?_⟩
      exact (((hst.setNew (Nat.le_refl _) hplt).setNew (Nat.le_refl _) hplt).setNew (Nat.le_refl _) hplt).setNew (Nat.le_refl _) hplt
    | j + 5, hj, _, _, _ => omega
end Go.Proofs.YtfboecnhakihnaaGreatDoor.js
