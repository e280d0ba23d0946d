/-
  'clone' of a value that has nothing within it.
-/
import Derived.Test.YtjcnjaebmndeiaaDoorDgs
namespace Go.Proofs.YtjcnjaebmndeiaaDoor
open Go.RowKit

set_option maxHeartbeats 1000000 in
set_option maxRecDepth 100000 in
theorem count_leaf (k : Nat) (t : ByteArray) (A A' : Option Addr) (c1 c2 : Nat) (w : World) :
    Calls Tryd.prog 66 #[jv k t A A' 0 c1 0 c2] w fun e w' => e = .returned (.tuple #[.int .i64 1, .int .i64 0]) ∧ Below w.heap.size w w' := by
  go_enter Tryd.func66, Tryd.ntmps66
  go_wp2
  go_quiet (fail)
  go_wp2
  have hb0 : Below w.heap.size w (((w.alloc (.cells #[.int .i64 k, .string t, .slice A 0 c1, .slice A' 0 c2] 26)).drewN nq).alloc (.cells #[.slice A 0 c1] 23)) := by
    have h := ((Below.refl w.heap.size w).alloc (Nat.le_refl _) (.cells #[.int .i64 k, .string t, .slice A 0 c1, .slice A' 0 c2] 26)).alloc (o := .cells #[.slice A 0 c1] 23) (by simp)
    exact ⟨h.os, h.tape, h.output, h.size, h.block⟩
  have hc0 : (((w.alloc (.cells #[.int .i64 k, .string t, .slice A 0 c1, .slice A' 0 c2] 26)).drewN nq).alloc (.cells #[.slice A 0 c1] 23)).cell? ⟨w.heap.size + 1, 0, none⟩ = some (.slice A 0 c1) := by
    have h := heap_alloc_new ((w.alloc (.cells #[.int .i64 k, .string t, .slice A 0 c1, .slice A' 0 c2] 26)).drewN nq) (.cells #[.slice A 0 c1] 23 (0, 0))
    rw [show ((w.alloc (.cells #[.int .i64 k, .string t, .slice A 0 c1, .slice A' 0 c2] 26)).drewN nq).heap.size = w.heap.size + 1 by simp] at h
    exact cell_of_row _ _ 0 _ _ _ h
  generalize (((w.alloc (.cells #[.int .i64 k, .string t, .slice A 0 c1, .slice A' 0 c2] 26)).drewN nq).alloc (.cells #[.slice A 0 c1] 23)) = W1 at *
  go_loopg [2, 3, 4] 1 (fun g v2 v3 v4 wr => v2 = .int .i64 1 ∧ v3 = .int .i64 0 ∧ ((g = 1 ∧ v4 = .slice (some ⟨w.heap.size + 1, 0, none⟩) 1 1) ∨ (g = 0 ∧ v4 = .slice (some ⟨w.heap.size + 1, 0, none⟩) 0 1)) ∧ W1 = wr)
  case atStart => exact ⟨rfl, rfl, .inl ⟨rfl, rfl⟩, rfl⟩
  case round =>
    obtain ⟨rfl, rfl, h | h, rfl⟩ := hrel
    · obtain ⟨hg, rfl⟩ := h
      have HG := Lib.hid hg
      clear hg
      go_wp2
      go_loopg [3, 4, 34] 0 (fun g v3 v4 i wr => v3 = .int .i64 0 ∧ v4 = .slice (some ⟨w.heap.size + 1, 0, none⟩) 0 1 ∧ i = .int .i64 0 ∧ W1 = wr)
      case atStart => exact ⟨rfl, rfl, rfl, rfl⟩
      case round =>
        obtain ⟨rfl, rfl, rfl, rfl⟩ := hrel
        go_wp2
        go_roundg 0
        case measure => have := HG.out; omega
        case rel => exact ⟨rfl, rfl, .inr ⟨rfl, rfl⟩, rfl⟩
    · obtain ⟨hg, rfl⟩ := h
      clear hg
      go_wp2
      go_ret2
      exact ⟨rfl, hb0⟩
theorem cells_4 {w : World} {b : Nat} {v0 v1 v2 v3 : Value} (h : w.heap[b]? = some (.cells #[v0, v1, v2, v3] 26 (0, 0))) : w.cell? ⟨b, 0, none⟩ = some v0 ∧ w.cell? ⟨b, 1, none⟩ = some v1 ∧ w.cell? ⟨b, 2, none⟩ = some v2 ∧ w.cell? ⟨b, 3, none⟩ = some v3 :=
  ⟨cell_of_row w b 0 _ _ _ h, cell_of_row w b 1 _ _ _ h, cell_of_row w b 2 _ _ _ h, cell_of_row w b 3 _ _ _ h⟩
theorem frozen_4 {w : World} {b : Nat} {v0 v1 v2 v3 : Value} (h : w.heap[b]? = some (.cells #[v0, v1, v2, v3] 26 (0, 0))) : w.frozen? ⟨b, 0, none⟩ = false ∧ w.frozen? ⟨b, 1, none⟩ = false ∧ w.frozen? ⟨b, 2, none⟩ = false ∧ w.frozen? ⟨b, 3, none⟩ = false :=
  ⟨frozen_of_row w b 0 _ 26 h, frozen_of_row w b 1 _ 26 h, frozen_of_row w b 2 _ 26 h, frozen_of_row w b 3 _ 26 h⟩
theorem new_at {W : World} {n : Nat} (hn : W.heap.size = n) (o : Obj) : (W.alloc o).heap[n]? = some o := by subst hn; exact heap_alloc_new W o
theorem old_at {W : World} {n : Nat} {o : Obj} (o' : Obj) (h : W.heap[n]? = some o) : (W.alloc o').heap[n]? = some o := ((Fr.refl W (fun _ => True)).alloc o').at h trivial
theorem make1 (W : World) : (Instr.makeSlice 23 (.int .i64 0) (.int .i64 1)).run Tryd.prog W = .ok (.slice (some ⟨W.heap.size, 0, none⟩) 0 1) (W.alloc (.cells #[.int .i64 0, .string ⟨#[]⟩, .slice none 0 0, .slice none 0 0] 26)) := by kernel_rfl
theorem make0 (W : World) : (Instr.makeSlice 24 (.int .i64 0) (.int .i64 0)).run Tryd.prog W = .ok (.slice (some ⟨W.heap.size, 0, none⟩) 0 0) (W.alloc (.cells #[] 9)) := by kernel_rfl
set_option maxHeartbeats 1000000 in
theorem extend_none (v : Value) (n c : Nat) (A A' : Option Addr) (c' : Nat) (w : World) (hv : v = .slice A n c) :
    Calls Tryd.prog 82 #[v, .slice A' 0 c'] w fun e w' => e = .returned (.tuple #[v, .slice none 0 0]) ∧ w' = w := by
  subst hv
  go_enter Tryd.func82, Tryd.ntmps82
  go_wp2
  go_ret2
  exact ⟨rfl, rfl⟩
set_option maxHeartbeats 1000000 in
theorem extend_noneS (v : Value) (n c : Nat) (A A' : Option Addr) (c' : Nat) (w : World) (hv : v = .slice A n c) :
    Calls Tryd.prog 83 #[v, .slice A' 0 c'] w fun e w' => e = .returned (.tuple #[v, .slice none 0 0]) ∧ w' = w := by
  subst hv
  go_enter Tryd.func83, Tryd.ntmps83
  go_wp2
  go_ret2
  exact ⟨rfl, rfl⟩
set_option maxHeartbeats 1000000 in
set_option maxRecDepth 100000 in
theorem copied_leaf (k : Nat) (t : ByteArray) (A A' : Option Addr) (c1 c2 : Nat) (w : World) :
    Calls Tryd.prog 67 #[jv k t A A' 0 c1 0 c2, .int .i64 1, .int .i64 0] w fun e w' => e = .returned (jv k t none none 0 0 0 0) ∧ Below w.heap.size w w' := by
  have m1 := make1
  have m0 := make0
  go_enter Tryd.func67, Tryd.ntmps67
  go_wp2
  go_region
  · go_wp2
    clear m1 m0
    have hfr : Fr w ((((((w.alloc (.cells #[.int .i64 k, .string t, .slice A 0 c1, .slice A' 0 c2] 26)).alloc (.cells #[.int .i64 0, .string ⟨#[]⟩, .slice none 0 0, .slice none 0 0] 26)).alloc (.cells #[.int .i64 k, .string t, .slice A 0 c1, .slice A' 0 c2] 26)).alloc (.cells #[] 9)).alloc (.cells #[.int .i64 k, .string t, .slice A 0 c1, .slice A' 0 c2] 26)).drew) (fun _ => True) := ((((((Fr.refl w _).alloc _).alloc _).alloc _).alloc _).alloc _).drewN 1
    have hL : ((((((w.alloc (.cells #[.int .i64 k, .string t, .slice A 0 c1, .slice A' 0 c2] 26)).alloc (.cells #[.int .i64 0, .string ⟨#[]⟩, .slice none 0 0, .slice none 0 0] 26)).alloc (.cells #[.int .i64 k, .string t, .slice A 0 c1, .slice A' 0 c2] 26)).alloc (.cells #[] 9)).alloc (.cells #[.int .i64 k, .string t, .slice A 0 c1, .slice A' 0 c2] 26)).drew).heap[w.heap.size + 1 + 1]? = some (.cells #[.int .i64 k, .string t, .slice A 0 c1, .slice A' 0 c2] 26 (0, 0)) := old_at _ (old_at _ (new_at (by simp) _))
    have hR : ((((((w.alloc (.cells #[.int .i64 k, .string t, .slice A 0 c1, .slice A' 0 c2] 26)).alloc (.cells #[.int .i64 0, .string ⟨#[]⟩, .slice none 0 0, .slice none 0 0] 26)).alloc (.cells #[.int .i64 k, .string t, .slice A 0 c1, .slice A' 0 c2] 26)).alloc (.cells #[] 9)).alloc (.cells #[.int .i64 k, .string t, .slice A 0 c1, .slice A' 0 c2] 26)).drew).heap[w.heap.size + 1]? = some (.cells #[.int .i64 0, .string ⟨#[]⟩, .slice none 0 0, .slice none 0 0] 26 (0, 0)) := old_at _ (old_at _ (old_at _ (new_at (by simp) _)))
    have hb : Below w.heap.size w ((((((w.alloc (.cells #[.int .i64 k, .string t, .slice A 0 c1, .slice A' 0 c2] 26)).alloc (.cells #[.int .i64 0, .string ⟨#[]⟩, .slice none 0 0, .slice none 0 0] 26)).alloc (.cells #[.int .i64 k, .string t, .slice A 0 c1, .slice A' 0 c2] 26)).alloc (.cells #[] 9)).alloc (.cells #[.int .i64 k, .string t, .slice A 0 c1, .slice A' 0 c2] 26)).drew) := ⟨hfr.os, hfr.tape, hfr.output, hfr.size, fun i hi => hfr.block i hi trivial⟩
    clear hfr
    generalize ((((((w.alloc (.cells #[.int .i64 k, .string t, .slice A 0 c1, .slice A' 0 c2] 26)).alloc (.cells #[.int .i64 0, .string ⟨#[]⟩, .slice none 0 0, .slice none 0 0] 26)).alloc (.cells #[.int .i64 k, .string t, .slice A 0 c1, .slice A' 0 c2] 26)).alloc (.cells #[] 9)).alloc (.cells #[.int .i64 k, .string t, .slice A 0 c1, .slice A' 0 c2] 26)).drew) = W1 at *
    have hne : (w.heap.size + 1 : Nat) ≠ w.heap.size + 1 + 1 := by omega
    obtain ⟨p0, p1, p2, p3⟩ := cells_4 hL
    obtain ⟨f0, f1, f2, f3⟩ := frozen_4 hL
    obtain ⟨r0, r1, r2, r3⟩ := cells_4 hR
    obtain ⟨e0, e1, e2, e3⟩ := frozen_4 hR
    have x2 := fun W => extend_none (.slice (some ⟨w.heap.size + 1 + 1, 0, none⟩) 1 1) 1 1 (some ⟨w.heap.size + 1 + 1, 0, none⟩) A c1 W rfl
    have x3 := fun W => extend_noneS (.slice (some ⟨w.heap.size + 1 + 1 + 1, 0, none⟩) 0 0) 0 0 (some ⟨w.heap.size + 1 + 1 + 1, 0, none⟩) A' c2 W rfl
    have X2 := Lib.hid x2
    have X3 := Lib.hid x3
    clear x2 x3
    go_loopg [7, 8, 9] 1 (fun g v7 v8 v9 wr => v7 = .slice (some ⟨w.heap.size + 1 + 1, 0, none⟩) 1 1 ∧ v8 = .slice (some ⟨w.heap.size + 1 + 1 + 1, 0, none⟩) 0 0 ∧ ((g = 1 ∧ v9 = .int .i64 0 ∧ W1 = wr) ∨ (g = 0 ∧ v9 = .int .i64 1 ∧ (W1.setCell ⟨w.heap.size + 1 + 1, 2, none⟩ (.slice none 0 0)).setCell ⟨w.heap.size + 1 + 1, 3, none⟩ (.slice none 0 0) = wr)))
    case atStart => exact ⟨rfl, rfl, .inl ⟨rfl, rfl, rfl⟩⟩
    case round =>
      obtain ⟨rfl, rfl, h | h⟩ := hrel
      · obtain ⟨hg, rfl, rfl⟩ := h
        have HGk := Lib.hid hg
        clear hg
        go_wp2_with fail
        refine (X2.out _).mono ?_
        rintro e w' ⟨rfl, rfl⟩
        go_wp2_with fail
        refine (X3.out _).mono ?_
        rintro e w' ⟨rfl, rfl⟩
        go_wp2
        go_roundg 0
        case measure => have := HGk.out; omega
        case rel => exact ⟨rfl, rfl, .inr ⟨rfl, rfl, rfl⟩⟩
      · obtain ⟨hg, rfl, hW⟩ := h
        clear hg
        have hL' : wr.heap[w.heap.size + 1 + 1]? = some (.cells #[.int .i64 k, .string t, .slice none 0 0, .slice none 0 0] 26 (0, 0)) := by
          have h1 : (W1.setCell ⟨w.heap.size + 1 + 1, 2, none⟩ (.slice none 0 0)).heap[w.heap.size + 1 + 1]? = some (.cells #[.int .i64 k, .string t, .slice none 0 0, .slice A' 0 c2] 26 (0, 0)) := by rw [heap_setCell_same W1 _ 2 _ 26 _ hL]; rfl
          rw [← hW, heap_setCell_same _ _ 3 _ 26 _ h1]; rfl
        have hf' : Fr W1 wr (fun b => b ≠ w.heap.size + 1 + 1) := by
          rw [← hW]
          exact (Fr.of (gset W1 (w.heap.size + 1 + 1) 2 _) (fun b _ hb e => hb (by cases e; rfl))).trans (Fr.of (gset _ (w.heap.size + 1 + 1) 3 _) (fun b _ hb e => hb (by cases e; rfl)))
        have hR' := hf'.at hR hne
        have hbr : Below w.heap.size w wr := hb.trans ⟨hf'.os, hf'.tape, hf'.output, hf'.size, fun i hi => hf'.block i (by have := hb.size; omega) (by omega)⟩
        clear hW hL hR hf' p0 p1 p2 p3 f0 f1 f2 f3 r0 r1 r2 r3 e0 e1 e2 e3 X2 X3 hb
        obtain ⟨p0, p1, p2, p3⟩ := cells_4 hL'
        obtain ⟨r0, r1, r2, r3⟩ := cells_4 hR'
        obtain ⟨e0, e1, e2, e3⟩ := frozen_4 hR'
        clear hL' hR'
        go_wp2
        refine bodyPost_ret (v := jv k t none none 0 0 0 0) (by simp [results, Tryd.results67, go_sem, r0, r1, r2, r3]) rfl ?_
        exact ⟨rfl, by refine Below.setCell (Below.setCell (Below.setCell (Below.setCell hbr ?_ _) ?_ _) ?_ _) ?_ _ <;> simp⟩
  · go_wp2
    clear m1 m0
    have hfr : Fr w ((((((w.alloc (.cells #[.int .i64 k, .string t, .slice A 0 c1, .slice A' 0 c2] 26)).alloc (.cells #[.int .i64 0, .string ⟨#[]⟩, .slice none 0 0, .slice none 0 0] 26)).alloc (.cells #[] 9)).alloc (.cells #[.int .i64 k, .string t, .slice A 0 c1, .slice A' 0 c2] 26)).alloc (.cells #[.int .i64 k, .string t, .slice A 0 c1, .slice A' 0 c2] 26)).drew) (fun _ => True) := ((((((Fr.refl w _).alloc _).alloc _).alloc _).alloc _).alloc _).drewN 1
    have hL : ((((((w.alloc (.cells #[.int .i64 k, .string t, .slice A 0 c1, .slice A' 0 c2] 26)).alloc (.cells #[.int .i64 0, .string ⟨#[]⟩, .slice none 0 0, .slice none 0 0] 26)).alloc (.cells #[] 9)).alloc (.cells #[.int .i64 k, .string t, .slice A 0 c1, .slice A' 0 c2] 26)).alloc (.cells #[.int .i64 k, .string t, .slice A 0 c1, .slice A' 0 c2] 26)).drew).heap[w.heap.size + 1 + 1 + 1]? = some (.cells #[.int .i64 k, .string t, .slice A 0 c1, .slice A' 0 c2] 26 (0, 0)) := old_at _ (new_at (by simp) _)
    have hR : ((((((w.alloc (.cells #[.int .i64 k, .string t, .slice A 0 c1, .slice A' 0 c2] 26)).alloc (.cells #[.int .i64 0, .string ⟨#[]⟩, .slice none 0 0, .slice none 0 0] 26)).alloc (.cells #[] 9)).alloc (.cells #[.int .i64 k, .string t, .slice A 0 c1, .slice A' 0 c2] 26)).alloc (.cells #[.int .i64 k, .string t, .slice A 0 c1, .slice A' 0 c2] 26)).drew).heap[w.heap.size + 1]? = some (.cells #[.int .i64 0, .string ⟨#[]⟩, .slice none 0 0, .slice none 0 0] 26 (0, 0)) := old_at _ (old_at _ (old_at _ (new_at (by simp) _)))
    have hb : Below w.heap.size w ((((((w.alloc (.cells #[.int .i64 k, .string t, .slice A 0 c1, .slice A' 0 c2] 26)).alloc (.cells #[.int .i64 0, .string ⟨#[]⟩, .slice none 0 0, .slice none 0 0] 26)).alloc (.cells #[] 9)).alloc (.cells #[.int .i64 k, .string t, .slice A 0 c1, .slice A' 0 c2] 26)).alloc (.cells #[.int .i64 k, .string t, .slice A 0 c1, .slice A' 0 c2] 26)).drew) := ⟨hfr.os, hfr.tape, hfr.output, hfr.size, fun i hi => hfr.block i hi trivial⟩
    clear hfr
    generalize ((((((w.alloc (.cells #[.int .i64 k, .string t, .slice A 0 c1, .slice A' 0 c2] 26)).alloc (.cells #[.int .i64 0, .string ⟨#[]⟩, .slice none 0 0, .slice none 0 0] 26)).alloc (.cells #[] 9)).alloc (.cells #[.int .i64 k, .string t, .slice A 0 c1, .slice A' 0 c2] 26)).alloc (.cells #[.int .i64 k, .string t, .slice A 0 c1, .slice A' 0 c2] 26)).drew) = W1 at *
    have hne : (w.heap.size + 1 : Nat) ≠ w.heap.size + 1 + 1 + 1 := by omega
    obtain ⟨p0, p1, p2, p3⟩ := cells_4 hL
    obtain ⟨f0, f1, f2, f3⟩ := frozen_4 hL
    obtain ⟨r0, r1, r2, r3⟩ := cells_4 hR
    obtain ⟨e0, e1, e2, e3⟩ := frozen_4 hR
    have x2 := fun W => extend_none (.slice (some ⟨w.heap.size + 1 + 1 + 1, 0, none⟩) 1 1) 1 1 (some ⟨w.heap.size + 1 + 1 + 1, 0, none⟩) A c1 W rfl
    have x3 := fun W => extend_noneS (.slice (some ⟨w.heap.size + 1 + 1, 0, none⟩) 0 0) 0 0 (some ⟨w.heap.size + 1 + 1, 0, none⟩) A' c2 W rfl
    have X2 := Lib.hid x2
    have X3 := Lib.hid x3
    clear x2 x3
    go_loopg [7, 8, 9] 1 (fun g v7 v8 v9 wr => v7 = .slice (some ⟨w.heap.size + 1 + 1 + 1, 0, none⟩) 1 1 ∧ v8 = .slice (some ⟨w.heap.size + 1 + 1, 0, none⟩) 0 0 ∧ ((g = 1 ∧ v9 = .int .i64 0 ∧ W1 = wr) ∨ (g = 0 ∧ v9 = .int .i64 1 ∧ (W1.setCell ⟨w.heap.size + 1 + 1 + 1, 2, none⟩ (.slice none 0 0)).setCell ⟨w.heap.size + 1 + 1 + 1, 3, none⟩ (.slice none 0 0) = wr)))
    case atStart => exact ⟨rfl, rfl, .inl ⟨rfl, rfl, rfl⟩⟩
    case round =>
      obtain ⟨rfl, rfl, h | h⟩ := hrel
      · obtain ⟨hg, rfl, rfl⟩ := h
        have HGk := Lib.hid hg
        clear hg
        go_wp2_with fail
        refine (X2.out _).mono ?_
        rintro e w' ⟨rfl, rfl⟩
        go_wp2_with fail
        refine (X3.out _).mono ?_
        rintro e w' ⟨rfl, rfl⟩
        go_wp2
        go_roundg 0
        case measure => have := HGk.out; omega
        case rel => exact ⟨rfl, rfl, .inr ⟨rfl, rfl, rfl⟩⟩
      · obtain ⟨hg, rfl, hW⟩ := h
        clear hg
        have hL' : wr.heap[w.heap.size + 1 + 1 + 1]? = some (.cells #[.int .i64 k, .string t, .slice none 0 0, .slice none 0 0] 26 (0, 0)) := by
          have h1 : (W1.setCell ⟨w.heap.size + 1 + 1 + 1, 2, none⟩ (.slice none 0 0)).heap[w.heap.size + 1 + 1 + 1]? = some (.cells #[.int .i64 k, .string t, .slice none 0 0, .slice A' 0 c2] 26 (0, 0)) := by rw [heap_setCell_same W1 _ 2 _ 26 _ hL]; rfl
          rw [← hW, heap_setCell_same _ _ 3 _ 26 _ h1]; rfl
        have hf' : Fr W1 wr (fun b => b ≠ w.heap.size + 1 + 1 + 1) := by
          rw [← hW]
          exact (Fr.of (gset W1 (w.heap.size + 1 + 1 + 1) 2 _) (fun b _ hb e => hb (by cases e; rfl))).trans (Fr.of (gset _ (w.heap.size + 1 + 1 + 1) 3 _) (fun b _ hb e => hb (by cases e; rfl)))
        have hR' := hf'.at hR hne
        have hbr : Below w.heap.size w wr := hb.trans ⟨hf'.os, hf'.tape, hf'.output, hf'.size, fun i hi => hf'.block i (by have := hb.size; omega) (by omega)⟩
        clear hW hL hR hf' p0 p1 p2 p3 f0 f1 f2 f3 r0 r1 r2 r3 e0 e1 e2 e3 X2 X3 hb
        obtain ⟨p0, p1, p2, p3⟩ := cells_4 hL'
        obtain ⟨r0, r1, r2, r3⟩ := cells_4 hR'
        obtain ⟨e0, e1, e2, e3⟩ := frozen_4 hR'
        clear hL' hR'
        go_wp2
        refine bodyPost_ret (v := jv k t none none 0 0 0 0) (by simp [results, Tryd.results67, go_sem, r0, r1, r2, r3]) rfl ?_
        exact ⟨rfl, by refine Below.setCell (Below.setCell (Below.setCell (Below.setCell hbr ?_ _) ?_ _) ?_ _) ?_ _ <;> simp⟩
set_option maxHeartbeats 1000000 in
set_option maxRecDepth 100000 in
theorem clone_leaf (k : Nat) (t : ByteArray) (A A' : Option Addr) (c1 c2 : Nat) (w : World) :
    Calls Tryd.prog 42 #[jv k t A A' 0 c1 0 c2] w fun e w' => e = .returned (jv k t none none 0 0 0 0) ∧ Below w.heap.size w w' := by
  have hb0 : Below w.heap.size w ((w.alloc (.cells #[.int .i64 k, .string t, .slice A 0 c1, .slice A' 0 c2] 26)).alloc (.cells #[.int .i64 0, .string ⟨#[]⟩, .slice none 0 0, .slice none 0 0] 26)) := ((Below.refl _ _).alloc (Nat.le_refl _) _).alloc (by simp) _
  have hB0 : ((w.alloc (.cells #[.int .i64 k, .string t, .slice A 0 c1, .slice A' 0 c2] 26)).alloc (.cells #[.int .i64 0, .string ⟨#[]⟩, .slice none 0 0, .slice none 0 0] 26)).heap[w.heap.size]? = some (.cells #[.int .i64 k, .string t, .slice A 0 c1, .slice A' 0 c2] 26 (0, 0)) :=
    ((Fr.refl _ (fun _ => True)).alloc _).at (heap_alloc_new w _) trivial
  have hR0 : ((w.alloc (.cells #[.int .i64 k, .string t, .slice A 0 c1, .slice A' 0 c2] 26)).alloc (.cells #[.int .i64 0, .string ⟨#[]⟩, .slice none 0 0, .slice none 0 0] 26)).heap[w.heap.size + 1]? = some (.cells #[.int .i64 0, .string ⟨#[]⟩, .slice none 0 0, .slice none 0 0] 26 (0, 0)) := by
    have h := heap_alloc_new (w.alloc (.cells #[.int .i64 k, .string t, .slice A 0 c1, .slice A' 0 c2] 26)) (.cells #[.int .i64 0, .string ⟨#[]⟩, .slice none 0 0, .slice none 0 0] 26 (0, 0))
    rw [show (w.alloc (.cells #[.int .i64 k, .string t, .slice A 0 c1, .slice A' 0 c2] 26)).heap.size = w.heap.size + 1 by simp] at h
    exact h
  have hc := fun W => count_leaf k t A A' c1 c2 W
  have hd := fun W => copied_leaf k t A A' c1 c2 W
  have HC := Lib.hid hc
  have HD := Lib.hid hd
  clear hc hd
  go_enter Tryd.func42, Tryd.ntmps42
  go_wp2_with fail
  generalize ((w.alloc (.cells #[.int .i64 k, .string t, .slice A 0 c1, .slice A' 0 c2] 26)).alloc (.cells #[.int .i64 0, .string ⟨#[]⟩, .slice none 0 0, .slice none 0 0] 26)) = W0 at *
  refine (HC.out _).mono ?_
  rintro e w1 ⟨rfl, hb1⟩
  have hf1 : Fr W0 w1 (fun _ => True) := ⟨hb1.os, hb1.tape, hb1.output, hb1.size, fun k hk _ => hb1.block k hk⟩
  have hB1 := hf1.at hB0 trivial
  have hR1 := hf1.at hR0 trivial
  have hbb1 : Below w.heap.size w w1 := hb0.trans (hb1.mono hb0.size)
  obtain ⟨p0, p1, p2, p3⟩ := cells_4 hB1
  clear hb1 hf1 hB0 hR0 hb0 HC
  go_wp2_with fail
  refine (HD.out _).mono ?_
  rintro e w2 ⟨rfl, hb2⟩
  have hf2 : Fr w1 w2 (fun _ => True) := ⟨hb2.os, hb2.tape, hb2.output, hb2.size, fun k hk _ => hb2.block k hk⟩
  have hR2 := hf2.at hR1 trivial
  have hbb2 : Below w.heap.size w w2 := hbb1.trans (hb2.mono hbb1.size)
  obtain ⟨r0, r1, r2, r3⟩ := cells_4 hR2
  obtain ⟨e0, e1, e2, e3⟩ := frozen_4 hR2
  clear hB1 hR1 hR2 p0 p1 p2 p3 hb2 hf2 HD
  go_wp2
  refine bodyPost_ret (v := jv k t none none 0 0 0 0) (by simp [results, Tryd.results42, go_sem, r0, r1, r2, r3]) rfl ?_
  exact ⟨rfl, by refine Below.setCell (Below.setCell (Below.setCell (Below.setCell hbb2 ?_ _) ?_ _) ?_ _) ?_ _ <;> simp⟩
end Go.Proofs.YtjcnjaebmndeiaaDoor
