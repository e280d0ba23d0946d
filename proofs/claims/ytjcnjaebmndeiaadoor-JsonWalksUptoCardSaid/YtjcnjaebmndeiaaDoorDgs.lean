/-
  'couranthelp.Digits' of a number below 100; 'clone' and 'Get' of leaves.
-/
import Derived.Test.YtjcnjaebmndeiaaDoorKym
import Derived.Test.YtjcnjaebmndeiaaDoorAlone
import Derived.Deep.RegionLaw
namespace Go.Proofs.YtjcnjaebmndeiaaDoor
open Go.RowKit

theorem conv_at {W : World} {g : Nat} {c : UInt8} (h : W.heap[g]? = some (.cells #[.int .u8 c.toNat] 5 (0, 0))) : (convert 50 9 (.slice (some ⟨g, 0, none⟩) 1 1)).run Tryd.prog W = .ok (.string ⟨#[c]⟩) W :=
  run_convert_bytes_back _ 50 9 5 ⟨g, 0, none⟩ 1 [c] Tryd.underlying50 Tryd.underlying5 Tryd.underlying9 (fun j hj => by
    simp only [List.length_cons, List.length_nil] at hj
    obtain rfl : j = 0 := by omega
    rw [addr_add, cell_of_row _ g 0 _ _ _ h]
    rfl)
theorem conv_in {W : World} {g : Nat} {c : UInt8} {z : Int} (hz : Hid ((c.toNat : Int) = z)) (h : W.heap[g]? = some (.cells #[.int .u8 z] 5 (0, 0))) : (convert 50 9 (.slice (some ⟨g, 0, none⟩) 1 1)).run Tryd.prog W = .ok (.string ⟨#[c]⟩) W :=
  conv_at (by rw [hz.out]; exact h)
theorem byte_of (n : Nat) (h : n < 200) : ∃ c : UInt8, Hid (UInt8.ofNat n = c) ∧ Hid ((c.toNat : Int) = (n : Int)) :=
  ⟨_, rfl, by show _ = _; simp; omega⟩
set_option maxHeartbeats 1000000 in
theorem digits_one (i : Nat) (h : i < 10) (w : World) : Calls Tryd.prog 33 #[.int .u64 i] w fun e w' => e = .returned (.string (str (dgt i))) ∧ Below w.heap.size w w' := by
  obtain ⟨c, hc1, hc2⟩ := byte_of (48 + i) (by omega)
  have hd : str (dgt i) = ⟨#[c]⟩ := by unfold dgt; rw [if_pos h, hc1.out]; rfl
  have hc := conv_in (W := w.alloc (.cells #[.int .u8 (48 + (i : Int))] 5)) (g := w.heap.size) (c := c) (z := 48 + (i : Int)) (by show _ = _; rw [hc2.out]; simp) (heap_alloc_new w _)
  rw [hd]
  have hi : (i : Int) < 10 := by omega
  clear hd
  go_enter Tryd.func33, Tryd.ntmps33
  go_wp2
  go_ret
  exact ⟨rfl, (Below.refl _ _).alloc (Nat.le_refl _) _⟩
theorem str_dgt1 : str (dgt 1) = ⟨#[49]⟩ := rfl
theorem conv_lit (c : UInt8) (z : Int) (hz : (c.toNat : Int) = z) (W : World) : (convert 50 9 (.slice (some ⟨W.heap.size, 0, none⟩) 1 1)).run Tryd.prog (W.alloc (.cells #[.int .u8 z] 5)) = .ok (.string ⟨#[c]⟩) (W.alloc (.cells #[.int .u8 z] 5)) :=
  conv_in hz (heap_alloc_new W _)
theorem wrap64u (z : Int) (h : 0 ≤ z) (h' : z < 100) : IntKind.u64.wrap z = z := by rw [IntKind.wrap_u64]; omega
theorem wrap8u (z : Int) (h : 0 ≤ z) (h' : z < 100) : IntKind.u8.wrap z = z := by simp [IntKind.wrap, IntKind.bits, IntKind.signed]; omega
theorem conv_drew (c : UInt8) (z : Int) (hz : (c.toNat : Int) = z) (w : World) : (convert 50 9 (.slice (some ⟨w.heap.size, 0, none⟩) 1 1)).run Tryd.prog (w.alloc (.cells #[.int .u8 z] 5)).drew = .ok (.string ⟨#[c]⟩) (w.alloc (.cells #[.int .u8 z] 5)).drew :=
  conv_in hz (heap_alloc_new w _)
theorem conv_after {w W w3 : World} {c : UInt8} {z : Int} (hz : (c.toNat : Int) = z) (hW : W = (w.alloc (.cells #[.int .u8 z] 5)).drew) (hb : Below W.heap.size W w3) : (convert 50 9 (.slice (some ⟨w.heap.size, 0, none⟩) 1 1)).run Tryd.prog w3 = .ok (.string ⟨#[c]⟩) w3 := by
  subst hW
  exact conv_in hz ((hb.block w.heap.size (by simp)).trans (heap_alloc_new w _))
theorem digits_1 (W : World) : Calls Tryd.prog 33 #[.int .u64 1] W fun e w' => e = .returned (.string ⟨#[49]⟩) ∧ Below W.heap.size W w' := digits_one 1 (by omega) W
theorem below_d {w w3 : World} (h : Below w.drew.heap.size w.drew w3) : Below w.heap.size w w3 := ⟨h.os, h.tape, h.output, h.size, h.block⟩
theorem below_e {w w3 : World} {o : Obj} (h : Below (w.alloc o).drew.heap.size (w.alloc o).drew w3) : Below w.heap.size w w3 :=
  ((Below.refl w.heap.size w).alloc (Nat.le_refl _) o).trans ((⟨h.os, h.tape, h.output, h.size, h.block⟩ : Below (w.alloc o).heap.size (w.alloc o) w3).mono (by simp))
set_option maxHeartbeats 1000000 in
set_option maxRecDepth 100000 in
theorem digits_10 (w : World) : Calls Tryd.prog 33 #[.int .u64 10] w fun e w' => e = .returned (.string ⟨#[49, 48]⟩) ∧ Below w.heap.size w w' := by
  have hc := fun W => conv_lit 48 48 rfl W
  have hone : ∀ W : World, Calls Tryd.prog 33 #[.int .u64 1] W fun e w' => e = .returned (.string ⟨#[49]⟩) ∧ Below W.heap.size W w' := digits_1
  have HO := Lib.hid hone
  have hc2 := conv_drew 48 48 rfl w
  have u1 := wrap64u 1 (by omega) (by omega)
  have u2 := wrap64u 48 (by omega) (by omega)
  have u3 := wrap8u 48 (by omega) (by omega)
  clear hone
  go_enter Tryd.func33, Tryd.ntmps33
  go_wp2
  go_region_law ((first
    | (go_simp
       refine Calls.mono (HO.out _) ?_
       rintro e w3 ⟨rfl, hb3⟩
       first
         | (have hcv3 := conv_after (w := w) (c := 48) (z := 48) rfl (by with_reducible rfl) hb3)
         | skip)
    | fail))
  all_goals go_wp2
  all_goals go_ret
  all_goals first
    | exact ⟨rfl, (below_d hb3).alloc hb3.size _⟩
    | exact ⟨rfl, below_e hb3⟩
set_option maxHeartbeats 1000000 in
set_option maxRecDepth 100000 in
theorem digits_11 (w : World) : Calls Tryd.prog 33 #[.int .u64 11] w fun e w' => e = .returned (.string ⟨#[49, 49]⟩) ∧ Below w.heap.size w w' := by
  have hc := fun W => conv_lit 49 49 rfl W
  have hone : ∀ W : World, Calls Tryd.prog 33 #[.int .u64 1] W fun e w' => e = .returned (.string ⟨#[49]⟩) ∧ Below W.heap.size W w' := digits_1
  have HO := Lib.hid hone
  have hc2 := conv_drew 49 49 rfl w
  have u1 := wrap64u 1 (by omega) (by omega)
  have u2 := wrap64u 49 (by omega) (by omega)
  have u3 := wrap8u 49 (by omega) (by omega)
  clear hone
  go_enter Tryd.func33, Tryd.ntmps33
  go_wp2
  go_region_law ((first
    | (go_simp
       refine Calls.mono (HO.out _) ?_
       rintro e w3 ⟨rfl, hb3⟩
       first
         | (have hcv3 := conv_after (w := w) (c := 49) (z := 49) rfl (by with_reducible rfl) hb3)
         | skip)
    | fail))
  all_goals go_wp2
  all_goals go_ret
  all_goals first
    | exact ⟨rfl, (below_d hb3).alloc hb3.size _⟩
    | exact ⟨rfl, below_e hb3⟩
set_option maxHeartbeats 1000000 in
set_option maxRecDepth 100000 in
theorem digits_12 (w : World) : Calls Tryd.prog 33 #[.int .u64 12] w fun e w' => e = .returned (.string ⟨#[49, 50]⟩) ∧ Below w.heap.size w w' := by
  have hc := fun W => conv_lit 50 50 rfl W
  have hone : ∀ W : World, Calls Tryd.prog 33 #[.int .u64 1] W fun e w' => e = .returned (.string ⟨#[49]⟩) ∧ Below W.heap.size W w' := digits_1
  have HO := Lib.hid hone
  have hc2 := conv_drew 50 50 rfl w
  have u1 := wrap64u 1 (by omega) (by omega)
  have u2 := wrap64u 50 (by omega) (by omega)
  have u3 := wrap8u 50 (by omega) (by omega)
  clear hone
  go_enter Tryd.func33, Tryd.ntmps33
  go_wp2
  go_region_law ((first
    | (go_simp
       refine Calls.mono (HO.out _) ?_
       rintro e w3 ⟨rfl, hb3⟩
       first
         | (have hcv3 := conv_after (w := w) (c := 50) (z := 50) rfl (by with_reducible rfl) hb3)
         | skip)
    | fail))
  all_goals go_wp2
  all_goals go_ret
  all_goals first
    | exact ⟨rfl, (below_d hb3).alloc hb3.size _⟩
    | exact ⟨rfl, below_e hb3⟩
set_option maxHeartbeats 1000000 in
set_option maxRecDepth 100000 in
theorem digits_13 (w : World) : Calls Tryd.prog 33 #[.int .u64 13] w fun e w' => e = .returned (.string ⟨#[49, 51]⟩) ∧ Below w.heap.size w w' := by
  have hc := fun W => conv_lit 51 51 rfl W
  have hone : ∀ W : World, Calls Tryd.prog 33 #[.int .u64 1] W fun e w' => e = .returned (.string ⟨#[49]⟩) ∧ Below W.heap.size W w' := digits_1
  have HO := Lib.hid hone
  have hc2 := conv_drew 51 51 rfl w
  have u1 := wrap64u 1 (by omega) (by omega)
  have u2 := wrap64u 51 (by omega) (by omega)
  have u3 := wrap8u 51 (by omega) (by omega)
  clear hone
  go_enter Tryd.func33, Tryd.ntmps33
  go_wp2
  go_region_law ((first
    | (go_simp
       refine Calls.mono (HO.out _) ?_
       rintro e w3 ⟨rfl, hb3⟩
       first
         | (have hcv3 := conv_after (w := w) (c := 51) (z := 51) rfl (by with_reducible rfl) hb3)
         | skip)
    | fail))
  all_goals go_wp2
  all_goals go_ret
  all_goals first
    | exact ⟨rfl, (below_d hb3).alloc hb3.size _⟩
    | exact ⟨rfl, below_e hb3⟩
set_option maxHeartbeats 1000000 in
set_option maxRecDepth 100000 in
theorem digits_14 (w : World) : Calls Tryd.prog 33 #[.int .u64 14] w fun e w' => e = .returned (.string ⟨#[49, 52]⟩) ∧ Below w.heap.size w w' := by
  have hc := fun W => conv_lit 52 52 rfl W
  have hone : ∀ W : World, Calls Tryd.prog 33 #[.int .u64 1] W fun e w' => e = .returned (.string ⟨#[49]⟩) ∧ Below W.heap.size W w' := digits_1
  have HO := Lib.hid hone
  have hc2 := conv_drew 52 52 rfl w
  have u1 := wrap64u 1 (by omega) (by omega)
  have u2 := wrap64u 52 (by omega) (by omega)
  have u3 := wrap8u 52 (by omega) (by omega)
  clear hone
  go_enter Tryd.func33, Tryd.ntmps33
  go_wp2
  go_region_law ((first
    | (go_simp
       refine Calls.mono (HO.out _) ?_
       rintro e w3 ⟨rfl, hb3⟩
       first
         | (have hcv3 := conv_after (w := w) (c := 52) (z := 52) rfl (by with_reducible rfl) hb3)
         | skip)
    | fail))
  all_goals go_wp2
  all_goals go_ret
  all_goals first
    | exact ⟨rfl, (below_d hb3).alloc hb3.size _⟩
    | exact ⟨rfl, below_e hb3⟩
set_option maxHeartbeats 1000000 in
set_option maxRecDepth 100000 in
theorem digits_15 (w : World) : Calls Tryd.prog 33 #[.int .u64 15] w fun e w' => e = .returned (.string ⟨#[49, 53]⟩) ∧ Below w.heap.size w w' := by
  have hc := fun W => conv_lit 53 53 rfl W
  have hone : ∀ W : World, Calls Tryd.prog 33 #[.int .u64 1] W fun e w' => e = .returned (.string ⟨#[49]⟩) ∧ Below W.heap.size W w' := digits_1
  have HO := Lib.hid hone
  have hc2 := conv_drew 53 53 rfl w
  have u1 := wrap64u 1 (by omega) (by omega)
  have u2 := wrap64u 53 (by omega) (by omega)
  have u3 := wrap8u 53 (by omega) (by omega)
  clear hone
  go_enter Tryd.func33, Tryd.ntmps33
  go_wp2
  go_region_law ((first
    | (go_simp
       refine Calls.mono (HO.out _) ?_
       rintro e w3 ⟨rfl, hb3⟩
       first
         | (have hcv3 := conv_after (w := w) (c := 53) (z := 53) rfl (by with_reducible rfl) hb3)
         | skip)
    | fail))
  all_goals go_wp2
  all_goals go_ret
  all_goals first
    | exact ⟨rfl, (below_d hb3).alloc hb3.size _⟩
    | exact ⟨rfl, below_e hb3⟩
set_option maxHeartbeats 1000000 in
set_option maxRecDepth 100000 in
theorem digits_16 (w : World) : Calls Tryd.prog 33 #[.int .u64 16] w fun e w' => e = .returned (.string ⟨#[49, 54]⟩) ∧ Below w.heap.size w w' := by
  have hc := fun W => conv_lit 54 54 rfl W
  have hone : ∀ W : World, Calls Tryd.prog 33 #[.int .u64 1] W fun e w' => e = .returned (.string ⟨#[49]⟩) ∧ Below W.heap.size W w' := digits_1
  have HO := Lib.hid hone
  have hc2 := conv_drew 54 54 rfl w
  have u1 := wrap64u 1 (by omega) (by omega)
  have u2 := wrap64u 54 (by omega) (by omega)
  have u3 := wrap8u 54 (by omega) (by omega)
  clear hone
  go_enter Tryd.func33, Tryd.ntmps33
  go_wp2
  go_region_law ((first
    | (go_simp
       refine Calls.mono (HO.out _) ?_
       rintro e w3 ⟨rfl, hb3⟩
       first
         | (have hcv3 := conv_after (w := w) (c := 54) (z := 54) rfl (by with_reducible rfl) hb3)
         | skip)
    | fail))
  all_goals go_wp2
  all_goals go_ret
  all_goals first
    | exact ⟨rfl, (below_d hb3).alloc hb3.size _⟩
    | exact ⟨rfl, below_e hb3⟩
set_option maxHeartbeats 1000000 in
set_option maxRecDepth 100000 in
theorem digits_17 (w : World) : Calls Tryd.prog 33 #[.int .u64 17] w fun e w' => e = .returned (.string ⟨#[49, 55]⟩) ∧ Below w.heap.size w w' := by
  have hc := fun W => conv_lit 55 55 rfl W
  have hone : ∀ W : World, Calls Tryd.prog 33 #[.int .u64 1] W fun e w' => e = .returned (.string ⟨#[49]⟩) ∧ Below W.heap.size W w' := digits_1
  have HO := Lib.hid hone
  have hc2 := conv_drew 55 55 rfl w
  have u1 := wrap64u 1 (by omega) (by omega)
  have u2 := wrap64u 55 (by omega) (by omega)
  have u3 := wrap8u 55 (by omega) (by omega)
  clear hone
  go_enter Tryd.func33, Tryd.ntmps33
  go_wp2
  go_region_law ((first
    | (go_simp
       refine Calls.mono (HO.out _) ?_
       rintro e w3 ⟨rfl, hb3⟩
       first
         | (have hcv3 := conv_after (w := w) (c := 55) (z := 55) rfl (by with_reducible rfl) hb3)
         | skip)
    | fail))
  all_goals go_wp2
  all_goals go_ret
  all_goals first
    | exact ⟨rfl, (below_d hb3).alloc hb3.size _⟩
    | exact ⟨rfl, below_e hb3⟩
set_option maxHeartbeats 1000000 in
set_option maxRecDepth 100000 in
theorem digits_18 (w : World) : Calls Tryd.prog 33 #[.int .u64 18] w fun e w' => e = .returned (.string ⟨#[49, 56]⟩) ∧ Below w.heap.size w w' := by
  have hc := fun W => conv_lit 56 56 rfl W
  have hone : ∀ W : World, Calls Tryd.prog 33 #[.int .u64 1] W fun e w' => e = .returned (.string ⟨#[49]⟩) ∧ Below W.heap.size W w' := digits_1
  have HO := Lib.hid hone
  have hc2 := conv_drew 56 56 rfl w
  have u1 := wrap64u 1 (by omega) (by omega)
  have u2 := wrap64u 56 (by omega) (by omega)
  have u3 := wrap8u 56 (by omega) (by omega)
  clear hone
  go_enter Tryd.func33, Tryd.ntmps33
  go_wp2
  go_region_law ((first
    | (go_simp
       refine Calls.mono (HO.out _) ?_
       rintro e w3 ⟨rfl, hb3⟩
       first
         | (have hcv3 := conv_after (w := w) (c := 56) (z := 56) rfl (by with_reducible rfl) hb3)
         | skip)
    | fail))
  all_goals go_wp2
  all_goals go_ret
  all_goals first
    | exact ⟨rfl, (below_d hb3).alloc hb3.size _⟩
    | exact ⟨rfl, below_e hb3⟩
set_option maxHeartbeats 1000000 in
set_option maxRecDepth 100000 in
theorem digits_19 (w : World) : Calls Tryd.prog 33 #[.int .u64 19] w fun e w' => e = .returned (.string ⟨#[49, 57]⟩) ∧ Below w.heap.size w w' := by
  have hc := fun W => conv_lit 57 57 rfl W
  have hone : ∀ W : World, Calls Tryd.prog 33 #[.int .u64 1] W fun e w' => e = .returned (.string ⟨#[49]⟩) ∧ Below W.heap.size W w' := digits_1
  have HO := Lib.hid hone
  have hc2 := conv_drew 57 57 rfl w
  have u1 := wrap64u 1 (by omega) (by omega)
  have u2 := wrap64u 57 (by omega) (by omega)
  have u3 := wrap8u 57 (by omega) (by omega)
  clear hone
  go_enter Tryd.func33, Tryd.ntmps33
  go_wp2
  go_region_law ((first
    | (go_simp
       refine Calls.mono (HO.out _) ?_
       rintro e w3 ⟨rfl, hb3⟩
       first
         | (have hcv3 := conv_after (w := w) (c := 57) (z := 57) rfl (by with_reducible rfl) hb3)
         | skip)
    | fail))
  all_goals go_wp2
  all_goals go_ret
  all_goals first
    | exact ⟨rfl, (below_d hb3).alloc hb3.size _⟩
    | exact ⟨rfl, below_e hb3⟩
theorem digits_any (i : Nat) (h : i < 20) (w : World) : Calls Tryd.prog 33 #[.int .u64 i] w fun e w' => e = .returned (.string (str (dgt i))) ∧ Below w.heap.size w w' := by
  by_cases h1 : i < 10
  · exact digits_one i h1 w
  · match i, h, h1 with
    | 10, _, _ => exact digits_10 w
    | 11, _, _ => exact digits_11 w
    | 12, _, _ => exact digits_12 w
    | 13, _, _ => exact digits_13 w
    | 14, _, _ => exact digits_14 w
    | 15, _, _ => exact digits_15 w
    | 16, _, _ => exact digits_16 w
    | 17, _, _ => exact digits_17 w
    | 18, _, _ => exact digits_18 w
    | 19, _, _ => exact digits_19 w
    | n + 20, h, _ => omega
end Go.Proofs.YtjcnjaebmndeiaaDoor
