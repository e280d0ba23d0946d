/-
  'rightAlone' of an array, a number, a string that are right.
-/
import Derived.Test.YtfboecnhakihnaaGreatDoorJRight
namespace Go.Proofs.YtfboecnhakihnaaGreatDoor.js
open Go.RowKit

abbrev jv (k : Nat) (t : ByteArray) (A A' : Option Addr) (n1 c1 n2 c2 : Nat) : Value := .agg #[.int .i64 k, .string t, .slice A n1 c1, .slice A' n2 c2]

set_option maxHeartbeats 1000000 in
theorem alone_arr (d n1 c1 c2 : Nat) (A A' : Option Addr) (w : World) (hd : d < 64) :
    Calls Tryz.prog 59 #[jv 6 ⟨#[]⟩ A A' n1 c1 0 c2, .int .i64 d] w fun e w' => e = .returned (.bool true) ∧ Below w.heap.size w w' := by
  go_enter Tryz.func59, Tryz.ntmps59
  go_wp2
  go_ret
  exact ⟨rfl, (Below.refl _ _).alloc (Nat.le_refl _) _⟩
set_option maxHeartbeats 1000000 in
theorem alone_num (d c1 c2 : Nat) (t : ByteArray) (A A' : Option Addr) (w : World) (hs : t.size ≤ 30000) (h0 : t.toList.isEmpty = false) (h1 : numN t.data.toList = t.size) (h2 : (t.toList == [45, 48]) = false) :
    Calls Tryz.prog 59 #[jv 4 t A A' 0 c1 0 c2, .int .i64 d] w fun e w' => e = .returned (.bool true) ∧ Below w.heap.size w w' := by
  have hnum : ∀ W : World, Calls Tryz.prog 86 #[.string t] W fun e w' => e = .returned (.int .i64 t.size) ∧ w' = W := fun W => by
    have := numeral_any t W hs
    rw [h1] at this
    exact this.mono fun e w' ⟨a, b⟩ => ⟨a, b.symm⟩
  have HN := Lib.hid hnum
  have h0' : (!t.toList.isEmpty) = true := by rw [h0]; rfl
  have h2' : (t.toList != [45, 48]) = true := by simp only [bne, h2]; rfl
  clear hnum h1
  go_enter Tryz.func59, Tryz.ntmps59
  go_wp2
  have hb : Below w.heap.size w (w.alloc (.cells #[.int .i64 4, .string t, .slice A 0 c1, .slice A' 0 c2] 37)) := (Below.refl _ _).alloc (Nat.le_refl _) _
  have c1' : (w.alloc (.cells #[.int .i64 4, .string t, .slice A 0 c1, .slice A' 0 c2] 37)).cell? ⟨w.heap.size, 1, none⟩ = some (.string t) := by rw [cell_of_row _ _ _ _ _ _ (heap_alloc_new w _)]; rfl
  generalize w.alloc (.cells #[.int .i64 4, .string t, .slice A 0 c1, .slice A' 0 c2] 37) = W1 at *
  go_quiet ((go_at_call 86; exact quiet_same (fun n => HN.out _) _))
  go_wp2
  go_ret
  exact ⟨by simp [h0, h0', h2, h2'], below_drewN hb _⟩
set_option maxHeartbeats 1000000 in
theorem alone_str (d c1 c2 : Nat) (t : ByteArray) (A A' : Option Addr) (w : World) (hG : Gl w) (hv : ∀ W, Gl W → Calls Tryz.prog 34 #[.string t] W fun e w' => e = .returned (.bool true) ∧ Below W.heap.size W w') :
    Calls Tryz.prog 59 #[jv 5 t A A' 0 c1 0 c2, .int .i64 d] w fun e w' => e = .returned (.bool true) ∧ Below w.heap.size w w' := by
  have hb : Below w.heap.size w (w.alloc (.cells #[.int .i64 5, .string t, .slice A 0 c1, .slice A' 0 c2] 37)) := (Below.refl _ _).alloc (Nat.le_refl _) _
  have hv1 := hv _ (hG.below hb)
  go_enter Tryz.func59, Tryz.ntmps59
  go_wp2_with fail
  refine hv1.mono ?_
  rintro e w1 ⟨rfl, hb1⟩
  go_wp2
  go_ret
  exact ⟨rfl, hb.trans (hb1.mono hb.size)⟩
end Go.Proofs.YtfboecnhakihnaaGreatDoor.js
