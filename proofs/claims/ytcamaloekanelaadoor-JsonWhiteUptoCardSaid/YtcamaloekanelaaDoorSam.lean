/-
  'couranthelp.Plain' of two rows of the same texts.
-/
import Derived.Test.YtcamaloekanelaaDoorRef7
namespace Go.Proofs.YtcamaloekanelaaDoor
open Go.RowKit

set_option maxHeartbeats 400000 in
theorem eq_strs (x : ByteArray) (w : World) : Calls Tryd.prog 55 #[.string x, .string x] w fun e w' => e = .returned (.bool true) ∧ w' = w := by
  go_enter Tryd.func55, Tryd.ntmps55
  go_wp2
  go_ret
  exact ⟨rfl, rfl⟩
set_option maxHeartbeats 400000 in
theorem same_strs (A A' : Option Addr) (ks : List ByteArray) (cap cap' : Nat) (w : World) (hb : ks.length ≤ 1000000) (h : SlS w A ks) (h' : SlS w A' ks) :
    Calls Tryd.prog 54 #[.slice A ks.length cap, .slice A' ks.length cap', .func (.func 55) #[] #[]] w fun e w' => e = .returned (.bool true) ∧ ∃ n, w' = w.drewN n := by
  by_cases h0 : ks = []
  · subst h0
    go_enter Tryd.func54, Tryd.ntmps54
    go_wp2
    go_loopg [7] 0 (fun g i wr => i = .int .i64 0 ∧ w = wr)
    case atStart => exact ⟨rfl, rfl⟩
    case round =>
      obtain ⟨rfl, rfl⟩ := hrel
      go_wp2
      go_ret
      exact ⟨rfl, 0, rfl⟩
  · have hpos : 0 < ks.length := List.length_pos_iff.2 h0
    obtain ⟨g, off, rfl, hc⟩ := h hpos
    obtain ⟨g', off', rfl, hc'⟩ := h' hpos
    have HC := Lib.hid hc
    have HC' := Lib.hid hc'
    clear hc hc' h0
    go_enter Tryd.func54, Tryd.ntmps54
    go_wp2
    go_loopg [7] ks.length (fun g i wr => ∃ k n : Nat, k + g = ks.length ∧ i = .int .i64 k ∧ w.drewN n = wr)
    case atStart => exact ⟨0, 0, by omega, rfl, rfl⟩
    case round =>
      obtain ⟨k, n, hk, rfl, hW⟩ := hrel
      have HW := Lib.hid hW
      by_cases hlt : k < ks.length
      · obtain ⟨s, hs⟩ : ∃ s, ks[k]? = some s := ⟨_, List.getElem?_eq_getElem hlt⟩
        have hcell : wr.cell? ⟨g, off + k, none⟩ = some (.string s) := by rw [← hW]; exact HC.out k s hs
        have hcell' : wr.cell? ⟨g', off' + k, none⟩ = some (.string s) := by rw [← hW]; exact HC'.out k s hs
        have hki : (k : Int) < (ks.length : Int) := by omega
        have heq := fun n : Nat => eq_strs s (wr.drewN n)
        have HE := Lib.hid heq
        clear hs hW heq
        go_wp2
        go_quiet ((go_at_call 55; exact quiet_same (fun n => HE.out n) _))
        go_wp2
        go_roundg (ks.length - (k + 1))
        case measure => omega
        case rel => exact ⟨k + 1, n + nq, by omega, by go_num, by rw [← HW.out]; simp⟩
      · clear hW
        go_wp2
        go_ret
        exact ⟨rfl, n, HW.out.symm⟩
set_option maxHeartbeats 400000 in
theorem plain_strs (A A' : Option Addr) (ks : List ByteArray) (cap cap' : Nat) (w : World) (hb : ks.length ≤ 1000000) (h : SlS w A ks) (h' : SlS w A' ks) :
    Calls Tryd.prog 34 #[.slice A ks.length cap, .slice A' ks.length cap'] w fun e w' => e = .returned (.bool true) ∧ ∃ n, w' = w.drewN n := by
  have hs := same_strs A A' ks cap cap' w hb h h'
  go_enter Tryd.func34, Tryd.ntmps34
  go_wp2_with fail
  refine hs.mono ?_
  rintro e w' ⟨rfl, n, rfl⟩
  go_wp2
  go_ret
  exact ⟨rfl, n, rfl⟩
end Go.Proofs.YtcamaloekanelaaDoor
