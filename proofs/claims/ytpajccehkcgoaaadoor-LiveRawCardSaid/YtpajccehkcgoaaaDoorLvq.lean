/-
  The reference: 'of', 'rank'.
-/
import Derived.Test.YtpajccehkcgoaaaDoorLvr
namespace Go.Proofs.YtpajccehkcgoaaaDoor
open Go.RowKit Go.Shelf Lv

/-- Numbers of the first n. -/
abbrev rgL (n : Nat) (l : Nat → Int) : List Int := (List.range n).map l
theorem rgL_len (n : Nat) (l : Nat → Int) : (rgL n l).length = n := by simp
theorem rgL_at (n : Nat) (l : Nat → Int) (i : Nat) (hi : i < n) : (rgL n l)[i]? = some (l i) := by simp [rgL, hi]
set_option maxRecDepth 100000 in
set_option maxHeartbeats 1000000 in
theorem of_any (n : Nat) (l : Nat → Int) (v : Value) (W : World) (ok : Nat → Prop) (h : IntsAt W ok (rgL n l) v) (hn : n ≤ 100000) (a : Int) :
    Calls Tryd.prog 53 #[v, .int .i64 a] W fun e w' => e = .returned (.int .i64 (ofM n l a)) ∧ w' = W := by
  obtain ⟨A, cap, rfl, hlc, hcm, _, hcc⟩ := h
  rw [rgL_len] at *
  unfold maxLen at hcm
  by_cases hin : 0 ≤ a ∧ a < n
  · obtain ⟨i, rfl⟩ : ∃ i : Nat, a = (i : Int) := ⟨a.toNat, by omega⟩
    have hi : i < n := by omega
    have HM := Lib.hid (show ofM n l (i : Int) = l i by unfold ofM; rw [if_pos hin]; rfl)
    obtain ⟨g, off, rfl, _, hc⟩ := hcc (by omega)
    have hz := hc i _ (rgL_at n l i hi)
    have h0 : ¬ ((i : Int) < 0) := by omega
    clear hc hcc
    go_enter Tryd.func53, Tryd.ntmps53
    go_wp2
    go_ret
    rw [HM.out]
    exact ⟨rfl, rfl⟩
  · have HM := Lib.hid (show ofM n l a = -1 by unfold ofM; rw [if_neg hin])
    clear hcc
    by_cases ha : a < 0
    · go_enter Tryd.func53, Tryd.ntmps53
      go_wp2
      go_ret
      rw [HM.out]
      exact ⟨rfl, rfl⟩
    · have han : (n : Int) ≤ a := by omega
      go_enter Tryd.func53, Tryd.ntmps53
      go_wp2
      go_ret
      rw [HM.out]
      exact ⟨rfl, rfl⟩
end Go.Proofs.YtpajccehkcgoaaaDoor
