/-
  The reference's reader: 'escaped' of the signs that stand for themselves, or for one sign.
-/
import Derived.Test.YtcamaloekanelaaDoorRef3
namespace Go.Proofs.YtcamaloekanelaaDoor
open Go.RowKit
set_option maxHeartbeats 1000000 in
theorem escaped_one (p : Nat) (s : ByteArray) (c : UInt8) (r : Bs) (hc : c.toNat = 34 ∨ c.toNat = 92 ∨ c.toNat = 47) (w : World) (h : RRd w p s (c :: r) 0) : Calls Tryd.prog 81 #[.pointer (some ⟨p, 0, none⟩)] w (EscP w p s (some ((c.toNat : Int), r))) := by
  obtain ⟨k, c0, c1, c2, f0, f1, f2, hat, hs⟩ := h.parts
  have hlt := hat.lt
  have hget := hat.get hlt
  have hk' : decide (s.size ≤ k) = false := by simp; omega
  have hst := RStep.refl h
  have hst' := hst.set hat.tail
  have hplt := h.lt
  have hpost : ∀ w', RStep w p s r 0 w' → EscP w p s (some ((c.toNat : Int), r)) (.returned (.string ⟨#[c]⟩)) w' := fun w' h' => ⟨by rw [str_byte (by omega)], h'⟩
  have HP := Lib.hid hpost
  have hcv : ∀ n, (convert 50 9 (.slice (some ⟨w.heap.size, 0, none⟩) 1 1)).run Tryd.prog (((w.drewN n).setCell ⟨p, 1, none⟩ (.int .i64 ((k : Int) + 1))).alloc (.cells #[.int .u8 c.toNat] 5)) = .ok (.string ⟨#[c]⟩) (((w.drewN n).setCell ⟨p, 1, none⟩ (.int .i64 ((k : Int) + 1))).alloc (.cells #[.int .u8 c.toNat] 5)) := fun n => by
    have h0 := conv_one ((w.drewN n).setCell ⟨p, 1, none⟩ (.int .i64 ((k : Int) + 1))) c
    rw [show ((w.drewN n).setCell ⟨p, 1, none⟩ (.int .i64 ((k : Int) + 1))).heap.size = w.heap.size by simp [World.setCell]] at h0
    exact h0
  clear hat hpost
  generalize EscP w p s (some ((c.toNat : Int), r)) = POST at *
  rcases hc with hc | hc | hc
  · have b34 : ((c.toNat : Int) == 34) = true := by simp only [beq_iff_eq]; omega
    clear hc
    go_enter Tryd.func81, Tryd.ntmps81
    go_wp2
    go_quiet (fail)
    go_wp2
    go_quiet (fail)
    go_wp2
    exact HP.out _ ((hst'.drewN _).alloc _)
  · have b34 : ((c.toNat : Int) == 34) = false := by simp only [beq_eq_false_iff_ne, ne_eq]; omega
    have b92 : ((c.toNat : Int) == 92) = true := by simp only [beq_iff_eq]; omega
    clear hc
    go_enter Tryd.func81, Tryd.ntmps81
    go_wp2
    go_quiet (fail)
    go_wp2
    go_quiet (fail)
    go_wp2
    exact HP.out _ ((hst'.drewN _).alloc _)
  · have b34 : ((c.toNat : Int) == 34) = false := by simp only [beq_eq_false_iff_ne, ne_eq]; omega
    have b92 : ((c.toNat : Int) == 92) = false := by simp only [beq_eq_false_iff_ne, ne_eq]; omega
    have b47 : ((c.toNat : Int) == 47) = true := by simp only [beq_iff_eq]; omega
    clear hc
    go_enter Tryd.func81, Tryd.ntmps81
    go_wp2
    go_quiet (fail)
    go_wp2
    go_quiet (fail)
    go_wp2
    exact HP.out _ ((hst'.drewN _).alloc _)

set_option maxHeartbeats 1000000 in
theorem escaped_two (p : Nat) (s : ByteArray) (c : UInt8) (r : Bs) (b : Nat) (hc : c.toNat = 98 ∧ b = 8 ∨ c.toNat = 102 ∧ b = 12 ∨ c.toNat = 110 ∧ b = 10 ∨ c.toNat = 114 ∧ b = 13 ∨ c.toNat = 116 ∧ b = 9) (w : World) (h : RRd w p s (c :: r) 0) : Calls Tryd.prog 81 #[.pointer (some ⟨p, 0, none⟩)] w (EscP w p s (some ((b : Int), r))) := by
  obtain ⟨k, c0, c1, c2, f0, f1, f2, hat, hs⟩ := h.parts
  have hlt := hat.lt
  have hget := hat.get hlt
  have hk' : decide (s.size ≤ k) = false := by simp; omega
  have hst := RStep.refl h
  have hst' := hst.set hat.tail
  have hplt := h.lt
  have hpost : ∀ w', RStep w p s r 0 w' → EscP w p s (some ((b : Int), r)) (.returned (.string ⟨#[UInt8.ofNat b]⟩)) w' := fun w' h' => ⟨by rw [str_rune (by omega)], h'⟩
  have HP := Lib.hid hpost
  clear hat hpost
  generalize EscP w p s (some ((b : Int), r)) = POST at *
  rcases hc with ⟨hc, rfl⟩ | ⟨hc, rfl⟩ | ⟨hc, rfl⟩ | ⟨hc, rfl⟩ | ⟨hc, rfl⟩
  · have b34 : ((c.toNat : Int) == 34) = false := by simp only [beq_eq_false_iff_ne, ne_eq]; omega
    have b92 : ((c.toNat : Int) == 92) = false := by simp only [beq_eq_false_iff_ne, ne_eq]; omega
    have b47 : ((c.toNat : Int) == 47) = false := by simp only [beq_eq_false_iff_ne, ne_eq]; omega
    have b98 : ((c.toNat : Int) == 98) = true := by simp only [beq_iff_eq]; omega
    clear hc
    go_enter Tryd.func81, Tryd.ntmps81
    go_wp2
    go_quiet (fail)
    go_wp2
    go_quiet (fail)
    go_wp2
    exact HP.out _ (hst'.drewN _)
  · have b34 : ((c.toNat : Int) == 34) = false := by simp only [beq_eq_false_iff_ne, ne_eq]; omega
    have b92 : ((c.toNat : Int) == 92) = false := by simp only [beq_eq_false_iff_ne, ne_eq]; omega
    have b47 : ((c.toNat : Int) == 47) = false := by simp only [beq_eq_false_iff_ne, ne_eq]; omega
    have b98 : ((c.toNat : Int) == 98) = false := by simp only [beq_eq_false_iff_ne, ne_eq]; omega
    have b102 : ((c.toNat : Int) == 102) = true := by simp only [beq_iff_eq]; omega
    clear hc
    go_enter Tryd.func81, Tryd.ntmps81
    go_wp2
    go_quiet (fail)
    go_wp2
    go_quiet (fail)
    go_wp2
    exact HP.out _ (hst'.drewN _)
  · have b34 : ((c.toNat : Int) == 34) = false := by simp only [beq_eq_false_iff_ne, ne_eq]; omega
    have b92 : ((c.toNat : Int) == 92) = false := by simp only [beq_eq_false_iff_ne, ne_eq]; omega
    have b47 : ((c.toNat : Int) == 47) = false := by simp only [beq_eq_false_iff_ne, ne_eq]; omega
    have b98 : ((c.toNat : Int) == 98) = false := by simp only [beq_eq_false_iff_ne, ne_eq]; omega
    have b102 : ((c.toNat : Int) == 102) = false := by simp only [beq_eq_false_iff_ne, ne_eq]; omega
    have b110 : ((c.toNat : Int) == 110) = true := by simp only [beq_iff_eq]; omega
    clear hc
    go_enter Tryd.func81, Tryd.ntmps81
    go_wp2
    go_quiet (fail)
    go_wp2
    go_quiet (fail)
    go_wp2
    exact HP.out _ (hst'.drewN _)
  · have b34 : ((c.toNat : Int) == 34) = false := by simp only [beq_eq_false_iff_ne, ne_eq]; omega
    have b92 : ((c.toNat : Int) == 92) = false := by simp only [beq_eq_false_iff_ne, ne_eq]; omega
    have b47 : ((c.toNat : Int) == 47) = false := by simp only [beq_eq_false_iff_ne, ne_eq]; omega
    have b98 : ((c.toNat : Int) == 98) = false := by simp only [beq_eq_false_iff_ne, ne_eq]; omega
    have b102 : ((c.toNat : Int) == 102) = false := by simp only [beq_eq_false_iff_ne, ne_eq]; omega
    have b110 : ((c.toNat : Int) == 110) = false := by simp only [beq_eq_false_iff_ne, ne_eq]; omega
    have b114 : ((c.toNat : Int) == 114) = true := by simp only [beq_iff_eq]; omega
    clear hc
    go_enter Tryd.func81, Tryd.ntmps81
    go_wp2
    go_quiet (fail)
    go_wp2
    go_quiet (fail)
    go_wp2
    exact HP.out _ (hst'.drewN _)
  · have b34 : ((c.toNat : Int) == 34) = false := by simp only [beq_eq_false_iff_ne, ne_eq]; omega
    have b92 : ((c.toNat : Int) == 92) = false := by simp only [beq_eq_false_iff_ne, ne_eq]; omega
    have b47 : ((c.toNat : Int) == 47) = false := by simp only [beq_eq_false_iff_ne, ne_eq]; omega
    have b98 : ((c.toNat : Int) == 98) = false := by simp only [beq_eq_false_iff_ne, ne_eq]; omega
    have b102 : ((c.toNat : Int) == 102) = false := by simp only [beq_eq_false_iff_ne, ne_eq]; omega
    have b110 : ((c.toNat : Int) == 110) = false := by simp only [beq_eq_false_iff_ne, ne_eq]; omega
    have b114 : ((c.toNat : Int) == 114) = false := by simp only [beq_eq_false_iff_ne, ne_eq]; omega
    have b116 : ((c.toNat : Int) == 116) = true := by simp only [beq_iff_eq]; omega
    clear hc
    go_enter Tryd.func81, Tryd.ntmps81
    go_wp2
    go_quiet (fail)
    go_wp2
    go_quiet (fail)
    go_wp2
    exact HP.out _ (hst'.drewN _)
end Go.Proofs.YtcamaloekanelaaDoor
