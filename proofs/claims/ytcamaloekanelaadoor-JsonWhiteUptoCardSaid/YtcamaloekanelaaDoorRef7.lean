/-
  'couranthelp.In' of a row of texts; the reference's 'many' and 'value' behind a fault.
-/
import Derived.Test.YtcamaloekanelaaDoorRef6
import Derived.Test.YtcamaloekanelaaDoorVal
namespace Go.Proofs.YtcamaloekanelaaDoor
open Go.RowKit

/-- A slice of texts in memory. -/
def SlS (w : World) (A : Option Addr) (ks : List ByteArray) : Prop :=
  0 < ks.length → ∃ g off, A = some ⟨g, off, none⟩ ∧ ∀ i s, ks[i]? = some s → w.cell? ⟨g, off + i, none⟩ = some (.string s)
theorem any_none {x : ByteArray} : ([] : List ByteArray).any (fun k => decide (k = x)) = false := rfl
theorem any_take {ks : List ByteArray} {x : ByteArray} {i : Nat} {s : ByteArray} (hs : ks[i]? = some s) (h : (ks.take i).any (fun k => decide (k = x)) = false) (hne : s ≠ x) : (ks.take (i + 1)).any (fun k => decide (k = x)) = false := by
  rw [List.take_add_one, hs, List.any_append, h]
  simp [hne]
theorem any_hit {ks : List ByteArray} {x : ByteArray} {i : Nat} (hs : ks[i]? = some x) : ks.any (fun k => decide (k = x)) = true := by
  rw [List.any_eq_true]
  exact ⟨x, List.mem_of_getElem? hs, by simp⟩
theorem ba_beq (a b : ByteArray) : (a.toList == b.toList) = decide (a = b) := by
  rw [Bool.eq_iff_iff, beq_iff_eq, decide_eq_true_iff]
  constructor
  · intro h; exact ba_ext (by rw [← Lib.toList_data, ← Lib.toList_data]; exact h)
  · intro h; rw [h]

def inB (ks : List ByteArray) (x : ByteArray) : Bool := ks.any (fun k => decide (k = x))
set_option maxHeartbeats 400000 in
theorem in_any (A : Option Addr) (ks : List ByteArray) (cap : Nat) (x : ByteArray) (w : World) (hb : ks.length ≤ 1000000) (h : SlS w A ks) :
    Calls Tryd.prog 32 #[.slice A ks.length cap, .string x] w fun e w' => e = .returned (.bool (inB ks x)) ∧ w' = w := by
  by_cases h0 : ks = []
  · subst h0
    go_enter Tryd.func32, Tryd.ntmps32
    go_wp2
    go_loopg [5] 0 (fun g i wr => i = .int .i64 0 ∧ w = wr)
    case atStart => exact ⟨rfl, rfl⟩
    case round =>
      obtain ⟨rfl, rfl⟩ := hrel
      go_wp2
      go_ret
      exact ⟨rfl, rfl⟩
  · have hpos : 0 < ks.length := List.length_pos_iff.2 h0
    obtain ⟨g, off, rfl, hc⟩ := h hpos
    have HC := Lib.hid hc
    clear hc h0
    go_enter Tryd.func32, Tryd.ntmps32
    go_wp2
    go_loopg [5] ks.length (fun g i wr => ∃ k : Nat, k + g = ks.length ∧ i = .int .i64 k ∧ Hid ((ks.take k).any (fun y => decide (y = x)) = false) ∧ w = wr)
    case atStart => exact ⟨0, by omega, rfl, rfl, rfl⟩
    case round =>
      obtain ⟨k, hk, rfl, HA, rfl⟩ := hrel
      by_cases hlt : k < ks.length
      · obtain ⟨s, hs⟩ : ∃ s, ks[k]? = some s := ⟨_, List.getElem?_eq_getElem hlt⟩
        have hcell := HC.out k s hs
        have HS := Lib.hid hs
        clear hs
        by_cases he : s = x
        · subst he
          have HH := Lib.hid (show inB ks s = true from any_hit HS.out)
          go_wp2
          go_ret
          exact ⟨by rw [HH.out]; rfl, rfl⟩
        · have hb : (s.toList == x.toList) = false := by rw [ba_beq, decide_eq_false he]
          have HN := Lib.hid he
          clear he
          go_wp2
          go_roundg (ks.length - (k + 1))
          case measure => omega
          case rel => exact ⟨k + 1, by omega, by go_num, any_take HS.out HA.out HN.out, rfl⟩
      · have hke : Hid (k = ks.length) := show k = ks.length by omega
        go_wp2
        go_ret
        have hx : inB ks x = false := by
          have := HA.out
          rw [hke.out, List.take_length] at this
          exact this
        exact ⟨by rw [hx]; rfl, rfl⟩
end Go.Proofs.YtcamaloekanelaaDoor
