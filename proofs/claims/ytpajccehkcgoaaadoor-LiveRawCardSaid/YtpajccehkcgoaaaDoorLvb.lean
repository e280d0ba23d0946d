/-
  Two slices of bools that hold the same are told alike.
-/
import Derived.Test.YtpajccehkcgoaaaDoorLvn
namespace Go.Proofs.YtpajccehkcgoaaaDoor
open Go.RowKit Go.Shelf Lv

/-- A slice of bools. -/
def BoolsAt (w : World) (ok : Nat → Prop) (xs : List Bool) (v : Value) : Prop :=
  ∃ (A : Option Addr) (cap : Nat), v = .slice A xs.length cap ∧ xs.length ≤ cap ∧ cap ≤ maxLen ∧ (0 < xs.length → ∃ g off, A = some ⟨g, off, none⟩ ∧ ok g ∧ ∀ i x, xs[i]? = some x → w.cell? ⟨g, off + i, none⟩ = some (.bool x))
theorem BoolsAt.fr {w w' : World} {ok ok' : Nat → Prop} (hf : Fr w w' ok') (hk : ∀ b, ok b → ok' b) {xs : List Bool} {v : Value} (h : BoolsAt w ok xs v) : BoolsAt w' ok xs v := by
  obtain ⟨A, cap, h1, h2, h3, h5⟩ := h
  exact ⟨A, cap, h1, h2, h3, fun hp => by obtain ⟨g, off, e, hg, hc⟩ := h5 hp; exact ⟨g, off, e, hg, fun i s hs => hf.cell (hc i s hs) (hk g hg)⟩⟩
set_option maxHeartbeats 400000 in
theorem eq_bools (x : Bool) (w : World) : Calls Tryd.prog 14 #[.bool x, .bool x] w fun e w' => e = .returned (.bool true) ∧ w' = w := by
  cases x
  all_goals
    go_enter Tryd.func14, Tryd.ntmps14
    go_wp2
    go_ret
    exact ⟨rfl, rfl⟩
set_option maxRecDepth 100000 in
set_option maxHeartbeats 1000000 in
theorem same_bools (xs : List Bool) (v v' : Value) (w : World) (ok ok' : Nat → Prop) (hb : xs.length ≤ 1000000) (h : BoolsAt w ok xs v) (h' : BoolsAt w ok' xs v') :
    Calls Tryd.prog 13 #[v, v', .func (.func 14) #[] #[]] w fun e w' => e = .returned (.bool true) ∧ ∃ n, w' = w.drewN n := by
  obtain ⟨A, cap, rfl, _, _, h⟩ := h
  obtain ⟨A', cap', rfl, _, _, h'⟩ := h'
  by_cases h0 : xs = []
  · subst h0
    go_enter Tryd.func13, Tryd.ntmps13
    go_wp2
    go_loopg [7] 0 (fun g i wr => i = .int .i64 0 ∧ w = wr)
    case atStart => exact ⟨rfl, rfl⟩
    case round =>
      obtain ⟨rfl, rfl⟩ := hrel
      go_wp2
      go_ret
      exact ⟨rfl, 0, rfl⟩
  · have hpos : 0 < xs.length := List.length_pos_iff.2 h0
    obtain ⟨g, off, rfl, _, hc⟩ := h hpos
    obtain ⟨g', off', rfl, _, hc'⟩ := h' hpos
    have HC := Lib.hid hc
    have HC' := Lib.hid hc'
    clear hc hc' h0
    go_enter Tryd.func13, Tryd.ntmps13
    go_wp2
    go_loopg [7] xs.length (fun g i wr => ∃ k n : Nat, k + g = xs.length ∧ i = .int .i64 k ∧ w.drewN n = wr)
    case atStart => exact ⟨0, 0, by omega, rfl, rfl⟩
    case round =>
      obtain ⟨k, n, hk, rfl, hW⟩ := hrel
      have HW := Lib.hid hW
      by_cases hlt : k < xs.length
      · obtain ⟨s, hs⟩ : ∃ s, xs[k]? = some s := ⟨_, List.getElem?_eq_getElem hlt⟩
        have hcell : wr.cell? ⟨g, off + k, none⟩ = some (.bool s) := by rw [← hW]; exact HC.out k s hs
        have hcell' : wr.cell? ⟨g', off' + k, none⟩ = some (.bool s) := by rw [← hW]; exact HC'.out k s hs
        have hki : (k : Int) < (xs.length : Int) := by omega
        have heq := fun n : Nat => eq_bools s (wr.drewN n)
        have HE := Lib.hid heq
        clear hs hW heq
        go_wp2
        go_quiet ((go_at_call 14; exact quiet_same (fun n => HE.out n) _))
        go_wp2
        go_roundg (xs.length - (k + 1))
        case measure => omega
        case rel => exact ⟨k + 1, n + nq, by omega, by go_num, by rw [← HW.out]; simp⟩
      · clear hW
        go_wp2
        go_ret
        exact ⟨rfl, n, HW.out.symm⟩
set_option maxHeartbeats 400000 in
theorem plain_bools (xs : List Bool) (v v' : Value) (w : World) (ok ok' : Nat → Prop) (hb : xs.length ≤ 1000000) (h : BoolsAt w ok xs v) (h' : BoolsAt w ok' xs v') :
    Calls Tryd.prog 6 #[v, v'] w fun e w' => e = .returned (.bool true) ∧ Fr w w' (fun _ => True) := by
  have hs := same_bools xs v v' w ok ok' hb h h'
  obtain ⟨A, cap, rfl, _⟩ := h
  obtain ⟨A', cap', rfl, _⟩ := h'
  go_enter Tryd.func6, Tryd.ntmps6
  go_wp2_with fail
  refine hs.mono ?_
  rintro e w' ⟨rfl, n, rfl⟩
  go_wp2
  go_ret
  exact ⟨rfl, (Fr.refl _ _).drewN n⟩
end Go.Proofs.YtpajccehkcgoaaaDoor
