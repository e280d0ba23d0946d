/-
  'inBounds': whether what a value has may be so.
-/
import Derived.Test.YtpajccehkcgoaaaDoorFit
namespace Go.Proofs.YtpajccehkcgoaaaDoor
open Go.RowKit

def boundsV (nd : Nd) (n : Int) (nb nl nk : Nat) (vb ub : Bool) : Bool :=
  if nd.kind = 1 ∨ nd.kind = 4 ∨ nd.kind = 7 ∨ nd.kind = 11 then true
  else if nd.kind = 2 then n == 0 || n == 1
  else if nd.kind = 3 then decide (-2147483648 ≤ n) && decide (n ≤ 2147483647)
  else if nd.kind = 5 then (nb : Int) == 4
  else if nd.kind = 6 then (nb : Int) == 8
  else if nd.kind = 8 then vb
  else if nd.kind = 14 then (nb : Int) == nd.size
  else if nd.kind = 10 then decide (0 ≤ n) && decide (n < (nd.sy.length : Int))
  else if nd.kind = 9 then (nl : Int) == (nd.fs.length : Int)
  else if nd.kind = 12 then ((nk : Int) == (nl : Int)) && ub
  else if nd.kind = 13 then (decide (0 ≤ n) && decide (n < (nd.br.length : Int))) && ((nl : Int) == 1)
  else false
set_option maxHeartbeats 1000000 in
theorem isp_any (n m : Int) (w : World) : Calls Tryd.prog 81 #[.int .i64 n, .int .i64 m] w fun e w' => e = .returned (.bool (decide (0 ≤ n) && decide (n < m))) ∧ w' = w := by
  go_enter Tryd.func81, Tryd.ntmps81
  go_wp2
  all_goals (go_ret; exact ⟨by first | (simp [*]; done) | (simp [*]; omega), rfl⟩)
set_option maxRecDepth 100000 in
set_option maxHeartbeats 4000000 in
theorem inb_any (nd : Nd) (c : Nat → Value) (w : World) (ok : Nat → Prop) (hn : NdIn w ok nd c) (k n : Int) (B A A' : Option Addr) (nb cb nl cl nk ck : Nat) (vb ub : Bool)
    (hV : nd.kind = 8 → ∀ W, Below w.heap.size w W → Calls Tryd.prog 22 #[.slice B nb cb] W fun e w' => e = .returned (.bool vb) ∧ Below W.heap.size W w')
    (hU : nd.kind = 12 → ∀ W, Below w.heap.size w W → Calls Tryd.prog 82 #[.slice A' nk ck] W fun e w' => e = .returned (.bool ub) ∧ Below W.heap.size W w') :
    Calls Tryd.prog 74 #[ndv c, .agg #[.int .i64 k, .int .i64 n, .slice B nb cb, .slice A nl cl, .slice A' nk ck]] w fun e w' => e = .returned (.bool (boundsV nd n nb nl nk vb ub)) ∧ Below w.heap.size w w' := by
  have q0 := hn.kind
  have q9 := hn.size
  obtain ⟨Af, capf, q3⟩ : ∃ A cap, c 3 = .slice A nd.fs.length cap := by obtain ⟨A, cap, _, h, _⟩ := hn.fs; exact ⟨A, cap, h⟩
  obtain ⟨Ab, capb, q8⟩ : ∃ A cap, c 8 = .slice A nd.br.length cap := by obtain ⟨A, cap, h, _⟩ := hn.br; exact ⟨A, cap, h⟩
  obtain ⟨As, caps, q4⟩ : ∃ A cap, c 4 = .slice A nd.sy.length cap := by obtain ⟨A, cap, h, _⟩ := hn.sy; exact ⟨A, cap, h⟩
  have HV := Lib.hid hV
  have HU := Lib.hid hU
  have HISP := Lib.hid isp_any
  clear hV hU hn
  unfold boundsV
  generalize nd.kind = kd at *
  generalize nd.size = sz at *
  generalize nd.fs.length = fl at *
  generalize nd.br.length = bl at *
  generalize nd.sy.length = sl at *
  clear nd
  simp only [ndv, q0, q3, q4, q8, q9]
  clear q0 q3 q4 q8 q9
  have hb2 : ∀ (a b : Obj), Below w.heap.size w ((w.alloc a).alloc b) := fun a b => ((Below.refl _ w).alloc (Nat.le_refl _) _).alloc (by simp) _
  have HB2 := Lib.hid hb2
  clear hb2
  by_cases h1 : kd = 1
  · subst h1
    go_enter Tryd.func74, Tryd.ntmps74
    go_wp2
    all_goals (go_ret; exact ⟨by first | (simp [*]; done) | (simp [*]; omega), HB2.out _ _⟩)
  by_cases h4 : kd = 4
  · subst h4
    go_enter Tryd.func74, Tryd.ntmps74
    go_wp2
    all_goals (go_ret; exact ⟨by first | (simp [*]; done) | (simp [*]; omega), HB2.out _ _⟩)
  by_cases h7 : kd = 7
  · subst h7
    go_enter Tryd.func74, Tryd.ntmps74
    go_wp2
    all_goals (go_ret; exact ⟨by first | (simp [*]; done) | (simp [*]; omega), HB2.out _ _⟩)
  by_cases h11 : kd = 11
  · subst h11
    go_enter Tryd.func74, Tryd.ntmps74
    go_wp2
    all_goals (go_ret; exact ⟨by first | (simp [*]; done) | (simp [*]; omega), HB2.out _ _⟩)
  by_cases h2 : kd = 2
  · subst h2
    go_enter Tryd.func74, Tryd.ntmps74
    go_wp2
    all_goals (go_ret; exact ⟨by first | (simp [*]; done) | (simp [*]; omega), HB2.out _ _⟩)
  by_cases h3 : kd = 3
  · subst h3
    go_enter Tryd.func74, Tryd.ntmps74
    go_wp2
    all_goals (go_ret; exact ⟨by first | (simp [*]; done) | (simp [*]; omega), HB2.out _ _⟩)
  by_cases h5 : kd = 5
  · subst h5
    go_enter Tryd.func74, Tryd.ntmps74
    go_wp2
    all_goals (go_ret; exact ⟨by first | (simp [*]; done) | (simp [*]; omega), HB2.out _ _⟩)
  by_cases h6 : kd = 6
  · subst h6
    go_enter Tryd.func74, Tryd.ntmps74
    go_wp2
    all_goals (go_ret; exact ⟨by first | (simp [*]; done) | (simp [*]; omega), HB2.out _ _⟩)
  by_cases h14 : kd = 14
  · subst h14
    go_enter Tryd.func74, Tryd.ntmps74
    go_wp2
    all_goals (go_ret; exact ⟨by first | (simp [*]; done) | (simp [*]; omega), HB2.out _ _⟩)
  by_cases h9 : kd = 9
  · subst h9
    go_enter Tryd.func74, Tryd.ntmps74
    go_wp2
    all_goals (go_ret; exact ⟨by first | (simp [*]; done) | (simp [*]; omega), HB2.out _ _⟩)
  by_cases h8 : kd = 8
  · subst h8
    have hv := fun a b => HV.out rfl _ (HB2.out a b)
    go_enter Tryd.func74, Tryd.ntmps74
    go_wp2_with fail
    refine (hv _ _).mono ?_
    rintro e w1 ⟨rfl, hb1⟩
    go_wp2
    go_ret
    exact ⟨by simp, (HB2.out _ _).trans (hb1.mono (HB2.out _ _).size)⟩
  by_cases h10 : kd = 10
  · subst h10
    go_enter Tryd.func74, Tryd.ntmps74
    go_wp2_with fail
    refine (HISP.out n sl _).mono ?_
    rintro e w1 ⟨rfl, hw1⟩
    subst hw1
    go_wp2
    all_goals (go_ret; exact ⟨by first | (simp [*]; done) | (simp [*]; omega), HB2.out _ _⟩)
  by_cases h12 : kd = 12
  · subst h12
    have hu := fun a b => HU.out rfl _ (HB2.out a b)
    by_cases hkl : nk = nl
    · subst hkl
      go_enter Tryd.func74, Tryd.ntmps74
      go_wp2_with fail
      refine (hu _ _).mono ?_
      rintro e w1 ⟨rfl, hb1⟩
      go_wp2
      go_ret
      exact ⟨by simp, (HB2.out _ _).trans (hb1.mono (HB2.out _ _).size)⟩
    · have hkl2 : ¬ (nk : Int) = (nl : Int) := by omega
      go_enter Tryd.func74, Tryd.ntmps74
      go_wp2
      all_goals (go_ret; exact ⟨by first | (simp [*]; done) | (simp [*]; omega), HB2.out _ _⟩)
  by_cases h13 : kd = 13
  · subst h13
    go_enter Tryd.func74, Tryd.ntmps74
    go_wp2_with fail
    refine (HISP.out n bl _).mono ?_
    rintro e w1 ⟨rfl, hw1⟩
    subst hw1
    go_wp2
    all_goals (go_ret; exact ⟨by first | (simp [*]; done) | (simp [*]; omega), HB2.out _ _⟩)
  go_enter Tryd.func74, Tryd.ntmps74
  go_wp2
  all_goals (go_ret; exact ⟨by first | (simp [*]; done) | (simp [*]; omega), HB2.out _ _⟩)
end Go.Proofs.YtpajccehkcgoaaaDoor
