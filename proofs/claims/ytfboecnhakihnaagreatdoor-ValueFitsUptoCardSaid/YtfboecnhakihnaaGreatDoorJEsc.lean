/-
  The parser's 'coded' and 'escape'.
-/
import Derived.Test.YtfboecnhakihnaaGreatDoorJUnit
namespace Go.Proofs.YtfboecnhakihnaaGreatDoor.js
open Go.RowKit

theorem hex4_lt {xs r : Bs} {v : Nat} (h : hex4 xs = some (v, r)) : v < 65536 := by
  match xs, h with
  | a :: b :: c :: d :: t, h =>
    rw [hexAll4] at h
    cases ho : hexAll 0 [a, b, c, d] with
    | none => rw [ho] at h; cases h
    | some n => rw [ho] at h; cases h; exact hexAll4_lt ho
  | [], h | [_], h | [_, _], h | [_, _, _], h => cases h
theorem unitM_lt {xs r : Bs} {v : Nat} (h : unitM xs = some (v, r)) : v < 65536 := by
  match xs, h with
  | x :: y :: t, h =>
    rw [unitM] at h
    by_cases hc : x.toNat = 92 ∧ y.toNat = 117
    · rw [if_pos hc] at h; exact hex4_lt h
    · rw [if_neg hc] at h; cases h
  | [], h | [_], h => cases h
/-- From the backslash on. -/
def codedP (xs : Bs) : Option (Int × Bs) :=
  match unitM xs with
  | none => none
  | some (v, r) => if v < 55296 ∨ 57344 ≤ v then some ((v : Int), r) else if 56320 ≤ v then none else
    match unitM r with
    | none => none
    | some (u, r'') => if 56320 ≤ u ∧ u < 57344 then some (65536 + ((v : Int) - 55296) * 1024 + ((u : Int) - 56320), r'') else none
theorem codedP_eq {x y : UInt8} {r : Bs} (hx : x.toNat = 92) (hy : y.toNat = 117) : codedP (x :: y :: r) = codedM r := by
  have h1 : unitM (x :: y :: r) = hex4 r := by rw [unitM, if_pos ⟨hx, hy⟩]
  unfold codedP codedM
  rw [h1]
  cases hex4 r with
  | none => rfl
  | some vr =>
    obtain ⟨v, t⟩ := vr
    simp only
    split
    · rfl
    · split
      · rfl
      · match t with
        | [] => rfl
        | [_] => rfl
        | a :: b :: r' =>
          by_cases hc : a.toNat = 92 ∧ b.toNat = 117
          · rw [unitM, if_pos hc]; simp only [if_pos hc]; rfl
          · rw [unitM, if_neg hc]; simp only [if_neg hc]
def EscPost (w : World) (p : Nat) (s : ByteArray) (o : Option (Int × Bs)) (e : Ending) (w' : World) : Prop :=
  match o with
  | some (v, r) => e = .returned (.tuple #[.int .i32 v, .bool true]) ∧ Step w p s r w'
  | none => ∃ v ys, e = .returned (.tuple #[.int .i32 v, .bool false]) ∧ Step w p s ys w'

/-- 'unit' that answers, its number an integer. -/
theorem unit_some {p : Nat} {s : ByteArray} {xs r : Bs} {v : Nat} {w : World} (h : Calls Tryz.prog 157 #[.pointer (some ⟨p, 0, none⟩)] w (UnitPost w p s xs (some (v, r)))) {V : Int} (hV : V = (v : Int)) :
    Calls Tryz.prog 157 #[.pointer (some ⟨p, 0, none⟩)] w fun e w' => e = .returned (.tuple #[.int .i32 V, .bool true]) ∧ Step w p s r w' := by
  subst hV; exact h
def sur (v u : Int) : Int := 65536 + (v - 55296) * 1024 + (u - 56320)

set_option maxHeartbeats 1000000 in
theorem coded_plain (p : Nat) (s : ByteArray) (r : Bs) (V : Int) (w : World) (h1 : Calls Tryz.prog 157 #[.pointer (some ⟨p, 0, none⟩)] w fun e w' => e = .returned (.tuple #[.int .i32 V, .bool true]) ∧ Step w p s r w')
    (hV : (0 ≤ V ∧ V < 55296) ∨ (57344 ≤ V ∧ V < 65536)) : Calls Tryz.prog 154 #[.pointer (some ⟨p, 0, none⟩)] w fun e w' => e = .returned (.tuple #[.int .i32 V, .bool true]) ∧ Step w p s r w' := by
  rcases hV with ⟨h0, hc⟩ | ⟨hc, h2⟩
  all_goals
    go_enter Tryz.func154, Tryz.ntmps154
    go_wp2_with fail
    refine h1.mono ?_
    rintro e w1 ⟨rfl, hst⟩
    go_wp2
    go_ret2
    exact ⟨rfl, hst⟩
set_option maxHeartbeats 1000000 in
theorem coded_low (p : Nat) (s : ByteArray) (r : Bs) (V : Int) (w : World) (h1 : Calls Tryz.prog 157 #[.pointer (some ⟨p, 0, none⟩)] w fun e w' => e = .returned (.tuple #[.int .i32 V, .bool true]) ∧ Step w p s r w')
    (hc : 56320 ≤ V) (hd : V < 57344) : Calls Tryz.prog 154 #[.pointer (some ⟨p, 0, none⟩)] w fun e w' => e = .returned (.tuple #[.int .i32 0, .bool false]) ∧ Step w p s r w' := by
  have a1 : 55296 ≤ V := by omega
  go_enter Tryz.func154, Tryz.ntmps154
  go_wp2_with fail
  refine h1.mono ?_
  rintro e w1 ⟨rfl, hst⟩
  go_wp2
  go_ret2
  exact ⟨rfl, hst⟩
set_option maxHeartbeats 1000000 in
theorem coded_none (p : Nat) (s : ByteArray) (r : Bs) (V : Int) (w : World) (h1 : Calls Tryz.prog 157 #[.pointer (some ⟨p, 0, none⟩)] w fun e w' => e = .returned (.tuple #[.int .i32 V, .bool true]) ∧ Step w p s r w')
    (hc : 55296 ≤ V) (hd : V < 56320) (H2 : Hid (∀ w1, Step w p s r w1 → Calls Tryz.prog 157 #[.pointer (some ⟨p, 0, none⟩)] w1 (fun e w' => e = .returned (.tuple #[.int .i32 0, .bool false]) ∧ Step w1 p s r w'))) :
    Calls Tryz.prog 154 #[.pointer (some ⟨p, 0, none⟩)] w fun e w' => e = .returned (.tuple #[.int .i32 0, .bool false]) ∧ Step w p s r w' := by
  have a1 : V < 57344 := by omega
  go_enter Tryz.func154, Tryz.ntmps154
  go_wp2_with fail
  refine h1.mono ?_
  rintro e w1 ⟨rfl, hst⟩
  go_wp2_with fail
  refine (H2.out w1 hst).mono ?_
  rintro e w2 ⟨rfl, hst2⟩
  go_wp2
  go_ret2
  exact ⟨rfl, hst.of hst2⟩
set_option maxHeartbeats 1000000 in
theorem coded_bad (p : Nat) (s : ByteArray) (r t : Bs) (V U : Int) (w : World) (h1 : Calls Tryz.prog 157 #[.pointer (some ⟨p, 0, none⟩)] w fun e w' => e = .returned (.tuple #[.int .i32 V, .bool true]) ∧ Step w p s r w')
    (hc : 55296 ≤ V) (hd : V < 56320) (H2 : Hid (∀ w1, Step w p s r w1 → Calls Tryz.prog 157 #[.pointer (some ⟨p, 0, none⟩)] w1 (fun e w' => e = .returned (.tuple #[.int .i32 U, .bool true]) ∧ Step w1 p s t w')))
    (hU : U < 56320 ∨ 57344 ≤ U) : Calls Tryz.prog 154 #[.pointer (some ⟨p, 0, none⟩)] w fun e w' => e = .returned (.tuple #[.int .i32 0, .bool false]) ∧ Step w p s t w' := by
  have a1 : V < 57344 := by omega
  rcases hU with hU | hU
  all_goals
    go_enter Tryz.func154, Tryz.ntmps154
    go_wp2_with fail
    refine h1.mono ?_
    rintro e w1 ⟨rfl, hst⟩
    go_wp2_with fail
    refine (H2.out w1 hst).mono ?_
    rintro e w2 ⟨rfl, hst2⟩
    go_wp2
    go_ret2
    exact ⟨rfl, hst.of hst2⟩
set_option maxHeartbeats 1000000 in
theorem coded_pair (p : Nat) (s : ByteArray) (r t : Bs) (V U : Int) (w : World) (h1 : Calls Tryz.prog 157 #[.pointer (some ⟨p, 0, none⟩)] w fun e w' => e = .returned (.tuple #[.int .i32 V, .bool true]) ∧ Step w p s r w')
    (hc : 55296 ≤ V) (hd : V < 56320) (H2 : Hid (∀ w1, Step w p s r w1 → Calls Tryz.prog 157 #[.pointer (some ⟨p, 0, none⟩)] w1 (fun e w' => e = .returned (.tuple #[.int .i32 U, .bool true]) ∧ Step w1 p s t w')))
    (hU : 56320 ≤ U) (hU' : U < 57344) : Calls Tryz.prog 154 #[.pointer (some ⟨p, 0, none⟩)] w fun e w' => e = .returned (.tuple #[.int .i32 (sur V U), .bool true]) ∧ Step w p s t w' := by
  have a1 : V < 57344 := by omega
  go_enter Tryz.func154, Tryz.ntmps154
  go_wp2_with fail
  refine h1.mono ?_
  rintro e w1 ⟨rfl, hst⟩
  go_wp2_with fail
  refine (H2.out w1 hst).mono ?_
  rintro e w2 ⟨rfl, hst2⟩
  go_wp2
  go_ret2
  exact ⟨rfl, hst.of hst2⟩
set_option maxHeartbeats 1000000 in
theorem coded_fail (p : Nat) (s : ByteArray) (xs : Bs) (w : World) (h1 : Calls Tryz.prog 157 #[.pointer (some ⟨p, 0, none⟩)] w (UnitPost w p s xs none)) : Calls Tryz.prog 154 #[.pointer (some ⟨p, 0, none⟩)] w (EscPost w p s none) := by
  go_enter Tryz.func154, Tryz.ntmps154
  go_wp2_with fail
  refine h1.mono ?_
  rintro e w1 ⟨rfl, hst⟩
  go_wp2
  go_ret2
  exact ⟨0, xs, rfl, hst⟩
theorem coded_any (p : Nat) (s : ByteArray) (xs : Bs) (w : World) (h : Par w p s xs) (hG : Gl w) (hp4 : 4 ≤ p) :
    Calls Tryz.prog 154 #[.pointer (some ⟨p, 0, none⟩)] w (EscPost w p s (codedP xs)) := by
  have h1 := unit_any p s xs w h hG
  have hlt : ∀ v r, unitM xs = some (v, r) → v < 65536 := fun v r => unitM_lt
  unfold codedP
  generalize unitM xs = o at *
  cases o with
  | none => exact coded_fail p s xs w h1
  | some vr =>
    obtain ⟨v, r⟩ := vr
    have hv := hlt v r rfl
    clear hlt
    have h1' := unit_some h1 rfl
    simp only
    by_cases hc1 : v < 55296 ∨ 57344 ≤ v
    · rw [if_pos hc1]
      exact coded_plain p s r _ w h1' (by omega)
    · rw [if_neg hc1]
      by_cases hc2 : 56320 ≤ v
      · rw [if_pos hc2]
        exact (coded_low p s r _ w h1' (by omega) (by omega)).mono fun e w' ⟨he, hst⟩ => ⟨0, r, he, hst⟩
      · rw [if_neg hc2]
        have h2 : ∀ w1, Step w p s r w1 → Calls Tryz.prog 157 #[.pointer (some ⟨p, 0, none⟩)] w1 (UnitPost w1 p s r (unitM r)) := fun w1 hst => unit_any p s r w1 hst.1 (hG.step hp4 hst)
        have hlt : ∀ u t, unitM r = some (u, t) → u < 65536 := fun v r => unitM_lt
        generalize unitM r = o2 at *
        cases o2 with
        | none => exact (coded_none p s r _ w h1' (by omega) (by omega) h2).mono fun e w' ⟨he, hst⟩ => ⟨0, r, he, hst⟩
        | some ut =>
          obtain ⟨u, t⟩ := ut
          have hu := hlt u t rfl
          clear hlt
          have h2' : ∀ w1, Step w p s r w1 → _ := fun w1 hst => unit_some (h2 w1 hst) rfl
          simp only
          by_cases hc3 : 56320 ≤ u ∧ u < 57344
          · rw [if_pos hc3]
            exact coded_pair p s r t _ _ w h1' (by omega) (by omega) h2' (by omega) (by omega)
          · rw [if_neg hc3]
            exact (coded_bad p s r t _ _ w h1' (by omega) (by omega) h2' (by omega)).mono fun e w' ⟨he, hst⟩ => ⟨0, t, he, hst⟩

theorem escM_nil : escM [] = none := rfl
theorem escM_u {c : UInt8} {r : Bs} (h : c.toNat = 117) : escM (c :: r) = codedM r := by rw [escM, if_pos h]
theorem escM_other {c : UInt8} {r : Bs} (h : c.toNat ≠ 117) : escM (c :: r) = (escC c).map (fun b => ((b : Int), r)) := by
  rw [escM, if_neg h]; cases escC c <;> rfl
def EscC (n : Nat) (v : Int) (ok : Bool) : Prop := (n = 34 → v = 34 ∧ ok = true) ∧ (n = 92 → v = 92 ∧ ok = true) ∧ (n = 47 → v = 47 ∧ ok = true) ∧ (n = 98 → v = 8 ∧ ok = true) ∧ (n = 102 → v = 12 ∧ ok = true) ∧ (n = 110 → v = 10 ∧ ok = true) ∧ (n = 114 → v = 13 ∧ ok = true) ∧ (n = 116 → v = 9 ∧ ok = true) ∧
  (n ≠ 34 → n ≠ 92 → n ≠ 47 → n ≠ 98 → n ≠ 102 → n ≠ 110 → n ≠ 114 → n ≠ 116 → v = 0 ∧ ok = false)
theorem escC_of {c : UInt8} {v : Int} {ok : Bool} (h : EscC c.toNat v ok) : (ok = true ∧ ∃ b : Nat, escC c = some b ∧ v = b) ∨ (ok = false ∧ escC c = none) := by
  obtain ⟨h1, h2, h3, h4, h5, h6, h7, h8, h9⟩ := h
  unfold escC
  by_cases e1 : c.toNat = 34
  · simp [e1, h1 e1]
  by_cases e2 : c.toNat = 92
  · simp [e2, h2 e2]
  by_cases e3 : c.toNat = 47
  · simp [e3, h3 e3]
  by_cases e4 : c.toNat = 98
  · simp [e4, h4 e4]
  by_cases e5 : c.toNat = 102
  · simp [e5, h5 e5]
  by_cases e6 : c.toNat = 110
  · simp [e6, h6 e6]
  by_cases e7 : c.toNat = 114
  · simp [e7, h7 e7]
  by_cases e8 : c.toNat = 116
  · simp [e8, h8 e8]
  simp [e1, e2, e3, e4, e5, e6, e7, e8, h9 e1 e2 e3 e4 e5 e6 e7 e8]

set_option maxHeartbeats 1000000 in
theorem escape_nil (p : Nat) (s : ByteArray) (x : UInt8) (w : World) (h : Par w p s [x]) :
    Calls Tryz.prog 145 #[.pointer (some ⟨p, 0, none⟩)] w fun e w' => e = .returned (.tuple #[.int .i32 0, .bool false]) ∧ Step w p s [x] w' := by
  obtain ⟨k, c0, c1, f0, f1, ha, hs, _⟩ := h.parts
  have hk : s.size ≤ k + 1 := by have := ha.len; simp at this; omega
  have hk2 : k < s.size := ha.lt
  go_enter Tryz.func145, Tryz.ntmps145
  go_wp2
  go_quiet (fail)
  go_wp2
  go_ret2
  exact ⟨rfl, (Step.refl h).drewN _⟩
set_option maxHeartbeats 1000000 in
theorem escape_u (p : Nat) (s : ByteArray) (x c : UInt8) (r : Bs) (hx : x.toNat = 92) (hc : c.toNat = 117) (w : World) (h : Par w p s (x :: c :: r)) (hG : Gl w) (hp4 : 4 ≤ p) :
    Calls Tryz.prog 145 #[.pointer (some ⟨p, 0, none⟩)] w (EscPost w p s (codedM r)) := by
  obtain ⟨k, c0, c1, f0, f1, ha, hs, _⟩ := h.parts
  have hk : k + 1 < s.size := ha.tail.lt
  have hget := ha.tail.get hk
  rw [← codedP_eq hx hc]
  have hcd : ∀ n, Calls Tryz.prog 154 #[.pointer (some ⟨p, 0, none⟩)] (w.drewN n) (EscPost (w.drewN n) p s (codedP (x :: c :: r))) := fun n => coded_any p s _ _ h (hG.drewN n) hp4
  have HC := Lib.hid hcd
  generalize codedP (x :: c :: r) = o at *
  have hcc : ((c.toNat : Int) == 117) = true := by simp only [beq_iff_eq]; omega
  clear hc hx hcd
  cases o with
  | none =>
    go_enter Tryz.func145, Tryz.ntmps145
    go_wp2
    go_quiet (fail)
    go_wp2
    go_quiet (fail)
    go_wp2_with fail
    refine (HC.out _).mono ?_
    rintro e w1 ⟨v, ys, rfl, hst⟩
    go_wp2
    go_ret2
    exact ⟨v, ys, rfl, (((Step.refl h).drewN _)).of hst⟩
  | some vr =>
    obtain ⟨v, t⟩ := vr
    go_enter Tryz.func145, Tryz.ntmps145
    go_wp2
    go_quiet (fail)
    go_wp2
    go_quiet (fail)
    go_wp2_with fail
    refine (HC.out _).mono ?_
    rintro e w1 ⟨rfl, hst⟩
    go_wp2
    go_ret2
    exact ⟨rfl, (((Step.refl h).drewN _)).of hst⟩
set_option maxHeartbeats 1000000 in
theorem escape_other (p : Nat) (s : ByteArray) (x c : UInt8) (r : Bs) (hc : c.toNat ≠ 117) (w : World) (h : Par w p s (x :: c :: r)) :
    Calls Tryz.prog 145 #[.pointer (some ⟨p, 0, none⟩)] w fun e w' => ∃ v ok, e = .returned (.tuple #[.int .i32 v, .bool ok]) ∧ EscC c.toNat v ok ∧ Step w p s r w' := by
  obtain ⟨k, c0, c1, f0, f1, ha, hs, _⟩ := h.parts
  have hk : k + 1 < s.size := ha.tail.lt
  have hget := ha.tail.get hk
  have hcc : ((c.toNat : Int) == 117) = false := by simp only [beq_eq_false_iff_ne, ne_eq]; omega
  have hat2 : At s (k + 2) r := ha.tail.tail
  have hst2 := (Step.refl h).set hat2
  clear hc
  go_enter Tryz.func145, Tryz.ntmps145
  go_wp2
  go_quiet (fail)
  go_wp2
  go_quiet (fail)
  go_wp2
  all_goals go_ret2
  all_goals refine ⟨_, _, rfl, ?_, (by first | exact hst2.drewN _ | exact (hst2.drewN _).drewN _)⟩
  all_goals
    simp only [beq_iff_eq, beq_eq_false_iff_ne, ne_eq] at *
    unfold EscC
    refine ⟨?_, ?_, ?_, ?_, ?_, ?_, ?_, ?_, ?_⟩
    all_goals intros
    all_goals first | exact ⟨by omega, rfl⟩ | exact ⟨by unfold wrap32; omega, rfl⟩ | (exfalso; omega)
theorem escape_any (p : Nat) (s : ByteArray) (x : UInt8) (r : Bs) (hx : x.toNat = 92) (w : World) (h : Par w p s (x :: r)) (hG : Gl w) (hp4 : 4 ≤ p) :
    Calls Tryz.prog 145 #[.pointer (some ⟨p, 0, none⟩)] w (EscPost w p s (escM r)) := by
  cases r with
  | nil => exact (escape_nil p s x w h).mono fun e w' ⟨he, hst⟩ => ⟨0, _, he, hst⟩
  | cons c r =>
    by_cases hc : c.toNat = 117
    · rw [escM_u hc]; exact escape_u p s x c r hx hc w h hG hp4
    · rw [escM_other hc]
      refine (escape_other p s x c r hc w h).mono fun e w' => ?_
      rintro ⟨v, ok, rfl, hE, hst⟩
      rcases escC_of hE with ⟨rfl, b, hb, rfl⟩ | ⟨rfl, hb⟩
      · rw [hb]; exact ⟨rfl, hst⟩
      · rw [hb]; exact ⟨v, r, rfl, hst⟩
end Go.Proofs.YtfboecnhakihnaaGreatDoor.js
