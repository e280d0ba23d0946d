/-
  Plain facts on the print of bytes (no Go text): a step by a bit, eight of them, the print of bytes; bytes of which one is another one have another print.
-/
import Derived.Test.YtlgjmbljpjnlhaaPlain
import Derived.Laws.BitsAllLaws
namespace Go.Proofs.Ytlgjmbljpjnlhaa
open Go.RowKit

/-- A bit's step. -/
def st (x : Nat) : Nat := if x % 2 = 1 then x / 2 ^^^ 13933329357911598997 else x / 2
/-- So many steps. -/
def sts : Nat → Nat → Nat
  | 0, x => x
  | n + 1, x => sts n (st x)
/-- The table's number. -/
def tab (x : Nat) : Nat := sts 8 x
/-- The print of what has the print f, and these bytes behind. -/
def prn (f : Nat) (xs : List Int) : Nat := xs.foldl (fun f x => tab (f ^^^ x.toNat)) f

theorem st_lt {x : Nat} (h : x < 18446744073709551616) : st x < 18446744073709551616 := by
  unfold st
  split
  · exact Nat.xor_lt_two_pow (n := 64) (by omega) (by omega)
  · omega
theorem sts_lt : ∀ (n : Nat) {x : Nat}, x < 18446744073709551616 → sts n x < 18446744073709551616
  | 0, _, h => h
  | n + 1, _, h => sts_lt n (st_lt h)
theorem sts_succ : ∀ (n x : Nat), sts (n + 1) x = st (sts n x)
  | 0, _ => rfl
  | n + 1, x => by rw [sts, sts_succ n]; rfl
theorem tab_lt {x : Nat} (h : x < 18446744073709551616) : tab x < 18446744073709551616 := sts_lt 8 h
theorem prn_lt : ∀ (xs : List Int) {f : Nat}, f < 18446744073709551616 → (∀ x ∈ xs, 0 ≤ x ∧ x < 256) → prn f xs < 18446744073709551616
  | [], _, h, _ => h
  | x :: xs, f, h, hx => by
    have h1 := hx x (by simp)
    exact prn_lt xs (tab_lt (Nat.xor_lt_two_pow (n := 64) h (by omega))) (fun y hy => hx y (by simp [hy]))
theorem prn_cons (f : Nat) (x : Int) (xs : List Int) : prn f (x :: xs) = prn (tab (f ^^^ x.toNat)) xs := rfl
theorem prn_append (f : Nat) (xs ys : List Int) : prn f (xs ++ ys) = prn (prn f xs) ys := List.foldl_append
theorem prn_snoc (f : Nat) (xs : List Int) (x : Int) : prn f (xs ++ [x]) = tab (prn f xs ^^^ x.toNat) := by rw [prn_append]; rfl

theorem div_xor (x y : Nat) : (x ^^^ y) / 2 = x / 2 ^^^ y / 2 := by
  have := Nat.shiftRight_xor_distrib (a := x) (b := y) (i := 1)
  simpa [Nat.shiftRight_eq_div_pow] using this
theorem st_xor (x y : Nat) : st (x ^^^ y) = st x ^^^ st y := by
  have hm : (x ^^^ y) % 2 = (x % 2) ^^^ (y % 2) := Nat.xor_mod_two_pow (n := 1)
  unfold st
  rw [hm, div_xor]
  rcases Nat.mod_two_eq_zero_or_one x with hx | hx <;> rcases Nat.mod_two_eq_zero_or_one y with hy | hy
  · rw [hx, hy]; rfl
  · rw [hx, hy]
    show x / 2 ^^^ y / 2 ^^^ 13933329357911598997 = x / 2 ^^^ (y / 2 ^^^ 13933329357911598997)
    rw [Nat.xor_assoc]
  · rw [hx, hy]
    show x / 2 ^^^ y / 2 ^^^ 13933329357911598997 = (x / 2 ^^^ 13933329357911598997) ^^^ y / 2
    rw [Nat.xor_assoc, Nat.xor_assoc, Nat.xor_comm (y / 2)]
  · rw [hx, hy]
    show x / 2 ^^^ y / 2 = (x / 2 ^^^ 13933329357911598997) ^^^ (y / 2 ^^^ 13933329357911598997)
    rw [Nat.xor_assoc, ← Nat.xor_assoc 13933329357911598997, Nat.xor_comm 13933329357911598997 (y / 2), Nat.xor_assoc (y / 2), Nat.xor_self, Nat.xor_zero]
theorem sts_xor : ∀ (n x y : Nat), sts n (x ^^^ y) = sts n x ^^^ sts n y
  | 0, _, _ => rfl
  | n + 1, x, y => by rw [sts, st_xor, sts_xor n]; rfl
theorem st_even (m : Nat) : st (2 * m) = m := by unfold st; rw [if_neg (by omega)]; omega
theorem tab_high (m : Nat) : tab (256 * m) = m := by
  have h : 256 * m = 2 * (2 * (2 * (2 * (2 * (2 * (2 * (2 * m))))))) := by omega
  rw [h]
  simp only [tab, sts, st_even]
/-- A byte's step by the table. -/
theorem tab_step {f c : Nat} : tab (f ^^^ c) = f / 256 ^^^ tab (f % 256 ^^^ c) := by
  have h1 : f = 256 * (f / 256) ^^^ f % 256 := by
    have := Nat.two_pow_add_eq_or_of_lt (i := 8) (b := f % 256) (by omega) (f / 256)
    have h2 := Nat.div_add_mod f 256
    refine Nat.eq_of_testBit_eq fun i => ?_
    rw [Nat.testBit_xor]
    by_cases hi : i < 8
    · have e1 : (256 * (f / 256)).testBit i = false := by
        rw [show (256 : Nat) = 2 ^ 8 from rfl, Nat.testBit_two_pow_mul]; simp; omega
      have e2 : (f % 256).testBit i = f.testBit i := by
        rw [show (256 : Nat) = 2 ^ 8 from rfl, Nat.testBit_mod_two_pow]; simp [hi]
      rw [e1, e2, Bool.false_xor]
    · have e1 : (256 * (f / 256)).testBit i = f.testBit i := by
        rw [show (256 : Nat) = 2 ^ 8 from rfl, Nat.testBit_two_pow_mul, Nat.testBit_div_two_pow]
        rw [show i - 8 + 8 = i from by omega]; simp; omega
      have e2 : (f % 256).testBit i = false := by
        rw [show (256 : Nat) = 2 ^ 8 from rfl, Nat.testBit_mod_two_pow]; simp [hi]
      rw [e1, e2, Bool.xor_false]
  have h3 : f ^^^ c = 256 * (f / 256) ^^^ (f % 256 ^^^ c) := by
    rw [← Nat.xor_assoc, ← h1]
  rw [h3]
  show sts 8 _ = _
  rw [sts_xor]
  show tab _ ^^^ tab _ = _
  rw [tab_high]

/-- A step tells what it was taken of. -/
theorem st_inj {x y : Nat} (hx : x < 18446744073709551616) (hy : y < 18446744073709551616) (h : st x = st y) : x = y := by
  have top : ∀ z : Nat, z < 9223372036854775808 → 9223372036854775808 ≤ z ^^^ 13933329357911598997 := by
    intro z hz
    rcases Nat.lt_or_ge (z ^^^ 13933329357911598997) 9223372036854775808 with h1 | h1
    · have h2 := Nat.xor_lt_two_pow (n := 63) (show z < 2 ^ 63 by omega) (show z ^^^ 13933329357911598997 < 2 ^ 63 by omega)
      rw [← Nat.xor_assoc, Nat.xor_self, Nat.zero_xor] at h2
      omega
    · exact h1
  have tx := top (x / 2) (by omega)
  have ty := top (y / 2) (by omega)
  unfold st at h
  rcases Nat.mod_two_eq_zero_or_one x with hx2 | hx2 <;> rcases Nat.mod_two_eq_zero_or_one y with hy2 | hy2
  · rw [if_neg (by omega), if_neg (by omega)] at h; omega
  · rw [if_neg (by omega), if_pos (by omega)] at h; omega
  · rw [if_pos (by omega), if_neg (by omega)] at h; omega
  · rw [if_pos (by omega), if_pos (by omega)] at h
    have := congrArg (· ^^^ 13933329357911598997) h
    simp only [Nat.xor_assoc, Nat.xor_self, Nat.xor_zero] at this
    omega
theorem sts_inj : ∀ (n : Nat) {x y : Nat}, x < 18446744073709551616 → y < 18446744073709551616 → sts n x = sts n y → x = y
  | 0, _, _, _, _, h => h
  | n + 1, _, _, hx, hy, h => st_inj hx hy (sts_inj n (st_lt hx) (st_lt hy) h)
theorem xor_inj {a b c : Nat} (h : a ^^^ c = b ^^^ c) : a = b := by
  have := congrArg (· ^^^ c) h
  simpa [Nat.xor_assoc] using this
theorem prn_inj : ∀ (xs : List Int) {f g : Nat}, f < 18446744073709551616 → g < 18446744073709551616 → (∀ x ∈ xs, 0 ≤ x ∧ x < 256) → prn f xs = prn g xs → f = g
  | [], _, _, _, _, _, h => h
  | x :: xs, f, g, hf, hg, hx, h => by
    have h1 := hx x (by simp)
    have a := Nat.xor_lt_two_pow (n := 64) hf (show x.toNat < 2 ^ 64 by omega)
    have b := Nat.xor_lt_two_pow (n := 64) hg (show x.toNat < 2 ^ 64 by omega)
    have := prn_inj xs (tab_lt a) (tab_lt b) (fun y hy => hx y (by simp [hy])) h
    exact xor_inj (sts_inj 8 a b this)
/-- Bytes of which one is another one have another print. -/
theorem prn_turned {xs ys : List Int} {x y : Int} {f : Nat} (hf : f < 18446744073709551616) (hx : ∀ z ∈ xs, 0 ≤ z ∧ z < 256) (hy : ∀ z ∈ ys, 0 ≤ z ∧ z < 256) (h0 : 0 ≤ x ∧ x < 256) (h1 : 0 ≤ y ∧ y < 256) (hne : x ≠ y) : prn f (xs ++ x :: ys) ≠ prn f (xs ++ y :: ys) := by
  intro h
  rw [prn_append, prn_append, prn_cons, prn_cons] at h
  have hp := prn_lt xs hf hx
  have a := Nat.xor_lt_two_pow (n := 64) hp (show x.toNat < 2 ^ 64 by omega)
  have b := Nat.xor_lt_two_pow (n := 64) hp (show y.toNat < 2 ^ 64 by omega)
  have h2 := sts_inj 8 a b (prn_inj ys (tab_lt a) (tab_lt b) hy h)
  rw [Nat.xor_comm, Nat.xor_comm _ y.toNat] at h2
  have := xor_inj h2
  omega
end Go.Proofs.Ytlgjmbljpjnlhaa
