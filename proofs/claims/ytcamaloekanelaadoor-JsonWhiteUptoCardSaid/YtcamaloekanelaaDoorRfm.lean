/-
  Plain Lean: the bytes of a rune; four digits of 16, one by one.
-/
import Derived.Test.YtcamaloekanelaaDoorMdl
import Derived.Laws.Runes
namespace Go.Proofs.YtcamaloekanelaaDoor

theorem enc_eq (u : Int) (h0 : 0 ≤ u) (h1 : u < 55296 ∨ 57344 ≤ u) (h2 : u ≤ 1114111) : Utf8.encode u = str (Lib.encodeRune u) := by
  obtain ⟨n, rfl⟩ := Int.eq_ofNat_of_zero_le h0
  have hv : Utf8.valid (n : Int) = true := by simp [Utf8.valid]; omega
  unfold Utf8.encode Lib.encodeRune
  simp only [hv, if_true, Int.toNat_natCast]
  by_cases a : n < 128
  · rw [if_pos a, Lib.encodeRuneZ_one (by omega) (by omega)]; rfl
  · rw [if_neg a]
    by_cases b : n < 2048
    · rw [if_pos b, Lib.encodeRuneZ_two (by omega) (by omega)]
      show _ = str [(192 + (n : Int) / 64).toNat.toUInt8, (128 + (n : Int) % 64).toNat.toUInt8]
      rw [show (192 + (n : Int) / 64).toNat = 192 + n / 64 by omega, show (128 + (n : Int) % 64).toNat = 128 + n % 64 by omega]; rfl
    · rw [if_neg b]
      by_cases c : n < 65536
      · rw [if_pos c, Lib.encodeRuneZ_three (by omega)]
        show _ = str [(224 + (n : Int) / 4096).toNat.toUInt8, (128 + (n : Int) / 64 % 64).toNat.toUInt8, (128 + (n : Int) % 64).toNat.toUInt8]
        rw [show (224 + (n : Int) / 4096).toNat = 224 + n / 4096 by omega, show (128 + (n : Int) / 64 % 64).toNat = 128 + n / 64 % 64 by omega, show (128 + (n : Int) % 64).toNat = 128 + n % 64 by omega]; rfl
      · rw [if_neg c, Lib.encodeRuneZ_four (by omega) (by omega)]
        show _ = str [(240 + (n : Int) / 262144).toNat.toUInt8, (128 + (n : Int) / 4096 % 64).toNat.toUInt8, (128 + (n : Int) / 64 % 64).toNat.toUInt8, (128 + (n : Int) % 64).toNat.toUInt8]
        rw [show (240 + (n : Int) / 262144).toNat = 240 + n / 262144 by omega, show (128 + (n : Int) / 4096 % 64).toNat = 128 + n / 4096 % 64 by omega, show (128 + (n : Int) / 64 % 64).toNat = 128 + n / 64 % 64 by omega, show (128 + (n : Int) % 64).toNat = 128 + n % 64 by omega]; rfl

def hexRun : Nat → Nat → Bs → Option (Nat × Bs)
  | 0, a, xs => some (a, xs)
  | _ + 1, _, [] => none
  | n + 1, a, c :: r => match hexD c with
    | none => none
    | some d => hexRun n (16 * a + d) r
theorem hexRun_four (xs : Bs) : hexRun 4 0 xs = hex4 xs := by
  match xs with
  | [] => rfl
  | [a] => simp only [hexRun, hex4]; cases hexD a <;> rfl
  | [a, b] => simp only [hexRun, hex4]; cases hexD a <;> cases hexD b <;> rfl
  | [a, b, c] => simp only [hexRun, hex4]; cases hexD a <;> cases hexD b <;> cases hexD c <;> rfl
  | a :: b :: c :: d :: r =>
    simp only [hexRun, hex4]
    cases hexD a with
    | none => rfl
    | some x => cases hexD b with
      | none => rfl
      | some y => cases hexD c with
        | none => rfl
        | some z => cases hexD d with
          | none => rfl
          | some u => simp only [Option.some.injEq, Prod.mk.injEq, and_true]; omega
theorem hexD_lt {c : UInt8} {d : Nat} (h : hexD c = some d) : d < 16 := by
  unfold hexD at h
  repeat' split at h
  all_goals first | (cases h; omega) | cases h
def hexI (c : UInt8) : Int := match hexD c with | some d => d | none => -1
end Go.Proofs.YtcamaloekanelaaDoor
