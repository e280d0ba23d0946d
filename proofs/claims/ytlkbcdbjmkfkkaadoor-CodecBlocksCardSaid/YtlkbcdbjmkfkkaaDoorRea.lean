/-
  The readers' scan of a number: the program's and the reference's, as one function on lists.
-/
import Derived.Test.YtlkbcdbjmkfkkaaDoorZig
import Derived.Deep.LoopGhost
namespace Go.Proofs.YtlkbcdbjmkfkkaaDoor
open Go.RowKit

/-- What stands at the head of some bytes: the number, how many bytes it has, the fault. -/
def scan (i acc : Nat) : List Int → Nat × Nat × Nat
  | [] => (0, 0, 3)
  | c :: r => if (i = 9 ∧ 1 < c) ∨ (0 < i ∧ c = 0) then (0, 0, 4) else if c < 128 then (acc + c.toNat * 128 ^ i, i + 1, 0) else scan (i + 1) (acc + (c.toNat - 128) * 128 ^ i) r

theorem getD_at {xs : List Int} {k : Nat} (hk : k < xs.length) : xs.getD k 0 = xs[k] := by
  rw [List.getD_eq_getElem?_getD, List.getElem?_eq_getElem hk]; rfl
/-- Where the scan stands after k bytes. -/
def ScanAt (xs : List Int) (k acc : Nat) : Prop := k ≤ xs.length ∧ k ≤ 9 ∧ acc < 128 ^ k ∧ scan k acc (xs.drop k) = scan 0 0 xs
theorem ScanAt.zero (xs : List Int) : ScanAt xs 0 0 := ⟨by omega, by omega, by decide, by simp⟩
theorem ScanAt.end_ {xs : List Int} {k acc : Nat} (h : ScanAt xs k acc) (hk : ¬ k < xs.length) : scan 0 0 xs = (0, 0, 3) := by
  rw [← h.2.2.2, List.drop_eq_nil_of_le (by omega), scan]
theorem ScanAt.form {xs : List Int} {k acc : Nat} (h : ScanAt xs k acc) (hk : k < xs.length) (hc : (k = 9 ∧ 1 < xs.getD k 0) ∨ (0 < k ∧ xs.getD k 0 = 0)) : scan 0 0 xs = (0, 0, 4) := by
  rw [← h.2.2.2, List.drop_eq_getElem_cons hk, scan]
  rw [getD_at hk] at hc
  rw [if_pos hc]
theorem ScanAt.done {xs : List Int} {k acc : Nat} (h : ScanAt xs k acc) (hk : k < xs.length) (hc : ¬ ((k = 9 ∧ 1 < xs.getD k 0) ∨ (0 < k ∧ xs.getD k 0 = 0))) (h8 : xs.getD k 0 < 128) :
    scan 0 0 xs = (acc + (xs.getD k 0).toNat * 128 ^ k, k + 1, 0) := by
  rw [← h.2.2.2, List.drop_eq_getElem_cons hk, scan]
  rw [getD_at hk] at hc h8 ⊢
  rw [if_neg hc, if_pos h8]
theorem ScanAt.next {xs : List Int} {k acc : Nat} (h : ScanAt xs k acc) (hk : k < xs.length) (hc : ¬ ((k = 9 ∧ 1 < xs.getD k 0) ∨ (0 < k ∧ xs.getD k 0 = 0))) (h8 : ¬ xs.getD k 0 < 128) (h256 : xs.getD k 0 < 256) :
    ScanAt xs (k + 1) (acc + ((xs.getD k 0).toNat - 128) * 128 ^ k) := by
  obtain ⟨h1, h2, h3, h4⟩ := h
  have hk9 : k ≠ 9 := fun e => hc (.inl ⟨e, by omega⟩)
  refine ⟨hk, by omega, ?_, ?_⟩
  · have : (xs.getD k 0).toNat - 128 ≤ 127 := by omega
    have h5 : ((xs.getD k 0).toNat - 128) * 128 ^ k ≤ 127 * 128 ^ k := Nat.mul_le_mul_right _ this
    rw [Nat.pow_succ]; omega
  · rw [← h4, List.drop_eq_getElem_cons hk]
    conv => rhs; rw [scan]
    rw [getD_at hk] at hc h8 ⊢
    rw [if_neg hc, if_neg h8]

theorem or_join (acc y k : Nat) (h : acc < 2 ^ k) (ha : acc < 18446744073709551616) (hy : y * 2 ^ k < 18446744073709551616) : bits BinOp.or IntKind.u64 (acc : Int) ((y * 2 ^ k : Nat) : Int) = ((acc + y * 2 ^ k : Nat) : Int) := by
  rw [u64_or_nat _ _ ha hy, Nat.or_comm, nat_join k _ _ (by simp) h, Nat.add_comm]
theorem pow7 (k : Nat) : 128 ^ k = 2 ^ (7 * k) := by rw [Nat.pow_mul]
theorem pow7_le {k : Nat} (h : k ≤ 8) : 2 ^ (7 * k) ≤ 72057594037927936 := by
  have := Nat.pow_le_pow_right (show 0 < 2 by omega) (show 7 * k ≤ 56 by omega)
  exact this
/-- A byte's seven bits above what was gathered. -/
theorem or_low (acc k : Nat) (x : Int) (ha : acc < 128 ^ k) (hk : k ≤ 8) (h0 : 0 ≤ x) (h1 : x < 128) :
    bits BinOp.or IntKind.u64 (acc : Int) (IntKind.u64.wrap (x * 2 ^ (7 * k))) = ((acc + x.toNat * 128 ^ k : Nat) : Int) := by
  obtain ⟨y, rfl⟩ := Int.eq_ofNat_of_zero_le h0
  have hp := pow7_le hk
  have hy : y * 2 ^ (7 * k) < 18446744073709551616 := by
    have := Nat.mul_le_mul (show y ≤ 127 by omega) hp
    omega
  have hc : ((y : Int) * 2 ^ (7 * k)) = ((y * 2 ^ (7 * k) : Nat) : Int) := by push_cast; rfl
  rw [hc, wrap_u64, Int.emod_eq_of_lt (by omega) (by omega), pow7]
  rw [pow7] at ha
  have := or_join acc y (7 * k) ha (by omega) hy
  simpa using this
theorem or_low9 (acc : Nat) (x : Int) (ha : acc < 128 ^ 9) (h0 : 0 ≤ x) (h1 : x ≤ 1) :
    bits BinOp.or IntKind.u64 (acc : Int) (x * 9223372036854775808) = ((acc + x.toNat * 128 ^ 9 : Nat) : Int) := by
  obtain ⟨y, rfl⟩ := Int.eq_ofNat_of_zero_le h0
  have hy : y * 2 ^ 63 < 18446744073709551616 := by omega
  have := or_join acc y 63 (by omega) (by omega) hy
  have hc : ((y : Int) * 9223372036854775808) = ((y * 2 ^ 63 : Nat) : Int) := by omega
  rw [hc, this]
  simp
theorem and_low (x : Int) (h0 : 128 ≤ x) (h1 : x < 256) : IntKind.u64.wrap (bits BinOp.and IntKind.u8 x 127) = x - 128 := by
  obtain ⟨y, rfl⟩ := Int.eq_ofNat_of_zero_le (show 0 ≤ x by omega)
  have := u8_and_nat y 127 (by omega) (by omega)
  rw [nat_mask7] at this
  have h2 : bits BinOp.and IntKind.u8 (y : Int) 127 = ((y % 128 : Nat) : Int) := this
  rw [h2, wrap_u64]
  omega

/-- What a scan answers. -/
def ScanPost (r : Nat × Nat × Nat) (w : World) (e : Ending) (w' : World) : Prop := e = .returned (.tuple #[.int .u64 r.1, .int .i64 r.2.1, .int .i64 r.2.2]) ∧ w = w'
theorem ScanPost.of {r : Nat × Nat × Nat} {a b c : Nat} {x y z : Int} {w : World} (h : r = (a, b, c)) (hx : x = a) (hy : y = b) (hz : z = c) : ScanPost r w (.returned (.tuple #[.int .u64 x, .int .i64 y, .int .i64 z])) w := by
  subst h hx hy hz; exact ⟨rfl, rfl⟩

set_option maxHeartbeats 1000000 in
set_option maxRecDepth 100000 in
theorem number_any (B : Nat) (A : Option Addr) (n c : Nat) (xs : List Int) (w : World) (hr : Rd w B A n c xs) (hn : n ≤ 100000) :
    Calls Tryd.prog 70 #[.slice A n c] w (ScanPost (scan 0 0 xs) w) := by
  go_enter Tryd.func70, Tryd.ntmps70
  have HL := Lib.hid hr.len
  go_wp2
  go_step3
  go_wp2
  go_step3
  go_wp2
  go_loop [5, 6, 7, 8, 13] (fun t v s f i => ∃ k acc : Nat, k ≤ n ∧ t = .int .u64 acc ∧ v = .int .u64 0 ∧ s = .int .i64 0 ∧ f = .int .i64 3 ∧ i = .int .i64 k ∧ ScanAt xs k acc) (fun _ _ _ _ i => n - (intOf i).toNat)
  case atStart => exact ⟨0, 0, by omega, rfl, rfl, rfl, rfl, rfl, ScanAt.zero xs⟩
  case round =>
    obtain ⟨k, acc, hk, rfl, rfl, rfl, rfl, rfl, hs⟩ := hrel
    by_cases hlt : k < n
    · obtain ⟨b, off, rfl, _, hc⟩ := hr.at_ hlt
      have hx := hr.byte (xs.getD k 0) (by have := HL.out; rw [getD_at (by omega)]; exact List.getElem_mem _)
      have hf := hs.form (by have := HL.out; omega)
      have hd := hs.done (by have := HL.out; omega)
      have hnx := hs.next (by have := HL.out; omega)
      have hk9 := hs.2.1
      have HF := Lib.hid hf
      have HD := Lib.hid hd
      have HN := Lib.hid hnx
      have HS := Lib.hid hs
      clear hf hd hnx hs hr
      generalize xs.getD k 0 = x at hc hx HF HD HN
      go_wp2
      · go_ret3
        exact ScanPost.of (HF.out (.inl ⟨by omega, by omega⟩)) rfl rfl rfl
      · go_ret3
        have h0 : (x == 0) = true := by assumption
        exact ScanPost.of (HF.out (.inr ⟨by omega, by simpa using h0⟩)) rfl rfl rfl
      · go_ret3
        have h0 : (x == 0) = false := by assumption
        have h0' : ¬ x = 0 := by simpa using h0
        have h9 : k = 9 := by omega
        subst h9
        exact ScanPost.of (HD.out (by omega) (by omega)) (or_low9 acc x HS.out.2.2.1 (by omega) (by omega)) rfl rfl
      · go_ret3
        have h0 : (x == 0) = true := by assumption
        exact ScanPost.of (HF.out (.inr ⟨by omega, by simpa using h0⟩)) rfl rfl rfl
      · go_ret3
        have h0 : (x == 0) = false := by assumption
        have h0' : ¬ x = 0 := by simpa using h0
        exact ScanPost.of (HD.out (by omega) (by omega)) (or_low acc k x HS.out.2.2.1 (by omega) (by omega) (by omega)) (by omega) rfl
      · have h0 : (x == 0) = false := by assumption
        have h0' : ¬ x = 0 := by simpa using h0
        rw [and_low x (by omega) (by omega), or_low acc k (x - 128) HS.out.2.2.1 (by omega) (by omega) (by omega)]
        go_round
        case rel => exact ⟨k + 1, acc + (x - 128).toNat * 128 ^ k, by omega, rfl, rfl, rfl, rfl, by go_num, by have := HN.out (by omega) (by omega) (by omega); rwa [show (x - 128).toNat = x.toNat - 128 from by omega]⟩
        case measure => simp [intOf]; omega
      · go_ret3
        exact ScanPost.of (HD.out (by omega) (by omega)) (or_low acc k x HS.out.2.2.1 (by omega) (by omega) (by omega)) (by omega) rfl
      · rw [and_low x (by omega) (by omega), or_low acc k (x - 128) HS.out.2.2.1 (by omega) (by omega) (by omega)]
        go_round
        case rel => exact ⟨k + 1, acc + (x - 128).toNat * 128 ^ k, by omega, rfl, rfl, rfl, rfl, by go_num, by have := HN.out (by omega) (by omega) (by omega); rwa [show (x - 128).toNat = x.toNat - 128 from by omega]⟩
        case measure => simp [intOf]; omega
    · go_wp2
      go_ret3
      exact ScanPost.of (hs.end_ (by have := HL.out; omega)) rfl rfl rfl
end Go.Proofs.YtlkbcdbjmkfkkaaDoor
