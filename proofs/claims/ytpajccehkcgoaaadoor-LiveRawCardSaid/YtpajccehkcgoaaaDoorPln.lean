/-
  Plain facts on the bytes of numbers (no Go text): 'numL v' is the list of bytes of v, seven bits each, the lowest first.
-/
import Derived.WalkKit
import Derived.WalkSpells
import Derived.WalkLawsBesides
import Derived.Maps.AppendAt
import Derived.Deep.AppendLies
import Derived.Lib.Hide
namespace Go.Proofs.YtpajccehkcgoaaaDoor
open Go.RowKit

/-- The bytes of a number. -/
def numL (v : Nat) : List Int := if v < 128 then [(v : Int)] else ((v % 128 + 128 : Nat) : Int) :: numL (v / 128)
termination_by v
decreasing_by omega

theorem numL_lt (v : Nat) (h : v < 128) : numL v = [(v : Int)] := by rw [numL, if_pos h]
theorem numL_ge (v : Nat) (h : 128 ≤ v) : numL v = ((v % 128 + 128 : Nat) : Int) :: numL (v / 128) := by rw [numL, if_neg (by omega)]
theorem numL_len : ∀ (n v : Nat), v < 128 ^ (n + 1) → (numL v).length ≤ n + 1
  | 0, v, h => by rw [numL_lt v (by simpa using h)]; simp
  | n + 1, v, h => by
    by_cases hv : v < 128
    · rw [numL_lt v hv]; simp
    · rw [numL_ge v (by omega), List.length_cons]
      have := numL_len n (v / 128) (by rw [Nat.div_lt_iff_lt_mul (by omega)]; rw [Nat.pow_succ] at h; exact h)
      omega
theorem numL_len10 (v : Nat) (h : v < 18446744073709551616) : (numL v).length ≤ 10 := numL_len 9 v (by omega)
theorem numL_pos (v : Nat) : 0 < (numL v).length := by
  rw [numL]; split <;> simp

/-- A row of bytes as cells. -/
abbrev cellsB (xs : List Int) : List Value := xs.map (Value.int .u8)

/-- The slice value (A, n, c) holds the bytes xs; where there are some it lies below block B. -/
def Rd (w : World) (B : Nat) (A : Option Addr) (n c : Nat) (xs : List Int) : Prop :=
  xs.length = n ∧ n ≤ c ∧ c ≤ maxLen ∧ (∀ x ∈ xs, 0 ≤ x ∧ x < 256) ∧
  (0 < n → ∃ b off, A = some ⟨b, off, none⟩ ∧ b < B ∧ ∀ j u, xs[j]? = some u → w.cell? ⟨b, off + j, none⟩ = some (.int .u8 u))

/-- What a call leaves that makes a new row of bytes. -/
def NewRow (w : World) (xs : List Int) (e : Ending) (w' : World) : Prop :=
  ∃ A c, e = .returned (.slice A xs.length c) ∧ w'.ownsRow w.heap.size 5 1 (.slice A xs.length c) xs.length (cellsB xs) ∧ Below w.heap.size w w'

theorem own_form {w : World} {base : Nat} {e : TypeId} {size n : Nat} {v : Value} {xs : List Value} (h : w.ownsRow base e size v n xs) : ∃ A c, v = .slice A n c := by
  rcases h.2 with ⟨rfl, rfl⟩ | ⟨g, cap, cur, rfl, _⟩
  · exact ⟨_, _, rfl⟩
  · exact ⟨_, _, rfl⟩
theorem below_append {B : Nat} {w wr w1 : World} {o : Obj} {u : Value} {e : TypeId} {size n : Nat} {xs : List Value} (hb : Below B w wr) (hB : B ≤ wr.heap.size) (hown : wr.ownsRow B e size u n xs) (hg : (wr.alloc o).grownBy w1 u.ownBlock) : Below B w w1 :=
  (hb.alloc hB o).grown hg (by simp; omega) (fun k hk => (hown.lt k hk).1)
theorem newRow_of {w w' : World} {v : Value} {n : Nat} {xs ys : List Int} {zs : List Value} (h : w'.ownsRow w.heap.size 5 1 v n zs) (hb : Below w.heap.size w w') (hx : xs = ys) (hz : zs = cellsB ys) : NewRow w xs (.returned v) w' := by
  subst hx; subst hz
  obtain rfl : xs.length = n := by simpa using h.1
  obtain ⟨A, c, rfl⟩ := own_form h
  exact ⟨A, c, rfl, h, hb⟩
theorem mask7_byte (m : Nat) (h : m < 18446744073709551616) : bits BinOp.or IntKind.u8 (bits BinOp.and IntKind.u64 (m : Int) 127 % 256) 128 = ((m % 128 + 128 : Nat) : Int) := by
  have h1 : bits BinOp.and IntKind.u64 (m : Int) 127 = ((m % 128 : Nat) : Int) := by
    have := u64_and_nat m 127 h (by omega)
    rw [nat_mask7] at this
    exact this
  rw [h1]
  have h2 : ((m % 128 : Nat) : Int) % 256 = ((m % 128 : Nat) : Int) := by omega
  rw [h2]
  have h3 := u8_or_nat (m % 128) 128 (by omega) (by omega)
  have h4 : m % 128 ||| 128 = m % 128 + 128 := by
    rw [Nat.or_comm, nat_join 7 128 (m % 128) (by decide) (by have := Nat.mod_lt m (show 0 < 128 by omega); omega)]; omega
  rw [h4] at h3
  exact h3
theorem u64_id {n : Int} (h0 : 0 ≤ n) (h1 : n < 18446744073709551616) : IntKind.u64.wrap n = n := by
  simp [IntKind.wrap, IntKind.bits, IntKind.signed]; omega
theorem u64_quo {v m : Nat} (hv : v < 18446744073709551616) (hm : m ≤ v) : IntKind.u64.wrap ((m : Int) / 128) = (m : Int) / 128 := u64_id (by omega) (by omega)
theorem num_step {v m : Nat} {done : List Int} (hv : v < 18446744073709551616) (hd : done ++ numL m = numL v) (hm : ¬ m < 128) :
    (done ++ [((m % 128 + 128 : Nat) : Int)]) ++ numL (m / 128) = numL v ∧ (done ++ [((m % 128 + 128 : Nat) : Int)]).length ≤ 10 := by
  have h : (done ++ [((m % 128 + 128 : Nat) : Int)]) ++ numL (m / 128) = numL v := by
    rw [← hd, numL_ge m (by omega)]; simp
  refine ⟨h, ?_⟩
  have := numL_len10 v hv
  rw [← h, List.length_append] at this
  omega
end Go.Proofs.YtpajccehkcgoaaaDoor
