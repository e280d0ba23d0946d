/-
  The plain model at nested texts.
-/
import Derived.Test.YtjcnjaebmndeiaaDoorVt
namespace Go.Proofs.YtjcnjaebmndeiaaDoor
open Go.RowKit

def fr1 (b : Bool) : Bs := if b then [123, 34, 97, 34, 58] else [91]
def bk1 (b : Bool) : Bs := if b then [125] else [93]
def rep : Nat → Bs → Bs
  | 0, _ => []
  | n + 1, l => rep n l ++ l
def nestText (b : Bool) (n : Nat) : Bs := rep n (fr1 b) ++ [49] ++ rep n (bk1 b)
def isNest : Nat → J → Bool
  | 0, .mk _ _ l _ => l.isEmpty
  | n + 1, .mk _ _ [y] _ => isNest n y
  | _ + 1, _ => false
def chk (b : Bool) (n : Nat) : Bool := match parseM (nestText b n) with
  | .ok v => decide (n ≤ 64) && isNest n v
  | .error e => decide (64 < n) && e == 5
set_option maxRecDepth 1000000 in
theorem chk_all : ((List.range 71).all fun n => n == 0 || (chk true n && chk false n)) = true := by decide +kernel
theorem chk_at (b : Bool) {n : Nat} (h1 : 1 ≤ n) (h2 : n ≤ 70) : chk b n = true := by
  have := List.all_eq_true.1 chk_all n (List.mem_range.2 (by omega))
  have hn : (n == 0) = false := by simp; omega
  rw [hn, Bool.false_or, Bool.and_eq_true] at this
  cases b
  · exact this.2
  · exact this.1
end Go.Proofs.YtjcnjaebmndeiaaDoor
