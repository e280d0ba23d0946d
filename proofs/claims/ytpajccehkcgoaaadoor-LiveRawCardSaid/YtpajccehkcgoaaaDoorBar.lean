/-
  'bare': whether a value has nothing that its kind does not have.
-/
import Derived.Test.YtpajccehkcgoaaaDoorFit
namespace Go.Proofs.YtpajccehkcgoaaaDoor
open Go.RowKit

def kNum (k : Int) : Bool := k == 2 || k == 3 || k == 4 || k == 10 || k == 13
def kOct (k : Int) : Bool := k == 5 || k == 6 || k == 7 || k == 8 || k == 14
def kLst (k : Int) : Bool := k == 9 || k == 11 || k == 12 || k == 13
def kKey (k : Int) : Bool := k == 12
def bareV (k n : Int) (nb nl nk : Nat) : Bool := (kNum k || n == 0) && (kOct k || (nb : Int) == 0) && (kLst k || (nl : Int) == 0) && (kKey k || (nk : Int) == 0)
set_option maxRecDepth 100000 in
set_option maxHeartbeats 4000000 in
theorem bare_any (k n : Int) (B A A' : Option Addr) (nb cb nl cl nk ck : Nat) (w : World) :
    Calls Tryd.prog 73 #[.agg #[.int .i64 k, .int .i64 n, .slice B nb cb, .slice A nl cl, .slice A' nk ck]] w fun e w' => e = .returned (.bool (bareV k n nb nl nk)) ∧ Below w.heap.size w w' := by
  by_cases h2 : k = 2
  · subst h2
    go_enter Tryd.func73, Tryd.ntmps73
    go_wp2
    all_goals (go_ret; exact ⟨by simp [bareV, kNum, kOct, kLst, kKey, *], (Below.refl _ _).alloc (Nat.le_refl _) _⟩)
  by_cases h3 : k = 3
  · subst h3
    go_enter Tryd.func73, Tryd.ntmps73
    go_wp2
    all_goals (go_ret; exact ⟨by simp [bareV, kNum, kOct, kLst, kKey, *], (Below.refl _ _).alloc (Nat.le_refl _) _⟩)
  by_cases h4 : k = 4
  · subst h4
    go_enter Tryd.func73, Tryd.ntmps73
    go_wp2
    all_goals (go_ret; exact ⟨by simp [bareV, kNum, kOct, kLst, kKey, *], (Below.refl _ _).alloc (Nat.le_refl _) _⟩)
  by_cases h10 : k = 10
  · subst h10
    go_enter Tryd.func73, Tryd.ntmps73
    go_wp2
    all_goals (go_ret; exact ⟨by simp [bareV, kNum, kOct, kLst, kKey, *], (Below.refl _ _).alloc (Nat.le_refl _) _⟩)
  by_cases h5 : k = 5
  · subst h5
    go_enter Tryd.func73, Tryd.ntmps73
    go_wp2
    all_goals (go_ret; exact ⟨by simp [bareV, kNum, kOct, kLst, kKey, *], (Below.refl _ _).alloc (Nat.le_refl _) _⟩)
  by_cases h6 : k = 6
  · subst h6
    go_enter Tryd.func73, Tryd.ntmps73
    go_wp2
    all_goals (go_ret; exact ⟨by simp [bareV, kNum, kOct, kLst, kKey, *], (Below.refl _ _).alloc (Nat.le_refl _) _⟩)
  by_cases h7 : k = 7
  · subst h7
    go_enter Tryd.func73, Tryd.ntmps73
    go_wp2
    all_goals (go_ret; exact ⟨by simp [bareV, kNum, kOct, kLst, kKey, *], (Below.refl _ _).alloc (Nat.le_refl _) _⟩)
  by_cases h8 : k = 8
  · subst h8
    go_enter Tryd.func73, Tryd.ntmps73
    go_wp2
    all_goals (go_ret; exact ⟨by simp [bareV, kNum, kOct, kLst, kKey, *], (Below.refl _ _).alloc (Nat.le_refl _) _⟩)
  by_cases h14 : k = 14
  · subst h14
    go_enter Tryd.func73, Tryd.ntmps73
    go_wp2
    all_goals (go_ret; exact ⟨by simp [bareV, kNum, kOct, kLst, kKey, *], (Below.refl _ _).alloc (Nat.le_refl _) _⟩)
  by_cases h9 : k = 9
  · subst h9
    go_enter Tryd.func73, Tryd.ntmps73
    go_wp2
    all_goals (go_ret; exact ⟨by simp [bareV, kNum, kOct, kLst, kKey, *], (Below.refl _ _).alloc (Nat.le_refl _) _⟩)
  by_cases h11 : k = 11
  · subst h11
    go_enter Tryd.func73, Tryd.ntmps73
    go_wp2
    all_goals (go_ret; exact ⟨by simp [bareV, kNum, kOct, kLst, kKey, *], (Below.refl _ _).alloc (Nat.le_refl _) _⟩)
  by_cases h12 : k = 12
  · subst h12
    go_enter Tryd.func73, Tryd.ntmps73
    go_wp2
    all_goals (go_ret; exact ⟨by simp [bareV, kNum, kOct, kLst, kKey, *], (Below.refl _ _).alloc (Nat.le_refl _) _⟩)
  by_cases h13 : k = 13
  · subst h13
    go_enter Tryd.func73, Tryd.ntmps73
    go_wp2
    all_goals (go_ret; exact ⟨by simp [bareV, kNum, kOct, kLst, kKey, *], (Below.refl _ _).alloc (Nat.le_refl _) _⟩)
  go_enter Tryd.func73, Tryd.ntmps73
  go_wp2
  all_goals (go_ret; exact ⟨by simp [bareV, kNum, kOct, kLst, kKey, *], (Below.refl _ _).alloc (Nat.le_refl _) _⟩)
end Go.Proofs.YtpajccehkcgoaaaDoor
