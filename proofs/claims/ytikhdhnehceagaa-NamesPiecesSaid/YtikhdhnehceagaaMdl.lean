/-
  Plain facts on names (no Go text): which lists of bytes are names, their pieces, what is made of them.
-/
import Derived.WalkKit
namespace Go.Proofs.Ytikhdhnehceagaa

abbrev Bs := List UInt8
def isLet (c : UInt8) : Bool := decide ((97 ≤ c.toNat ∧ c.toNat ≤ 122) ∨ (65 ≤ c.toNat ∧ c.toNat ≤ 90) ∨ c.toNat = 95)
def isDig (c : UInt8) : Bool := decide (48 ≤ c.toNat ∧ c.toNat ≤ 57)
def ok (c : UInt8) : Bool := isLet c || isDig c
/-- A piece of a name. -/
def simpL : Bs → Bool
  | [] => false
  | c :: r => isLet c && r.all ok && decide (r.length < 100)
/-- What stands ahead of, between and behind the points. -/
def pcs : Bs → List Bs
  | [] => [[]]
  | c :: r => if c = 46 then [] :: pcs r else match pcs r with | p :: ps => (c :: p) :: ps | [] => [[c]]
def fullL (l : Bs) : Bool := decide (l.length ≤ 100) && (pcs l).all simpL
/-- What stands ahead of and behind the last point. -/
def lastS : Bs → Option (Bs × Bs)
  | [] => none
  | c :: r => match lastS r with | some (a, b) => some (c :: a, b) | none => if c = 46 then some ([], r) else none
def shortL (l : Bs) : Bs := match lastS l with | some (_, b) => b | none => l
def spaceL (l : Bs) : Bs := match lastS l with | some (a, _) => a | none => []
def lastP (l : Bs) : Int := match lastS l with | some (a, _) => a.length | none => -1
def primL (l : Bs) : Nat :=
  if l = [110, 117, 108, 108] then 1 else if l = [98, 111, 111, 108, 101, 97, 110] then 2 else if l = [105, 110, 116] then 3 else if l = [108, 111, 110, 103] then 4
  else if l = [102, 108, 111, 97, 116] then 5 else if l = [100, 111, 117, 98, 108, 101] then 6 else if l = [98, 121, 116, 101, 115] then 7 else if l = [115, 116, 114, 105, 110, 103] then 8 else 0
def joinL (name space : Bs) : Option Bs :=
  if name.head? = some 46 then (if simpL name.tail then some name.tail else none)
  else if (46 : UInt8) ∈ name then (if fullL name then some name else none)
  else if simpL name = false then none
  else if space = [] then some name
  else if fullL space = false then none
  else if fullL (space ++ 46 :: name) then some (space ++ 46 :: name) else none
def makeL (name space : Bs) : Option Bs := match joinL name space with | none => none | some x => if primL x = 0 then some x else none
def writeL (l : Bs) : Bs := if (46 : UInt8) ∈ l then l else 46 :: l

theorem isLet_46 : isLet 46 = false := by decide
theorem ok_46 : ok 46 = false := by decide
theorem pcs_ne (l : Bs) : pcs l ≠ [] := by
  cases l with
  | nil => simp [pcs]
  | cons c r => unfold pcs; split; simp; split <;> simp
theorem pcs_point (a r : Bs) (h : (46 : UInt8) ∉ a) : pcs (a ++ 46 :: r) = a :: pcs r := by
  induction a with
  | nil => simp [pcs]
  | cons c t ih =>
    have hc : c ≠ 46 := by rintro rfl; exact h (by simp)
    rw [List.cons_append, pcs, if_neg hc, ih (fun hm => h (List.mem_cons_of_mem _ hm))]
theorem pcs_none (a : Bs) (h : (46 : UInt8) ∉ a) : pcs a = [a] := by
  induction a with
  | nil => rfl
  | cons c t ih =>
    have hc : c ≠ 46 := by rintro rfl; exact h (by simp)
    rw [pcs, if_neg hc, ih (fun hm => h (List.mem_cons_of_mem _ hm))]
theorem lastS_none (a : Bs) (h : (46 : UInt8) ∉ a) : lastS a = none := by
  induction a with
  | nil => rfl
  | cons c t ih =>
    have hc : c ≠ 46 := by rintro rfl; exact h (by simp)
    rw [lastS, ih (fun hm => h (List.mem_cons_of_mem _ hm))]
    simp [hc]
theorem lastS_point (a b : Bs) (h : (46 : UInt8) ∉ b) : lastS (a ++ 46 :: b) = some (a, b) := by
  induction a with
  | nil => rw [List.nil_append, lastS, lastS_none b h]; simp
  | cons c t ih => rw [List.cons_append, lastS, ih]
theorem split_last (l : Bs) (h : (46 : UInt8) ∈ l) : ∃ a b, l = a ++ 46 :: b ∧ (46 : UInt8) ∉ b := by
  induction l with
  | nil => simp at h
  | cons c r ih =>
    by_cases hr : (46 : UInt8) ∈ r
    · obtain ⟨a, b, e, hb⟩ := ih hr
      exact ⟨c :: a, b, by rw [e]; rfl, hb⟩
    · have hc : c = 46 := by rcases List.mem_cons.1 h with h1 | h1; exact h1.symm; exact absurd h1 hr
      exact ⟨[], r, by rw [hc]; rfl, hr⟩
theorem split_first (l : Bs) (h : (46 : UInt8) ∈ l) : ∃ a b, l = a ++ 46 :: b ∧ (46 : UInt8) ∉ a := by
  induction l with
  | nil => simp at h
  | cons c r ih =>
    by_cases hc : c = 46
    · exact ⟨[], r, by rw [hc]; rfl, by simp⟩
    · obtain ⟨a, b, e, ha⟩ := ih (by rcases List.mem_cons.1 h with h1 | h1; exact absurd h1.symm hc; exact h1)
      exact ⟨c :: a, b, by rw [e]; rfl, by simp [ha, Ne.symm hc]⟩
theorem simp_nopoint {l : Bs} (h : simpL l = true) : (46 : UInt8) ∉ l := by
  cases l with
  | nil => simp
  | cons c r =>
    simp only [simpL, Bool.and_eq_true, List.all_eq_true] at h
    obtain ⟨⟨h1, h2⟩, _⟩ := h
    intro hm
    rcases List.mem_cons.1 hm with e | e
    · rw [← e, isLet_46] at h1; cases h1
    · have := h2 _ e; rw [ok_46] at this; cases this
theorem simp_len {l : Bs} (h : simpL l = true) : l.length ≤ 100 ∧ l ≠ [] := by
  cases l with
  | nil => cases h
  | cons c r => simp only [simpL, Bool.and_eq_true, decide_eq_true_eq] at h; exact ⟨by simp; omega, by simp⟩
theorem full_of_simp {l : Bs} (h : simpL l = true) : fullL l = true := by
  unfold fullL; rw [pcs_none l (simp_nopoint h)]; simp [h, (simp_len h).1]
theorem pcs_append (a b : Bs) (hb : (46 : UInt8) ∉ b) : pcs (a ++ 46 :: b) = pcs a ++ [b] := by
  induction a with
  | nil => rw [List.nil_append]; have := pcs_point [] b (by simp); rw [List.nil_append] at this; rw [this, pcs_none b hb]; rfl
  | cons c t ih =>
    rw [List.cons_append, pcs, ih]
    conv => rhs; rw [pcs]
    split
    · rfl
    · cases hp : pcs t with
      | nil => exact absurd hp (pcs_ne t)
      | cons p ps => rfl
theorem simp_all (l : Bs) : simpL l = (decide (l ≠ []) && decide (l.length ≤ 100) && !(l.head?.any isDig) && l.all ok) := by
  cases l with
  | nil => rfl
  | cons c r =>
    have hx : isLet c = (!isDig c && ok c) := by
      unfold ok isLet isDig
      by_cases h1 : 48 ≤ c.toNat ∧ c.toNat ≤ 57
      · have : ¬ ((97 ≤ c.toNat ∧ c.toNat ≤ 122) ∨ (65 ≤ c.toNat ∧ c.toNat ≤ 90) ∨ c.toNat = 95) := by omega
        simp [h1, this]
      · simp [h1]
    simp only [simpL, List.all_cons, List.head?_cons, Option.any_some, List.length_cons]
    rw [hx]
    have : decide (r.length < 100) = decide (r.length + 1 ≤ 100) := by congr 1
    rw [this]
    cases isDig c <;> cases ok c <;> cases r.all ok <;> simp

theorem prim_nopoint {l : Bs} (h : (46 : UInt8) ∈ l) : primL l = 0 := by
  unfold primL
  repeat (rw [if_neg (by rintro rfl; revert h; decide)])
theorem full_parts {l : Bs} (h : fullL l = true) : l.length ≤ 100 ∧ (pcs l).all simpL = true := by
  simpa [fullL] using h
/-- A full name with a point: its space is full, its short simple. -/
theorem full_point {a b : Bs} (hb : (46 : UInt8) ∉ b) (h : fullL (a ++ 46 :: b) = true) : fullL a = true ∧ simpL b = true := by
  obtain ⟨h1, h2⟩ := full_parts h
  rw [pcs_append a b hb, List.all_append] at h2
  simp only [Bool.and_eq_true, List.all_cons, List.all_nil, and_true] at h2
  refine ⟨?_, h2.2⟩
  unfold fullL
  rw [h2.1]
  simp at h1 ⊢
  omega
theorem full_ne {l : Bs} (h : fullL l = true) : l ≠ [] := by rintro rfl; revert h; decide
theorem full_simple {l : Bs} (hp : (46 : UInt8) ∉ l) (h : fullL l = true) : simpL l = true := by
  have := (full_parts h).2
  rw [pcs_none l hp] at this
  simpa using this
theorem full_head {l : Bs} (h : fullL l = true) : l.head? ≠ some 46 := by
  cases l with
  | nil => simp
  | cons c r =>
    intro e
    obtain rfl : c = 46 := by simpa using e
    have := (full_parts h).2
    rw [pcs, if_pos rfl] at this
    simp [simpL] at this
theorem join_full {n s x : Bs} (h : joinL n s = some x) : fullL x = true := by
  unfold joinL at h
  split at h
  · split at h
    · cases h; exact full_of_simp ‹_›
    · cases h
  · split at h
    · split at h
      · cases h; assumption
      · cases h
    · split at h
      · cases h
      · split at h
        · cases h; exact full_of_simp (by simpa using ‹¬ simpL _ = false›)
        · split at h
          · cases h
          · split at h
            · cases h; assumption
            · cases h
theorem make_full {n s x : Bs} (h : makeL n s = some x) : fullL x = true ∧ primL x = 0 := by
  unfold makeL at h
  split at h
  · cases h
  · rename_i y hy
    split at h
    · cases h; exact ⟨join_full hy, ‹_›⟩
    · cases h
theorem make_back {x : Bs} (h : fullL x = true) (hp : primL x = 0) : makeL (shortL x) (spaceL x) = some x := by
  have key : joinL (shortL x) (spaceL x) = some x := by
    by_cases hm : (46 : UInt8) ∈ x
    · obtain ⟨a, b, rfl, hb⟩ := split_last x hm
      obtain ⟨h1, h2⟩ := full_point hb h
      simp only [shortL, spaceL, lastS_point a b hb]
      unfold joinL
      rw [if_neg (full_head (full_of_simp h2)), if_neg hb, if_neg (by simp [h2]), if_neg (full_ne h1), if_neg (by simp [h1]), if_pos h]
    · have h2 := full_simple hm h
      simp only [shortL, spaceL, lastS_none x hm]
      unfold joinL
      rw [if_neg (full_head h), if_neg hm, if_neg (by simp [h2]), if_pos rfl]
  unfold makeL; rw [key]; simp [hp]
theorem make_write {x : Bs} (o : Bs) (h : fullL x = true) (hp : primL x = 0) : makeL (writeL x) o = some x := by
  have key : joinL (writeL x) o = some x := by
    unfold writeL
    split
    · rename_i hm
      unfold joinL
      rw [if_neg (full_head h), if_pos hm, if_pos h]
    · rename_i hm
      unfold joinL
      rw [if_pos (by simp), List.tail_cons, if_pos (full_simple hm h)]
  unfold makeL; rw [key]; simp [hp]
end Go.Proofs.Ytikhdhnehceagaa
