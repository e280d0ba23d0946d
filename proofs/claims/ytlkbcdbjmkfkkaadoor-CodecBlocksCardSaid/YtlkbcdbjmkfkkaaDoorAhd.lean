/-
  What stands ahead of what is within a value: of arrays, longs and nulls.
-/
import Derived.Test.YtlkbcdbjmkfkkaaDoorGnl
import Derived.Test.YtlkbcdbjmkfkkaaDoorRge
import Derived.Test.YtlkbcdbjmkfkkaaDoorTrip
namespace Go.Proofs.YtlkbcdbjmkfkkaaDoor
open Go.RowKit Go.Shelf

def aheadM (k n : Int) (len : Nat) : List Int := if k = 4 then numL (zigN n) else if k = 11 ∧ 0 < len then numL (zigN len) else []
mutual
/-- A value's bytes, piece by piece. -/
def pcs : U → List (List Int)
  | .mk k n _ l _ => aheadM k n l.length :: (pcsL l ++ if k = 11 then [[0]] else [])
def pcsL : List U → List (List Int)
  | [] => []
  | z :: r => pcs z ++ pcsL r
end
mutual
/-- Arrays, longs and nulls, all that is within too. -/
def kuB : U → Bool
  | .mk k _ _ l _ => (k == 1 || k == 4 || k == 11) && kuL l
def kuL : List U → Bool
  | [] => true
  | z :: r => kuB z && kuL r
end
theorem kuL_mem : ∀ {l : List U} {z : U}, kuL l = true → z ∈ l → kuB z = true
  | x :: r, z, h, hz => by
    rw [kuL, Bool.and_eq_true] at h
    rcases List.mem_cons.1 hz with rfl | hz
    · exact h.1
    · exact kuL_mem h.2 hz
theorem pcsL_take : ∀ (l : List U) (i : Nat) (z : U), l[i]? = some z → pcsL (l.take (i + 1)) = pcsL (l.take i) ++ pcs z
  | x :: r, 0, z, h => by
    simp only [List.getElem?_cons_zero, Option.some.injEq] at h
    subst h
    simp [pcsL]
  | x :: r, i + 1, z, h => by
    rw [List.take_succ_cons, List.take_succ_cons, pcsL, pcsL, pcsL_take r i z (by simpa using h), List.append_assoc]
theorem pcsL_split : ∀ (l : List U) (i : Nat) (z : U), l[i]? = some z → pcsL l = pcsL (l.take i) ++ pcs z ++ pcsL (l.drop (i + 1))
  | x :: r, 0, z, h => by
    simp only [List.getElem?_cons_zero, Option.some.injEq] at h
    subst h
    simp [pcsL]
  | x :: r, i + 1, z, h => by
    rw [List.take_succ_cons, pcsL, pcsL, pcsL_split r i z (by simpa using h), List.drop_succ_cons]
    simp [List.append_assoc]
theorem wf_I64 {n : Int} (h : (Lit.int .i64 n).wf = true) : I64 n := by
  have e1 : IntKind.i64.min = -9223372036854775808 := by decide
  have e2 : IntKind.i64.max = 9223372036854775807 := by decide
  simp [Lit.wf, e1, e2] at h
  unfold I64; omega
/-- A slice of bytes, made or not. -/
def NewB (w : World) (xs : List Int) (e : Ending) (w' : World) : Prop := ∃ A c, e = .returned (.slice A xs.length c) ∧ Rd w' w'.heap.size A xs.length c xs ∧ Below w.heap.size w w'
theorem newB_of {w w' : World} {xs : List Int} {e : Ending} (h : NewRow w xs e w') (hx : ∀ x ∈ xs, 0 ≤ x ∧ x < 256) : NewB w xs e w' := by
  obtain ⟨A, c, he, hown, hb⟩ := h
  exact ⟨A, c, he, Rd.of_own hown hx, hb⟩
theorem newB_nil {w w' : World} (hb : Below w.heap.size w w') : NewB w [] (.returned (.slice none 0 0)) w' := ⟨none, 0, rfl, ⟨rfl, Nat.le_refl _, by unfold maxLen; omega, fun x hx => by simp at hx, fun h => absurd h (by simp)⟩, hb⟩
theorem numL_byte : ∀ (k v : Nat), v ≤ k → ∀ x ∈ numL v, 0 ≤ x ∧ x < 256
  | k, v, hk, x, hx => by
    by_cases hv : v < 128
    · rw [numL_lt v hv] at hx; simp at hx; omega
    · rw [numL_ge v (by omega)] at hx
      rcases List.mem_cons.1 hx with rfl | hx
      · omega
      · match k, hk with
        | 0, hk => omega
        | k + 1, hk => exact numL_byte k (v / 128) (by omega) x hx

set_option maxHeartbeats 2000000 in
set_option maxRecDepth 100000 in
theorem blocked_any (k n : Int) (B A A' : Option Addr) (n0 c0 n1 c1 n2 c2 : Nat) (w : World) (hk : k = 1 ∨ k = 4 ∨ k = 11) :
    Calls Tryd.prog 42 #[.agg #[.int .i64 k, .int .i64 n, .slice B n0 c0, .slice A n1 c1, .slice A' n2 c2]] w fun e w' => e = .returned (.bool (k == 11)) ∧ Below w.heap.size w w' := by
  by_cases h11 : k = 11
  · subst h11
    go_enter Tryd.func42, Tryd.ntmps42
    go_wp2
    go_ret
    exact ⟨rfl, (Below.refl _ _).alloc (Nat.le_refl _) _⟩
  · have h1 : (k == 11) = false := by simpa using h11
    have h2 : (k == 12) = false := by rcases hk with h | h | h <;> rw [h] <;> rfl
    clear hk
    go_enter Tryd.func42, Tryd.ntmps42
    go_wp2
    go_ret
    exact ⟨by rw [h1]; rfl, (Below.refl _ _).alloc (Nat.le_refl _) _⟩

set_option maxHeartbeats 4000000 in
set_option maxRecDepth 100000 in
theorem ahead_any (k n : Int) (B A A' : Option Addr) (n0 c0 n1 c1 n2 c2 : Nat) (w : World) (hk : k = 1 ∨ k = 4 ∨ k = 11) (hn : I64 n) (hl : n1 ≤ 100000) :
    Calls Tryd.prog 40 #[.agg #[.int .i64 k, .int .i64 n, .slice B n0 c0, .slice A n1 c1, .slice A' n2 c2]] w (NewB w (aheadM k n n1)) := by
  have hb0 : Below w.heap.size w (w.alloc (.cells #[.int .i64 k, .int .i64 n, .slice B n0 c0, .slice A n1 c1, .slice A' n2 c2] 38)) := (Below.refl _ _).alloc (Nat.le_refl _) _
  have hz0 : (w.alloc (.cells #[.int .i64 k, .int .i64 n, .slice B n0 c0, .slice A n1 c1, .slice A' n2 c2] 38)).heap[w.heap.size]? = some (.cells #[.int .i64 k, .int .i64 n, .slice B n0 c0, .slice A n1 c1, .slice A' n2 c2] 38 (0, 0)) := new_at rfl _
  obtain ⟨W0, hW0⟩ : ∃ W0, w.alloc (.cells #[.int .i64 k, .int .i64 n, .slice B n0 c0, .slice A n1 c1, .slice A' n2 c2] 38) = W0 := ⟨_, rfl⟩
  rw [hW0] at hb0 hz0
  obtain ⟨z0, z1, z2, z3, z4⟩ := cells_5 hz0
  have HB0 := Lib.hid hb0
  have HW0 := Lib.hid hW0
  clear hb0 hz0 hW0
  rcases hk with rfl | rfl | rfl
  · have hbl := blocked_any 1 n B A A' n0 c0 n1 c1 n2 c2 W0 (.inl rfl)
    go_enter Tryd.func40, Tryd.ntmps40
    go_upto_region 1 with fail
    rw [HW0.out]
    go_wp2_with fail
    refine hbl.mono ?_
    rintro e w1 ⟨rfl, hb1⟩
    have hh : ((1 : Int) == 11) = false := rfl
    rw [hh]
    clear hbl
    go_wp2
    go_ret
    exact newB_nil (HB0.out.trans (hb1.mono HB0.out.size))
  · have hzg := zig_any n hn W0
    go_enter Tryd.func40, Tryd.ntmps40
    go_upto_region 1 with fail
    rw [HW0.out]
    go_wp2_with fail
    refine hzg.mono ?_
    rintro e w1 ⟨A1, cc, rfl, hown, hb1⟩
    clear hzg
    have HR := Lib.hid (Rd.of_own hown (numL_byte _ _ (Nat.le_refl _)))
    clear hown
    go_wp2
    go_ret
    exact ⟨A1, cc, rfl, HR.out, HB0.out.trans (hb1.mono HB0.out.size)⟩
  · have hbl := blocked_any 11 n B A A' n0 c0 n1 c1 n2 c2 W0 (.inr (.inr rfl))
    by_cases hl0 : 0 < n1
    · have hm : aheadM 11 n n1 = numL (zigN n1) := by unfold aheadM; rw [if_neg (by decide), if_pos ⟨rfl, hl0⟩]
      rw [hm]
      go_enter Tryd.func40, Tryd.ntmps40
      go_upto_region 1 with fail
      rw [HW0.out]
      go_wp2_with fail
      refine hbl.mono ?_
      rintro e w1 ⟨rfl, hb1⟩
      have hh : ((11 : Int) == 11) = true := rfl
      rw [hh]
      have y3 : w1.cell? ⟨w.heap.size, 3, none⟩ = some (.slice A n1 c1) := (below_fr0 hb1).cell z3 trivial
      clear hbl
      have hd : decide ((0 : Int) < (n1 : Int)) = true := decide_eq_true (by omega)
      go_wp2_with fail
      refine (zig_any _ (i64_nat hl) w1).mono ?_
      rintro e w2 ⟨A1, cc, rfl, hown, hb2⟩
      have HR := Lib.hid (Rd.of_own hown (numL_byte _ _ (Nat.le_refl _)))
      clear hown
      go_wp2
      go_ret
      exact ⟨A1, cc, rfl, HR.out, (HB0.out.trans (hb1.mono HB0.out.size)).trans (hb2.mono (Nat.le_trans HB0.out.size hb1.size))⟩
    · obtain rfl : n1 = 0 := by omega
      have hm : aheadM 11 n 0 = [] := by unfold aheadM; rw [if_neg (by decide), if_neg (by simp)]
      rw [hm]
      go_enter Tryd.func40, Tryd.ntmps40
      go_upto_region 1 with fail
      rw [HW0.out]
      go_wp2_with fail
      refine hbl.mono ?_
      rintro e w1 ⟨rfl, hb1⟩
      have hh : ((11 : Int) == 11) = true := rfl
      rw [hh]
      have y3 : w1.cell? ⟨w.heap.size, 3, none⟩ = some (.slice A 0 c1) := (below_fr0 hb1).cell z3 trivial
      clear hbl
      go_wp2
      go_ret
      exact newB_nil (HB0.out.trans (hb1.mono HB0.out.size))
end Go.Proofs.YtlkbcdbjmkfkkaaDoor
