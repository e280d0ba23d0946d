/-
  Plain: a value and all within it, with their depths; how many they are, and how many bytes and keys they have.
  'Count' and 'Depth' of every value.
  'Depth' of every value.
-/
import Derived.Test.YtpajccehkcgoaaaDoorUew
namespace Go.Proofs.YtpajccehkcgoaaaDoor
open Go.RowKit Go.Shelf

mutual
/-- How many values a value is, with all within it. -/
def uc : U → Nat
  | .mk _ _ _ l _ => 1 + ucL l
def ucL : List U → Nat
  | [] => 0
  | z :: r => uc z + ucL r
end
mutual
/-- How many keys. -/
def uk : U → Nat
  | .mk _ _ _ l ks => ks.length + ukL l
def ukL : List U → Nat
  | [] => 0
  | z :: r => uk z + ukL r
end
mutual
/-- How many bytes. -/
def uo : U → Nat
  | .mk _ _ b l _ => b.length + uoL l
def uoL : List U → Nat
  | [] => 0
  | z :: r => uo z + uoL r
end
mutual
theorem uck_un : ∀ (z : U), uc z + uk z ≤ un z ∧ uo z ≤ 50 * un z
  | .mk _ _ b l ks => by have := uckL_unL l; rw [uc, uk, uo, un]; omega
theorem uckL_unL : ∀ (l : List U), ucL l + ukL l ≤ unL l ∧ uoL l ≤ 50 * unL l
  | [] => by simp [ucL, ukL, unL, uoL]
  | z :: r => by have := uck_un z; have := uckL_unL r; rw [ucL, ukL, uoL, unL]; omega
end
theorem ucL_app : ∀ (a b : List U), ucL (a ++ b) = ucL a + ucL b
  | [], b => by simp [ucL]
  | z :: r, b => by rw [List.cons_append, ucL, ucL, ucL_app r b]; omega
theorem ukL_app : ∀ (a b : List U), ukL (a ++ b) = ukL a + ukL b
  | [], b => by simp [ukL]
  | z :: r, b => by rw [List.cons_append, ukL, ukL, ukL_app r b]; omega
theorem uoL_app : ∀ (a b : List U), uoL (a ++ b) = uoL a + uoL b
  | [], b => by simp [uoL]
  | z :: r, b => by rw [List.cons_append, uoL, uoL, uoL_app r b]; omega
theorem ucL_len : ∀ (l : List U), l.length ≤ ucL l
  | [] => by simp
  | .mk k n b l ks :: r => by have := ucL_len r; rw [ucL, uc]; simp only [List.length_cons]; omega
def U.ks : U → List ByteArray | .mk _ _ _ _ ks => ks
def U.b : U → List Int | .mk _ _ b _ _ => b
theorem uc_l (z : U) : uc z = 1 + ucL z.l := by cases z; rw [uc]; rfl
theorem uk_l (z : U) : uk z = z.ks.length + ukL z.l := by cases z; rw [uk]; rfl
theorem uo_l (z : U) : uo z = z.b.length + uoL z.l := by cases z; rw [uo]; rfl
mutual
/-- A value and all within it, with their depths. -/
def pu : Nat → U → List (Nat × U)
  | d, .mk k n b l ks => (d, .mk k n b l ks) :: puL (d + 1) l
def puL : Nat → List U → List (Nat × U)
  | _, [] => []
  | d, z :: r => pu d z ++ puL d r
end
mutual
theorem pu_len : ∀ (d : Nat) (z : U), (pu d z).length = uc z
  | d, .mk k n b l ks => by rw [pu, List.length_cons, puL_len (d + 1) l, uc]; omega
theorem puL_len : ∀ (d : Nat) (l : List U), (puL d l).length = ucL l
  | _, [] => rfl
  | d, z :: r => by rw [puL, List.length_append, pu_len d z, puL_len d r, ucL]
end
theorem puL_app : ∀ (d : Nat) (a b : List U), puL d (a ++ b) = puL d a ++ puL d b
  | _, [], _ => rfl
  | d, z :: r, b => by rw [List.cons_append, puL, puL, puL_app d r b, List.append_assoc]
def umap (p : Nat × UT) : Nat × U := (p.1, p.2.t)
mutual
theorem upre_map {w : World} {ok : Nat → Prop} : ∀ (x : UT) (d : Nat), UVIn w ok x → (upre d x).map umap = pu d x.t
  | .mk z a b c e f ks, d, h => by
    have ih := upreL_map ks (d + 1) h.kid
    have hts : ks.map UT.t = z.l := h.ts
    rw [upre, List.map_cons, ih, hts]
    cases z with
    | mk k n y l kk => rw [show UT.t (.mk (.mk k n y l kk) a b c e f ks) = .mk k n y l kk from rfl, pu]; rfl
theorem upreL_map {w : World} {ok : Nat → Prop} : ∀ (l : List UT) (d : Nat), (∀ x, x ∈ l → UVIn w ok x) → (upreL d l).map umap = puL d (l.map UT.t)
  | [], d, _ => by rw [upreL, List.map_nil, List.map_nil, puL]
  | x :: r, d, h => by
    rw [upreL, List.map_append, upre_map x d (h x (by simp)), upreL_map r d (fun y hy => h y (by simp [hy])), List.map_cons, puL]
end
mutual
theorem umem_pre {w : World} {ok : Nat → Prop} : ∀ (x : UT) (d : Nat), UVIn w ok x → ∀ y, y ∈ upre d x → UVIn w ok y.2
  | .mk t a b c e f ks, d, h, y, hy => by
    rw [upre] at hy
    rcases List.mem_cons.1 hy with rfl | hy
    · exact h
    · exact umem_preL ks (d + 1) h.kid y hy
theorem umem_preL {w : World} {ok : Nat → Prop} : ∀ (l : List UT) (d : Nat), (∀ x, x ∈ l → UVIn w ok x) → ∀ y, y ∈ upreL d l → UVIn w ok y.2
  | [], _, _, y, hy => by rw [upreL] at hy; cases hy
  | x :: r, d, h, y, hy => by
    rw [upreL] at hy
    rcases List.mem_append.1 hy with hy | hy
    · exact umem_pre x d (h x (by simp)) y hy
    · exact umem_preL r d (fun z hz => h z (by simp [hz])) y hy
end
/-- The deepest one. -/
def maxD : List (Nat × U) → Nat
  | [] => 0
  | p :: r => max p.1 (maxD r)
theorem maxD_app : ∀ (a b : List (Nat × U)), maxD (a ++ b) = max (maxD a) (maxD b)
  | [], b => by simp [maxD]
  | p :: r, b => by rw [List.cons_append, maxD, maxD, maxD_app r b]; omega
theorem maxD_le : ∀ (l : List (Nat × U)) (p : Nat × U), p ∈ l → p.1 ≤ maxD l
  | x :: r, p, h => by
    rw [maxD]
    rcases List.mem_cons.1 h with rfl | h
    · omega
    · have := maxD_le r p h; omega
mutual
theorem maxD_pu : ∀ (z : U) (d : Nat), maxD (pu d z) + 1 ≤ d + uc z
  | .mk k n b l ks, d => by have := maxD_puL l (d + 1); rw [pu, maxD, uc]; simp only; omega
theorem maxD_puL : ∀ (l : List U) (d : Nat), maxD (puL d l) ≤ d + ucL l - 1 ∨ maxD (puL d l) = 0
  | [], d => .inr rfl
  | z :: r, d => by have := maxD_pu z d; have := maxD_puL r d; rw [puL, maxD_app, ucL]; omega
end
end Go.Proofs.YtpajccehkcgoaaaDoor

namespace Go.Proofs.YtpajccehkcgoaaaDoor
open Go.RowKit Go.Shelf
attribute [local go_sem] Oper.semAt_some
set_option maxRecDepth 100000 in
set_option maxHeartbeats 4000000 in
theorem ueach_call (F : Fence) (n : Nat) (h67 : F.fn 47) (hro : F.round = none) (k m : Int) (B A A' : Option Addr) (n0 c0 n1 c1 n2 c2 : Nat) (w : World) :
    CallsIn F n Tryd.prog 47 #[.agg #[.int .i64 k, .int .i64 m, .slice B n0 c0, .slice A n1 c1, .slice A' n2 c2]] w fun e w' => e = .returned (.func (.func 72) #[] #[.pointer (some ⟨w.heap.size, 0, none⟩)]) ∧ w' = w.alloc (.cells #[.int .i64 k, .int .i64 m, .slice B n0 c0, .slice A n1 c1, .slice A' n2 c2] 38) := by
  refine callsIn_of_wp Tryd.func47 rfl h67 ?_ hro
  simp only [Tryd.ntmps47, List.size_toArray, List.length_cons, List.length_nil, Nat.reduceAdd, Nat.reduceSub, Array.replicate_succ, Array.replicate_zero, List.push_toArray, List.append_toArray, List.nil_append, List.cons_append]
  gi_wp2
  go_ret
  exact ⟨rfl, rfl⟩
end Go.Proofs.YtpajccehkcgoaaaDoor
