/-
  The walk of 'MatchNodes'.
-/
import Derived.Test.YtjfmoookjgbfoaaLaw
import Derived.Test.YtjfmoookjgbfoaaFlw
namespace Go.Proofs.Ytjfmoookjgbfoaa
open Go.RowKit

/-- Plain: which primitives match. -/
def wantB (i k : Int) : Bool := i == k || (i == 3 && k == 4) || (i == 8 && k == 7)
theorem prims : ∀ a b : Fin 8, matchT [kNd (1 + (a.val : Int))] [kNd (1 + (b.val : Int))] 0 0 = wantB (1 + (a.val : Int)) (1 + (b.val : Int)) := by decide +kernel
theorem prims1 : ∀ a b : Fin 8, matchT [uNd, kNd (1 + (a.val : Int))] [kNd (1 + (b.val : Int))] 0 0 = true := by decide +kernel
theorem prims2 : ∀ a b : Fin 8, matchT [kNd (1 + (b.val : Int))] [uNd, kNd (1 + (a.val : Int))] 0 0 = true := by decide +kernel
theorem prims3 : ∀ a b : Fin 8, (branchM [kNd (1 + (a.val : Int))] [uNd, kNd (1 + (b.val : Int))] 0 0 == 0) = wantB (1 + (a.val : Int)) (1 + (b.val : Int)) := by decide +kernel
theorem two_nds {W : World} {g g1 : Nat} (k : Int) (hk : (Lit.int .i64 k).wf = true) (h1 : W.heap[g1]? = some (.cells #[.int .i64 1] 3 (0, 0))) (h : W.heap[g]? = some (.cells #[.int .i64 13, .string ⟨#[]⟩, .slice none 0 0, .slice none 0 0, .slice none 0 0, .bool false, .string ⟨#[]⟩, .int .i64 0, .slice (some ⟨g1, 0, none⟩) 1 1, .int .i64 0, .int .i64 k, .string ⟨#[]⟩, .slice none 0 0, .slice none 0 0, .slice none 0 0, .bool false, .string ⟨#[]⟩, .int .i64 0, .slice none 0 0, .int .i64 0] 26 (0, 0))) :
    NdsAt W (fun _ => True) [uNd, kNd k] (.slice (some ⟨g, 0, none⟩) 2 2) := by
  refine nds_arr (ns := [uNd, kNd k]) h rfl trivial (by simp) (fun i n hi => ?_)
  rcases i with _ | _ | i
  · simp only [List.getElem?_cons_zero, Option.some.injEq] at hi
    subst hi
    refine ⟨rfl, rfl, strs_nil _ _, rows_nil _ _, strs_nil _ _, rfl, rfl, rfl, ?_, rfl, by decide, wf0, wf0, sz0, sz0⟩
    refine ⟨some ⟨g1, 0, none⟩, 1, rfl, Nat.le_refl _, by decide, fun x hx => ?_, fun _ => ⟨g1, 0, rfl, trivial, fun j x hj => ?_⟩⟩
    · simp [uNd] at hx; subst hx; decide
    · rcases j with _ | j
      · simp [uNd] at hj
        subst hj
        exact cell_of_row _ _ 0 _ _ _ h1
      · simp [uNd] at hj
  · simp only [List.getElem?_cons_succ, List.getElem?_cons_zero, Option.some.injEq] at hi
    subst hi
    exact ⟨rfl, rfl, strs_nil _ _, rows_nil _ _, strs_nil _ _, rfl, rfl, rfl, ints_nil _ _, rfl, hk, wf0, wf0, sz0, sz0⟩
  · simp at hi
/-- 'one': a schema of one node of that kind. -/
def OneP (k : Int) (w : World) (e : Ending) (w' : World) : Prop := ∃ g, e = .returned (.agg #[.slice (some ⟨g, 0, none⟩) 1 1]) ∧ w'.heap[g]? = some (.cells (kA k) 26 (0, 0)) ∧ Below w.heap.size w w'
set_option maxHeartbeats 1000000 in
theorem one_any (k : Int) (w : World) : Calls Try.prog 14 #[.int .i64 k] w (OneP k w) := by
  go_enter Try.func14, Try.ntmps14
  go_wp2
  have h1 : ((w.alloc (.cells #[.slice (some ⟨w.heap.size + 1, 0, none⟩) 1 1] 35)).alloc (.cells (kA k) 26)).heap[w.heap.size]? = some (.cells #[.slice (some ⟨w.heap.size + 1, 0, none⟩) 1 1] 35 (0, 0)) := old_at _ (new_at rfl _)
  have q0 := cell_of_row _ _ 0 _ _ _ h1
  refine bodyPost_ret (v := .agg #[.slice (some ⟨w.heap.size + 1, 0, none⟩) 1 1]) (by simp [results, Try.results14, go_sem, q0]) rfl ⟨w.heap.size + 1, rfl, new_at (by simp) _, ((Below.refl _ w).alloc (Nat.le_refl _) _).alloc (by simp) _⟩
/-- A schema of one node of that kind. -/
def OneV (k : Int) (v : Value) (w : World) : Prop := ∃ g, v = .agg #[.slice (some ⟨g, 0, none⟩) 1 1] ∧ w.heap[g]? = some (.cells (kA k) 26 (0, 0))
abbrev uA (k : Int) (g1 : Nat) : Array Value := #[.int .i64 13, .string ⟨#[]⟩, .slice none 0 0, .slice none 0 0, .slice none 0 0, .bool false, .string ⟨#[]⟩, .int .i64 0, .slice (some ⟨g1, 0, none⟩) 1 1, .int .i64 0, .int .i64 k, .string ⟨#[]⟩, .slice none 0 0, .slice none 0 0, .slice none 0 0, .bool false, .string ⟨#[]⟩, .int .i64 0, .slice none 0 0, .int .i64 0]
/-- A schema of a union of one branch, a node of that kind. -/
def TwoV (k : Int) (v : Value) (w : World) : Prop := ∃ g g1, v = .slice (some ⟨g, 0, none⟩) 2 2 ∧ w.heap[g]? = some (.cells (uA k g1) 26 (0, 0)) ∧ w.heap[g1]? = some (.cells #[.int .i64 1] 3 (0, 0))
/-- What each operation of the law's condition leaves. -/
def NdI (W : Bool) (i k R : Int) (su : Value) : Nat → Value → World → Prop
  | 2, v, _ => v = .func (.func 14) #[] #[]
  | 3, v, _ => v = .int .i64 i
  | 4, v, w => OneV i v w
  | 5, v, _ => v = .func (.func 14) #[] #[]
  | 6, v, _ => v = .int .i64 k
  | 7, v, w => OneV k v w
  | 8, v, _ => v = .bool W
  | 9, v, _ => v = .bool W
  | 13, v, _ => v = .agg #[su]
  | 14, v, _ => v = .func (.func 14) #[] #[]
  | 15, v, _ => v = .int .i64 k
  | 16, v, w => OneV k v w
  | 20, v, _ => v = .func (.func 14) #[] #[]
  | 21, v, _ => v = .int .i64 k
  | 22, v, w => OneV k v w
  | 23, v, _ => v = .agg #[su]
  | 27, v, _ => v = .func (.func 14) #[] #[]
  | 28, v, _ => v = .int .i64 i
  | 29, v, w => OneV i v w
  | 30, v, w => ∃ g1, v = .slice (some ⟨g1, 0, none⟩) 1 1 ∧ w.heap[g1]? = some (.cells #[.int .i64 1] 3 (0, 0))
  | 31, v, w => ∃ g1, v = .agg #[.int .i64 13, .string ⟨#[]⟩, .slice none 0 0, .slice none 0 0, .slice none 0 0, .bool false, .string ⟨#[]⟩, .int .i64 0, .slice (some ⟨g1, 0, none⟩) 1 1, .int .i64 0] ∧ w.heap[g1]? = some (.cells #[.int .i64 1] 3 (0, 0))
  | 32, v, _ => v = .int .i64 k
  | 33, v, _ => v = .agg (kA k)
  | 34, v, w => TwoV k v w
  | 35, v, w => ∃ u, v = .agg #[u] ∧ TwoV k u w
  | 36, v, _ => v = .int .i64 R
  | 37, v, _ => v = .bool W
  | 38, v, _ => v = .bool W
  | _, v, _ => v = .bool true
theorem OneV.fr {k : Int} {v : Value} {w w' : World} (h : OneV k v w) (hf : Fr w w' (fun _ => True)) : OneV k v w' := by
  obtain ⟨g, h1, h2⟩ := h
  exact ⟨g, h1, hf.at h2 trivial⟩
theorem TwoV.fr {k : Int} {v : Value} {w w' : World} (h : TwoV k v w) (hf : Fr w w' (fun _ => True)) : TwoV k v w' := by
  obtain ⟨g, g1, h1, h2, h3⟩ := h
  exact ⟨g, g1, h1, hf.at h2 trivial, hf.at h3 trivial⟩
theorem ndI_fr {W : Bool} {i k R : Int} {su : Value} : ∀ (j : Nat) (v : Value) (w w' : World), NdI W i k R su j v w → Fr w w' (fun _ => True) → NdI W i k R su j v w' := by
  intro j v w w' h hf
  unfold NdI at h ⊢
  split at h
  all_goals first
    | exact h
    | exact OneV.fr h hf
    | exact TwoV.fr h hf
    | (obtain ⟨g, h1, h2⟩ := h; first | exact ⟨g, h1, hf.at h2 trivial⟩ | exact ⟨g, h1, TwoV.fr h2 hf⟩)
theorem OneV.nds {k : Int} {v : Value} {w : World} (hk : (Lit.int .i64 k).wf = true) (h : OneV k v w) : ∃ s, v = .agg #[s] ∧ NdsAt w (fun _ => True) [kNd k] s := by
  obtain ⟨g, h1, h2⟩ := h
  exact ⟨_, h1, one_nds k hk h2⟩
theorem TwoV.nds {k : Int} {v : Value} {w : World} (hk : (Lit.int .i64 k).wf = true) (h : TwoV k v w) : NdsAt w (fun _ => True) [uNd, kNd k] v := by
  obtain ⟨g, g1, rfl, h2, h3⟩ := h
  exact two_nds k hk h3 h2
theorem mod8 (i : Int) : ∃ a : Fin 8, wrap64 (1 + wrap64 ((IntKind.u64.wrap i).tmod 8)) = 1 + (a.val : Int) := by
  rw [IntKind.wrap_u64]
  have h0 : 0 ≤ i % 18446744073709551616 := Int.emod_nonneg _ (by decide)
  generalize i % 18446744073709551616 = m at *
  rw [Int.tmod_eq_emod_of_nonneg h0]
  refine ⟨⟨(m % 8).toNat, by omega⟩, ?_⟩
  unfold wrap64
  simp only
  omega
theorem wf8 : ∀ a : Fin 8, (Lit.int .i64 (1 + (a.val : Int))).wf = true := by decide +kernel
def ndJ : List (Option Nat) := [none, none, none, none, some 41, none, none, none, none, none, none, none, none, none, none, none, none, none, none, none, none, none, none, none, none, none, none, none, none, none, none, none, none, none, none, none, none, none, none, none, none, none, none, some 0, some 1, some 2, some 3, some 4, some 5, some 6, some 7, some 8, some 9, some 10, some 11, some 12, some 13, some 14, some 15, some 16, some 17, some 18, some 19, some 20, some 21, some 22, some 23, some 24, some 25, some 26, some 27, some 28, some 29, some 30, some 31, some 32, some 33, some 34, some 35, some 36, some 37, some 38, some 39, some 40]
def ndD : List (List Nat) := [[], [0], [1], [1], [2, 3, 1], [1], [1], [5, 6, 1], [4, 7, 1], [1], [8, 9, 1], [1, 10], [11], [12], [12], [12], [14, 15, 12], [13, 16, 12], [12, 17], [18], [19], [19], [20, 21, 19], [19], [22, 23, 19], [19, 24], [25], [26], [26], [27, 28, 26], [26], [30, 26], [26], [32, 26], [31, 33, 26], [34, 26], [29, 35, 26], [36, 26], [26], [37, 38, 26], [26, 39], [40]]

set_option maxRecDepth 100000 in
set_option maxHeartbeats 8000000 in
theorem nodes_walk (i0 k0 : Int) (w : World) : Calls Try.prog 5 #[.int .i64 i0, .int .i64 k0] w fun e w' => e = .returned (.bool true) ∧ Below w.heap.size w w' := by
  go_enter Try.func5, Try.ntmps5
  go_upto_region 1 with fail
  go_cut [0, 1] (fun s t wx => ∃ a b : Fin 8, s = .int .i64 (1 + (a.val : Int)) ∧ t = .int .i64 (1 + (b.val : Int)) ∧ wx = w)
  case first =>
    go_wp2
    go_meet
    obtain ⟨a, ha⟩ := mod8 i0
    obtain ⟨b, hb⟩ := mod8 k0
    exact ⟨a, b, by rw [ha], by rw [hb], rfl⟩
  case rest =>
    obtain ⟨a, b, rfl, rfl, rfl⟩ := hcut
    have HW1 := prims a b
    have HW2 := prims1 a b
    have HW3 := prims2 a b
    have HRW := prims3 a b
    obtain ⟨W, hW⟩ : ∃ W, wantB (1 + (a.val : Int)) (1 + (b.val : Int)) = W := ⟨_, rfl⟩
    have hiw := wf8 a
    have hkw := wf8 b
    rw [hW] at HW1 HRW
    generalize 1 + (a.val : Int) = i at *
    generalize 1 + (b.val : Int) = k at *
    have HWW := Lib.hid hW
    clear hW
    go_upto_region 4 with fail
    have hb3 : Below wc.heap.size wc (((wc.alloc (.cells #[.int .i64 1] 3)).alloc (.cells (uA i wc.heap.size) 26)).alloc (.cells #[.slice (some ⟨wc.heap.size + 1, 0, none⟩) 2 2] 35)) := (((Below.refl _ wc).alloc (Nat.le_refl _) _).alloc (by simp) _).alloc (by simp; omega) _
    have h1 : (((wc.alloc (.cells #[.int .i64 1] 3)).alloc (.cells (uA i wc.heap.size) 26)).alloc (.cells #[.slice (some ⟨wc.heap.size + 1, 0, none⟩) 2 2] 35)).heap[wc.heap.size]? = some (.cells #[.int .i64 1] 3 (0, 0)) := old_at _ (old_at _ (new_at rfl _))
    have h2 : (((wc.alloc (.cells #[.int .i64 1] 3)).alloc (.cells (uA i wc.heap.size) 26)).alloc (.cells #[.slice (some ⟨wc.heap.size + 1, 0, none⟩) 2 2] 35)).heap[wc.heap.size + 1]? = some (.cells (uA i wc.heap.size) 26 (0, 0)) := old_at _ (new_at (by simp) _)
    have h3 : (((wc.alloc (.cells #[.int .i64 1] 3)).alloc (.cells (uA i wc.heap.size) 26)).alloc (.cells #[.slice (some ⟨wc.heap.size + 1, 0, none⟩) 2 2] 35)).heap[wc.heap.size + 1 + 1]? = some (.cells #[.slice (some ⟨wc.heap.size + 1, 0, none⟩) 2 2] 35 (0, 0)) := new_at (by simp) _
    generalize ((wc.alloc (.cells #[.int .i64 1] 3)).alloc (.cells (uA i wc.heap.size) 26)).alloc (.cells #[.slice (some ⟨wc.heap.size + 1, 0, none⟩) 2 2] 35) = W0 at *
    have hsu := two_nds i hiw h1 h2
    have h6 := cell_of_row _ _ 0 _ _ _ h3
    have HB0 := Lib.hid hb3
    clear h1 h2 h3 hb3
    obtain ⟨su, hsue⟩ : ∃ su, (Value.slice (some ⟨wc.heap.size + 1, 0, none⟩) 2 2) = su := ⟨_, rfl⟩
    rw [hsue] at hsu
    have h9 : W0.cell? ⟨wc.heap.size + 1 + 1, 0, none⟩ = some su := by rw [← hsue]; exact h6
    clear h6
    have HSU := Lib.hid hsue
    clear hsue
    go_cut [0, 1, 7] from 8 to 83 (fun s0 s1 s wx => s0 = .int .i64 i ∧ s1 = .int .i64 k ∧ s = .bool W ∧ wx = W0)
    case first =>
      go_wp2
      all_goals
        go_meet
        exact ⟨by simp [*], by simp [*], by rw [← HWW.out]; unfold wantB; first | (simp [*]; done) | (refine congrArg Value.bool ?_; rw [Bool.eq_iff_iff]; simp [*]), rfl⟩
    case rest =>
      obtain ⟨rfl, rfl, rfl, rfl⟩ := hcut
      go_upto_region 5 with fail
      obtain ⟨R, hR⟩ : ∃ R, branchM [kNd i] [uNd, kNd k] 0 0 = R := ⟨_, rfl⟩
      rw [hR] at HRW
      refine reg_flow (J := ndJ) ndD (NdI W i k R su) (by kernel_rfl) (by kernel_rfl) rfl ndI_fr ?_ ?_
      rotate_left
      · intro x wx hf hd
        have d41 : x 41 = .bool true := hd 41 (by decide)
        have HB5 := Lib.hid (HB0.out.trans ((fr_below hf).mono HB0.out.size))
        clear hd hf
        simp only [ndJ, fillZ]
        show Exit.then _ _ Exit.normal _ wx
        go_wp2
        go_ret
        exact ⟨by simp [d41], HB5.out⟩
      · refine And.intro ?_ (And.intro ?_ (And.intro ?_ (And.intro ?_ (And.intro ?_ (And.intro ?_ (And.intro ?_ (And.intro ?_ (And.intro ?_ (And.intro ?_ (And.intro ?_ (And.intro ?_ (And.intro ?_ (And.intro ?_ (And.intro ?_ (And.intro ?_ (And.intro ?_ (And.intro ?_ (And.intro ?_ (And.intro ?_ (And.intro ?_ (And.intro ?_ (And.intro ?_ (And.intro ?_ (And.intro ?_ (And.intro ?_ (And.intro ?_ (And.intro ?_ (And.intro ?_ (And.intro ?_ (And.intro ?_ (And.intro ?_ (And.intro ?_ (And.intro ?_ (And.intro ?_ (And.intro ?_ (And.intro ?_ (And.intro ?_ (And.intro ?_ (And.intro ?_ (And.intro ?_ (And.intro ?_ (True.intro))))))))))))))))))))))))))))))))))))))))))
        · intro x wx hf hd K hK
          clear hd
          simp only [ndJ, fillZ] at hK ⊢
          go_simp
          refine (awake_any wx).mono ?_
          rintro e w1 ⟨rfl, hb1⟩
          exact hK _ _ (below_fr0 hb1) rfl
        · intro x wx hf hd K hK
          have d0 : x 0 = .bool true := hd 0 (by decide)
          clear hd
          simp only [ndJ, fillZ, d0] at hK ⊢
          go_simp
          exact hK _ _ (Fr.refl _ _) (by first | rfl | simp [NdI])
        · intro x wx hf hd K hK
          have d1 : x 1 = .bool true := hd 1 (by decide)
          clear hd
          simp only [ndJ, fillZ, d1] at hK ⊢
          go_simp
          exact hK _ _ (Fr.refl _ _) (by first | rfl | simp [NdI])
        · intro x wx hf hd K hK
          have d1 : x 1 = .bool true := hd 1 (by decide)
          clear hd
          simp only [ndJ, fillZ, d1] at hK ⊢
          go_simp
          exact hK _ _ (Fr.refl _ _) (by first | rfl | simp [NdI])
        · intro x wx hf hd K hK
          have d2 : x 2 = .func (.func 14) #[] #[] := hd 2 (by decide)
          have d3 : x 3 = .int .i64 i := hd 3 (by decide)
          have d1 : x 1 = .bool true := hd 1 (by decide)
          clear hd
          simp only [ndJ, fillZ, d2, d3, d1] at hK ⊢
          go_simp
          refine (one_any i wx).mono ?_
          rintro e w1 ⟨g, rfl, hg, hb1⟩
          exact hK _ _ (below_fr0 hb1) ⟨g, rfl, hg⟩
        · intro x wx hf hd K hK
          have d1 : x 1 = .bool true := hd 1 (by decide)
          clear hd
          simp only [ndJ, fillZ, d1] at hK ⊢
          go_simp
          exact hK _ _ (Fr.refl _ _) (by first | rfl | simp [NdI])
        · intro x wx hf hd K hK
          have d1 : x 1 = .bool true := hd 1 (by decide)
          clear hd
          simp only [ndJ, fillZ, d1] at hK ⊢
          go_simp
          exact hK _ _ (Fr.refl _ _) (by first | rfl | simp [NdI])
        · intro x wx hf hd K hK
          have d5 : x 5 = .func (.func 14) #[] #[] := hd 5 (by decide)
          have d6 : x 6 = .int .i64 k := hd 6 (by decide)
          have d1 : x 1 = .bool true := hd 1 (by decide)
          clear hd
          simp only [ndJ, fillZ, d5, d6, d1] at hK ⊢
          go_simp
          refine (one_any k wx).mono ?_
          rintro e w1 ⟨g, rfl, hg, hb1⟩
          exact hK _ _ (below_fr0 hb1) ⟨g, rfl, hg⟩
        · intro x wx hf hd K hK
          have d4 : OneV i (x 4) wx := hd 4 (by decide)
          have d7 : OneV k (x 7) wx := hd 7 (by decide)
          have d1 : x 1 = .bool true := hd 1 (by decide)
          clear hd
          obtain ⟨s1, e1, n1⟩ := d4.nds hiw
          obtain ⟨s2, e2, n2⟩ := d7.nds hkw
          have hT := types_any _ _ _ _ 0 0 wx _ _ wf0 n1 n2
          rw [HW1] at hT
          clear n2 n1
          simp only [ndJ, fillZ, d1, e1, e2] at hK ⊢
          go_simp
          refine hT.mono ?_
          rintro e w1 ⟨rfl, hb1⟩
          exact hK _ _ (below_fr0 hb1) rfl
        · intro x wx hf hd K hK
          have d1 : x 1 = .bool true := hd 1 (by decide)
          clear hd
          simp only [ndJ, fillZ, d1] at hK ⊢
          go_simp
          exact hK _ _ (Fr.refl _ _) (by first | rfl | simp [NdI])
        · intro x wx hf hd K hK
          have d8 : x 8 = .bool W := hd 8 (by decide)
          have d9 : x 9 = .bool W := hd 9 (by decide)
          have d1 : x 1 = .bool true := hd 1 (by decide)
          clear hd
          simp only [ndJ, fillZ, d8, d9, d1] at hK ⊢
          go_simp
          exact hK _ _ (Fr.refl _ _) (by first | rfl | simp [NdI])
        · intro x wx hf hd K hK
          have d1 : x 1 = .bool true := hd 1 (by decide)
          have d10 : x 10 = .bool true := hd 10 (by decide)
          clear hd
          simp only [ndJ, fillZ, d1, d10] at hK ⊢
          go_simp
          exact hK _ _ (Fr.refl _ _) (by first | rfl | simp [NdI])
        · intro x wx hf hd K hK
          have d11 : x 11 = .bool true := hd 11 (by decide)
          clear hd
          simp only [ndJ, fillZ, d11] at hK ⊢
          go_simp
          exact hK _ _ (Fr.refl _ _) (by first | rfl | simp [NdI])
        · intro x wx hf hd K hK
          have d12 : x 12 = .bool true := hd 12 (by decide)
          clear hd
          have p6 := hf.cell h9 trivial
          simp only [ndJ, fillZ, d12] at hK ⊢
          go_simp
          exact hK _ _ (Fr.refl _ _) rfl
        · intro x wx hf hd K hK
          have d12 : x 12 = .bool true := hd 12 (by decide)
          clear hd
          simp only [ndJ, fillZ, d12] at hK ⊢
          go_simp
          exact hK _ _ (Fr.refl _ _) (by first | rfl | simp [NdI])
        · intro x wx hf hd K hK
          have d12 : x 12 = .bool true := hd 12 (by decide)
          clear hd
          simp only [ndJ, fillZ, d12] at hK ⊢
          go_simp
          exact hK _ _ (Fr.refl _ _) (by first | rfl | simp [NdI])
        · intro x wx hf hd K hK
          have d14 : x 14 = .func (.func 14) #[] #[] := hd 14 (by decide)
          have d15 : x 15 = .int .i64 k := hd 15 (by decide)
          have d12 : x 12 = .bool true := hd 12 (by decide)
          clear hd
          simp only [ndJ, fillZ, d14, d15, d12] at hK ⊢
          go_simp
          refine (one_any k wx).mono ?_
          rintro e w1 ⟨g, rfl, hg, hb1⟩
          exact hK _ _ (below_fr0 hb1) ⟨g, rfl, hg⟩
        · intro x wx hf hd K hK
          have d13 : x 13 = .agg #[su] := hd 13 (by decide)
          have d16 : OneV k (x 16) wx := hd 16 (by decide)
          have d12 : x 12 = .bool true := hd 12 (by decide)
          clear hd
          obtain ⟨s2, e2, n2⟩ := d16.nds hkw
          have hT := types_any _ _ _ _ 0 0 wx _ _ wf0 (nds_fr hf (fun _ _ => trivial) hsu) n2
          rw [HW2] at hT
          clear n2
          simp only [ndJ, fillZ, d13, d12, e2] at hK ⊢
          go_simp
          refine hT.mono ?_
          rintro e w1 ⟨rfl, hb1⟩
          exact hK _ _ (below_fr0 hb1) rfl
        · intro x wx hf hd K hK
          have d12 : x 12 = .bool true := hd 12 (by decide)
          have d17 : x 17 = .bool true := hd 17 (by decide)
          clear hd
          simp only [ndJ, fillZ, d12, d17] at hK ⊢
          go_simp
          exact hK _ _ (Fr.refl _ _) (by first | rfl | simp [NdI])
        · intro x wx hf hd K hK
          have d18 : x 18 = .bool true := hd 18 (by decide)
          clear hd
          simp only [ndJ, fillZ, d18] at hK ⊢
          go_simp
          exact hK _ _ (Fr.refl _ _) (by first | rfl | simp [NdI])
        · intro x wx hf hd K hK
          have d19 : x 19 = .bool true := hd 19 (by decide)
          clear hd
          simp only [ndJ, fillZ, d19] at hK ⊢
          go_simp
          exact hK _ _ (Fr.refl _ _) (by first | rfl | simp [NdI])
        · intro x wx hf hd K hK
          have d19 : x 19 = .bool true := hd 19 (by decide)
          clear hd
          simp only [ndJ, fillZ, d19] at hK ⊢
          go_simp
          exact hK _ _ (Fr.refl _ _) (by first | rfl | simp [NdI])
        · intro x wx hf hd K hK
          have d20 : x 20 = .func (.func 14) #[] #[] := hd 20 (by decide)
          have d21 : x 21 = .int .i64 k := hd 21 (by decide)
          have d19 : x 19 = .bool true := hd 19 (by decide)
          clear hd
          simp only [ndJ, fillZ, d20, d21, d19] at hK ⊢
          go_simp
          refine (one_any k wx).mono ?_
          rintro e w1 ⟨g, rfl, hg, hb1⟩
          exact hK _ _ (below_fr0 hb1) ⟨g, rfl, hg⟩
        · intro x wx hf hd K hK
          have d19 : x 19 = .bool true := hd 19 (by decide)
          clear hd
          have p6 := hf.cell h9 trivial
          simp only [ndJ, fillZ, d19] at hK ⊢
          go_simp
          exact hK _ _ (Fr.refl _ _) rfl
        · intro x wx hf hd K hK
          have d22 : OneV k (x 22) wx := hd 22 (by decide)
          have d23 : x 23 = .agg #[su] := hd 23 (by decide)
          have d19 : x 19 = .bool true := hd 19 (by decide)
          clear hd
          obtain ⟨s2, e2, n2⟩ := d22.nds hkw
          have hT := types_any _ _ _ _ 0 0 wx _ _ wf0 n2 (nds_fr hf (fun _ _ => trivial) hsu)
          rw [HW3] at hT
          clear n2
          simp only [ndJ, fillZ, d23, d19, e2] at hK ⊢
          go_simp
          refine hT.mono ?_
          rintro e w1 ⟨rfl, hb1⟩
          exact hK _ _ (below_fr0 hb1) rfl
        · intro x wx hf hd K hK
          have d19 : x 19 = .bool true := hd 19 (by decide)
          have d24 : x 24 = .bool true := hd 24 (by decide)
          clear hd
          simp only [ndJ, fillZ, d19, d24] at hK ⊢
          go_simp
          exact hK _ _ (Fr.refl _ _) (by first | rfl | simp [NdI])
        · intro x wx hf hd K hK
          have d25 : x 25 = .bool true := hd 25 (by decide)
          clear hd
          simp only [ndJ, fillZ, d25] at hK ⊢
          go_simp
          exact hK _ _ (Fr.refl _ _) (by first | rfl | simp [NdI])
        · intro x wx hf hd K hK
          have d26 : x 26 = .bool true := hd 26 (by decide)
          clear hd
          simp only [ndJ, fillZ, d26] at hK ⊢
          go_simp
          exact hK _ _ (Fr.refl _ _) (by first | rfl | simp [NdI])
        · intro x wx hf hd K hK
          have d26 : x 26 = .bool true := hd 26 (by decide)
          clear hd
          simp only [ndJ, fillZ, d26] at hK ⊢
          go_simp
          exact hK _ _ (Fr.refl _ _) (by first | rfl | simp [NdI])
        · intro x wx hf hd K hK
          have d27 : x 27 = .func (.func 14) #[] #[] := hd 27 (by decide)
          have d28 : x 28 = .int .i64 i := hd 28 (by decide)
          have d26 : x 26 = .bool true := hd 26 (by decide)
          clear hd
          simp only [ndJ, fillZ, d27, d28, d26] at hK ⊢
          go_simp
          refine (one_any i wx).mono ?_
          rintro e w1 ⟨g, rfl, hg, hb1⟩
          exact hK _ _ (below_fr0 hb1) ⟨g, rfl, hg⟩
        · intro x wx hf hd K hK
          have d26 : x 26 = .bool true := hd 26 (by decide)
          clear hd
          simp only [ndJ, fillZ, d26] at hK ⊢
          go_simp
          exact hK _ _ (fr_all _ _) ⟨_, rfl, new_at rfl _⟩
        · intro x wx hf hd K hK
          have d30 := hd 30 (by decide)
          have d26 : x 26 = .bool true := hd 26 (by decide)
          clear hd
          obtain ⟨g1, e1, hg1⟩ := d30
          simp only [ndJ, fillZ, d26, e1] at hK ⊢
          go_simp
          exact hK _ _ (Fr.refl _ _) ⟨g1, rfl, hg1⟩
        · intro x wx hf hd K hK
          have d26 : x 26 = .bool true := hd 26 (by decide)
          clear hd
          simp only [ndJ, fillZ, d26] at hK ⊢
          go_simp
          exact hK _ _ (Fr.refl _ _) (by first | rfl | simp [NdI])
        · intro x wx hf hd K hK
          have d32 : x 32 = .int .i64 k := hd 32 (by decide)
          have d26 : x 26 = .bool true := hd 26 (by decide)
          clear hd
          simp only [ndJ, fillZ, d32, d26] at hK ⊢
          go_simp
          exact hK _ _ (Fr.refl _ _) (by first | rfl | simp [NdI])
        · intro x wx hf hd K hK
          have d31 := hd 31 (by decide)
          have d33 : x 33 = .agg (kA k) := hd 33 (by decide)
          have d26 : x 26 = .bool true := hd 26 (by decide)
          clear hd
          obtain ⟨g1, e1, hg1⟩ := d31
          simp only [ndJ, fillZ, d33, d26, e1] at hK ⊢
          go_simp
          exact hK _ _ (fr_all _ _) ⟨_, g1, rfl, new_at rfl _, (fr_all _ _).at hg1 trivial⟩
        · intro x wx hf hd K hK
          have d34 := hd 34 (by decide)
          have d26 : x 26 = .bool true := hd 26 (by decide)
          clear hd
          obtain ⟨g, g1, e1, hg, hg1⟩ := d34
          simp only [ndJ, fillZ, d26, e1] at hK ⊢
          go_simp
          exact hK _ _ (Fr.refl _ _) ⟨_, rfl, g, g1, rfl, hg, hg1⟩
        · intro x wx hf hd K hK
          have d29 : OneV i (x 29) wx := hd 29 (by decide)
          have d35 := hd 35 (by decide)
          have d26 : x 26 = .bool true := hd 26 (by decide)
          clear hd
          obtain ⟨s1, e1, n1⟩ := d29.nds hiw
          obtain ⟨u, e2, h2⟩ := d35
          have n2 := h2.nds hkw
          clear h2
          have hT := branch_any _ _ _ _ 0 0 wx _ _ n1 n2
          rw [hR] at hT
          clear n1 n2
          simp only [ndJ, fillZ, d26, e1, e2] at hK ⊢
          go_simp
          refine hT.mono ?_
          rintro e w1 ⟨rfl, hb1⟩
          exact hK _ _ (below_fr0 hb1) rfl
        · intro x wx hf hd K hK
          have d36 : x 36 = .int .i64 R := hd 36 (by decide)
          have d26 : x 26 = .bool true := hd 26 (by decide)
          clear hd
          simp only [ndJ, fillZ, d36, d26] at hK ⊢
          go_simp
          exact hK _ _ (Fr.refl _ _) rfl
        · intro x wx hf hd K hK
          have d26 : x 26 = .bool true := hd 26 (by decide)
          clear hd
          simp only [ndJ, fillZ, d26] at hK ⊢
          go_simp
          exact hK _ _ (Fr.refl _ _) (by first | rfl | simp [NdI])
        · intro x wx hf hd K hK
          have d37 : x 37 = .bool W := hd 37 (by decide)
          have d38 : x 38 = .bool W := hd 38 (by decide)
          have d26 : x 26 = .bool true := hd 26 (by decide)
          clear hd
          simp only [ndJ, fillZ, d37, d38, d26] at hK ⊢
          go_simp
          exact hK _ _ (Fr.refl _ _) (by first | rfl | simp [NdI])
        · intro x wx hf hd K hK
          have d26 : x 26 = .bool true := hd 26 (by decide)
          have d39 : x 39 = .bool true := hd 39 (by decide)
          clear hd
          simp only [ndJ, fillZ, d26, d39] at hK ⊢
          go_simp
          exact hK _ _ (Fr.refl _ _) (by first | rfl | simp [NdI])
        · intro x wx hf hd K hK
          have d40 : x 40 = .bool true := hd 40 (by decide)
          clear hd
          simp only [ndJ, fillZ, d40] at hK ⊢
          go_simp
          exact hK _ _ (Fr.refl _ _) (by first | rfl | simp [NdI])
end Go.Proofs.Ytjfmoookjgbfoaa
