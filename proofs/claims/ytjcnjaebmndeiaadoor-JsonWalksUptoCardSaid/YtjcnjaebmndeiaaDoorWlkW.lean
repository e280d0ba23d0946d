/-
  JsonWalks: what a walk tells, in which order, twice, and how it is stopped. For every value and number whose bulk together is at most 1,048,576, at every memory.
-/
import Derived.Test.YtjcnjaebmndeiaaDoorSq2
import Derived.Test.YtjcnjaebmndeiaaDoorWcl
import Derived.Test.YtjcnjaebmndeiaaDoorSai
import Derived.Test.YtjcnjaebmndeiaaDoorZsm
import Derived.Test.YtjcnjaebmndeiaaDoorZcc
import Derived.Test.YtjcnjaebmndeiaaDoorWlkF
import Derived.Test.YtjcnjaebmndeiaaDoorAwk
namespace Go.Proofs.YtjcnjaebmndeiaaDoor
open Go.RowKit

theorem fr_belw {w W W' : World} (h : Below w.heap.size w W) (hf : Fr W W' (fun _ => True)) : Below w.heap.size w W' := ⟨hf.os.trans h.os, hf.tape.trans h.tape, hf.output.trans h.output, Nat.le_trans h.size hf.size, fun i hi => (hf.block i (Nat.lt_of_lt_of_le hi h.size) trivial).trans (h.block i hi)⟩
theorem taken_le : ∀ (l : List (Nat × Z)), (∀ p ∈ l, zc p.2 + zk p.2 ≤ 2000) → taken l ≤ l.length * 144000
  | [], _ => by simp [taken]
  | p :: r, h => by
    have h1 := h p (by simp)
    have h2 := taken_le r (fun q hq => h q (by simp [hq]))
    rw [taken, List.length_cons]
    omega
mutual
theorem pz_both : ∀ (z : Z) (d : Nat) (p : Nat × Z), p ∈ pz d z → zc p.2 + zk p.2 ≤ zc z + zk z
  | .mk k t l ks, d, p, h => by
    rw [pz] at h
    rcases List.mem_cons.1 h with rfl | h
    · exact Nat.le_refl _
    · have ih := pzL_both l (d + 1) p h
      rw [show zc (Z.mk k t l ks) = 1 + zcL l from zc_l _, show zk (Z.mk k t l ks) = ks.length + zkL l from zk_l _]
      omega
theorem pzL_both : ∀ (l : List Z) (d : Nat) (p : Nat × Z), p ∈ pzL d l → zc p.2 + zk p.2 ≤ zcL l + zkL l
  | [], d, p, h => by rw [pzL] at h; cases h
  | x :: r, d, p, h => by
    rw [pzL] at h
    rw [zcL, zkL]
    rcases List.mem_append.1 h with h | h
    · have := pz_both x d p h; omega
    · have := pzL_both r d p h; omega
end
theorem taken_small (z : Z) (h : zn z ≤ 2000) : taken (pz 0 z) < 2147483647 := by
  have h1 := zck_zn z
  have h2 := taken_le (pz 0 z) (fun p hp => by have := pz_both z 0 p hp; omega)
  rw [pz_len] at h2
  have : zc z * 144000 ≤ 2000 * 144000 := Nat.mul_le_mul_right _ (by omega)
  omega

mutual
theorem pz_zn : ∀ (z : Z) (d : Nat) (p : Nat × Z), p ∈ pz d z → zn p.2 ≤ zn z
  | .mk k t l ks, d, p, h => by
    rw [pz] at h
    rcases List.mem_cons.1 h with rfl | h
    · exact Nat.le_refl _
    · have ih := pzL_zn l (d + 1) p h
      rw [zn]
      omega
theorem pzL_zn : ∀ (l : List Z) (d : Nat) (p : Nat × Z), p ∈ pzL d l → zn p.2 ≤ znL l
  | [], d, p, h => by rw [pzL] at h; cases h
  | x :: r, d, p, h => by
    rw [pzL] at h
    rw [znL]
    rcases List.mem_append.1 h with h | h
    · have := pz_zn x d p h; omega
    · have := pzL_zn r d p h; omega
end
theorem sli_row {W : World} {base n g cap : Nat} {L : List (Nat × Z)} (h : W.ownsRow base 3 1 (.slice (some ⟨g, 0, none⟩) n cap) L.length (L.map fun p => Value.int .i64 (p.1 : Nat))) : SlI W (some ⟨g, 0, none⟩) (L.map fun p => ((p.1 : Nat) : Int)) := by
  intro _
  refine ⟨g, 0, rfl, fun i u hu => ?_⟩
  rw [List.getElem?_map] at hu
  cases hp : L[i]? with
  | none => rw [hp] at hu; cases hu
  | some p =>
    rw [hp] at hu
    cases hu
    have := h.cells (g := g) rfl i (.int .i64 (p.1 : Nat)) (by rw [List.getElem?_map, hp]; rfl)
    rw [addr_add] at this
    exact this
/-- Two rows of what is told are told alike. -/
theorem rows_same {W : World} {z : Z} {base base' gB cB gB2 cB2 : Nat} {xb xb2 : List Value} {c c2 : Nat → Nat → Value} (hzn : zn z ≤ 2000)
    (rB : W.ownsRow base 26 4 (.slice (some ⟨gB, 0, none⟩) (pz 0 z).length cB) (pz 0 z).length xb) (rB2 : W.ownsRow base' 26 4 (.slice (some ⟨gB2, 0, none⟩) (pz 0 z).length cB2) (pz 0 z).length xb2)
    (hx : ∀ (i j : Nat), i < (pz 0 z).length → j < 4 → xb[4 * i + j]? = some (c i j)) (hx2 : ∀ (i j : Nat), i < (pz 0 z).length → j < 4 → xb2[4 * i + j]? = some (c2 i j))
    (hz : ∀ (i : Nat) (p : Nat × Z), (pz 0 z)[i]? = some p → ZIn W (fun _ => True) p.2 (c i 0) (c i 1) (c i 2) (c i 3)) (hz2 : ∀ (i : Nat) (p : Nat × Z), (pz 0 z)[i]? = some p → ZIn W (fun _ => True) p.2 (c2 i 0) (c2 i 1) (c2 i 2) (c2 i 3)) :
    Calls Tryd.prog 26 #[.slice (some ⟨gB, 0, none⟩) (zc z) cB, .slice (some ⟨gB2, 0, none⟩) (zc z) cB2, .func (.func 14) #[] #[]] W fun e w' => e = .returned (.bool true) ∧ Below W.heap.size W w' := by
  have hlen := pz_len 0 z
  have hck := zck_zn z
  have h := zsame_list ((pz 0 z).map (·.2)) (by rw [List.length_map]; omega) (fun t ht => by
      obtain ⟨p, hp, rfl⟩ := List.mem_map.1 ht
      exact zsame_any (by have := pz_zn z 0 p hp; omega)) (some ⟨gB, 0, none⟩) (some ⟨gB2, 0, none⟩) cB cB2 c c2 (fun _ => True) (fun _ => True) W
    (fun _ => ⟨gB, 0, rfl, trivial, fun i j hi hj => by
      rw [List.length_map] at hi
      have := rB.cells (g := gB) rfl (4 * i + j) _ (hx i j hi hj)
      rw [addr_add] at this; exact this⟩)
    (fun i t' ht => by
      rw [List.getElem?_map] at ht
      cases hp : (pz 0 z)[i]? with
      | none => rw [hp] at ht; cases ht
      | some p => rw [hp] at ht; cases ht; exact hz i p hp)
    (fun _ => ⟨gB2, 0, rfl, trivial, fun i j hi hj => by
      rw [List.length_map] at hi
      have := rB2.cells (g := gB2) rfl (4 * i + j) _ (hx2 i j hi hj)
      rw [addr_add] at this; exact this⟩)
    (fun i t' ht => by
      rw [List.getElem?_map] at ht
      cases hp : (pz 0 z)[i]? with
      | none => rw [hp] at ht; cases ht
      | some p => rw [hp] at ht; cases ht; exact hz2 i p hp)
  rw [List.length_map, hlen] at h
  exact h

set_option maxHeartbeats 8000000 in
set_option maxRecDepth 100000 in
theorem walks_walk : jsonWalks.Walk := by
  intro z v0 v1 v2 v3 m w hz hzw hm hG
  have h4 := hG.size
  have hznw := zck_zn z
  obtain ⟨kk, tt, A, m1, d1, A', m2, d2, rfl, rfl, rfl, rfl⟩ := zin_agg hz
  have hB0 := heap_alloc_new w (.cells #[.int .i64 kk, .string tt, .slice A m1 d1, .slice A' m2 d2] 26 (0, 0))
  have hb0 : Below w.heap.size w (w.alloc (.cells #[.int .i64 kk, .string tt, .slice A m1 d1, .slice A' m2 d2] 26)) := (Below.refl _ _).alloc (Nat.le_refl _) _
  have hzat : ∀ W, Below w.heap.size w W → ZIn W (fun b => b < W.heap.size) z (.int .i64 kk) (.string tt) (.slice A m1 d1) (.slice A' m2 d2) := fun W hW => (hz.fr (below_fr hW) (fun _ h => h)).mono (fun b _ hb => Nat.lt_of_lt_of_le hb hW.size)
  have hsm : Calls Tryd.prog 15 #[.agg #[.int .i64 kk, .string tt, .slice A m1 d1, .slice A' m2 d2], .int .i64 2000] (w.alloc (.cells #[.int .i64 kk, .string tt, .slice A m1 d1, .slice A' m2 d2] 26)) fun e w' => e = .returned (.bool (decide (zn z ≤ 2000))) ∧ Below (w.alloc (.cells #[.int .i64 kk, .string tt, .slice A m1 d1, .slice A' m2 d2] 26)).heap.size (w.alloc (.cells #[.int .i64 kk, .string tt, .slice A m1 d1, .slice A' m2 d2] 26)) w' :=
    small_any z hzw 2000 (by omega) _ _ _ _ _ (hzat _ hb0)
  obtain ⟨p0, p1, p2, p3⟩ := cells_4 hB0
  have HG := Lib.hid hG
  have HZ := Lib.hid hzat
  clear hG hzat hz
  by_cases hsz : zn z ≤ 2000
  · rw [decide_eq_true hsz] at hsm
    have htk := taken_small z hsz
    have HAW := Lib.hid (show ∀ W, Below w.heap.size w W → Calls Tryd.prog 11 #[] W fun e w' => e = .returned (.bool true) ∧ Below W.heap.size W w' from fun W hW => awake W (HG.out.below hW) (Nat.le_trans (by omega) hW.size))
    have HWK := Lib.hid (show ∀ W, Below w.heap.size w W → Calls Tryd.prog 22 #[.agg #[.int .i64 kk, .string tt, .slice A m1 d1, .slice A' m2 d2]] W (WalkP W z) from fun W hW => walk_any z W _ _ _ _ (HZ.out W hW) (by omega) (by omega))
    have HFL := Lib.hid (show ∀ W, Below w.heap.size w W → Calls Tryd.prog 23 #[.agg #[.int .i64 kk, .string tt, .slice A m1 d1, .slice A' m2 d2], .int .i64 ((0 : Nat) : Int)] W (FlatP W W (pz 0 z)) from fun W hW => flat_any _ z (Nat.lt_succ_self _) 0 W W _ _ _ _ (HZ.out W hW) (Below.refl _ _) (by omega))
    have hlen := pz_len 0 z
    have hpos : 0 < (pz 0 z).length := by rw [hlen]; cases z; rw [zc]; omega
    go_enter Tryd.func5, Tryd.ntmps5
    go_wp2_with fail
    generalize (w.alloc (.cells #[.int .i64 kk, .string tt, .slice A m1 d1, .slice A' m2 d2] 26)) = W0 at *
    refine hsm.mono ?_
    rintro e w1 ⟨rfl, hb1⟩
    have hB1 := (below_fr0 hb1).at hB0 trivial
    have hbw1 : Below w.heap.size w w1 := hb0.trans (hb1.mono hb0.size)
    obtain ⟨q0, q1, q2, q3⟩ := cells_4 hB1
    clear hsm hB0 p0 p1 p2 p3 hb1
    go_wp2_with fail
    refine (HWK.out w1 hbw1).mono ?_
    rintro e w2 ⟨p, x0, x1, x2, x3, rfl, hpp, hp2, hx2, hb2⟩
    have hbw2 : Below w.heap.size w w2 := hbw1.trans (hb2.mono hbw1.size)
    have hB2 := (below_fr0 hb2).at hB1 trivial
    clear q0 q1 q2 q3 hB1 hb2
    obtain ⟨q0, q1, q2, q3⟩ := cells_4 hB2
    go_wp2_with fail
    refine (HFL.out w2 hbw2).mono ?_
    rintro e w3 ⟨RA, RB, rfl, hFR, hb3⟩
    have hbw3 : Below w.heap.size w w3 := hbw2.trans (hb3.mono hbw2.size)
    obtain ⟨xb, c, rA, rB, hne, hxb, hzx⟩ := hFR
    obtain ⟨gA, cA, rfl⟩ := ownsRow_posn rA hpos
    obtain ⟨gB, cB, rfl⟩ := ownsRow_posn rB hpos
    clear q0 q1 q2 q3 hB2 HWK HFL
    have hp3 := (below_fr0 hb3).at hp2 trivial
    have hx3 := (hx2.fr (ok' := fun _ => True) (below_fr0 hb3) (fun _ _ => trivial))
    have HSQ := Lib.hid (show ∀ W, Fr w3 W (fun _ => True) → Calls Tryd.prog 24 #[.func (.func 48) #[] #[.pointer (some ⟨p, 0, none⟩)], .int .i64 (zc z : Nat)] W fun e w' => ∃ A B S, e = .returned (.tuple #[A, B, .bool true]) ∧ (∃ b, W.heap.size ≤ b ∧ SqRow b S (pz 0 z) A B w') ∧ Fr W w' (fun _ => True) from
      fun W hW => seq2_any p z W _ _ _ _ (hW.at hp3 trivial) ((hx3.fr (ok' := fun _ => True) hW (fun _ _ => trivial)).mono (fun b hb _ => hb)) hsz htk)
    have HST := Lib.hid (show ∀ W nn, 1 ≤ nn → nn ≤ 100000 → Fr w3 W (fun _ => True) → Calls Tryd.prog 27 #[.func (.func 48) #[] #[.pointer (some ⟨p, 0, none⟩)], .int .i64 nn] W fun e w' => e = .returned (.int .i64 (min nn (zc z : Int))) ∧ Below W.heap.size W w' from
      fun W nn h1 h2 hW => stops_any nn p z W _ _ _ _ h1 h2 (hW.at hp3 trivial) ((hx3.fr (ok' := fun _ => True) hW (fun _ _ => trivial)).mono (fun b hb _ => hb)) hsz htk)
    have hmod0 : 0 ≤ (IntKind.u64.wrap m).tmod ((zc z : Int) + 1) := Int.tmod_nonneg _ (Int.emod_nonneg _ (by decide))
    have hmod1 : (IntKind.u64.wrap m).tmod ((zc z : Int) + 1) < (zc z : Int) + 1 := Int.tmod_lt_of_pos _ (by omega)
    have hw1 : wrap64 ((IntKind.u64.wrap m).tmod ((zc z : Int) + 1)) = (IntKind.u64.wrap m).tmod ((zc z : Int) + 1) := by unfold wrap64; omega
    have hw2 : wrap64 (1 + (IntKind.u64.wrap m).tmod ((zc z : Int) + 1)) = 1 + (IntKind.u64.wrap m).tmod ((zc z : Int) + 1) := by unfold wrap64; omega
    go_wp2_with fail
    generalize (IntKind.u64.wrap m).tmod ((zc z : Int) + 1) = rr at *
    refine (HSQ.out w3 (Fr.refl _ _)).mono ?_
    rintro e w4 ⟨QA, QB, S, rfl, ⟨b, hbb, hSq⟩, hf4⟩
    obtain ⟨xb2, c2, rA2, rB2, _, _, _, hxb2, hzx2⟩ := hSq
    obtain ⟨gA2, cA2, rfl⟩ := ownsRow_posn rA2 hpos
    obtain ⟨gB2, cB2, rfl⟩ := ownsRow_posn rB2 hpos
    have hbw4 := fr_belw hbw3 hf4
    have HPL := Lib.hid (show ∀ W, Fr w4 W (fun _ => True) → Calls Tryd.prog 25 #[.slice (some ⟨gA, 0, none⟩) (zc z) cA, .slice (some ⟨gA2, 0, none⟩) (zc z) cA2] W fun e w' => e = .returned (.bool true) ∧ ∃ n, w' = W.drewN n from fun W hW => by
      have h := plain_ints (some ⟨gA, 0, none⟩) (some ⟨gA2, 0, none⟩) ((pz 0 z).map fun p => ((p.1 : Nat) : Int)) cA cA2 W (by rw [List.length_map]; omega) (sli_row (ownsRow_fr rA (hf4.trans hW) (fun _ _ => trivial))) (sli_row (ownsRow_fr rA2 hW (fun _ _ => trivial)))
      rw [List.length_map, hlen] at h
      exact h)
    have HSM := Lib.hid (show ∀ W, Fr w4 W (fun _ => True) → Calls Tryd.prog 26 #[.slice (some ⟨gB, 0, none⟩) (zc z) cB, .slice (some ⟨gB2, 0, none⟩) (zc z) cB2, .func (.func 14) #[] #[]] W fun e w' => e = .returned (.bool true) ∧ Below W.heap.size W w' from fun W hW =>
      rows_same hsz (ownsRow_fr rB (hf4.trans hW) (fun _ _ => trivial)) (ownsRow_fr rB2 hW (fun _ _ => trivial)) hxb hxb2 (fun i p hp => ((hzx i p hp).fr (ok' := fun _ => True) ((below_fr0 hb3).trans (hf4.trans hW)) (fun _ _ => trivial)).mono (fun _ _ _ => trivial)) (fun i p hp => ((hzx2 i p hp).fr (ok' := fun _ => True) hW (fun _ _ => trivial)).mono (fun _ _ _ => trivial)))
    rw [hlen] at rA rB rA2 rB2
    clear rA rB rA2 rB2 hxb hxb2 hzx hzx2 hx2 hx3 hp2 hp3 hne
    rw [hlen]
    go_wp2_with fail
    refine (HAW.out w4 hbw4).mono ?_
    rintro e w5 ⟨rfl, hb5⟩
    have hf5 : Fr w4 w5 (fun _ => True) := below_fr0 hb5
    go_wp2_with fail
    refine (HPL.out w5 hf5).mono ?_
    rintro e w6 ⟨rfl, n6, hn6⟩
    have hf6 : Fr w4 w6 (fun _ => True) := by rw [hn6]; exact hf5.drewN n6
    clear hn6 HPL
    go_wp2_with fail
    refine (HSM.out w6 hf6).mono ?_
    rintro e w7 ⟨rfl, hb7⟩
    have hf7 : Fr w4 w7 (fun _ => True) := hf6.trans (below_fr0 hb7)
    clear HSM
    go_wp2_with fail
    refine (HSQ.out w7 (hf4.trans hf7)).mono ?_
    rintro e w8 ⟨QA, QB, S', rfl, _, hf8⟩
    have hf9 : Fr w4 w8 (fun _ => True) := hf7.trans hf8
    clear HSQ
    go_wp2_with fail
    refine (HST.out w8 (1 + rr) (by omega) (by omega) (hf4.trans hf9)).mono ?_
    rintro e w9 ⟨rfl, hb9⟩
    have hbe : Below w.heap.size w w9 := fr_belw hbw4 (hf9.trans (below_fr0 hb9))
    clear HST
    go_wp2
    go_ret
    exact ⟨rfl, hbe⟩
  · rw [decide_eq_false hsz] at hsm
    go_enter Tryd.func5, Tryd.ntmps5
    go_wp2_with fail
    generalize (w.alloc (.cells #[.int .i64 kk, .string tt, .slice A m1 d1, .slice A' m2 d2] 26)) = W0 at *
    refine hsm.mono ?_
    rintro e w1 ⟨rfl, hb1⟩
    have hbw1 : Below w.heap.size w w1 := hb0.trans (hb1.mono hb0.size)
    have haw := awake w1 (HG.out.below hbw1) (Nat.le_trans (by omega) hbw1.size)
    clear hsm
    go_wp2_with fail
    refine haw.mono ?_
    rintro e w3 ⟨rfl, hb3⟩
    go_wp2
    go_ret
    exact ⟨rfl, hbw1.trans (hb3.mono hbw1.size)⟩
theorem jsonWalks_holds : Rows.JsonWalksUptoCardSaid := jsonWalks.card walks_walk
end Go.Proofs.YtjcnjaebmndeiaaDoor
