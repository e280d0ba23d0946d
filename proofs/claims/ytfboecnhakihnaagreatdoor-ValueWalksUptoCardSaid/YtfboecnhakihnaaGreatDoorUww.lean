/-
  ValueWalks: what a walk tells, in which order, how many and how deep, twice, and how it is stopped. For every value and number whose bulk together is at most 1,048,576, at every memory.
-/
import Derived.Test.YtfboecnhakihnaaGreatDoorUwc
import Derived.Test.YtfboecnhakihnaaGreatDoorUsm
import Derived.Test.YtfboecnhakihnaaGreatDoorUcd
import Derived.Test.YtfboecnhakihnaaGreatDoorUaw
import Derived.Test.YtfboecnhakihnaaGreatDoorUwf
namespace Go.Proofs.YtfboecnhakihnaaGreatDoor
open Go.RowKit

theorem fr_belw {w W W' : World} (h : Below w.heap.size w W) (hf : Fr W W' (fun _ => True)) : Below w.heap.size w W' := ⟨hf.os.trans h.os, hf.tape.trans h.tape, hf.output.trans h.output, Nat.le_trans h.size hf.size, fun i hi => (hf.block i (Nat.lt_of_lt_of_le hi h.size) trivial).trans (h.block i hi)⟩
theorem taken_le : ∀ (l : List (Nat × U)), (∀ p ∈ l, ucost p.2 ≤ 276000) → taken l ≤ l.length * 276000
  | [], _ => by simp [taken]
  | p :: r, h => by
    have h1 := h p (by simp)
    have h2 := taken_le r (fun q hq => h q (by simp [hq]))
    rw [taken, List.length_cons]
    omega
theorem taken_small (z : U) (h : un z ≤ 2000) : taken (pu 1 z) < 2147483647 := by
  have h1 := uck_un z
  have h2 := taken_le (pu 1 z) (fun p hp => by have := pu_le z 1 p hp; unfold ucost; omega)
  rw [pu_len] at h2
  have : uc z * 276000 ≤ 2000 * 276000 := Nat.mul_le_mul_right _ (by omega)
  omega
mutual
theorem pu_un : ∀ (z : U) (d : Nat) (p : Nat × U), p ∈ pu d z → un p.2 ≤ un z
  | .mk k n b l ks, d, p, h => by
    rw [pu] at h
    rcases List.mem_cons.1 h with rfl | h
    · exact Nat.le_refl _
    · have ih := puL_un l (d + 1) p h
      rw [un]
      omega
theorem puL_un : ∀ (l : List U) (d : Nat) (p : Nat × U), p ∈ puL d l → un p.2 ≤ unL l
  | [], d, p, h => by rw [puL] at h; cases h
  | x :: r, d, p, h => by
    rw [puL] at h
    rw [unL]
    rcases List.mem_append.1 h with h | h
    · have := pu_un x d p h; omega
    · have := puL_un r d p h; omega
end
theorem sli_row {W : World} {base n g cap : Nat} {L : List (Nat × U)} (h : W.ownsRow base 3 1 (.slice (some ⟨g, 0, none⟩) n cap) L.length (L.map fun p => Value.int .i64 (p.1 : Nat))) : SlI W (some ⟨g, 0, none⟩) (L.map fun p => ((p.1 : Nat) : Int)) := by
  intro _
  refine ⟨g, 0, rfl, fun i u hu => ?_⟩
  rw [List.getElem?_map] at hu
  cases hp : L[i]? with
  | none => rw [hp] at hu; cases hu
  | some p =>
    rw [hp] at hu
    cases hu
    have := h.cells (g := g) rfl i (.int .i64 (p.1 : Nat)) (by rw [List.getElem?_map, hp]; rfl)
    rw [addr_add] at this
    exact this
/-- Two rows of what is told are told alike. -/
theorem rows_same {W : World} {z : U} {base base' gB cB gB2 cB2 : Nat} {xb xb2 : List Value} {c c2 : Nat → Nat → Value} (hzn : un z ≤ 2000)
    (rB : W.ownsRow base 29 5 (.slice (some ⟨gB, 0, none⟩) (pu 1 z).length cB) (pu 1 z).length xb) (rB2 : W.ownsRow base' 29 5 (.slice (some ⟨gB2, 0, none⟩) (pu 1 z).length cB2) (pu 1 z).length xb2)
    (hx : ∀ (i j : Nat), i < (pu 1 z).length → j < 5 → xb[5 * i + j]? = some (c i j)) (hx2 : ∀ (i j : Nat), i < (pu 1 z).length → j < 5 → xb2[5 * i + j]? = some (c2 i j))
    (hz : ∀ (i : Nat) (p : Nat × U), (pu 1 z)[i]? = some p → UIn W (fun _ => True) p.2 (c i 0) (c i 1) (c i 2) (c i 3) (c i 4)) (hz2 : ∀ (i : Nat) (p : Nat × U), (pu 1 z)[i]? = some p → UIn W (fun _ => True) p.2 (c2 i 0) (c2 i 1) (c2 i 2) (c2 i 3) (c2 i 4)) :
    Calls Tryz.prog 25 #[.slice (some ⟨gB, 0, none⟩) (uc z) cB, .slice (some ⟨gB2, 0, none⟩) (uc z) cB2, .func (.func 19) #[] #[]] W fun e w' => e = .returned (.bool true) ∧ Below W.heap.size W w' := by
  have hlen := pu_len 1 z
  have hck := uck_un z
  have h := usame_list ((pu 1 z).map (·.2)) (by rw [List.length_map]; omega) (fun t ht => by
      obtain ⟨p, hp, rfl⟩ := List.mem_map.1 ht
      exact usame_any (by have := pu_un z 1 p hp; omega)) (some ⟨gB, 0, none⟩) (some ⟨gB2, 0, none⟩) cB cB2 c c2 (fun _ => True) (fun _ => True) W
    (fun _ => ⟨gB, 0, rfl, trivial, fun i j hi hj => by
      rw [List.length_map] at hi
      have := rB.cells (g := gB) rfl (5 * i + j) _ (hx i j hi hj)
      rw [addr_add] at this; exact this⟩)
    (fun i t' ht => by
      rw [List.getElem?_map] at ht
      cases hp : (pu 1 z)[i]? with
      | none => rw [hp] at ht; cases ht
      | some p => rw [hp] at ht; cases ht; exact hz i p hp)
    (fun _ => ⟨gB2, 0, rfl, trivial, fun i j hi hj => by
      rw [List.length_map] at hi
      have := rB2.cells (g := gB2) rfl (5 * i + j) _ (hx2 i j hi hj)
      rw [addr_add] at this; exact this⟩)
    (fun i t' ht => by
      rw [List.getElem?_map] at ht
      cases hp : (pu 1 z)[i]? with
      | none => rw [hp] at ht; cases ht
      | some p => rw [hp] at ht; cases ht; exact hz2 i p hp)
  rw [List.length_map, hlen] at h
  exact h
theorem maxD_take (l : List (Nat × U)) (q : Nat) (p : Nat × U) (h : l[q]? = some p) : maxD (l.take (q + 1)) = max (maxD (l.take q)) p.1 := by
  rw [List.take_add_one, h, maxD_app]
  simp [maxD]

set_option maxHeartbeats 8000000 in
set_option maxRecDepth 100000 in
theorem walks_walk : valueWalks.Walk := by
  intro z v0 v1 v2 v3 v4 m w hz hzw hm hG
  have hznw := uck_un z
  obtain ⟨kk, tt, Yk, yk, zk, A, m1, d1, A', m2, d2, rfl, rfl, rfl, rfl, rfl⟩ := uin_agg hz
  have hB0 := heap_alloc_new w (.cells #[.int .i64 kk, .int .i64 tt, .slice Yk yk zk, .slice A m1 d1, .slice A' m2 d2] 29 (0, 0))
  have hb0 : Below w.heap.size w (w.alloc (.cells #[.int .i64 kk, .int .i64 tt, .slice Yk yk zk, .slice A m1 d1, .slice A' m2 d2] 29)) := (Below.refl _ _).alloc (Nat.le_refl _) _
  have hzat : ∀ W, Below w.heap.size w W → UIn W (fun b => b < W.heap.size) z (.int .i64 kk) (.int .i64 tt) (.slice Yk yk zk) (.slice A m1 d1) (.slice A' m2 d2) := fun W hW => (hz.fr (below_fr hW) (fun _ h => h)).mono (fun b _ hb => Nat.lt_of_lt_of_le hb hW.size)
  have hsm : Calls Tryz.prog 8 #[.agg #[.int .i64 kk, .int .i64 tt, .slice Yk yk zk, .slice A m1 d1, .slice A' m2 d2], .int .i64 2000] (w.alloc (.cells #[.int .i64 kk, .int .i64 tt, .slice Yk yk zk, .slice A m1 d1, .slice A' m2 d2] 29)) fun e w' => e = .returned (.bool (decide (un z ≤ 2000))) ∧ Below (w.alloc (.cells #[.int .i64 kk, .int .i64 tt, .slice Yk yk zk, .slice A m1 d1, .slice A' m2 d2] 29)).heap.size (w.alloc (.cells #[.int .i64 kk, .int .i64 tt, .slice Yk yk zk, .slice A m1 d1, .slice A' m2 d2] 29)) w' :=
    small_any z hzw 2000 (by omega) _ _ _ _ _ _ (hzat _ hb0)
  obtain ⟨p0, p1, p2, p3, p4⟩ := cells_5 hB0
  have HG := Lib.hid hG
  have HZ := Lib.hid hzat
  clear hG hzat hz
  by_cases hsz : un z ≤ 2000
  · rw [decide_eq_true hsz] at hsm
    have htk := taken_small z hsz
    have HAW := Lib.hid (show ∀ W, Below w.heap.size w W → Calls Tryz.prog 9 #[] W fun e w' => e = .returned (.bool true) ∧ Below W.heap.size W w' from fun W hW => vawake W (HG.out.below hW))
    have HWK := Lib.hid (show ∀ W, Below w.heap.size w W → Calls Tryz.prog 21 #[.agg #[.int .i64 kk, .int .i64 tt, .slice Yk yk zk, .slice A m1 d1, .slice A' m2 d2]] W (WalkP W z) from fun W hW => walk_any z W _ _ _ _ _ (HZ.out W hW) (by omega) (by omega) (by omega))
    have HFL := Lib.hid (show ∀ W, Below w.heap.size w W → Calls Tryz.prog 22 #[.agg #[.int .i64 kk, .int .i64 tt, .slice Yk yk zk, .slice A m1 d1, .slice A' m2 d2], .int .i64 ((1 : Nat) : Int)] W (FlatP W W (pu 1 z)) from fun W hW => flat_any _ z (Nat.lt_succ_self _) 1 W W _ _ _ _ _ (HZ.out W hW) (Below.refl _ _) (by omega))
    have HCN := Lib.hid (show ∀ W, Below w.heap.size w W → Calls Tryz.prog 12 #[.agg #[.int .i64 kk, .int .i64 tt, .slice Yk yk zk, .slice A m1 d1, .slice A' m2 d2]] W fun e w' => e = .returned (.int .i64 (uc z : Nat)) ∧ Below W.heap.size W w' from fun W hW => count_any z W _ _ _ _ _ (HZ.out W hW) (by omega))
    have HDP := Lib.hid (show ∀ W, Below w.heap.size w W → Calls Tryz.prog 14 #[.agg #[.int .i64 kk, .int .i64 tt, .slice Yk yk zk, .slice A m1 d1, .slice A' m2 d2]] W fun e w' => e = .returned (.int .i64 (maxD (pu 1 z) : Nat)) ∧ Below W.heap.size W w' from fun W hW => depth_any z W _ _ _ _ _ (HZ.out W hW) (by omega))
    have hlen := pu_len 1 z
    have hpos : 0 < (pu 1 z).length := by rw [hlen]; cases z; rw [uc]; omega
    go_enter Tryz.func6, Tryz.ntmps6
    go_wp2_with fail
    generalize (w.alloc (.cells #[.int .i64 kk, .int .i64 tt, .slice Yk yk zk, .slice A m1 d1, .slice A' m2 d2] 29)) = W0 at *
    refine hsm.mono ?_
    rintro e w1 ⟨rfl, hb1⟩
    have hB1 := (below_fr0 hb1).at hB0 trivial
    have hbw1 : Below w.heap.size w w1 := hb0.trans (hb1.mono hb0.size)
    obtain ⟨q0, q1, q2, q3, q4⟩ := cells_5 hB1
    clear hsm hB0 p0 p1 p2 p3 p4 hb1
    go_wp2_with fail
    refine (HWK.out w1 hbw1).mono ?_
    rintro e w2 ⟨p, x0, x1, x2, x3, x4, rfl, hpp, hp2, hx2, hb2⟩
    have hbw2 : Below w.heap.size w w2 := hbw1.trans (hb2.mono hbw1.size)
    have hB2 := (below_fr0 hb2).at hB1 trivial
    clear q0 q1 q2 q3 q4 hB1 hb2
    obtain ⟨q0, q1, q2, q3, q4⟩ := cells_5 hB2
    go_wp2_with fail
    refine (HFL.out w2 hbw2).mono ?_
    rintro e w3 ⟨RA, RB, rfl, hFR, hb3⟩
    have hbw3 : Below w.heap.size w w3 := hbw2.trans (hb3.mono hbw2.size)
    obtain ⟨xb, c, rA, rB, hne, hxb, hzx⟩ := hFR
    obtain ⟨gA, cA, rfl⟩ := ownsRow_posn rA hpos
    obtain ⟨gB, cB, rfl⟩ := ownsRow_posn rB hpos
    have hB3 := (below_fr0 hb3).at hB2 trivial
    clear q0 q1 q2 q3 q4 hB2 HWK HFL
    have hp3 := (below_fr0 hb3).at hp2 trivial
    have hx3 := (hx2.fr (ok' := fun _ => True) (below_fr0 hb3) (fun _ _ => trivial))
    have HSQ := Lib.hid (show ∀ W, Fr w3 W (fun _ => True) → Calls Tryz.prog 23 #[.func (.func 48) #[] #[.pointer (some ⟨p, 0, none⟩)], .int .i64 (uc z : Nat)] W fun e w' => ∃ A B S, e = .returned (.tuple #[A, B, .bool true]) ∧ (∃ b, W.heap.size ≤ b ∧ SqRow b S (pu 1 z) A B w') ∧ Fr W w' (fun _ => True) from
      fun W hW => seq2_any p z W _ _ _ _ _ (hW.at hp3 trivial) ((hx3.fr (ok' := fun _ => True) hW (fun _ _ => trivial)).mono (fun b hb _ => hb)) hsz htk)
    have HST := Lib.hid (show ∀ W nn, 1 ≤ nn → nn ≤ 100000 → Fr w3 W (fun _ => True) → Calls Tryz.prog 26 #[.func (.func 48) #[] #[.pointer (some ⟨p, 0, none⟩)], .int .i64 nn] W fun e w' => e = .returned (.int .i64 (min nn (uc z : Int))) ∧ Below W.heap.size W w' from
      fun W nn h1 h2 hW => stops_any nn p z W _ _ _ _ _ h1 h2 (hW.at hp3 trivial) ((hx3.fr (ok' := fun _ => True) hW (fun _ _ => trivial)).mono (fun b hb _ => hb)) hsz htk)
    have hmod0 : 0 ≤ (IntKind.u64.wrap m).tmod ((uc z : Int) + 1) := Int.tmod_nonneg _ (Int.emod_nonneg _ (by decide))
    have hmod1 : (IntKind.u64.wrap m).tmod ((uc z : Int) + 1) < (uc z : Int) + 1 := Int.tmod_lt_of_pos _ (by omega)
    have hw1 : wrap64 ((IntKind.u64.wrap m).tmod ((uc z : Int) + 1)) = (IntKind.u64.wrap m).tmod ((uc z : Int) + 1) := by unfold wrap64; omega
    have hw2 : wrap64 (1 + (IntKind.u64.wrap m).tmod ((uc z : Int) + 1)) = 1 + (IntKind.u64.wrap m).tmod ((uc z : Int) + 1) := by unfold wrap64; omega
    rw [hlen]
    go_wp2_with fail
    refine (HSQ.out w3 (Fr.refl _ _)).mono ?_
    rintro e w4 ⟨QA, QB, S, rfl, ⟨b, hbb, hSq⟩, hf4⟩
    obtain ⟨xb2, c2, rA2, rB2, _, _, _, hxb2, hzx2⟩ := hSq
    obtain ⟨gA2, cA2, rfl⟩ := ownsRow_posn rA2 hpos
    obtain ⟨gB2, cB2, rfl⟩ := ownsRow_posn rB2 hpos
    have hbw4 := fr_belw hbw3 hf4
    have hB4 := hf4.at hB3 trivial
    have HPL := Lib.hid (show ∀ W, Fr w4 W (fun _ => True) → Calls Tryz.prog 24 #[.slice (some ⟨gA, 0, none⟩) (uc z) cA, .slice (some ⟨gA2, 0, none⟩) (uc z) cA2] W fun e w' => e = .returned (.bool true) ∧ ∃ n, w' = W.drewN n from fun W hW => by
      have h := plain_ints (some ⟨gA, 0, none⟩) (some ⟨gA2, 0, none⟩) ((pu 1 z).map fun p => ((p.1 : Nat) : Int)) cA cA2 W (by rw [List.length_map]; omega) (sli_row (ownsRow_fr rA (hf4.trans hW) (fun _ _ => trivial))) (sli_row (ownsRow_fr rA2 hW (fun _ _ => trivial)))
      rw [List.length_map, hlen] at h
      exact h)
    have HSM := Lib.hid (show ∀ W, Fr w4 W (fun _ => True) → Calls Tryz.prog 25 #[.slice (some ⟨gB, 0, none⟩) (uc z) cB, .slice (some ⟨gB2, 0, none⟩) (uc z) cB2, .func (.func 19) #[] #[]] W fun e w' => e = .returned (.bool true) ∧ Below W.heap.size W w' from fun W hW =>
      rows_same hsz (ownsRow_fr rB (hf4.trans hW) (fun _ _ => trivial)) (ownsRow_fr rB2 hW (fun _ _ => trivial)) hxb hxb2 (fun i p hp => ((hzx i p hp).fr (ok' := fun _ => True) ((below_fr0 hb3).trans (hf4.trans hW)) (fun _ _ => trivial)).mono (fun _ _ _ => trivial)) (fun i p hp => ((hzx2 i p hp).fr (ok' := fun _ => True) hW (fun _ _ => trivial)).mono (fun _ _ _ => trivial)))
    have HCL := Lib.hid (show ∀ (q : Nat) (p : Nat × U), (pu 1 z)[q]? = some p → w4.cell? ⟨gA2, q, none⟩ = some (.int .i64 (p.1 : Nat)) from fun q p hp => by
      have := rA2.cells (g := gA2) rfl q (.int .i64 (p.1 : Nat)) (by rw [List.getElem?_map, hp]; rfl)
      rw [addr_add, Nat.zero_add] at this
      exact this)
    have hmd : ∀ q, maxD ((pu 1 z).take q) ≤ 100000 := fun q => by
      have h1 := maxD_pu z 1
      have h2 : ∀ (l : List (Nat × U)) (q : Nat), maxD (l.take q) ≤ maxD l := fun l q => by
        have := maxD_app (l.take q) (l.drop q)
        rw [List.take_append_drop] at this
        omega
      have := h2 (pu 1 z) q
      omega
    have HMD := Lib.hid hmd
    have hpd : ∀ (q : Nat) (p : Nat × U), (pu 1 z)[q]? = some p → p.1 ≤ 100000 := fun q p hp => by
      have h1 := maxD_pu z 1
      have := maxD_le _ _ (List.mem_of_getElem? hp)
      omega
    have HPD := Lib.hid hpd
    rw [hlen] at rA rB rA2 rB2
    clear rA rB rA2 rB2 hxb hxb2 hzx hzx2 hx2 hx3 hp2 hp3 hne hmd hpd
    rw [hlen]
    have HLEN := Lib.hid hlen
    clear hlen
    go_wp2_with fail
    generalize (IntKind.u64.wrap m).tmod ((uc z : Int) + 1) = rr at *
    have HR0 := Lib.hid hmod0
    have HR1 := Lib.hid hmod1
    have HL4 := Lib.hid hB4
    clear hw1 hw2 hmod0 hmod1 hB4 hB3
    go_loopg [11, 12] (uc z) (fun g t i wr => ∃ q : Nat, q + g = uc z ∧ t = .int .i64 (maxD ((pu 1 z).take q) : Nat) ∧ i = .int .i64 q ∧ w4 = wr)
    case atStart => exact ⟨0, by omega, rfl, rfl, rfl⟩
    case round =>
      obtain ⟨q, hq, rfl, rfl, hw⟩ := hrel
      subst hw
      by_cases hqu : q < uc z
      · obtain ⟨x, hx⟩ : ∃ x, (pu 1 z)[q]? = some x := ⟨_, List.getElem?_eq_getElem (by rw [HLEN.out]; exact hqu)⟩
        have hcell := HCL.out q x hx
        have hxd := HPD.out q x hx
        have hmq := HMD.out q
        have hmx := maxD_take _ _ _ hx
        have HMX := Lib.hid hmx
        have hqi : (q : Int) < (uc z : Int) := by omega
        obtain ⟨g', hg'⟩ : ∃ g', gk = g' + 1 := ⟨gk - 1, by omega⟩
        subst hg'
        clear hx hmx
        generalize maxD ((pu 1 z).take q) = mq at *
        generalize x.1 = xd at *
        have HQ := Lib.hid hq
        clear hq
        go_wp2
        all_goals (
          go_roundg g'
          case measure => omega
          case rel => exact ⟨q + 1, by have := HQ.out; omega, by rw [HMX.out]; congr 2; omega, by go_num, rfl⟩)
      · have hqe : (pu 1 z).take q = pu 1 z := List.take_of_length_le (by rw [HLEN.out]; omega)
        rw [hqe]
        have hqn : ¬ (q : Int) < (uc z : Int) := by omega
        have hmt := HMD.out (uc z)
        have hB4 := HL4.out
        obtain ⟨q0, q1, q2, q3, q4⟩ := cells_5 hB4
        clear hqe hq
        go_wp2_with fail
        refine (HAW.out w4 hbw4).mono ?_
        rintro e w5 ⟨rfl, hb5⟩
        have hf5 : Fr w4 w5 (fun _ => True) := below_fr0 hb5
        go_wp2_with fail
        refine (HPL.out w5 hf5).mono ?_
        rintro e w6 ⟨rfl, n6, hn6⟩
        have hf6 : Fr w4 w6 (fun _ => True) := by rw [hn6]; exact hf5.drewN n6
        clear hn6 HPL
        go_wp2_with fail
        refine (HSM.out w6 hf6).mono ?_
        rintro e w7 ⟨rfl, hb7⟩
        have hf7 : Fr w4 w7 (fun _ => True) := hf6.trans (below_fr0 hb7)
        have hbw7 := fr_belw hbw4 hf7
        clear HSM q0 q1 q2 q3 q4
        obtain ⟨q0, q1, q2, q3, q4⟩ := cells_5 (hf7.at hB4 trivial)
        go_wp2_with fail
        refine (HCN.out w7 hbw7).mono ?_
        rintro e w8 ⟨rfl, hb8⟩
        have hf8 : Fr w4 w8 (fun _ => True) := hf7.trans (below_fr0 hb8)
        have hbw8 := fr_belw hbw4 hf8
        clear q0 q1 q2 q3 q4
        obtain ⟨q0, q1, q2, q3, q4⟩ := cells_5 (hf8.at hB4 trivial)
        go_wp2_with fail
        refine (HDP.out w8 hbw8).mono ?_
        rintro e w9 ⟨rfl, hb9⟩
        have hf9 : Fr w4 w9 (fun _ => True) := hf8.trans (below_fr0 hb9)
        clear q0 q1 q2 q3 q4
        go_wp2_with fail
        refine (HST.out w9 (1 + rr) (by have := HR0.out; omega) (by have := HR1.out; omega) (hf4.trans hf9)).mono ?_
        rintro e w10 ⟨rfl, hb10⟩
        have hbe : Below w.heap.size w w10 := fr_belw hbw4 (hf9.trans (below_fr0 hb10))
        clear HST
        go_wp2
        go_ret
        exact ⟨rfl, hbe⟩
  · rw [decide_eq_false hsz] at hsm
    go_enter Tryz.func6, Tryz.ntmps6
    go_wp2_with fail
    generalize (w.alloc (.cells #[.int .i64 kk, .int .i64 tt, .slice Yk yk zk, .slice A m1 d1, .slice A' m2 d2] 29)) = W0 at *
    refine hsm.mono ?_
    rintro e w1 ⟨rfl, hb1⟩
    have hbw1 : Below w.heap.size w w1 := hb0.trans (hb1.mono hb0.size)
    have haw := vawake w1 (HG.out.below hbw1)
    clear hsm
    go_wp2_with fail
    refine haw.mono ?_
    rintro e w3 ⟨rfl, hb3⟩
    go_wp2
    go_ret
    exact ⟨rfl, hbw1.trans (hb3.mono hbw1.size)⟩
theorem valueWalks_holds : Rows.ValueWalksUptoCardSaid := valueWalks.card walks_walk
end Go.Proofs.YtfboecnhakihnaaGreatDoor
