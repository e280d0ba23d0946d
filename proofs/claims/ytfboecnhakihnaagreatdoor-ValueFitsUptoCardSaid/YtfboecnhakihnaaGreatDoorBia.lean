/-
  'bare': whether a value has nothing that its kind does not have.
  'inBounds': whether what a value has may be so.
  'fitsAlone': what one node asks of one value.
-/
import Derived.Test.YtfboecnhakihnaaGreatDoorFit
namespace Go.Proofs.YtfboecnhakihnaaGreatDoor
open Go.RowKit

def kNum (k : Int) : Bool := k == 2 || k == 3 || k == 4 || k == 10 || k == 13
def kOct (k : Int) : Bool := k == 5 || k == 6 || k == 7 || k == 8 || k == 14
def kLst (k : Int) : Bool := k == 9 || k == 11 || k == 12 || k == 13
def kKey (k : Int) : Bool := k == 12
def bareV (k n : Int) (nb nl nk : Nat) : Bool := (kNum k || n == 0) && (kOct k || (nb : Int) == 0) && (kLst k || (nl : Int) == 0) && (kKey k || (nk : Int) == 0)
set_option maxRecDepth 100000 in
set_option maxHeartbeats 4000000 in
theorem bare_any (k n : Int) (B A A' : Option Addr) (nb cb nl cl nk ck : Nat) (w : World) :
    Calls Tryz.prog 54 #[.agg #[.int .i64 k, .int .i64 n, .slice B nb cb, .slice A nl cl, .slice A' nk ck]] w fun e w' => e = .returned (.bool (bareV k n nb nl nk)) ∧ Below w.heap.size w w' := by
  by_cases h2 : k = 2
  · subst h2
    go_enter Tryz.func54, Tryz.ntmps54
    go_wp2
    all_goals (go_ret; exact ⟨by simp [bareV, kNum, kOct, kLst, kKey, *], (Below.refl _ _).alloc (Nat.le_refl _) _⟩)
  by_cases h3 : k = 3
  · subst h3
    go_enter Tryz.func54, Tryz.ntmps54
    go_wp2
    all_goals (go_ret; exact ⟨by simp [bareV, kNum, kOct, kLst, kKey, *], (Below.refl _ _).alloc (Nat.le_refl _) _⟩)
  by_cases h4 : k = 4
  · subst h4
    go_enter Tryz.func54, Tryz.ntmps54
    go_wp2
    all_goals (go_ret; exact ⟨by simp [bareV, kNum, kOct, kLst, kKey, *], (Below.refl _ _).alloc (Nat.le_refl _) _⟩)
  by_cases h10 : k = 10
  · subst h10
    go_enter Tryz.func54, Tryz.ntmps54
    go_wp2
    all_goals (go_ret; exact ⟨by simp [bareV, kNum, kOct, kLst, kKey, *], (Below.refl _ _).alloc (Nat.le_refl _) _⟩)
  by_cases h5 : k = 5
  · subst h5
    go_enter Tryz.func54, Tryz.ntmps54
    go_wp2
    all_goals (go_ret; exact ⟨by simp [bareV, kNum, kOct, kLst, kKey, *], (Below.refl _ _).alloc (Nat.le_refl _) _⟩)
  by_cases h6 : k = 6
  · subst h6
    go_enter Tryz.func54, Tryz.ntmps54
    go_wp2
    all_goals (go_ret; exact ⟨by simp [bareV, kNum, kOct, kLst, kKey, *], (Below.refl _ _).alloc (Nat.le_refl _) _⟩)
  by_cases h7 : k = 7
  · subst h7
    go_enter Tryz.func54, Tryz.ntmps54
    go_wp2
    all_goals (go_ret; exact ⟨by simp [bareV, kNum, kOct, kLst, kKey, *], (Below.refl _ _).alloc (Nat.le_refl _) _⟩)
  by_cases h8 : k = 8
  · subst h8
    go_enter Tryz.func54, Tryz.ntmps54
    go_wp2
    all_goals (go_ret; exact ⟨by simp [bareV, kNum, kOct, kLst, kKey, *], (Below.refl _ _).alloc (Nat.le_refl _) _⟩)
  by_cases h14 : k = 14
  · subst h14
    go_enter Tryz.func54, Tryz.ntmps54
    go_wp2
    all_goals (go_ret; exact ⟨by simp [bareV, kNum, kOct, kLst, kKey, *], (Below.refl _ _).alloc (Nat.le_refl _) _⟩)
  by_cases h9 : k = 9
  · subst h9
    go_enter Tryz.func54, Tryz.ntmps54
    go_wp2
    all_goals (go_ret; exact ⟨by simp [bareV, kNum, kOct, kLst, kKey, *], (Below.refl _ _).alloc (Nat.le_refl _) _⟩)
  by_cases h11 : k = 11
  · subst h11
    go_enter Tryz.func54, Tryz.ntmps54
    go_wp2
    all_goals (go_ret; exact ⟨by simp [bareV, kNum, kOct, kLst, kKey, *], (Below.refl _ _).alloc (Nat.le_refl _) _⟩)
  by_cases h12 : k = 12
  · subst h12
    go_enter Tryz.func54, Tryz.ntmps54
    go_wp2
    all_goals (go_ret; exact ⟨by simp [bareV, kNum, kOct, kLst, kKey, *], (Below.refl _ _).alloc (Nat.le_refl _) _⟩)
  by_cases h13 : k = 13
  · subst h13
    go_enter Tryz.func54, Tryz.ntmps54
    go_wp2
    all_goals (go_ret; exact ⟨by simp [bareV, kNum, kOct, kLst, kKey, *], (Below.refl _ _).alloc (Nat.le_refl _) _⟩)
  go_enter Tryz.func54, Tryz.ntmps54
  go_wp2
  all_goals (go_ret; exact ⟨by simp [bareV, kNum, kOct, kLst, kKey, *], (Below.refl _ _).alloc (Nat.le_refl _) _⟩)
end Go.Proofs.YtfboecnhakihnaaGreatDoor

namespace Go.Proofs.YtfboecnhakihnaaGreatDoor
open Go.RowKit

def boundsV (nd : Nd) (n : Int) (nb nl nk : Nat) (vb ub : Bool) : Bool :=
  if nd.kind = 1 ∨ nd.kind = 4 ∨ nd.kind = 7 ∨ nd.kind = 11 then true
  else if nd.kind = 2 then n == 0 || n == 1
  else if nd.kind = 3 then decide (-2147483648 ≤ n) && decide (n ≤ 2147483647)
  else if nd.kind = 5 then (nb : Int) == 4
  else if nd.kind = 6 then (nb : Int) == 8
  else if nd.kind = 8 then vb
  else if nd.kind = 14 then (nb : Int) == nd.size
  else if nd.kind = 10 then decide (0 ≤ n) && decide (n < (nd.sy.length : Int))
  else if nd.kind = 9 then (nl : Int) == (nd.fs.length : Int)
  else if nd.kind = 12 then ((nk : Int) == (nl : Int)) && ub
  else if nd.kind = 13 then (decide (0 ≤ n) && decide (n < (nd.br.length : Int))) && ((nl : Int) == 1)
  else false
set_option maxHeartbeats 1000000 in
theorem isp_any (n m : Int) (w : World) : Calls Tryz.prog 82 #[.int .i64 n, .int .i64 m] w fun e w' => e = .returned (.bool (decide (0 ≤ n) && decide (n < m))) ∧ w' = w := by
  go_enter Tryz.func82, Tryz.ntmps82
  go_wp2
  all_goals (go_ret; exact ⟨by first | (simp [*]; done) | (simp [*]; omega), rfl⟩)
set_option maxRecDepth 100000 in
set_option maxHeartbeats 4000000 in
theorem inb_any (nd : Nd) (c : Nat → Value) (w : World) (ok : Nat → Prop) (hn : NdIn w ok nd c) (k n : Int) (B A A' : Option Addr) (nb cb nl cl nk ck : Nat) (vb ub : Bool)
    (hV : nd.kind = 8 → ∀ W, Below w.heap.size w W → Calls Tryz.prog 32 #[.slice B nb cb] W fun e w' => e = .returned (.bool vb) ∧ Below W.heap.size W w')
    (hU : nd.kind = 12 → ∀ W, Below w.heap.size w W → Calls Tryz.prog 83 #[.slice A' nk ck] W fun e w' => e = .returned (.bool ub) ∧ Below W.heap.size W w') :
    Calls Tryz.prog 55 #[ndv c, .agg #[.int .i64 k, .int .i64 n, .slice B nb cb, .slice A nl cl, .slice A' nk ck]] w fun e w' => e = .returned (.bool (boundsV nd n nb nl nk vb ub)) ∧ Below w.heap.size w w' := by
  have q0 := hn.kind
  have q9 := hn.size
  obtain ⟨Af, capf, q3⟩ : ∃ A cap, c 3 = .slice A nd.fs.length cap := by obtain ⟨A, cap, _, h, _⟩ := hn.fs; exact ⟨A, cap, h⟩
  obtain ⟨Ab, capb, q8⟩ : ∃ A cap, c 8 = .slice A nd.br.length cap := by obtain ⟨A, cap, h, _⟩ := hn.br; exact ⟨A, cap, h⟩
  obtain ⟨As, caps, q4⟩ : ∃ A cap, c 4 = .slice A nd.sy.length cap := by obtain ⟨A, cap, h, _⟩ := hn.sy; exact ⟨A, cap, h⟩
  have HV := Lib.hid hV
  have HU := Lib.hid hU
  have HISP := Lib.hid isp_any
  clear hV hU hn
  unfold boundsV
  generalize nd.kind = kd at *
  generalize nd.size = sz at *
  generalize nd.fs.length = fl at *
  generalize nd.br.length = bl at *
  generalize nd.sy.length = sl at *
  clear nd
  simp only [ndv, q0, q3, q4, q8, q9]
  clear q0 q3 q4 q8 q9
  have hb2 : ∀ (a b : Obj), Below w.heap.size w ((w.alloc a).alloc b) := fun a b => ((Below.refl _ w).alloc (Nat.le_refl _) _).alloc (by simp) _
  have HB2 := Lib.hid hb2
  clear hb2
  by_cases h1 : kd = 1
  · subst h1
    go_enter Tryz.func55, Tryz.ntmps55
    go_wp2
    all_goals (go_ret; exact ⟨by first | (simp [*]; done) | (simp [*]; omega), HB2.out _ _⟩)
  by_cases h4 : kd = 4
  · subst h4
    go_enter Tryz.func55, Tryz.ntmps55
    go_wp2
    all_goals (go_ret; exact ⟨by first | (simp [*]; done) | (simp [*]; omega), HB2.out _ _⟩)
  by_cases h7 : kd = 7
  · subst h7
    go_enter Tryz.func55, Tryz.ntmps55
    go_wp2
    all_goals (go_ret; exact ⟨by first | (simp [*]; done) | (simp [*]; omega), HB2.out _ _⟩)
  by_cases h11 : kd = 11
  · subst h11
    go_enter Tryz.func55, Tryz.ntmps55
    go_wp2
    all_goals (go_ret; exact ⟨by first | (simp [*]; done) | (simp [*]; omega), HB2.out _ _⟩)
  by_cases h2 : kd = 2
  · subst h2
    go_enter Tryz.func55, Tryz.ntmps55
    go_wp2
    all_goals (go_ret; exact ⟨by first | (simp [*]; done) | (simp [*]; omega), HB2.out _ _⟩)
  by_cases h3 : kd = 3
  · subst h3
    go_enter Tryz.func55, Tryz.ntmps55
    go_wp2
    all_goals (go_ret; exact ⟨by first | (simp [*]; done) | (simp [*]; omega), HB2.out _ _⟩)
  by_cases h5 : kd = 5
  · subst h5
    go_enter Tryz.func55, Tryz.ntmps55
    go_wp2
    all_goals (go_ret; exact ⟨by first | (simp [*]; done) | (simp [*]; omega), HB2.out _ _⟩)
  by_cases h6 : kd = 6
  · subst h6
    go_enter Tryz.func55, Tryz.ntmps55
    go_wp2
    all_goals (go_ret; exact ⟨by first | (simp [*]; done) | (simp [*]; omega), HB2.out _ _⟩)
  by_cases h14 : kd = 14
  · subst h14
    go_enter Tryz.func55, Tryz.ntmps55
    go_wp2
    all_goals (go_ret; exact ⟨by first | (simp [*]; done) | (simp [*]; omega), HB2.out _ _⟩)
  by_cases h9 : kd = 9
  · subst h9
    go_enter Tryz.func55, Tryz.ntmps55
    go_wp2
    all_goals (go_ret; exact ⟨by first | (simp [*]; done) | (simp [*]; omega), HB2.out _ _⟩)
  by_cases h8 : kd = 8
  · subst h8
    have hv := fun a b => HV.out rfl _ (HB2.out a b)
    go_enter Tryz.func55, Tryz.ntmps55
    go_wp2_with fail
    refine (hv _ _).mono ?_
    rintro e w1 ⟨rfl, hb1⟩
    go_wp2
    go_ret
    exact ⟨by simp, (HB2.out _ _).trans (hb1.mono (HB2.out _ _).size)⟩
  by_cases h10 : kd = 10
  · subst h10
    go_enter Tryz.func55, Tryz.ntmps55
    go_wp2_with fail
    refine (HISP.out n sl _).mono ?_
    rintro e w1 ⟨rfl, hw1⟩
    subst hw1
    go_wp2
    all_goals (go_ret; exact ⟨by first | (simp [*]; done) | (simp [*]; omega), HB2.out _ _⟩)
  by_cases h12 : kd = 12
  · subst h12
    have hu := fun a b => HU.out rfl _ (HB2.out a b)
    by_cases hkl : nk = nl
    · subst hkl
      go_enter Tryz.func55, Tryz.ntmps55
      go_wp2_with fail
      refine (hu _ _).mono ?_
      rintro e w1 ⟨rfl, hb1⟩
      go_wp2
      go_ret
      exact ⟨by simp, (HB2.out _ _).trans (hb1.mono (HB2.out _ _).size)⟩
    · have hkl2 : ¬ (nk : Int) = (nl : Int) := by omega
      go_enter Tryz.func55, Tryz.ntmps55
      go_wp2
      all_goals (go_ret; exact ⟨by first | (simp [*]; done) | (simp [*]; omega), HB2.out _ _⟩)
  by_cases h13 : kd = 13
  · subst h13
    go_enter Tryz.func55, Tryz.ntmps55
    go_wp2_with fail
    refine (HISP.out n bl _).mono ?_
    rintro e w1 ⟨rfl, hw1⟩
    subst hw1
    go_wp2
    all_goals (go_ret; exact ⟨by first | (simp [*]; done) | (simp [*]; omega), HB2.out _ _⟩)
  go_enter Tryz.func55, Tryz.ntmps55
  go_wp2
  all_goals (go_ret; exact ⟨by first | (simp [*]; done) | (simp [*]; omega), HB2.out _ _⟩)
end Go.Proofs.YtfboecnhakihnaaGreatDoor

namespace Go.Proofs.YtfboecnhakihnaaGreatDoor
open Go.RowKit

def U.kd : U → Int | .mk k _ _ _ _ => k
def aloneV (vb : List Int → Bool) (ub : List ByteArray → Bool) (nd : Nd) (u : U) : Bool :=
  (nd.kind == u.kd && bareV u.kd u.num u.b.length u.l.length u.ks.length) && boundsV nd u.num u.b.length u.l.length u.ks.length (vb u.b) (ub u.ks)
theorem alone_leaves (vb : List Int → Bool) (ub : List ByteArray → Bool) (S : List Nd) : Leaves (aloneV vb ub) S := by
  intro nd u _ h i hi
  simp only [aloneV, Bool.and_eq_true] at h
  obtain ⟨_, hb⟩ := h
  unfold innerM
  by_cases h9 : nd.kind = 9
  · simp only [boundsV, h9] at hb
    simp at hb
    rw [if_pos h9]
    have : i < nd.fs.length := by omega
    rw [List.getElem?_eq_getElem this]
    simp
  · rw [if_neg h9]
    by_cases h13 : nd.kind = 13
    · simp only [boundsV, h13] at hb
      simp at hb
      obtain ⟨⟨h1, h2⟩, h3⟩ := hb
      rw [if_pos h13, if_pos h1]
      have : u.num.toNat < nd.br.length := by omega
      rw [List.getElem?_eq_getElem this]
      simp
    · rw [if_neg h13]
      simp
set_option maxRecDepth 100000 in
set_option maxHeartbeats 4000000 in
theorem alone_any (vb : List Int → Bool) (ub : List ByteArray → Bool) (nd : Nd) (c : Nat → Value) (w : World) (ok ok' : Nat → Prop) (hn : NdIn w ok nd c) (u : U) (d0 d1 d2 d3 d4 : Value) (hu : UIn w ok' u d0 d1 d2 d3 d4)
    (hV : nd.kind = 8 → ∀ W, Below w.heap.size w W → Calls Tryz.prog 32 #[d2] W fun e w' => e = .returned (.bool (vb u.b)) ∧ Below W.heap.size W w')
    (hU : nd.kind = 12 → ∀ W, Below w.heap.size w W → Calls Tryz.prog 83 #[d4] W fun e w' => e = .returned (.bool (ub u.ks)) ∧ Below W.heap.size W w') :
    Calls Tryz.prog 30 #[ndv c, .agg #[d0, d1, d2, d3, d4]] w fun e w' => e = .returned (.bool (aloneV vb ub nd u)) ∧ Below w.heap.size w w' := by
  cases hu with
  | mk k n b l ks B A A' capb cap cap' cc h1 h2 h3 h4 hcapb hcap hcap' hB hL hK hE =>
    have hb2 : ∀ (a e : Obj), Below w.heap.size w ((w.alloc a).alloc e) := fun a e => ((Below.refl _ w).alloc (Nat.le_refl _) _).alloc (by simp) _
    have HB2 := Lib.hid hb2
    have q0 := hn.kind
    have HBAR := Lib.hid (bare_any k n B A A' b.length capb l.length cap ks.length cap')
    have HINB := Lib.hid (fun W (hW : Below w.heap.size w W) => inb_any nd c W ok (hn.fr (ok' := fun _ => True) (below_fr0 hW) (fun _ _ => trivial)) k n B A A' b.length capb l.length cap ks.length cap' (vb b) (ub ks) (fun h W' hW' => hV h W' (hW.trans (hW'.mono hW.size))) (fun h W' hW' => hU h W' (hW.trans (hW'.mono hW.size))))
    clear hV hU hn hB hL hK hE h3 h4 hb2
    simp only [aloneV, U.kd, U.num, U.b, U.l, U.ks]
    simp only [ndv, q0] at HINB ⊢
    generalize boundsV nd n b.length l.length ks.length (vb b) (ub ks) = bv at *
    generalize nd.kind = kd at *
    generalize b.length = nb at *
    generalize l.length = nl at *
    generalize ks.length = nk at *
    generalize bareV k n nb nl nk = bb at *
    by_cases hk : kd = k
    · subst hk
      obtain ⟨W0, hW0⟩ : ∃ W0, (w.alloc (.cells #[.int .i64 kd, c 1, c 2, c 3, c 4, c 5, c 6, c 7, c 8, c 9] 61)).alloc (.cells #[.int .i64 kd, .int .i64 n, .slice B nb capb, .slice A nl cap, .slice A' nk cap'] 29) = W0 := ⟨_, rfl⟩
      have hb0 : Below w.heap.size w W0 := by rw [← hW0]; exact HB2.out _ _
      have a0 : W0.heap[w.heap.size]? = some (.cells #[.int .i64 kd, c 1, c 2, c 3, c 4, c 5, c 6, c 7, c 8, c 9] 61 (0, 0)) := by rw [← hW0]; exact old_at _ (new_at rfl _)
      have b0 : W0.heap[w.heap.size + 1]? = some (.cells #[.int .i64 kd, .int .i64 n, .slice B nb capb, .slice A nl cap, .slice A' nk cap'] 29 (0, 0)) := by rw [← hW0]; exact new_at (by simp) _
      cases bb with
      | false =>
        go_enter Tryz.func30, Tryz.ntmps30
        go_upto_region 1 with fail
        clear hW0
        obtain ⟨p0, p1, p2, p3, p4⟩ := cells_5 b0
        have q0' : W0.cell? ⟨w.heap.size, 0, none⟩ = some (.int .i64 kd) := cell_of_row _ _ 0 _ _ _ a0
        go_wp2_with fail
        refine (HBAR.out _).mono ?_
        rintro e w1 ⟨rfl, hb1⟩
        have hbw := hb0.trans (hb1.mono hb0.size)
        go_wp2
        go_ret
        exact ⟨by simp, hbw⟩
      | true =>
        go_enter Tryz.func30, Tryz.ntmps30
        go_upto_region 1 with fail
        clear hW0
        obtain ⟨p0, p1, p2, p3, p4⟩ := cells_5 b0
        have q0' : W0.cell? ⟨w.heap.size, 0, none⟩ = some (.int .i64 kd) := cell_of_row _ _ 0 _ _ _ a0
        go_wp2_with fail
        refine (HBAR.out _).mono ?_
        rintro e w1 ⟨rfl, hb1⟩
        have hbw := hb0.trans (hb1.mono hb0.size)
        have a1 := (below_fr0 hb1).at a0 trivial
        have b1 := (below_fr0 hb1).at b0 trivial
        obtain ⟨r0, r1, r2, r3, r4⟩ := cells_5 b1
        have s0 : w1.cell? ⟨w.heap.size, 0, none⟩ = some (.int .i64 kd) := cell_of_row _ _ 0 _ _ _ a1
        have s1 : w1.cell? ⟨w.heap.size, 1, none⟩ = some (c 1) := cell_of_row _ _ 1 _ _ _ a1
        have s2 : w1.cell? ⟨w.heap.size, 2, none⟩ = some (c 2) := cell_of_row _ _ 2 _ _ _ a1
        have s3 : w1.cell? ⟨w.heap.size, 3, none⟩ = some (c 3) := cell_of_row _ _ 3 _ _ _ a1
        have s4 : w1.cell? ⟨w.heap.size, 4, none⟩ = some (c 4) := cell_of_row _ _ 4 _ _ _ a1
        have s5 : w1.cell? ⟨w.heap.size, 5, none⟩ = some (c 5) := cell_of_row _ _ 5 _ _ _ a1
        have s6 : w1.cell? ⟨w.heap.size, 6, none⟩ = some (c 6) := cell_of_row _ _ 6 _ _ _ a1
        have s7 : w1.cell? ⟨w.heap.size, 7, none⟩ = some (c 7) := cell_of_row _ _ 7 _ _ _ a1
        have s8 : w1.cell? ⟨w.heap.size, 8, none⟩ = some (c 8) := cell_of_row _ _ 8 _ _ _ a1
        have s9 : w1.cell? ⟨w.heap.size, 9, none⟩ = some (c 9) := cell_of_row _ _ 9 _ _ _ a1
        have hin := HINB.out w1 hbw
        go_wp2_with fail
        refine hin.mono ?_
        rintro e w2 ⟨rfl, hb2⟩
        go_wp2
        go_ret
        exact ⟨by simp, hbw.trans (hb2.mono hbw.size)⟩
    · have hkf : (kd == k) = false := by simpa using hk
      go_enter Tryz.func30, Tryz.ntmps30
      go_wp2
      go_ret
      exact ⟨by simp [hkf], HB2.out _ _⟩
end Go.Proofs.YtfboecnhakihnaaGreatDoor
