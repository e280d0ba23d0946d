/-
  'Walk$1', told to a range's body.
-/
import Derived.Test.YtfboecnhakihnaaGreatDoorUss
namespace Go.Proofs.YtfboecnhakihnaaGreatDoor
open Go.RowKit Go.Shelf
attribute [local go_sem] Oper.semAt_some

/-- What telling has taken of the room. -/
def taken : List (Nat × U) → Nat
  | [] => 0
  | p :: r => ucost p.2 + taken r
theorem taken_app : ∀ (a b : List (Nat × U)), taken (a ++ b) = taken a + taken b
  | [], b => by simp [taken]
  | p :: r, b => by rw [List.cons_append, taken, taken, taken_app r b]; omega
mutual
theorem pu_le : ∀ (z : U) (d : Nat) (p : Nat × U), p ∈ pu d z → uc p.2 ≤ uc z ∧ uk p.2 ≤ uk z ∧ uo p.2 ≤ uo z
  | .mk k n b l ks, d, p, h => by
    rw [pu] at h
    rcases List.mem_cons.1 h with rfl | h
    · exact ⟨Nat.le_refl _, Nat.le_refl _, Nat.le_refl _⟩
    · have ih := puL_le l (d + 1) p h
      rw [show uc (U.mk k n b l ks) = 1 + ucL l from uc_l _, show uk (U.mk k n b l ks) = ks.length + ukL l from uk_l _, show uo (U.mk k n b l ks) = b.length + uoL l from uo_l _]
      omega
theorem puL_le : ∀ (l : List U) (d : Nat) (p : Nat × U), p ∈ puL d l → uc p.2 ≤ ucL l ∧ uk p.2 ≤ ukL l ∧ uo p.2 ≤ uoL l
  | [], d, p, h => by rw [puL] at h; cases h
  | x :: r, d, p, h => by
    rw [puL] at h
    rw [ucL, ukL, uoL]
    rcases List.mem_append.1 h with h | h
    · have := pu_le x d p h; omega
    · have := puL_le r d p h; omega
end
theorem round_wide {n m : Nat} {P : Program} {l l' f : Nat} {tmps : Array Value} {assign body : Code} {w : World} {R : Ending → World → Prop} (h : RoundIn Fence.wide n P l f tmps assign body w R) : RoundIn (Fence.wide.inRound l') m P l f tmps assign body w R :=
  ⟨trivial, fun c cs _ => h.2 c cs (room_wide _)⟩
/-- A region that draws, by what holds of each set of operations that are done. -/
theorem any_rel {F : Fence} {n : Nat} {P : Program} {md : Region.Mode} {ops : Array Oper} {Q : Exit → Act → World → Prop} {R : Nat → Array Bool → Act → World → Prop}
    (h : ∀ f L a w, R f L a w → (Region.ready md ops L = [] → Q .normal a w) ∧ ∀ i ∈ Region.ready md ops L, ∃ g, f = g + 1 ∧ wpOpIn F n P ops Q i (R g (L.setIfInBounds i true)) a w) :
    ∀ f L a w, R f L a w → wpAnyIn F n P md ops Q f L a w
  | 0, L, a, w, hr => by
    have h1 := h _ _ _ _ hr
    have h2 : Region.ready md ops L = [] := List.eq_nil_iff_forall_not_mem.2 fun i hi => by obtain ⟨g, e, _⟩ := h1.2 i hi; cases e
    exact ⟨h2, h1.1 h2⟩
  | f + 1, L, a, w, hr => ⟨(h _ _ _ _ hr).1, fun i hi => by
    obtain ⟨g, e, hw⟩ := (h _ _ _ _ hr).2 i hi
    cases e
    exact wpOpIn_mono (fun a w hr => any_rel h f _ a w hr) hw⟩
/-- What 'tell' leaves. -/
def TellP (W : World) (tb : Nat) (room : Int) (z : U) (v : Value) (w' : World) : Prop := ∃ d0 d1 d2 d3 d4, v = .agg #[d0, d1, d2, d3, d4] ∧ UIn w' (fun b => W.heap.size ≤ b) z d0 d1 d2 d3 d4 ∧ w'.heap[tb]? = some (.cells #[.int .i64 room] 101 (0, 0)) ∧ Fr W w' (fun b => b ≠ tb)
/-- What 'Walk$1' does, told to a body. -/
def ItF (n : Nat) (p : Nat) (xs : List (Nat × U)) (Rd : Nat → Prop) (w : World) : Prop :=
  ∀ (l : Nat) (J Jx : List (Nat × U) → (Nat → Prop) → World → Prop) (W : World), Fr w W Rd → l < W.heap.size → ¬ Rd l → StW W.heap.size J → StW W.heap.size Jx →
    (∀ pre x rest S W1 m c0 c1 c2 c3 c4, J pre S W1 → xs = pre ++ x :: rest → (∀ k, S k → W.heap.size ≤ k ∧ k < m) → W.heap.size ≤ m → m ≤ W1.heap.size → UIn W1 (fun b => m ≤ b) x.2 c0 c1 c2 c3 c4 → YieldAt Fence.wide (n - 1) Tryz.prog l #[.int .i64 (x.1 : Nat), .agg #[c0, c1, c2, c3, c4]] W1 fun e W' =>
      (e = .returned (.bool true) ∧ ∃ S', J (pre ++ [x]) S' W' ∧ Fr W1 W' (fun k => (Rd k ∨ W.heap.size ≤ k) ∧ ¬ S k) ∧ ∀ k, S' k → (S k ∨ m ≤ k) ∧ k < W'.heap.size) ∨ (e = .returned (.bool false) ∧ ∃ S', Jx (pre ++ [x]) S' W' ∧ Fr W1 W' (fun k => (Rd k ∨ W.heap.size ≤ k) ∧ ¬ S k) ∧ ∀ k, S' k → S k ∨ m ≤ k)) →
    J [] (fun _ => False) W → CallsIn Fence.wide n Tryz.prog 48 (#[.func (.yield l) #[] #[]] ++ #[.pointer (some ⟨p, 0, none⟩)]) W fun e W' => (∃ v, e = .returned v) ∧ ((∃ S, J xs S W') ∨ ∃ pre rest S, xs = pre ++ rest ∧ Jx pre S W')
set_option maxRecDepth 100000 in
set_option maxHeartbeats 8000000 in
theorem walk1_y (n : Nat) (hn : 8 ≤ n) (p : Nat) (z : U) (w : World) (Rd : Nat → Prop) (hRlt : ∀ k, Rd k → k < w.heap.size) (hRp : Rd p) (v0 v1 v2 v3 v4 : Value) (hp : w.heap[p]? = some (.cells #[v0, v1, v2, v3, v4] 29 (0, 0))) (hz : UIn w Rd z v0 v1 v2 v3 v4) (hzn : un z ≤ 2000) (htk : taken (pu 1 z) < 2147483647) :
    ItF n p (pu 1 z) Rd w := by
  intro l J Jx W hW hlW hlR hJ hJx hY h0
  obtain ⟨kk, tt, Ykk, ykk, zkk, A, n1, c1, A', n2, c2, rfl, rfl, rfl, rfl, rfl⟩ := uin_agg hz
  have hpW := hW.at hp hRp
  have hzW := (hz.fr hW (fun _ h => h)).mono (ok' := fun b => b < W.heap.size) (fun b _ hb => Nat.lt_of_lt_of_le (hRlt b hb) hW.size)
  have hpl : p < W.heap.size := blk_lt hpW
  have hck := uck_un z
  have HY := Lib.hid hY
  have HJ := Lib.hid hJ
  have HJx := Lib.hid hJx
  clear hY hJ hJx hp hz
  refine callsIn_of_wp_marks Tryz.func48 rfl trivial ?_
  simp only [Tryz.ntmps48, List.size_toArray, List.length_cons, List.length_nil, Nat.reduceAdd, Nat.reduceSub, Array.replicate_succ, Array.replicate_zero, List.push_toArray, List.append_toArray, List.nil_append, List.cons_append]
  have hfa : Fr W (((W.alloc (.cells #[.func (.yield l) #[] #[]] 98)).alloc (.cells #[.int .i64 2147483647] 101)).alloc (.cells #[.pointer (some ⟨W.heap.size + 1, 0, none⟩)] 99)) (fun _ => True) := (((Fr.refl W _).alloc _).alloc _).alloc _
  have hsa : (((W.alloc (.cells #[.func (.yield l) #[] #[]] 98)).alloc (.cells #[.int .i64 2147483647] 101)).alloc (.cells #[.pointer (some ⟨W.heap.size + 1, 0, none⟩)] 99)).heap.size = W.heap.size + 3 := by simp
  have hYb : (((W.alloc (.cells #[.func (.yield l) #[] #[]] 98)).alloc (.cells #[.int .i64 2147483647] 101)).alloc (.cells #[.pointer (some ⟨W.heap.size + 1, 0, none⟩)] 99)).heap[W.heap.size]? = some (.cells #[.func (.yield l) #[] #[]] 98 (0, 0)) := old_at _ (old_at _ (new_at rfl _))
  have hTb : (((W.alloc (.cells #[.func (.yield l) #[] #[]] 98)).alloc (.cells #[.int .i64 2147483647] 101)).alloc (.cells #[.pointer (some ⟨W.heap.size + 1, 0, none⟩)] 99)).heap[W.heap.size + 1]? = some (.cells #[.int .i64 2147483647] 101 (0, 0)) := old_at _ (new_at (by simp) _)
  have hPb : (((W.alloc (.cells #[.func (.yield l) #[] #[]] 98)).alloc (.cells #[.int .i64 2147483647] 101)).alloc (.cells #[.pointer (some ⟨W.heap.size + 1, 0, none⟩)] 99)).heap[W.heap.size + 2]? = some (.cells #[.pointer (some ⟨W.heap.size + 1, 0, none⟩)] 99 (0, 0)) := new_at (by simp) _
  obtain ⟨p0, p1, p2, p3, p4⟩ := cells_5 (hfa.at hpW trivial)
  have hin : ∀ W', Fr (((W.alloc (.cells #[.func (.yield l) #[] #[]] 98)).alloc (.cells #[.int .i64 2147483647] 101)).alloc (.cells #[.pointer (some ⟨W.heap.size + 1, 0, none⟩)] 99)) W' (fun _ => True) → UIn W' (fun b => b < W'.heap.size) z (.int .i64 kk) (.int .i64 tt) (.slice Ykk ykk zkk) (.slice A n1 c1) (.slice A' n2 c2) := fun W' hW' => (hzW.fr (hfa.trans hW') (fun _ _ => trivial)).mono (fun b _ hb => Nat.lt_of_lt_of_le hb (Nat.le_trans hfa.size hW'.size))
  have HM := Lib.hid (fun W' hW' => meas_u z (by omega) (by omega) (by omega) W' _ _ _ _ _ (hin W' hW'))
  have HC := Lib.hid (fun W' hW' => copy_u z (by omega) (by omega) (by omega) W' _ _ _ _ _ (hin W' hW'))
  clear hin
  gi_wp2_with fail
  generalize (((W.alloc (.cells #[.func (.yield l) #[] #[]] 98)).alloc (.cells #[.int .i64 2147483647] 101)).alloc (.cells #[.pointer (some ⟨W.heap.size + 1, 0, none⟩)] 99)) = Wa at *
  refine wpIn_region_any (by kernel_rfl) ?_
  change wpAnyIn _ _ _ _ _ _ _ _ _ (World.drew _)
  refine any_rel (R := (fun f L a wx => ∃ b0 b1 b2 b3 b4 : Bool, ∃ (d0 d1 d2 d3 d4 v11 v12 : Value), L = #[b0, b1, b2, b3, b4] ∧ f = bcnt b0 + bcnt b1 + bcnt b2 + bcnt b3 + bcnt b4 ∧ (b2 = true → b1 = true) ∧ (b3 = true → b0 = true ∧ b2 = true) ∧ (b4 = true → b3 = true) ∧
      a = { tmps := #[.func (.yield l) #[] #[], .pointer (some ⟨p, 0, none⟩), .pointer (some ⟨W.heap.size, 0, none⟩), .pointer (some ⟨W.heap.size + 1 + 1, 0, none⟩), undef, undef, .agg #[.int .i64 2147483647], .pointer (some ⟨W.heap.size + 1, 0, none⟩), bsel b0 (.agg #[.int .i64 kk, .int .i64 tt, .slice Ykk ykk zkk, .slice A n1 c1, .slice A' n2 c2]), bsel b1 (.agg #[.int .i64 kk, .int .i64 tt, .slice Ykk ykk zkk, .slice A n1 c1, .slice A' n2 c2]), bsel b2 (.agg #[.int .i64 (uc z : Nat), .int .i64 (uo z : Nat), .int .i64 (uk z : Nat)]), v11, v12, undef, undef, undef, undef, undef, undef, undef, undef, undef], defers := [] } ∧
      (b4 = false → Fr Wa wx (fun _ => True) ∧ v12 = undef) ∧ (b3 = false → v11 = undef) ∧ (b3 = true → v11 = .agg #[d0, d1, d2, d3, d4]) ∧ (b3 = true → b4 = false → UIn wx (fun b => Wa.heap.size ≤ b) z d0 d1 d2 d3 d4) ∧
      (b4 = true → ∃ w2, Below Wa.heap.size Wa w2 ∧ UIn w2 (fun b => Wa.heap.size ≤ b) z d0 d1 d2 d3 d4 ∧ v12 = .func (.func 53) #[] #[.pointer (some ⟨w2.heap.size, 0, none⟩)] ∧ wx = w2.alloc (.cells #[d0, d1, d2, d3, d4] 29)))) ?_ _ _ _ _ ?start
  case start => exact ⟨false, false, false, false, false, undef, undef, undef, undef, undef, undef, undef, rfl, rfl, by simp, by simp, by simp, rfl, fun _ => ⟨(Fr.refl Wa _).drewN 1, rfl⟩, fun _ => rfl, by simp, by simp, by simp⟩
  rintro f L a w7 ⟨b0, b1, b2, b3, b4, d0, d1, d2, d3, d4, v11, v12, rfl, rfl, i2, i3, i4, rfl, hFi, s3, e3, u3, u4⟩
  refine ⟨fun h0 => ?fin, fun i hi => ?step⟩
  case step =>
    obtain ⟨g0, o, ho, ha⟩ := mem_ready.1 hi
    match i, g0, o, ho, ha with
    | 0, g0, o, ho, ha =>
      obtain rfl : b0 = false := g0
      obtain rfl : b3 = false := by cases b3 with | false => rfl | true => exact (i3 rfl).1.symm
      obtain rfl : b4 = false := by cases b4 with | false => rfl | true => exact (i4 rfl).symm
      obtain rfl := s3 rfl
      obtain ⟨hF, rfl⟩ := hFi rfl
      have hq0 := hF.cell p0 trivial
      have hq1 := hF.cell p1 trivial
      have hq2 := hF.cell p2 trivial
      have hq3 := hF.cell p3 trivial
      have hq4 := hF.cell p4 trivial
      refine ⟨bcnt true + bcnt b1 + bcnt b2 + bcnt false + bcnt false, by have e0 : bcnt false = 1 := rfl; have e1 : bcnt true = 0 := rfl; omega, wpOpIn_step rfl fun K' hK => ?_⟩
      go_simp
      exact hK _ _ ⟨true, b1, b2, false, false, d0, d1, d2, d3, d4, undef, undef, rfl, rfl, i2, by simp, by simp, rfl, fun _ => ⟨hF, rfl⟩, fun _ => rfl, by simp, by simp, by simp⟩
    | 1, g0, o, ho, ha =>
      obtain rfl : b1 = false := g0
      obtain rfl : b2 = false := by cases b2 with | false => rfl | true => exact (i2 rfl).symm
      obtain rfl : b3 = false := by cases b3 with | false => rfl | true => exact (i3 rfl).2.symm
      obtain rfl : b4 = false := by cases b4 with | false => rfl | true => exact (i4 rfl).symm
      obtain rfl := s3 rfl
      obtain ⟨hF, rfl⟩ := hFi rfl
      have hq0 := hF.cell p0 trivial
      have hq1 := hF.cell p1 trivial
      have hq2 := hF.cell p2 trivial
      have hq3 := hF.cell p3 trivial
      have hq4 := hF.cell p4 trivial
      refine ⟨bcnt b0 + bcnt true + bcnt false + bcnt false + bcnt false, by have e0 : bcnt false = 1 := rfl; have e1 : bcnt true = 0 := rfl; omega, wpOpIn_step rfl fun K' hK => ?_⟩
      go_simp
      exact hK _ _ ⟨b0, true, false, false, false, d0, d1, d2, d3, d4, undef, undef, rfl, rfl, by simp, by simp, by simp, rfl, fun _ => ⟨hF, rfl⟩, fun _ => rfl, by simp, by simp, by simp⟩
    | 2, g0, o, ho, ha =>
      obtain rfl : b2 = false := g0
      cases ho
      obtain rfl : b1 = true := ha ⟨1, .data⟩ (by simp) rfl
      obtain rfl : b3 = false := by cases b3 with | false => rfl | true => exact (i3 rfl).2.symm
      obtain rfl : b4 = false := by cases b4 with | false => rfl | true => exact (i4 rfl).symm
      obtain rfl := s3 rfl
      obtain ⟨hF, rfl⟩ := hFi rfl
      refine ⟨bcnt b0 + bcnt true + bcnt true + bcnt false + bcnt false, by have e0 : bcnt false = 1 := rfl; have e1 : bcnt true = 0 := rfl; omega, wpOpIn_step rfl fun K' hK => ?_⟩
      simp only [bsel]
      go_simp
      refine ⟨trivial, fun _ => by omega, (callsIn_wide.2 (HM.out w7 hF)).mono ?_⟩
      rintro e w8 ⟨rfl, hb8⟩
      exact hK _ _ ⟨b0, true, true, false, false, d0, d1, d2, d3, d4, undef, undef, rfl, rfl, fun _ => rfl, by simp, by simp, rfl, fun _ => ⟨hF.trans (below_fr0 hb8), rfl⟩, fun _ => rfl, by simp, by simp, by simp⟩
    | 3, g0, o, ho, ha =>
      obtain rfl : b3 = false := g0
      cases ho
      obtain rfl : b0 = true := ha ⟨0, .data⟩ (by simp) rfl
      obtain rfl : b2 = true := ha ⟨2, .data⟩ (by simp) rfl
      obtain rfl : b1 = true := i2 rfl
      obtain rfl : b4 = false := by cases b4 with | false => rfl | true => exact (i4 rfl).symm
      obtain rfl := s3 rfl
      obtain ⟨hF, rfl⟩ := hFi rfl
      refine ⟨bcnt true + bcnt true + bcnt true + bcnt true + bcnt false, by have e0 : bcnt false = 1 := rfl; have e1 : bcnt true = 0 := rfl; omega, wpOpIn_step rfl fun K' hK => ?_⟩
      simp only [bsel]
      go_simp
      refine ⟨trivial, fun _ => by omega, (callsIn_wide.2 (HC.out w7 hF)).mono ?_⟩
      rintro e w8 ⟨c0, c1, c2, c3, c4, rfl, hu8, hb8⟩
      have hws := hF.size
      exact hK _ _ ⟨true, true, true, true, false, c0, c1, c2, c3, c4, _, undef, rfl, rfl, fun _ => rfl, fun _ => ⟨rfl, rfl⟩, by simp, rfl, fun _ => ⟨hF.trans (below_fr0 hb8), rfl⟩, by simp, fun _ => rfl, fun _ _ => hu8.mono (fun b _ hb => by omega), by simp⟩
    | 4, g0, o, ho, ha =>
      obtain rfl : b4 = false := g0
      cases ho
      obtain rfl : b3 = true := ha ⟨3, .data⟩ (by simp) rfl
      obtain ⟨rfl, rfl⟩ := i3 rfl
      obtain rfl : b1 = true := i2 rfl
      obtain rfl := e3 rfl
      have hu := u3 rfl rfl
      obtain ⟨hF, rfl⟩ := hFi rfl
      obtain ⟨k9, t9, Yk9, yk9, zk9, A9, n9, c9, B9, m9, s9, rfl, rfl, rfl, rfl, rfl⟩ := uin_agg hu
      refine ⟨bcnt true + bcnt true + bcnt true + bcnt true + bcnt true, by have e0 : bcnt false = 1 := rfl; have e1 : bcnt true = 0 := rfl; omega, wpOpIn_step rfl fun K' hK => ?_⟩
      simp only [bsel]
      go_simp
      refine ⟨trivial, fun _ => by omega, (ueach_call Fence.wide _ trivial rfl _ _ _ _ _ _ _ _ _ _ _ _).mono ?_⟩
      rintro e w8 ⟨rfl, rfl⟩
      exact hK _ _ ⟨true, true, true, true, true, _, _, _, _, _, _, _, rfl, rfl, fun _ => rfl, fun _ => ⟨rfl, rfl⟩, fun _ => rfl, rfl, by simp, by simp, fun _ => rfl, by simp, fun _ => ⟨w7, ⟨hF.os, hF.tape, hF.output, hF.size, fun k hk => hF.block k hk trivial⟩, hu, rfl, rfl⟩⟩
    | k + 5, g0, o, ho, ha => exact absurd g0 (by simp)
  have hno := List.eq_nil_iff_forall_not_mem.1 h0
  obtain rfl : b0 = true := by cases b0 with | true => rfl | false => exact absurd (mem_ready.2 ⟨rfl, _, rfl, fun e he _ => by simp at he⟩) (hno 0)
  obtain rfl : b1 = true := by cases b1 with | true => rfl | false => exact absurd (mem_ready.2 ⟨rfl, _, rfl, fun e he _ => by simp at he⟩) (hno 1)
  obtain rfl : b2 = true := by cases b2 with | true => rfl | false => exact absurd (mem_ready.2 ⟨rfl, _, rfl, fun e he _ => by simp at he; rcases he with rfl; rfl⟩) (hno 2)
  obtain rfl : b3 = true := by cases b3 with | true => rfl | false => exact absurd (mem_ready.2 ⟨rfl, _, rfl, fun e he _ => by simp at he; rcases he with rfl | rfl | rfl <;> rfl⟩) (hno 3)
  obtain rfl : b4 = true := by cases b4 with | true => rfl | false => exact absurd (mem_ready.2 ⟨rfl, _, rfl, fun e he _ => by simp at he; rcases he with rfl | rfl <;> rfl⟩) (hno 4)
  obtain rfl := e3 rfl
  obtain ⟨w2, hb2, hd, rfl, rfl⟩ := u4 rfl
  obtain ⟨k9, t9, Yk9, yk9, zk9, A9, n9, c9, B9, m9, s9, rfl, rfl, rfl, rfl, rfl⟩ := uin_agg hd
  simp only [bsel, if_true]
  clear p0 p1 p2 p3 p4 HC HM hFi s3 e3 u3 u4 i2 i3 i4 hno h0
  gi_wp2_with fail
  have hf2 : Fr Wa w2 (fun _ => True) := below_fr0 hb2
  have hf3 : Fr w2 (w2.alloc (.cells #[.int .i64 k9, .int .i64 t9, .slice Yk9 yk9 zk9, .slice A9 n9 c9, .slice B9 m9 s9] 29)) (fun _ => True) := (Fr.refl w2 _).alloc _
  have hs2 : W.heap.size + 3 ≤ w2.heap.size := by have := hb2.size; omega
  have hs3 : (w2.alloc (.cells #[.int .i64 k9, .int .i64 t9, .slice Yk9 yk9 zk9, .slice A9 n9 c9, .slice B9 m9 s9] 29)).heap.size = w2.heap.size + 1 := by simp
  have hbox3 := heap_alloc_new w2 (.cells #[.int .i64 k9, .int .i64 t9, .slice Yk9 yk9 zk9, .slice A9 n9 c9, .slice B9 m9 s9] 29 (0, 0))
  have hd3 := (hd.fr (ok' := fun _ => True) hf3 (fun _ _ => trivial)).mono (ok' := fun k => W.heap.size + 3 ≤ k ∧ k < (w2.alloc (.cells #[.int .i64 k9, .int .i64 t9, .slice Yk9 yk9 zk9, .slice A9 n9 c9, .slice B9 m9 s9] 29)).heap.size) (fun b hb hb2 => ⟨by omega, hb⟩)
  obtain ⟨kids, hv⟩ := hd3.vt
  have hmap := upre_map (.mk z (.int .i64 k9) (.int .i64 t9) (.slice Yk9 yk9 zk9) (.slice A9 n9 c9) (.slice B9 m9 s9) kids) 1 hv
  have hmap' : (upre 1 (.mk z (.int .i64 k9) (.int .i64 t9) (.slice Yk9 yk9 zk9) (.slice A9 n9 c9) (.slice B9 m9 s9) kids)).map umap = pu 1 z := hmap
  have hmem := umem_pre (.mk z (.int .i64 k9) (.int .i64 t9) (.slice Yk9 yk9 zk9) (.slice A9 n9 c9) (.slice B9 m9 s9) kids) 1 hv
  have hlen := congrArg List.length hmap'
  rw [List.length_map, pu_len] at hlen
  have hY3 := hf3.at (hf2.at hYb trivial) trivial
  have hT3 := hf3.at (hf2.at hTb trivial) trivial
  have hP3 := hf3.at (hf2.at hPb trivial) trivial
  have hfW3 : Fr W (w2.alloc (.cells #[.int .i64 k9, .int .i64 t9, .slice Yk9 yk9 zk9, .slice A9 n9 c9, .slice B9 m9 s9] 29)) (fun _ => True) := hfa.trans (hf2.trans hf3)
  clear hmap hd hd3 hb2 hf2 hf3 hfa hYb hTb hPb hsa
  generalize (w2.alloc (.cells #[.int .i64 k9, .int .i64 t9, .slice Yk9 yk9 zk9, .slice A9 n9 c9, .slice B9 m9 s9] 29)) = W3 at *
  have hj3 : J [] (fun _ => False) W3 := HJ.out _ _ _ _ h0 (hfW3.mono (fun _ _ _ => trivial))
  refine range_w (F := Fence.wide) (n := n) (ps := #[13, 14]) rfl (by omega) (gf := 53) (lb := #[.pointer (some ⟨w2.heap.size, 0, none⟩)]) rfl trivial (enters_of Tryz.func53 (by kernel_rfl) rfl) (encs := uencN) (fun _ => rfl)
    (each_w Fence.wide (n - 1) trivial rfl (by omega) w2.heap.size (.mk z (.int .i64 k9) (.int .i64 t9) (.slice Yk9 yk9 zk9) (.slice A9 n9 c9) (.slice B9 m9 s9) kids) W3 (fun k => W.heap.size + 3 ≤ k ∧ k < W3.heap.size) (fun k hk => hk.2) ⟨by omega, by omega⟩ hbox3 hv (by omega)) (fun k hk => hk.2)
    (fun pr S W' => J (pr.map umap) S W' ∧ W'.heap[W.heap.size]? = some (.cells #[.func (.yield l) #[] #[]] 98 (0, 0)) ∧ W'.heap[W.heap.size + 1]? = some (.cells #[.int .i64 (2147483647 - (taken (pr.map umap) : Int))] 101 (0, 0)) ∧ W'.heap[W.heap.size + 2]? = some (.cells #[.pointer (some ⟨W.heap.size + 1, 0, none⟩)] 99 (0, 0)) ∧ Fr W3 W' (fun k => W.heap.size + 3 ≤ k ∧ k < W3.heap.size))
    (fun pr S W' => Jx (pr.map umap) S W') ?stI ?stX ?start ?round ?done ?stop
  case stI =>
    intro s S A A' hs hf
    exact ⟨HJ.out _ _ _ _ hs.1 (hf.mono (fun k _ hk => hk.elim .inl (fun h => .inr (by omega)))), hf.at hs.2.1 (.inr (by omega)), hf.at hs.2.2.1 (.inr (by omega)), hf.at hs.2.2.2.1 (.inr (by omega)), hs.2.2.2.2.trans (hf.mono (fun k _ hk => .inr hk.2))⟩
  case stX =>
    intro s S A A' hs hf
    exact HJx.out _ _ _ _ hs (hf.mono (fun k _ hk => hk.elim .inl (fun h => .inr (by omega))))
  case start => exact ⟨hj3, hY3, by simpa [taken] using hT3, hP3, Fr.refl _ _⟩
  case done =>
    intro S W' hI hS hd
    have hj := hI.1
    rw [hmap'] at hj
    have HJJ := Lib.hid (HJ.out _ _ _ _ hj ((fr_put W' W3.heap.size (.deferred none)).mono (fun k _ hk => hk.elim (fun h => by have := hS k h; omega) (fun h => by omega))))
    gi_wp2
    refine ⟨by simp, .inl ⟨_, _, rfl, run_takeDeferred hd, ?_⟩⟩
    refine ⟨_, results_none rfl _ _ _, ?_⟩
    exact ⟨⟨_, rfl⟩, .inl ⟨S, HJJ.out⟩⟩
  case stop =>
    intro pre rest S W' hx hI hS hd
    have HJJ := Lib.hid (HJx.out _ _ _ _ hI ((fr_put W' W3.heap.size (.deferred none)).mono (fun k _ hk => hk.elim (fun h => by have := hS k h; omega) (fun h => by omega))))
    have HXX := Lib.hid (show pu 1 z = pre.map umap ++ rest.map umap by rw [← hmap', hx, List.map_append])
    clear hx
    gi_wp2
    refine ⟨by simp, .inl ⟨_, _, rfl, run_takeDeferred hd, ?_⟩⟩
    refine ⟨_, results_none rfl _ _ _, ?_⟩
    exact ⟨⟨_, rfl⟩, .inr ⟨_, _, S, HXX.out, HJJ.out⟩⟩
  case round =>
    intro pre x rest S W4 hx hI hS hlt
    obtain ⟨hj, hyb, htb, hpb, hfrd⟩ := hI
    have hvx := (hmem x (by rw [hx]; simp)).fr hfrd (fun _ h => h)
    obtain ⟨kx, tx, Ykx, Ax, Ax', zkx, cx, cx', f0, f1, f2, f3, f4, _, _, _⟩ := hvx.fm
    have hxz := hvx.jin
    rw [f0, f1, f2, f3, f4] at hxz
    have hxval : x.2.val = .agg #[.int .i64 kx, .int .i64 tx, .slice Ykx x.2.t.b.length zkx, .slice Ax x.2.kids.length cx, .slice Ax' x.2.t.ks.length cx'] := by simp only [UT.val, f0, f1, f2, f3, f4]
    generalize x.2.kids.length = nkx at *
    generalize x.2.t.b.length = ykx at *
    generalize x.2.t.ks.length = mkx at *
    show Code.wpIn _ _ _ _ _ { tmps := _, defers := _ } _
    simp only [uencN, hxval, List.zip_cons_cons, List.zip_nil_right, List.foldl_toArray', List.foldl_toArray, List.foldl_cons, List.foldl_nil, List.setIfInBounds_toArray, List.set_cons_succ, List.set_cons_zero, Array.zip]
    clear hxval f0 f1 f2 f3 f4 hvx
    have HX := Lib.hid (show pu 1 z = pre.map umap ++ umap x :: rest.map umap by rw [← hmap', hx, List.map_append, List.map_cons])
    have hle := pu_le z 1 (umap x) (by rw [HX.out]; simp)
    have htx : taken (pre.map umap) + (ucost x.2.t) ≤ taken (pu 1 z) := by
      rw [HX.out, taken_app, taken]
      show _ ≤ taken (pre.map umap) + ((ucost x.2.t) + taken (rest.map umap))
      omega
    have hle' : uc x.2.t ≤ uc z ∧ uk x.2.t ≤ uk z ∧ uo x.2.t ≤ uo z := hle
    clear hx hmem hmap' hle hlen
    gi_wp2
    refine ⟨(Fr.refl W4 _).alloc _, ?_⟩
    intro W5 hf5 hl1 hl0 ⟨hj5, hy5, ht5, hp5, hfr5⟩
    have hx5 : W5.heap[W4.heap.size]? = some (.cells #[.int .i64 kx, .int .i64 tx, .slice Ykx ykx zkx, .slice Ax nkx cx, .slice Ax' mkx cx'] 29 (0, 0)) := hf5.at (new_at rfl _) (by omega)
    have hs5 : W4.heap.size < W5.heap.size := blk_lt hx5
    have hxz5 := ((hxz.fr ((Fr.refl W4 (fun _ => True)).alloc (.cells #[.int .i64 kx, .int .i64 tx, .slice Ykx ykx zkx, .slice Ax nkx cx, .slice Ax' mkx cx'] 29)) (fun _ _ => trivial)).fr hf5 (fun k h => by omega)).mono (ok' := fun b => b < W5.heap.size ∧ b ≠ W.heap.size + 1) (fun b _ hb => ⟨by omega, by omega⟩)
    have HT := Lib.hid (tell_any (W.heap.size + 1) _ x.2.t W5.drew _ _ _ _ _ ht5 (hxz5.fr (show Fr W5 W5.drew _ from (Fr.refl W5 _).drewN 1) (fun _ h => h)) (by omega) (by omega) (by omega) (by omega) (by omega))
    have q0 : W5.cell? ⟨W.heap.size, 0, none⟩ = some (.func (.yield l) #[] #[]) := by rw [cell_of_row _ _ _ _ _ _ hy5]; rfl
    have q2 : W5.cell? ⟨W.heap.size + 2, 0, none⟩ = some (.pointer (some ⟨W.heap.size + 1, 0, none⟩)) := by rw [cell_of_row _ _ _ _ _ _ hp5]; rfl
    obtain ⟨x0, x1, x2, x3, x4⟩ := cells_5 hx5
    let PC : Bool → World → Prop := fun r w' => ∃ S', (if r then J (pre.map umap ++ [umap x]) S' w' ∧ ∀ k, S' k → (S k ∨ W5.heap.size ≤ k) ∧ k < w'.heap.size else Jx (pre.map umap ++ [umap x]) S' w' ∧ ∀ k, S' k → S k ∨ W5.heap.size ≤ k) ∧
      w'.heap[W.heap.size]? = some (.cells #[.func (.yield l) #[] #[]] 98 (0, 0)) ∧ w'.heap[W.heap.size + 1]? = some (.cells #[.int .i64 (2147483647 - (taken ((pre ++ [x]).map umap) : Int))] 101 (0, 0)) ∧ w'.heap[W.heap.size + 2]? = some (.cells #[.pointer (some ⟨W.heap.size + 1, 0, none⟩)] 99 (0, 0)) ∧ Fr W5 w' (fun k => k ≠ W.heap.size + 1 ∧ W.heap.size ≤ k ∧ ¬ S k)
    clear hx5 hxz5 hxz hf5 hj hyb htb hpb hfrd
    gi_wp2
    refine wpIn_region_any (by kernel_rfl) ?_
    change wpAnyIn _ _ _ _ _ _ _ _ _ (World.drew _)
    refine any_rel (R := fun f L a w => ∃ b0 b1 b2 b3 b4 b5 b6 : Bool, ∃ v17 v18 v19 : Value, L = #[b0, b1, b2, b3, b4, b5, b6] ∧ f = bcnt b0 + bcnt b1 + bcnt b2 + bcnt b3 + bcnt b4 + bcnt b5 + bcnt b6 ∧
      (b4 = true → b2 = true ∧ b3 = true) ∧ (b5 = true → b0 = true ∧ b1 = true ∧ b4 = true) ∧ (b6 = true → b5 = true) ∧
      a = { tmps := #[Value.func (Fn.yield l) #[] #[], Value.pointer (some { block := p, off := 0 }),
          Value.pointer (some { block := W.heap.size, off := 0 }),
          Value.pointer (some { block := W.heap.size + 1 + 1, off := 0 }), Value.int IntKind.i64 ↑x.fst,
          Value.pointer (some { block := W4.heap.size, off := 0 }), Value.agg #[Value.int IntKind.i64 2147483647],
          Value.pointer (some { block := W.heap.size + 1, off := 0 }),
          Value.agg #[Value.int .i64 kk, Value.int .i64 tt, Value.slice Ykk ykk zkk, Value.slice A n1 c1, Value.slice A' n2 c2],
          Value.agg #[Value.int .i64 kk, Value.int .i64 tt, Value.slice Ykk ykk zkk, Value.slice A n1 c1, Value.slice A' n2 c2],
          Value.agg #[Value.int IntKind.i64 ↑(uc z), Value.int IntKind.i64 ↑(uo z), Value.int IntKind.i64 ↑(uk z)],
          Value.agg #[Value.int .i64 k9, Value.int .i64 t9, Value.slice Yk9 yk9 zk9, Value.slice A9 n9 c9, Value.slice B9 m9 s9],
          Value.func (Fn.func 53) #[] #[Value.pointer (some { block := w2.heap.size, off := 0 })],
          Value.int IntKind.i64 ↑x.fst,
          Value.agg #[Value.int .i64 kx, Value.int .i64 tx, Value.slice Ykx ykx zkx, Value.slice Ax nkx cx, Value.slice Ax' mkx cx'], bsel b0 (.func (.yield l) #[] #[]),
          bsel b1 (.int .i64 ↑x.fst), bsel b2 (.pointer (some ⟨W.heap.size + 1, 0, none⟩)), bsel b3 (.agg #[Value.int .i64 kx, Value.int .i64 tx, Value.slice Ykx ykx zkx, Value.slice Ax nkx cx, Value.slice Ax' mkx cx']), v17, v18, v19], defers := [] } ∧ (b4 = false → v17 = undef ∧ w = W5.drew) ∧ (b4 = true → b5 = false → TellP W5 (W.heap.size + 1) (2147483647 - (taken (pre.map umap) : Int) - (ucost x.2.t : Nat)) x.2.t v17 w) ∧ (b5 = true → ∃ r, v18 = .bool r ∧ PC r w ∧ (b6 = true → v19 = .bool (!r)))) ?_ _ _ _ _ ?start
    case start => exact ⟨false, false, false, false, false, false, false, undef, undef, undef, rfl, rfl, by simp, by simp, by simp, rfl, fun _ => ⟨rfl, rfl⟩, by simp, by simp⟩
    rintro f L a w7 ⟨b0, b1, b2, b3, b4, b5, b6, v17, v18, v19, rfl, rfl, i4, i5, i6, rfl, s0, s4, s5⟩
    refine ⟨fun h0 => ?_, fun i hi => ?_⟩
    · have hno := List.eq_nil_iff_forall_not_mem.1 h0
      obtain rfl : b0 = true := by cases b0 with | true => rfl | false => exact absurd (mem_ready.2 ⟨rfl, _, rfl, fun e he _ => by simp at he⟩) (hno 0)
      obtain rfl : b1 = true := by cases b1 with | true => rfl | false => exact absurd (mem_ready.2 ⟨rfl, _, rfl, fun e he _ => by simp at he⟩) (hno 1)
      obtain rfl : b2 = true := by cases b2 with | true => rfl | false => exact absurd (mem_ready.2 ⟨rfl, _, rfl, fun e he _ => by simp at he⟩) (hno 2)
      obtain rfl : b3 = true := by cases b3 with | true => rfl | false => exact absurd (mem_ready.2 ⟨rfl, _, rfl, fun e he _ => by simp at he⟩) (hno 3)
      obtain rfl : b4 = true := by cases b4 with | true => rfl | false => exact absurd (mem_ready.2 ⟨rfl, _, rfl, fun e he _ => by simp at he; rcases he with rfl | rfl <;> rfl⟩) (hno 4)
      obtain rfl : b5 = true := by cases b5 with | true => rfl | false => exact absurd (mem_ready.2 ⟨rfl, _, rfl, fun e he _ => by simp at he; rcases he with rfl | rfl | rfl | rfl <;> rfl⟩) (hno 5)
      obtain rfl : b6 = true := by cases b6 with | true => rfl | false => exact absurd (mem_ready.2 ⟨rfl, _, rfl, fun e he _ => by simp at he; rcases he with rfl; rfl⟩) (hno 6)
      obtain ⟨r, rfl, ⟨S', hP, hy9, ht9, hp9, hF9⟩, h19⟩ := s5 rfl
      obtain rfl := h19 rfl
      have hL1 : w7.heap[W3.heap.size + 1]? = W5.heap[W3.heap.size + 1]? := by obtain ⟨o, ho, _⟩ := hl1; rw [hF9.at ho ⟨by omega, by omega, fun h => by have := hS _ h; omega⟩, ho]
      have hL0 : w7.heap[W3.heap.size]? = W5.heap[W3.heap.size]? := by obtain ⟨o, ho, _⟩ := hl0; rw [hF9.at ho ⟨by omega, by omega, fun h => by have := hS _ h; omega⟩, ho]
      have hmp : (pre ++ [x]).map umap = pre.map umap ++ [umap x] := by simp
      cases r with
      | true =>
        obtain ⟨hj9, hS9⟩ := hP
        have HR := Lib.hid (show ∀ a0 : Act, retPw (W3.heap.size + 1) (W3.heap.size + 2) (fun k => W.heap.size + 3 ≤ k ∧ k < W3.heap.size) (fun pr S W' => J (pr.map umap) S W' ∧ W'.heap[W.heap.size]? = some (.cells #[.func (.yield l) #[] #[]] 98 (0, 0)) ∧ W'.heap[W.heap.size + 1]? = some (.cells #[.int .i64 (2147483647 - (taken (pr.map umap) : Int))] 101 (0, 0)) ∧ W'.heap[W.heap.size + 2]? = some (.cells #[.pointer (some ⟨W.heap.size + 1, 0, none⟩)] 99 (0, 0)) ∧ Fr W3 W' (fun k => W.heap.size + 3 ≤ k ∧ k < W3.heap.size)) (fun pr S W' => Jx (pr.map umap) S W') (pre ++ [x]) S W5 .normal a0 w7 from
          fun _ => ⟨hF9.mono (fun k _ hk => ⟨by omega, by omega, hk.2⟩), hL1, hL0, S', ⟨by rw [hmp]; exact hj9, hy9, ht9, hp9, hfr5.trans (hF9.mono (fun k _ hk => ⟨by omega, by omega, fun h => by have := hS _ h; omega⟩))⟩, hS9⟩)
        simp only [bsel]
        gi_wp2
        rw [← hs3]
        exact HR.out _
      | false =>
        obtain ⟨hj9, hS9⟩ := hP
        have HR := Lib.hid (show ∀ a0 : Act, retPw (W3.heap.size + 1) (W3.heap.size + 2) (fun k => W.heap.size + 3 ≤ k ∧ k < W3.heap.size) (fun pr S W' => J (pr.map umap) S W' ∧ W'.heap[W.heap.size]? = some (.cells #[.func (.yield l) #[] #[]] 98 (0, 0)) ∧ W'.heap[W.heap.size + 1]? = some (.cells #[.int .i64 (2147483647 - (taken (pr.map umap) : Int))] 101 (0, 0)) ∧ W'.heap[W.heap.size + 2]? = some (.cells #[.pointer (some ⟨W.heap.size + 1, 0, none⟩)] 99 (0, 0)) ∧ Fr W3 W' (fun k => W.heap.size + 3 ≤ k ∧ k < W3.heap.size)) (fun pr S W' => Jx (pr.map umap) S W') (pre ++ [x]) S W5 .ret a0 w7 from
          fun _ => ⟨hL1, hL0, S', (show Jx ((pre ++ [x]).map umap) S' w7 by rw [hmp]; exact hj9), hS9⟩)
        simp only [bsel]
        gi_wp2
        rw [← hs3]
        exact HR.out _
    obtain ⟨g0, o, ho, ha⟩ := mem_ready.1 hi
    match i, g0, o, ho, ha with
    | 0, g0, o, ho, ha =>
      obtain rfl : b0 = false := g0
      have e5 : b5 = false := by cases b5 with | false => rfl | true => exact (i5 rfl).1.symm
      have hq : w7.cell? ⟨W.heap.size, 0, none⟩ = some (.func (.yield l) #[] #[]) := by
        cases b4 with
        | false => rw [(s0 rfl).2]; exact q0
        | true => obtain ⟨_, _, _, _, _, _, _, _, hF⟩ := s4 rfl e5; exact hF.cell q0 (by simp)
      refine ⟨bcnt true + bcnt b1 + bcnt b2 + bcnt b3 + bcnt b4 + bcnt b5 + bcnt b6, by have e0 : bcnt false = 1 := rfl; have e1 : bcnt true = 0 := rfl; omega, wpOpIn_step rfl fun K' hK => ?_⟩
      go_simp
      exact hK _ _ ⟨true, b1, b2, b3, b4, b5, b6, v17, v18, v19, rfl, rfl, i4, fun h => ⟨rfl, (i5 h).2⟩, i6, rfl, s0, s4, s5⟩
    | 1, g0, o, ho, ha =>
      obtain rfl : b1 = false := g0
      refine ⟨bcnt b0 + bcnt true + bcnt b2 + bcnt b3 + bcnt b4 + bcnt b5 + bcnt b6, by have e0 : bcnt false = 1 := rfl; have e1 : bcnt true = 0 := rfl; omega, wpOpIn_step rfl fun K' hK => ?_⟩
      go_simp
      exact hK _ _ ⟨b0, true, b2, b3, b4, b5, b6, v17, v18, v19, rfl, rfl, i4, fun h => ⟨(i5 h).1, rfl, (i5 h).2.2⟩, i6, rfl, s0, s4, s5⟩
    | 2, g0, o, ho, ha =>
      obtain rfl : b2 = false := g0
      obtain rfl : b4 = false := by cases b4 with | false => rfl | true => exact (i4 rfl).1.symm
      obtain ⟨rfl, rfl⟩ := s0 rfl
      refine ⟨bcnt b0 + bcnt b1 + bcnt true + bcnt b3 + bcnt false + bcnt b5 + bcnt b6, by have e0 : bcnt false = 1 := rfl; have e1 : bcnt true = 0 := rfl; omega, wpOpIn_step rfl fun K' hK => ?_⟩
      go_simp
      exact hK _ _ ⟨b0, b1, true, b3, false, b5, b6, undef, v18, v19, rfl, rfl, fun h => ⟨rfl, (i4 h).2⟩, i5, i6, rfl, s0, s4, s5⟩
    | 3, g0, o, ho, ha =>
      obtain rfl : b3 = false := g0
      obtain rfl : b4 = false := by cases b4 with | false => rfl | true => exact (i4 rfl).2.symm
      obtain ⟨rfl, rfl⟩ := s0 rfl
      refine ⟨bcnt b0 + bcnt b1 + bcnt b2 + bcnt true + bcnt false + bcnt b5 + bcnt b6, by have e0 : bcnt false = 1 := rfl; have e1 : bcnt true = 0 := rfl; omega, wpOpIn_step rfl fun K' hK => ?_⟩
      go_simp
      exact hK _ _ ⟨b0, b1, b2, true, false, b5, b6, undef, v18, v19, rfl, rfl, fun h => ⟨(i4 h).1, rfl⟩, i5, i6, rfl, s0, s4, s5⟩
    | 4, g0, o, ho, ha =>
      obtain rfl : b4 = false := g0
      cases ho
      obtain rfl : b2 = true := ha ⟨2, .data⟩ (by simp) rfl
      obtain rfl : b3 = true := ha ⟨3, .data⟩ (by simp) rfl
      obtain rfl : b5 = false := by cases b5 with | false => rfl | true => exact (i5 rfl).2.2.symm
      obtain ⟨rfl, rfl⟩ := s0 rfl
      refine ⟨bcnt b0 + bcnt b1 + bcnt true + bcnt true + bcnt true + bcnt false + bcnt b6, by have e0 : bcnt false = 1 := rfl; have e1 : bcnt true = 0 := rfl; omega, wpOpIn_step rfl fun K' hK => ?_⟩
      simp only [bsel]
      go_simp
      refine ⟨trivial, fun h => by simp [Fence.wide] at h, (CallsIn.inRound _ (callsIn_wide.2 HT.out)).mono ?_⟩
      rintro e w8 ⟨d0, d1, d2, d3, d4, rfl, hd, ht8, hF8⟩
      exact hK _ _ ⟨b0, b1, true, true, true, false, b6, _, v18, v19, rfl, rfl, fun _ => ⟨rfl, rfl⟩, by simp, i6, rfl, by simp, fun _ _ => ⟨d0, d1, d2, d3, d4, rfl, hd, ht8, Fr.trans (show Fr W5 W5.drew _ from (Fr.refl W5 _).drewN 1) hF8⟩, by simp⟩
    | 5, g0, o, ho, ha =>
      obtain rfl : b5 = false := g0
      cases ho
      obtain rfl : b0 = true := ha ⟨0, .data⟩ (by simp) rfl
      obtain rfl : b1 = true := ha ⟨1, .data⟩ (by simp) rfl
      obtain rfl : b4 = true := ha ⟨4, .data⟩ (by simp) rfl
      obtain ⟨rfl, rfl⟩ := i4 rfl
      obtain ⟨d0, d1, d2, d3, d4, rfl, hd, ht7, hF7⟩ := s4 rfl rfl
      refine ⟨bcnt true + bcnt true + bcnt true + bcnt true + bcnt true + bcnt true + bcnt b6, by have e0 : bcnt false = 1 := rfl; have e1 : bcnt true = 0 := rfl; omega, wpOpIn_step rfl fun K' hK => ?_⟩
      have hj7 := HJ.out _ _ _ _ hj5 (hF7.mono (fun k _ hk => hk.elim (fun h => by have := hS k h; omega) (fun h => by omega)))
      obtain ⟨fn, tmp5, as5, bd5, hy, hR⟩ := HY.out (pre.map umap) (umap x) (rest.map umap) S w7 W5.heap.size d0 d1 d2 d3 d4 hj7 HX.out (fun k h => by have := hS k h; omega) (by omega) hF7.size hd
      dsimp only [umap] at hy
      have hmp : (pre ++ [x]).map umap = pre.map umap ++ [umap x] := by simp
      have htk9 : (2147483647 - (taken (pre.map umap) : Int) - (ucost x.2.t : Nat)) = 2147483647 - (taken ((pre ++ [x]).map umap) : Int) := by
        rw [hmp, taken_app, taken, taken]
        show _ = 2147483647 - ((taken (pre.map umap) + ((ucost x.2.t) + 0) : Nat) : Int)
        omega
      rw [htk9] at ht7
      have hy7 := hF7.at hy5 (by omega)
      have hp7 := hF7.at hp5 (by omega)
      simp only [bsel]
      go_simp
      refine ⟨fun h => by simp [Fence.wide] at h, (round_wide hR).mono ?_⟩
      rintro e w8 (⟨rfl, S', hj8, hf8, hs8⟩ | ⟨rfl, S', hj8, hf8, hs8⟩)
      · exact hK _ _ ⟨true, true, true, true, true, true, b6, _, _, v19, rfl, rfl, i4, fun _ => ⟨rfl, rfl, rfl⟩, fun _ => rfl, rfl, by simp, by simp, fun _ => ⟨true, rfl, ⟨S', ⟨hj8, hs8⟩, hf8.at hy7 ⟨.inr (Nat.le_refl _), fun h => by have := hS _ h; omega⟩, hf8.at ht7 ⟨.inr (by omega), fun h => by have := hS _ h; omega⟩, hf8.at hp7 ⟨.inr (by omega), fun h => by have := hS _ h; omega⟩, (hF7.mono (fun k _ hk => hk.1)).trans (hf8.mono (fun k _ hk => ⟨.inr hk.2.1, hk.2.2⟩))⟩, fun h => by have := i6 h; cases this⟩⟩
      · exact hK _ _ ⟨true, true, true, true, true, true, b6, _, _, v19, rfl, rfl, i4, fun _ => ⟨rfl, rfl, rfl⟩, fun _ => rfl, rfl, by simp, by simp, fun _ => ⟨false, rfl, ⟨S', ⟨hj8, hs8⟩, hf8.at hy7 ⟨.inr (Nat.le_refl _), fun h => by have := hS _ h; omega⟩, hf8.at ht7 ⟨.inr (by omega), fun h => by have := hS _ h; omega⟩, hf8.at hp7 ⟨.inr (by omega), fun h => by have := hS _ h; omega⟩, (hF7.mono (fun k _ hk => hk.1)).trans (hf8.mono (fun k _ hk => ⟨.inr hk.2.1, hk.2.2⟩))⟩, fun h => by have := i6 h; cases this⟩⟩
    | 6, g0, o, ho, ha =>
      obtain rfl : b6 = false := g0
      cases ho
      obtain rfl : b5 = true := ha ⟨5, .data⟩ (by simp) rfl
      obtain ⟨rfl, rfl, rfl⟩ := i5 rfl
      obtain ⟨rfl, rfl⟩ := i4 rfl
      obtain ⟨r, rfl, hP, hn9⟩ := s5 rfl
      refine ⟨bcnt true + bcnt true + bcnt true + bcnt true + bcnt true + bcnt true + bcnt true, by have e0 : bcnt false = 1 := rfl; have e1 : bcnt true = 0 := rfl; omega, wpOpIn_step rfl fun K' hK => ?_⟩
      go_simp
      exact hK _ _ ⟨true, true, true, true, true, true, true, v17, .bool r, _, rfl, rfl, i4, i5, fun _ => rfl, rfl, s0, s4, fun _ => ⟨r, rfl, hP, fun _ => rfl⟩⟩
    | k + 7, g0, o, ho, ha => exact absurd g0 (by simp)
end Go.Proofs.YtfboecnhakihnaaGreatDoor
