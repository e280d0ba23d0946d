/-
  'couranthelp.Json' of two values of any kind that are one: true.
-/
import Derived.Test.YtjcnjaebmndeiaaDoorRfq
import Derived.Test.YtjcnjaebmndeiaaDoorZcc
namespace Go.Proofs.YtjcnjaebmndeiaaDoor
open Go.RowKit

/-- Two values in memory that are t are told alike. -/
def ZSame (t : Z) : Prop := ∀ (w : World) (ok ok' : Nat → Prop) (v0 v1 v2 v3 u0 u1 u2 u3 : Value), ZIn w ok t v0 v1 v2 v3 → ZIn w ok' t u0 u1 u2 u3 →
  Calls Tryd.prog 14 #[.agg #[v0, v1, v2, v3], .agg #[u0, u1, u2, u3]] w fun e w' => e = .returned (.bool true) ∧ Below w.heap.size w w'
set_option maxHeartbeats 1000000 in
set_option maxRecDepth 100000 in
theorem zsame_list (l : List Z) (hl : l.length ≤ 1000000) (hs : ∀ t, t ∈ l → ZSame t) (A A' : Option Addr) (cap cap' : Nat) (c c' : Nat → Nat → Value) (ok ok' : Nat → Prop) (w : World)
    (hL : 0 < l.length → ∃ g off, A = some ⟨g, off, none⟩ ∧ ok g ∧ ∀ i j, i < l.length → j < 4 → w.cell? ⟨g, off + (4 * i + j), none⟩ = some (c i j))
    (hE : ∀ i t', l[i]? = some t' → ZIn w ok t' (c i 0) (c i 1) (c i 2) (c i 3))
    (hL' : 0 < l.length → ∃ g off, A' = some ⟨g, off, none⟩ ∧ ok' g ∧ ∀ i j, i < l.length → j < 4 → w.cell? ⟨g, off + (4 * i + j), none⟩ = some (c' i j))
    (hE' : ∀ i t', l[i]? = some t' → ZIn w ok' t' (c' i 0) (c' i 1) (c' i 2) (c' i 3)) :
    Calls Tryd.prog 26 #[.slice A l.length cap, .slice A' l.length cap', .func (.func 14) #[] #[]] w fun e w' => e = .returned (.bool true) ∧ Below w.heap.size w w' := by
  by_cases h0 : l = []
  · subst h0
    go_enter Tryd.func26, Tryd.ntmps26
    go_wp2
    go_loopg [7] 0 (fun g i wr => i = .int .i64 0 ∧ w = wr)
    case atStart => exact ⟨rfl, rfl⟩
    case round =>
      obtain ⟨rfl, rfl⟩ := hrel
      go_wp2
      go_ret
      exact ⟨rfl, Below.refl _ _⟩
  · have hpos : 0 < l.length := List.length_pos_iff.2 h0
    obtain ⟨g, off, rfl, _, hc⟩ := hL hpos
    obtain ⟨g', off', rfl, _, hc'⟩ := hL' hpos
    have HC := Lib.hid hc
    have HC' := Lib.hid hc'
    have HE := Lib.hid hE
    have HE' := Lib.hid hE'
    have HS := Lib.hid hs
    clear hc hc' h0 hE hE' hs hL hL'
    go_enter Tryd.func26, Tryd.ntmps26
    go_wp2
    go_loopg [7] l.length (fun g i wr => ∃ k : Nat, k + g = l.length ∧ i = .int .i64 k ∧ Below w.heap.size w wr)
    case atStart => exact ⟨0, by omega, rfl, Below.refl _ _⟩
    case round =>
      obtain ⟨k, hk, rfl, hb⟩ := hrel
      by_cases hlt : k < l.length
      · obtain ⟨t, ht⟩ : ∃ t, l[k]? = some t := ⟨_, List.getElem?_eq_getElem hlt⟩
        have hki : (k : Int) < (l.length : Int) := by omega
        have hf := below_fr0 hb
        have hj := (HE.out k t ht).fr hf (fun _ _ => trivial)
        have hj' := (HE'.out k t ht).fr hf (fun _ _ => trivial)
        have x0 : wr.cell? ⟨g, off + k * 4, none⟩ = some (c k 0) := by have := hf.cell (HC.out k 0 hlt (by omega)) trivial; rwa [show off + (4 * k + 0) = off + k * 4 by omega] at this
        have x1 : wr.cell? ⟨g, off + k * 4 + 1, none⟩ = some (c k 1) := by have := hf.cell (HC.out k 1 hlt (by omega)) trivial; rwa [show off + (4 * k + 1) = off + k * 4 + 1 by omega] at this
        have x2 : wr.cell? ⟨g, off + k * 4 + 2, none⟩ = some (c k 2) := by have := hf.cell (HC.out k 2 hlt (by omega)) trivial; rwa [show off + (4 * k + 2) = off + k * 4 + 2 by omega] at this
        have x3 : wr.cell? ⟨g, off + k * 4 + 3, none⟩ = some (c k 3) := by have := hf.cell (HC.out k 3 hlt (by omega)) trivial; rwa [show off + (4 * k + 3) = off + k * 4 + 3 by omega] at this
        have z0 : wr.cell? ⟨g', off' + k * 4, none⟩ = some (c' k 0) := by have := hf.cell (HC'.out k 0 hlt (by omega)) trivial; rwa [show off' + (4 * k + 0) = off' + k * 4 by omega] at this
        have z1 : wr.cell? ⟨g', off' + k * 4 + 1, none⟩ = some (c' k 1) := by have := hf.cell (HC'.out k 1 hlt (by omega)) trivial; rwa [show off' + (4 * k + 1) = off' + k * 4 + 1 by omega] at this
        have z2 : wr.cell? ⟨g', off' + k * 4 + 2, none⟩ = some (c' k 2) := by have := hf.cell (HC'.out k 2 hlt (by omega)) trivial; rwa [show off' + (4 * k + 2) = off' + k * 4 + 2 by omega] at this
        have z3 : wr.cell? ⟨g', off' + k * 4 + 3, none⟩ = some (c' k 3) := by have := hf.cell (HC'.out k 3 hlt (by omega)) trivial; rwa [show off' + (4 * k + 3) = off' + k * 4 + 3 by omega] at this
        have hcall := fun n : Nat => HS.out t (List.mem_of_getElem? ht) (wr.drewN n) _ _ _ _ _ _ _ _ _ _ (hj.fr ((Fr.refl wr (fun _ => True)).drewN n) (fun _ _ => trivial)) (hj'.fr ((Fr.refl wr (fun _ => True)).drewN n) (fun _ _ => trivial))
        have HCa := Lib.hid hcall
        clear ht hj hj' hcall hf
        generalize c k 0 = a0 at *
        generalize c k 1 = a1 at *
        generalize c k 2 = a2 at *
        generalize c k 3 = a3 at *
        generalize c' k 0 = b0 at *
        generalize c' k 1 = b1 at *
        generalize c' k 2 = b2 at *
        generalize c' k 3 = b3 at *
        go_wp2
        go_still_tail 9, (by kernel_rfl)
        go_wp2_with fail
        refine (HCa.out 1).mono ?_
        rintro e w3 ⟨rfl, hb3⟩
        have hb4 : Below w.heap.size w w3 := hb.trans (Below.mono (⟨hb3.os, hb3.tape, hb3.output, hb3.size, hb3.block⟩ : Below wr.heap.size wr w3) hb.size)
        clear x0 x1 x2 x3 z0 z1 z2 z3 HCa hb3
        go_wp2
        go_roundg (l.length - (k + 1))
        case measure => omega
        case rel => exact ⟨k + 1, by omega, by go_num, hb4⟩
      · go_wp2
        go_ret
        exact ⟨rfl, hb⟩

set_option maxHeartbeats 1000000 in
set_option maxRecDepth 100000 in
theorem zsame_step (k : Int) (t : ByteArray) (l : List Z) (ks : List ByteArray) (hl : l.length ≤ 1000000) (hk : ks.length ≤ 1000000) (hs : ∀ x, x ∈ l → ZSame x) : ZSame (.mk k t l ks) := by
  intro w ok ok' v0 v1 v2 v3 u0 u1 u2 u3 h h'
  cases h with
  | mk _ _ _ _ A A' cap cap' c hk0 ht0 hs0 hcap hcap' hL hK hE =>
    cases h' with
    | mk _ _ _ _ D D' dap dap' d hk1 ht1 hs1 hdap hdap' hL' hK' hE' =>
      have hb : Below w.heap.size w ((w.alloc (.cells #[.int .i64 k, .string t, .slice A l.length cap, .slice A' ks.length cap'] 26)).alloc (.cells #[.int .i64 k, .string t, .slice D l.length dap, .slice D' ks.length dap'] 26)) := ((Below.refl _ _).alloc (Nat.le_refl _) _).alloc (by simp) _
      have hf := below_fr0 hb
      have hsl := zsame_list l hl hs A D cap dap c d ok ok' ((w.alloc (.cells #[.int .i64 k, .string t, .slice A l.length cap, .slice A' ks.length cap'] 26)).alloc (.cells #[.int .i64 k, .string t, .slice D l.length dap, .slice D' ks.length dap'] 26))
        (fun hp => by obtain ⟨g, off, e, ho, hc⟩ := hL hp; exact ⟨g, off, e, ho, fun i j hi hj => hf.cell (hc i j hi hj) trivial⟩) (fun i x hx => (hE i x hx).fr hf (fun _ _ => trivial))
        (fun hp => by obtain ⟨g, off, e, ho, hc⟩ := hL' hp; exact ⟨g, off, e, ho, fun i j hi hj => hf.cell (hc i j hi hj) trivial⟩) (fun i x hx => (hE' i x hx).fr hf (fun _ _ => trivial))
      have hkk : SlS w A' ks := fun hp => by obtain ⟨g, off, e, _, hc⟩ := hK hp; exact ⟨g, off, e, hc⟩
      have hkk' : SlS w D' ks := fun hp => by obtain ⟨g, off, e, _, hc⟩ := hK' hp; exact ⟨g, off, e, hc⟩
      have hpl : ∀ W, Below w.heap.size w W → Calls Tryd.prog 34 #[.slice A' ks.length cap', .slice D' ks.length dap'] W fun e w' => e = .returned (.bool true) ∧ ∃ n, w' = W.drewN n := fun W hW => by
        have hf := below_fr0 hW
        exact plain_strs A' D' ks cap' dap' W hk (fun hp => by obtain ⟨g, off, e, hc⟩ := hkk hp; exact ⟨g, off, e, fun i s hi => hf.cell (hc i s hi) trivial⟩) (fun hp => by obtain ⟨g, off, e, hc⟩ := hkk' hp; exact ⟨g, off, e, fun i s hi => hf.cell (hc i s hi) trivial⟩)
      have HPl := Lib.hid hpl
      have hB1 : ((w.alloc (.cells #[.int .i64 k, .string t, .slice A l.length cap, .slice A' ks.length cap'] 26)).alloc (.cells #[.int .i64 k, .string t, .slice D l.length dap, .slice D' ks.length dap'] 26)).heap[w.heap.size]? = some (.cells #[.int .i64 k, .string t, .slice A l.length cap, .slice A' ks.length cap'] 26 (0, 0)) := by
        rw [Below.heap_alloc _ _ _ (by simp)]; exact heap_alloc_new w _
      have hB2 : ((w.alloc (.cells #[.int .i64 k, .string t, .slice A l.length cap, .slice A' ks.length cap'] 26)).alloc (.cells #[.int .i64 k, .string t, .slice D l.length dap, .slice D' ks.length dap'] 26)).heap[w.heap.size + 1]? = some (.cells #[.int .i64 k, .string t, .slice D l.length dap, .slice D' ks.length dap'] 26 (0, 0)) := by
        have := heap_alloc_new (w.alloc (.cells #[.int .i64 k, .string t, .slice A l.length cap, .slice A' ks.length cap'] 26)) (.cells #[.int .i64 k, .string t, .slice D l.length dap, .slice D' ks.length dap'] 26 (0, 0))
        simpa using this
      clear hk0 ht0 hs0 hk1 ht1 hs1 hL hK hE hL' hK' hE' hf hkk hkk' hpl hs
      go_enter Tryd.func14, Tryd.ntmps14
      go_wp2_with fail
      generalize (w.alloc (.cells #[.int .i64 k, .string t, .slice A l.length cap, .slice A' ks.length cap'] 26)).alloc (.cells #[.int .i64 k, .string t, .slice D l.length dap, .slice D' ks.length dap'] 26) = W0 at *
      refine hsl.mono ?_
      rintro e w1 ⟨rfl, hb1⟩
      have hb2 : Below w.heap.size w w1 := hb.trans (hb1.mono hb.size)
      have hB1' := (hb1.block _ (blk_lt hB1)).trans hB1
      have hB2' := (hb1.block _ (blk_lt hB2)).trans hB2
      have q3 : w1.cell? ⟨w.heap.size, 3, none⟩ = some (.slice A' ks.length cap') := by rw [cell_of_row _ _ _ _ _ _ hB1']; rfl
      have r3 : w1.cell? ⟨w.heap.size + 1, 3, none⟩ = some (.slice D' ks.length dap') := by rw [cell_of_row _ _ _ _ _ _ hB2']; rfl
      have hpc := HPl.out w1 hb2
      clear hsl hb1 hB1 hB2 hB1' hB2' HPl
      go_wp2_with fail
      refine hpc.mono ?_
      rintro e w2 ⟨rfl, n, rfl⟩
      go_wp2
      go_ret
      exact ⟨rfl, hb2.os, hb2.tape, hb2.output, hb2.size, hb2.block⟩
theorem zsame_json : ∀ (n : Nat) (t : Z), SizeOf.sizeOf t < n → zn t ≤ 1000000 → ZSame t
  | 0, _, h, _ => by omega
  | n + 1, .mk k t l ks, h, hf => by
    rw [zn] at hf
    have hln := znL_len l
    refine zsame_step k t l ks (by omega) (by omega) (fun x hx => zsame_json n x ?_ (by have := znL_mem hx; omega))
    have := List.sizeOf_lt_of_mem hx
    simp only [Z.mk.sizeOf_spec] at h
    omega
theorem zsame_any {t : Z} (hf : zn t ≤ 1000000) : ZSame t := zsame_json (SizeOf.sizeOf t + 1) t (by omega) hf
end Go.Proofs.YtjcnjaebmndeiaaDoor
