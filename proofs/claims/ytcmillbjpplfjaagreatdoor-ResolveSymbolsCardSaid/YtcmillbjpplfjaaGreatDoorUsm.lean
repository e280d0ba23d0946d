/-
  'couranthelp.Value' of two values that are one: true.
-/
import Derived.Test.YtcmillbjpplfjaaGreatDoorFsm
import Derived.Test.YtcmillbjpplfjaaGreatDoorZib
import Derived.Test.YtcmillbjpplfjaaGreatDoorGnl
namespace Go.Proofs.YtcmillbjpplfjaaGreatDoor
open Go.RowKit Go.Shelf

def SlS (w : World) (A : Option Addr) (ks : List ByteArray) : Prop :=
  0 < ks.length → ∃ g off, A = some ⟨g, off, none⟩ ∧ ∀ i s, ks[i]? = some s → w.cell? ⟨g, off + i, none⟩ = some (.string s)
set_option maxHeartbeats 400000 in
theorem eq_strs (x : ByteArray) (w : World) : Calls Tryz.prog 62 #[.string x, .string x] w fun e w' => e = .returned (.bool true) ∧ w' = w := by
  go_enter Tryz.func62, Tryz.ntmps62
  go_wp2
  go_ret
  exact ⟨rfl, rfl⟩
set_option maxHeartbeats 400000 in
theorem same_strs (A A' : Option Addr) (ks : List ByteArray) (cap cap' : Nat) (w : World) (hb : ks.length ≤ 1000000) (h : SlS w A ks) (h' : SlS w A' ks) :
    Calls Tryz.prog 61 #[.slice A ks.length cap, .slice A' ks.length cap', .func (.func 62) #[] #[]] w fun e w' => e = .returned (.bool true) ∧ ∃ n, w' = w.drewN n := by
  by_cases h0 : ks = []
  · subst h0
    go_enter Tryz.func61, Tryz.ntmps61
    go_wp2
    go_loopg [7] 0 (fun g i wr => i = .int .i64 0 ∧ w = wr)
    case atStart => exact ⟨rfl, rfl⟩
    case round =>
      obtain ⟨rfl, rfl⟩ := hrel
      go_wp2
      go_ret
      exact ⟨rfl, 0, rfl⟩
  · have hpos : 0 < ks.length := List.length_pos_iff.2 h0
    obtain ⟨g, off, rfl, hc⟩ := h hpos
    obtain ⟨g', off', rfl, hc'⟩ := h' hpos
    have HC := Lib.hid hc
    have HC' := Lib.hid hc'
    clear hc hc' h0
    go_enter Tryz.func61, Tryz.ntmps61
    go_wp2
    go_loopg [7] ks.length (fun g i wr => ∃ k n : Nat, k + g = ks.length ∧ i = .int .i64 k ∧ w.drewN n = wr)
    case atStart => exact ⟨0, 0, by omega, rfl, rfl⟩
    case round =>
      obtain ⟨k, n, hk, rfl, hW⟩ := hrel
      have HW := Lib.hid hW
      by_cases hlt : k < ks.length
      · obtain ⟨s, hs⟩ : ∃ s, ks[k]? = some s := ⟨_, List.getElem?_eq_getElem hlt⟩
        have hcell : wr.cell? ⟨g, off + k, none⟩ = some (.string s) := by rw [← hW]; exact HC.out k s hs
        have hcell' : wr.cell? ⟨g', off' + k, none⟩ = some (.string s) := by rw [← hW]; exact HC'.out k s hs
        have hki : (k : Int) < (ks.length : Int) := by omega
        have heq := fun n : Nat => eq_strs s (wr.drewN n)
        have HE := Lib.hid heq
        clear hs hW heq
        go_wp2
        go_quiet ((go_at_call 62; exact quiet_same (fun n => HE.out n) _))
        go_wp2
        go_roundg (ks.length - (k + 1))
        case measure => omega
        case rel => exact ⟨k + 1, n + nq, by omega, by go_num, by rw [← HW.out]; simp⟩
      · clear hW
        go_wp2
        go_ret
        exact ⟨rfl, n, HW.out.symm⟩
set_option maxHeartbeats 400000 in
theorem plain_strs (A A' : Option Addr) (ks : List ByteArray) (cap cap' : Nat) (w : World) (hb : ks.length ≤ 1000000) (h : SlS w A ks) (h' : SlS w A' ks) :
    Calls Tryz.prog 33 #[.slice A ks.length cap, .slice A' ks.length cap'] w fun e w' => e = .returned (.bool true) ∧ ∃ n, w' = w.drewN n := by
  have hs := same_strs A A' ks cap cap' w hb h h'
  go_enter Tryz.func33, Tryz.ntmps33
  go_wp2_with fail
  refine hs.mono ?_
  rintro e w' ⟨rfl, n, rfl⟩
  go_wp2
  go_ret
  exact ⟨rfl, n, rfl⟩
/-- Two values in memory that are t are told alike. -/
def USame (t : U) : Prop := ∀ (w : World) (ok ok' : Nat → Prop) (v0 v1 v2 v3 v4 u0 u1 u2 u3 u4 : Value), UIn w ok t v0 v1 v2 v3 v4 → UIn w ok' t u0 u1 u2 u3 u4 →
  Calls Tryz.prog 16 #[.agg #[v0, v1, v2, v3, v4], .agg #[u0, u1, u2, u3, u4]] w fun e w' => e = .returned (.bool true) ∧ Below w.heap.size w w'
set_option maxHeartbeats 1000000 in
set_option maxRecDepth 100000 in
theorem usame_list (l : List U) (hl : l.length ≤ 1000000) (hs : ∀ t, t ∈ l → USame t) (A A' : Option Addr) (cap cap' : Nat) (c c' : Nat → Nat → Value) (ok ok' : Nat → Prop) (w : World)
    (hL : 0 < l.length → ∃ g off, A = some ⟨g, off, none⟩ ∧ ok g ∧ ∀ i j, i < l.length → j < 5 → w.cell? ⟨g, off + (5 * i + j), none⟩ = some (c i j))
    (hE : ∀ i t', l[i]? = some t' → UIn w ok t' (c i 0) (c i 1) (c i 2) (c i 3) (c i 4))
    (hL' : 0 < l.length → ∃ g off, A' = some ⟨g, off, none⟩ ∧ ok' g ∧ ∀ i j, i < l.length → j < 5 → w.cell? ⟨g, off + (5 * i + j), none⟩ = some (c' i j))
    (hE' : ∀ i t', l[i]? = some t' → UIn w ok' t' (c' i 0) (c' i 1) (c' i 2) (c' i 3) (c' i 4)) :
    Calls Tryz.prog 32 #[.slice A l.length cap, .slice A' l.length cap', .func (.func 16) #[] #[]] w fun e w' => e = .returned (.bool true) ∧ Below w.heap.size w w' := by
  by_cases h0 : l = []
  · subst h0
    go_enter Tryz.func32, Tryz.ntmps32
    go_wp2
    go_loopg [7] 0 (fun g i wr => i = .int .i64 0 ∧ w = wr)
    case atStart => exact ⟨rfl, rfl⟩
    case round =>
      obtain ⟨rfl, rfl⟩ := hrel
      go_wp2
      go_ret
      exact ⟨rfl, Below.refl _ _⟩
  · have hpos : 0 < l.length := List.length_pos_iff.2 h0
    obtain ⟨g, off, rfl, _, hc⟩ := hL hpos
    obtain ⟨g', off', rfl, _, hc'⟩ := hL' hpos
    have HC := Lib.hid hc
    have HC' := Lib.hid hc'
    have HE := Lib.hid hE
    have HE' := Lib.hid hE'
    have HS := Lib.hid hs
    clear hc hc' h0 hE hE' hs hL hL'
    go_enter Tryz.func32, Tryz.ntmps32
    go_wp2
    go_loopg [7] l.length (fun g i wr => ∃ k : Nat, k + g = l.length ∧ i = .int .i64 k ∧ Below w.heap.size w wr)
    case atStart => exact ⟨0, by omega, rfl, Below.refl _ _⟩
    case round =>
      obtain ⟨k, hk, rfl, hb⟩ := hrel
      by_cases hlt : k < l.length
      · obtain ⟨t, ht⟩ : ∃ t, l[k]? = some t := ⟨_, List.getElem?_eq_getElem hlt⟩
        have hki : (k : Int) < (l.length : Int) := by omega
        have hf := below_fr0 hb
        have hj := (HE.out k t ht).fr hf (fun _ _ => trivial)
        have hj' := (HE'.out k t ht).fr hf (fun _ _ => trivial)
        have x0 : wr.cell? ⟨g, off + k * 5, none⟩ = some (c k 0) := by have := hf.cell (HC.out k 0 hlt (by omega)) trivial; rwa [show off + (5 * k + 0) = off + k * 5 by omega] at this
        have x1 : wr.cell? ⟨g, off + k * 5 + 1, none⟩ = some (c k 1) := by have := hf.cell (HC.out k 1 hlt (by omega)) trivial; rwa [show off + (5 * k + 1) = off + k * 5 + 1 by omega] at this
        have x2 : wr.cell? ⟨g, off + k * 5 + 2, none⟩ = some (c k 2) := by have := hf.cell (HC.out k 2 hlt (by omega)) trivial; rwa [show off + (5 * k + 2) = off + k * 5 + 2 by omega] at this
        have x3 : wr.cell? ⟨g, off + k * 5 + 3, none⟩ = some (c k 3) := by have := hf.cell (HC.out k 3 hlt (by omega)) trivial; rwa [show off + (5 * k + 3) = off + k * 5 + 3 by omega] at this
        have x4 : wr.cell? ⟨g, off + k * 5 + 4, none⟩ = some (c k 4) := by have := hf.cell (HC.out k 4 hlt (by omega)) trivial; rwa [show off + (5 * k + 4) = off + k * 5 + 4 by omega] at this
        have z0 : wr.cell? ⟨g', off' + k * 5, none⟩ = some (c' k 0) := by have := hf.cell (HC'.out k 0 hlt (by omega)) trivial; rwa [show off' + (5 * k + 0) = off' + k * 5 by omega] at this
        have z1 : wr.cell? ⟨g', off' + k * 5 + 1, none⟩ = some (c' k 1) := by have := hf.cell (HC'.out k 1 hlt (by omega)) trivial; rwa [show off' + (5 * k + 1) = off' + k * 5 + 1 by omega] at this
        have z2 : wr.cell? ⟨g', off' + k * 5 + 2, none⟩ = some (c' k 2) := by have := hf.cell (HC'.out k 2 hlt (by omega)) trivial; rwa [show off' + (5 * k + 2) = off' + k * 5 + 2 by omega] at this
        have z3 : wr.cell? ⟨g', off' + k * 5 + 3, none⟩ = some (c' k 3) := by have := hf.cell (HC'.out k 3 hlt (by omega)) trivial; rwa [show off' + (5 * k + 3) = off' + k * 5 + 3 by omega] at this
        have z4 : wr.cell? ⟨g', off' + k * 5 + 4, none⟩ = some (c' k 4) := by have := hf.cell (HC'.out k 4 hlt (by omega)) trivial; rwa [show off' + (5 * k + 4) = off' + k * 5 + 4 by omega] at this
        have hcall := fun n : Nat => HS.out t (List.mem_of_getElem? ht) (wr.drewN n) _ _ _ _ _ _ _ _ _ _ _ _ (hj.fr ((Fr.refl wr (fun _ => True)).drewN n) (fun _ _ => trivial)) (hj'.fr ((Fr.refl wr (fun _ => True)).drewN n) (fun _ _ => trivial))
        have HCa := Lib.hid hcall
        clear ht hj hj' hcall hf
        generalize c k 0 = a0 at *
        generalize c k 1 = a1 at *
        generalize c k 2 = a2 at *
        generalize c k 3 = a3 at *
        generalize c k 4 = a4 at *
        generalize c' k 0 = b0 at *
        generalize c' k 1 = b1 at *
        generalize c' k 2 = b2 at *
        generalize c' k 3 = b3 at *
        generalize c' k 4 = b4 at *
        go_wp2
        go_still_tail 9, (by kernel_rfl)
        go_wp2_with fail
        refine (HCa.out 1).mono ?_
        rintro e w3 ⟨rfl, hb3⟩
        have hb4 : Below w.heap.size w w3 := hb.trans (Below.mono (⟨hb3.os, hb3.tape, hb3.output, hb3.size, hb3.block⟩ : Below wr.heap.size wr w3) hb.size)
        clear x0 x1 x2 x3 x4 z0 z1 z2 z3 z4 HCa hb3
        go_wp2
        go_roundg (l.length - (k + 1))
        case measure => omega
        case rel => exact ⟨k + 1, by omega, by go_num, hb4⟩
      · go_wp2
        go_ret
        exact ⟨rfl, hb⟩

set_option maxHeartbeats 1000000 in
set_option maxRecDepth 100000 in
theorem usame_step (k n : Int) (b : List Int) (l : List U) (ks : List ByteArray) (hl : l.length ≤ 1000000) (hk : ks.length ≤ 1000000) (hs : ∀ x, x ∈ l → USame x) : USame (.mk k n b l ks) := by
  intro w ok ok' v0 v1 v2 v3 v4 u0 u1 u2 u3 u4 h h'
  cases h with
  | mk _ _ _ _ _ B A A' capb cap cap' c hk0 hn0 hby0 hs0 hcapb hcap hcap' hB hL hK hE =>
    cases h' with
    | mk _ _ _ _ _ E D D' dapb dap dap' d hk1 hn1 hby1 hs1 hdapb hdap hdap' hB' hL' hK' hE' =>
      have hb : Below w.heap.size w ((w.alloc (.cells #[.int .i64 k, .int .i64 n, .slice B b.length capb, .slice A l.length cap, .slice A' ks.length cap'] 26)).alloc (.cells #[.int .i64 k, .int .i64 n, .slice E b.length dapb, .slice D l.length dap, .slice D' ks.length dap'] 26)) := ((Below.refl _ _).alloc (Nat.le_refl _) _).alloc (by simp) _
      have hf := below_fr0 hb
      have hsl : ∀ W, Below w.heap.size w W → Calls Tryz.prog 32 #[.slice A l.length cap, .slice D l.length dap, .func (.func 16) #[] #[]] W fun e w' => e = .returned (.bool true) ∧ Below W.heap.size W w' := fun W hW => by
        have hf := below_fr0 hW
        exact usame_list l hl hs A D cap dap c d ok ok' W
          (fun hp => by obtain ⟨g, off, e, ho, hc⟩ := hL hp; exact ⟨g, off, e, ho, fun i j hi hj => hf.cell (hc i j hi hj) trivial⟩) (fun i x hx => (hE i x hx).fr hf (fun _ _ => trivial))
          (fun hp => by obtain ⟨g, off, e, ho, hc⟩ := hL' hp; exact ⟨g, off, e, ho, fun i j hi hj => hf.cell (hc i j hi hj) trivial⟩) (fun i x hx => (hE' i x hx).fr hf (fun _ _ => trivial))
      have hrd : ∀ {V : Addr → Prop} {Ba : Option Addr} {cp : Nat} {okk : Nat → Prop}, (b.length ≤ cp ∧ cp ≤ maxLen) → (0 < b.length → ∃ g off, Ba = some ⟨g, off, none⟩ ∧ okk g ∧ ∀ i x, b[i]? = some x → w.cell? ⟨g, off + i, none⟩ = some (.int .u8 x)) → ∀ W, Below w.heap.size w W → Rd W W.heap.size Ba b.length cp b := fun hcp hBB W hW =>
        ⟨rfl, hcp.1, hcp.2, hby0, fun hp => by
          obtain ⟨g, off, e, _, hc⟩ := hBB hp
          have h1 := World.block_lt_of_cell? w _ (hc 0 _ (List.getElem?_eq_getElem hp))
          exact ⟨g, off, e, Nat.lt_of_lt_of_le h1 hW.size, fun j u hu => (below_fr0 hW).cell (hc j u hu) trivial⟩⟩
      have hrb : ∀ W, Below w.heap.size w W → Calls Tryz.prog 31 #[.slice B b.length capb, .slice E b.length dapb] W fun e w' => e = .returned (.bool true) ∧ W = w' := fun W hW =>
        bytes_same W.heap.size B E b.length b.length capb dapb b W (hrd (V := fun _ => True) hcapb hB W hW) (hrd (V := fun _ => True) hdapb hB' W hW)
      have hkk : SlS w A' ks := fun hp => by obtain ⟨g, off, e, _, hc⟩ := hK hp; exact ⟨g, off, e, hc⟩
      have hkk' : SlS w D' ks := fun hp => by obtain ⟨g, off, e, _, hc⟩ := hK' hp; exact ⟨g, off, e, hc⟩
      have hpl : ∀ W, Below w.heap.size w W → Calls Tryz.prog 33 #[.slice A' ks.length cap', .slice D' ks.length dap'] W fun e w' => e = .returned (.bool true) ∧ ∃ n, w' = W.drewN n := fun W hW => by
        have hf := below_fr0 hW
        exact plain_strs A' D' ks cap' dap' W hk (fun hp => by obtain ⟨g, off, e, hc⟩ := hkk hp; exact ⟨g, off, e, fun i s hi => hf.cell (hc i s hi) trivial⟩) (fun hp => by obtain ⟨g, off, e, hc⟩ := hkk' hp; exact ⟨g, off, e, fun i s hi => hf.cell (hc i s hi) trivial⟩)
      have HPl := Lib.hid hpl
      have HSl := Lib.hid hsl
      have HRb := Lib.hid hrb
      have hB1 : ((w.alloc (.cells #[.int .i64 k, .int .i64 n, .slice B b.length capb, .slice A l.length cap, .slice A' ks.length cap'] 26)).alloc (.cells #[.int .i64 k, .int .i64 n, .slice E b.length dapb, .slice D l.length dap, .slice D' ks.length dap'] 26)).heap[w.heap.size]? = some (.cells #[.int .i64 k, .int .i64 n, .slice B b.length capb, .slice A l.length cap, .slice A' ks.length cap'] 26 (0, 0)) := old_at _ (new_at rfl _)
      have hB2 : ((w.alloc (.cells #[.int .i64 k, .int .i64 n, .slice B b.length capb, .slice A l.length cap, .slice A' ks.length cap'] 26)).alloc (.cells #[.int .i64 k, .int .i64 n, .slice E b.length dapb, .slice D l.length dap, .slice D' ks.length dap'] 26)).heap[w.heap.size + 1]? = some (.cells #[.int .i64 k, .int .i64 n, .slice E b.length dapb, .slice D l.length dap, .slice D' ks.length dap'] 26 (0, 0)) := new_at (by simp) _
      clear hk0 hn0 hby0 hs0 hk1 hn1 hby1 hs1 hB hL hK hE hB' hL' hK' hE' hf hkk hkk' hpl hs hsl hrb hrd
      go_enter Tryz.func16, Tryz.ntmps16
      go_wp2_with fail
      generalize ((w.alloc (.cells #[.int .i64 k, .int .i64 n, .slice B b.length capb, .slice A l.length cap, .slice A' ks.length cap'] 26)).alloc (.cells #[.int .i64 k, .int .i64 n, .slice E b.length dapb, .slice D l.length dap, .slice D' ks.length dap'] 26)) = W0 at *
      refine (HRb.out W0 hb).mono ?_
      rintro e w1 ⟨rfl, hw1⟩
      subst hw1
      obtain ⟨p0, p1, p2, p3, p4⟩ := cells_5 hB1
      obtain ⟨q0, q1, q2, q3, q4⟩ := cells_5 hB2
      have hsc := HSl.out _ hb
      clear p0 p1 p2 p4 q0 q1 q2 q4 HRb HSl
      go_wp2_with fail
      refine hsc.mono ?_
      rintro e w1 ⟨rfl, hb1⟩
      have hb2 : Below w.heap.size w w1 := hb.trans (hb1.mono hb.size)
      have hB1' := (hb1.block _ (blk_lt hB1)).trans hB1
      have hB2' := (hb1.block _ (blk_lt hB2)).trans hB2
      have q3 : w1.cell? ⟨w.heap.size, 4, none⟩ = some (.slice A' ks.length cap') := (cells_5 hB1').2.2.2.2
      have r3 : w1.cell? ⟨w.heap.size + 1, 4, none⟩ = some (.slice D' ks.length dap') := (cells_5 hB2').2.2.2.2
      have hpc := HPl.out w1 hb2
      clear hsc hb1 hB1 hB2 hB1' hB2' HPl
      go_wp2_with fail
      refine hpc.mono ?_
      rintro e w2 ⟨rfl, n, rfl⟩
      go_wp2
      go_ret
      exact ⟨rfl, hb2.os, hb2.tape, hb2.output, hb2.size, hb2.block⟩
theorem usame_json : ∀ (n : Nat) (t : U), SizeOf.sizeOf t < n → un t ≤ 1000000 → USame t
  | 0, _, h, _ => by omega
  | n + 1, .mk k m b l ks, h, hf => by
    rw [un] at hf
    have hln := unL_len l
    refine usame_step k m b l ks (by omega) (by omega) (fun x hx => usame_json n x ?_ (by have := unL_mem hx; omega))
    have := List.sizeOf_lt_of_mem hx
    simp only [U.mk.sizeOf_spec] at h
    omega
theorem usame_any {t : U} (hf : un t ≤ 1000000) : USame t := usame_json (SizeOf.sizeOf t + 1) t (by omega) hf
end Go.Proofs.YtcmillbjpplfjaaGreatDoor
