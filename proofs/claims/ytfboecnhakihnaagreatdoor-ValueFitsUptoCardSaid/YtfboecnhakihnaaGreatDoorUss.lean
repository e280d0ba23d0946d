/-
  'couranthelp.Value' of two values that are one: true.
  'couranthelp.Plain' of two rows of the same numbers; 'Walk': a function value over a copy.
-/
import Derived.Test.YtfboecnhakihnaaGreatDoorUfl
namespace Go.Proofs.YtfboecnhakihnaaGreatDoor
open Go.RowKit Go.Shelf

def SlS (w : World) (A : Option Addr) (ks : List ByteArray) : Prop :=
  0 < ks.length → ∃ g off, A = some ⟨g, off, none⟩ ∧ ∀ i s, ks[i]? = some s → w.cell? ⟨g, off + i, none⟩ = some (.string s)
theorem quiet_same {f : FuncId} {args : Array Value} {w : World} {v : Value} (h : ∀ n, Calls Tryz.prog f args (w.drewN n) fun e w' => e = .returned v ∧ w' = w.drewN n) (n : Nat) : Calls Tryz.prog f args (w.drewN n) fun e w'' => e = .returned v ∧ ∃ m, w'' = w.drewN m :=
  Calls.quiet_of_same (h n)
set_option maxHeartbeats 400000 in
theorem eq_strs (x : ByteArray) (w : World) : Calls Tryz.prog 72 #[.string x, .string x] w fun e w' => e = .returned (.bool true) ∧ w' = w := by
  go_enter Tryz.func72, Tryz.ntmps72
  go_wp2
  go_ret
  exact ⟨rfl, rfl⟩
set_option maxHeartbeats 400000 in
theorem same_strs (A A' : Option Addr) (ks : List ByteArray) (cap cap' : Nat) (w : World) (hb : ks.length ≤ 1000000) (h : SlS w A ks) (h' : SlS w A' ks) :
    Calls Tryz.prog 71 #[.slice A ks.length cap, .slice A' ks.length cap', .func (.func 72) #[] #[]] w fun e w' => e = .returned (.bool true) ∧ ∃ n, w' = w.drewN n := by
  by_cases h0 : ks = []
  · subst h0
    go_enter Tryz.func71, Tryz.ntmps71
    go_wp2
    go_loopg [7] 0 (fun g i wr => i = .int .i64 0 ∧ w = wr)
    case atStart => exact ⟨rfl, rfl⟩
    case round =>
      obtain ⟨rfl, rfl⟩ := hrel
      go_wp2
      go_ret
      exact ⟨rfl, 0, rfl⟩
  · have hpos : 0 < ks.length := List.length_pos_iff.2 h0
    obtain ⟨g, off, rfl, hc⟩ := h hpos
    obtain ⟨g', off', rfl, hc'⟩ := h' hpos
    have HC := Lib.hid hc
    have HC' := Lib.hid hc'
    clear hc hc' h0
    go_enter Tryz.func71, Tryz.ntmps71
    go_wp2
    go_loopg [7] ks.length (fun g i wr => ∃ k n : Nat, k + g = ks.length ∧ i = .int .i64 k ∧ w.drewN n = wr)
    case atStart => exact ⟨0, 0, by omega, rfl, rfl⟩
    case round =>
      obtain ⟨k, n, hk, rfl, hW⟩ := hrel
      have HW := Lib.hid hW
      by_cases hlt : k < ks.length
      · obtain ⟨s, hs⟩ : ∃ s, ks[k]? = some s := ⟨_, List.getElem?_eq_getElem hlt⟩
        have hcell : wr.cell? ⟨g, off + k, none⟩ = some (.string s) := by rw [← hW]; exact HC.out k s hs
        have hcell' : wr.cell? ⟨g', off' + k, none⟩ = some (.string s) := by rw [← hW]; exact HC'.out k s hs
        have hki : (k : Int) < (ks.length : Int) := by omega
        have heq := fun n : Nat => eq_strs s (wr.drewN n)
        have HE := Lib.hid heq
        clear hs hW heq
        go_wp2
        go_quiet ((go_at_call 72; exact quiet_same (fun n => HE.out n) _))
        go_wp2
        go_roundg (ks.length - (k + 1))
        case measure => omega
        case rel => exact ⟨k + 1, n + nq, by omega, by go_num, by rw [← HW.out]; simp⟩
      · clear hW
        go_wp2
        go_ret
        exact ⟨rfl, n, HW.out.symm⟩
set_option maxHeartbeats 400000 in
theorem plain_strs (A A' : Option Addr) (ks : List ByteArray) (cap cap' : Nat) (w : World) (hb : ks.length ≤ 1000000) (h : SlS w A ks) (h' : SlS w A' ks) :
    Calls Tryz.prog 42 #[.slice A ks.length cap, .slice A' ks.length cap'] w fun e w' => e = .returned (.bool true) ∧ ∃ n, w' = w.drewN n := by
  have hs := same_strs A A' ks cap cap' w hb h h'
  go_enter Tryz.func42, Tryz.ntmps42
  go_wp2_with fail
  refine hs.mono ?_
  rintro e w' ⟨rfl, n, rfl⟩
  go_wp2
  go_ret
  exact ⟨rfl, n, rfl⟩
set_option maxHeartbeats 400000 in
theorem bytes_same (B : Nat) (A A' : Option Addr) (n n' c c' : Nat) (xs : List Int) (w : World) (hr : Rd w B A n c xs) (hr' : Rd w B A' n' c' xs) :
    Calls Tryz.prog 41 #[.slice A n c, .slice A' n' c'] w fun e w' => e = .returned (.bool true) ∧ w = w' := by
  have k1 := run_string_rd (P := Tryz.prog) w 25 5 9 Tryz.underlying25 Tryz.underlying5 Tryz.underlying9 B A n c xs hr
  have k2 := run_string_rd (P := Tryz.prog) w 25 5 9 Tryz.underlying25 Tryz.underlying5 Tryz.underlying9 B A' n' c' xs hr'
  go_enter Tryz.func41, Tryz.ntmps41
  go_wp2
  go_ret
  exact ⟨rfl, rfl⟩

/-- Two values in memory that are t are told alike. -/
def USame (t : U) : Prop := ∀ (w : World) (ok ok' : Nat → Prop) (v0 v1 v2 v3 v4 u0 u1 u2 u3 u4 : Value), UIn w ok t v0 v1 v2 v3 v4 → UIn w ok' t u0 u1 u2 u3 u4 →
  Calls Tryz.prog 19 #[.agg #[v0, v1, v2, v3, v4], .agg #[u0, u1, u2, u3, u4]] w fun e w' => e = .returned (.bool true) ∧ Below w.heap.size w w'
set_option maxHeartbeats 1000000 in
set_option maxRecDepth 100000 in
theorem usame_list (l : List U) (hl : l.length ≤ 1000000) (hs : ∀ t, t ∈ l → USame t) (A A' : Option Addr) (cap cap' : Nat) (c c' : Nat → Nat → Value) (ok ok' : Nat → Prop) (w : World)
    (hL : 0 < l.length → ∃ g off, A = some ⟨g, off, none⟩ ∧ ok g ∧ ∀ i j, i < l.length → j < 5 → w.cell? ⟨g, off + (5 * i + j), none⟩ = some (c i j))
    (hE : ∀ i t', l[i]? = some t' → UIn w ok t' (c i 0) (c i 1) (c i 2) (c i 3) (c i 4))
    (hL' : 0 < l.length → ∃ g off, A' = some ⟨g, off, none⟩ ∧ ok' g ∧ ∀ i j, i < l.length → j < 5 → w.cell? ⟨g, off + (5 * i + j), none⟩ = some (c' i j))
    (hE' : ∀ i t', l[i]? = some t' → UIn w ok' t' (c' i 0) (c' i 1) (c' i 2) (c' i 3) (c' i 4)) :
    Calls Tryz.prog 25 #[.slice A l.length cap, .slice A' l.length cap', .func (.func 19) #[] #[]] w fun e w' => e = .returned (.bool true) ∧ Below w.heap.size w w' := by
  by_cases h0 : l = []
  · subst h0
    go_enter Tryz.func25, Tryz.ntmps25
    go_wp2
    go_loopg [7] 0 (fun g i wr => i = .int .i64 0 ∧ w = wr)
    case atStart => exact ⟨rfl, rfl⟩
    case round =>
      obtain ⟨rfl, rfl⟩ := hrel
      go_wp2
      go_ret
      exact ⟨rfl, Below.refl _ _⟩
  · have hpos : 0 < l.length := List.length_pos_iff.2 h0
    obtain ⟨g, off, rfl, _, hc⟩ := hL hpos
    obtain ⟨g', off', rfl, _, hc'⟩ := hL' hpos
    have HC := Lib.hid hc
    have HC' := Lib.hid hc'
    have HE := Lib.hid hE
    have HE' := Lib.hid hE'
    have HS := Lib.hid hs
    clear hc hc' h0 hE hE' hs hL hL'
    go_enter Tryz.func25, Tryz.ntmps25
    go_wp2
    go_loopg [7] l.length (fun g i wr => ∃ k : Nat, k + g = l.length ∧ i = .int .i64 k ∧ Below w.heap.size w wr)
    case atStart => exact ⟨0, by omega, rfl, Below.refl _ _⟩
    case round =>
      obtain ⟨k, hk, rfl, hb⟩ := hrel
      by_cases hlt : k < l.length
      · obtain ⟨t, ht⟩ : ∃ t, l[k]? = some t := ⟨_, List.getElem?_eq_getElem hlt⟩
        have hki : (k : Int) < (l.length : Int) := by omega
        have hf := below_fr0 hb
        have hj := (HE.out k t ht).fr hf (fun _ _ => trivial)
        have hj' := (HE'.out k t ht).fr hf (fun _ _ => trivial)
        have x0 : wr.cell? ⟨g, off + k * 5, none⟩ = some (c k 0) := by have := hf.cell (HC.out k 0 hlt (by omega)) trivial; rwa [show off + (5 * k + 0) = off + k * 5 by omega] at this
        have x1 : wr.cell? ⟨g, off + k * 5 + 1, none⟩ = some (c k 1) := by have := hf.cell (HC.out k 1 hlt (by omega)) trivial; rwa [show off + (5 * k + 1) = off + k * 5 + 1 by omega] at this
        have x2 : wr.cell? ⟨g, off + k * 5 + 2, none⟩ = some (c k 2) := by have := hf.cell (HC.out k 2 hlt (by omega)) trivial; rwa [show off + (5 * k + 2) = off + k * 5 + 2 by omega] at this
        have x3 : wr.cell? ⟨g, off + k * 5 + 3, none⟩ = some (c k 3) := by have := hf.cell (HC.out k 3 hlt (by omega)) trivial; rwa [show off + (5 * k + 3) = off + k * 5 + 3 by omega] at this
        have x4 : wr.cell? ⟨g, off + k * 5 + 4, none⟩ = some (c k 4) := by have := hf.cell (HC.out k 4 hlt (by omega)) trivial; rwa [show off + (5 * k + 4) = off + k * 5 + 4 by omega] at this
        have z0 : wr.cell? ⟨g', off' + k * 5, none⟩ = some (c' k 0) := by have := hf.cell (HC'.out k 0 hlt (by omega)) trivial; rwa [show off' + (5 * k + 0) = off' + k * 5 by omega] at this
        have z1 : wr.cell? ⟨g', off' + k * 5 + 1, none⟩ = some (c' k 1) := by have := hf.cell (HC'.out k 1 hlt (by omega)) trivial; rwa [show off' + (5 * k + 1) = off' + k * 5 + 1 by omega] at this
        have z2 : wr.cell? ⟨g', off' + k * 5 + 2, none⟩ = some (c' k 2) := by have := hf.cell (HC'.out k 2 hlt (by omega)) trivial; rwa [show off' + (5 * k + 2) = off' + k * 5 + 2 by omega] at this
        have z3 : wr.cell? ⟨g', off' + k * 5 + 3, none⟩ = some (c' k 3) := by have := hf.cell (HC'.out k 3 hlt (by omega)) trivial; rwa [show off' + (5 * k + 3) = off' + k * 5 + 3 by omega] at this
        have z4 : wr.cell? ⟨g', off' + k * 5 + 4, none⟩ = some (c' k 4) := by have := hf.cell (HC'.out k 4 hlt (by omega)) trivial; rwa [show off' + (5 * k + 4) = off' + k * 5 + 4 by omega] at this
        have hcall := fun n : Nat => HS.out t (List.mem_of_getElem? ht) (wr.drewN n) _ _ _ _ _ _ _ _ _ _ _ _ (hj.fr ((Fr.refl wr (fun _ => True)).drewN n) (fun _ _ => trivial)) (hj'.fr ((Fr.refl wr (fun _ => True)).drewN n) (fun _ _ => trivial))
        have HCa := Lib.hid hcall
        clear ht hj hj' hcall hf
        generalize c k 0 = a0 at *
        generalize c k 1 = a1 at *
        generalize c k 2 = a2 at *
        generalize c k 3 = a3 at *
        generalize c k 4 = a4 at *
        generalize c' k 0 = b0 at *
        generalize c' k 1 = b1 at *
        generalize c' k 2 = b2 at *
        generalize c' k 3 = b3 at *
        generalize c' k 4 = b4 at *
        go_wp2
        go_still_tail 9, (by kernel_rfl)
        go_wp2_with fail
        refine (HCa.out 1).mono ?_
        rintro e w3 ⟨rfl, hb3⟩
        have hb4 : Below w.heap.size w w3 := hb.trans (Below.mono (⟨hb3.os, hb3.tape, hb3.output, hb3.size, hb3.block⟩ : Below wr.heap.size wr w3) hb.size)
        clear x0 x1 x2 x3 x4 z0 z1 z2 z3 z4 HCa hb3
        go_wp2
        go_roundg (l.length - (k + 1))
        case measure => omega
        case rel => exact ⟨k + 1, by omega, by go_num, hb4⟩
      · go_wp2
        go_ret
        exact ⟨rfl, hb⟩

set_option maxHeartbeats 1000000 in
set_option maxRecDepth 100000 in
theorem usame_step (k n : Int) (b : List Int) (l : List U) (ks : List ByteArray) (hl : l.length ≤ 1000000) (hk : ks.length ≤ 1000000) (hs : ∀ x, x ∈ l → USame x) : USame (.mk k n b l ks) := by
  intro w ok ok' v0 v1 v2 v3 v4 u0 u1 u2 u3 u4 h h'
  cases h with
  | mk _ _ _ _ _ B A A' capb cap cap' c hk0 hn0 hby0 hs0 hcapb hcap hcap' hB hL hK hE =>
    cases h' with
    | mk _ _ _ _ _ E D D' dapb dap dap' d hk1 hn1 hby1 hs1 hdapb hdap hdap' hB' hL' hK' hE' =>
      have hb : Below w.heap.size w ((w.alloc (.cells #[.int .i64 k, .int .i64 n, .slice B b.length capb, .slice A l.length cap, .slice A' ks.length cap'] 29)).alloc (.cells #[.int .i64 k, .int .i64 n, .slice E b.length dapb, .slice D l.length dap, .slice D' ks.length dap'] 29)) := ((Below.refl _ _).alloc (Nat.le_refl _) _).alloc (by simp) _
      have hf := below_fr0 hb
      have hsl : ∀ W, Below w.heap.size w W → Calls Tryz.prog 25 #[.slice A l.length cap, .slice D l.length dap, .func (.func 19) #[] #[]] W fun e w' => e = .returned (.bool true) ∧ Below W.heap.size W w' := fun W hW => by
        have hf := below_fr0 hW
        exact usame_list l hl hs A D cap dap c d ok ok' W
          (fun hp => by obtain ⟨g, off, e, ho, hc⟩ := hL hp; exact ⟨g, off, e, ho, fun i j hi hj => hf.cell (hc i j hi hj) trivial⟩) (fun i x hx => (hE i x hx).fr hf (fun _ _ => trivial))
          (fun hp => by obtain ⟨g, off, e, ho, hc⟩ := hL' hp; exact ⟨g, off, e, ho, fun i j hi hj => hf.cell (hc i j hi hj) trivial⟩) (fun i x hx => (hE' i x hx).fr hf (fun _ _ => trivial))
      have hrd : ∀ {V : Addr → Prop} {Ba : Option Addr} {cp : Nat} {okk : Nat → Prop}, (b.length ≤ cp ∧ cp ≤ maxLen) → (0 < b.length → ∃ g off, Ba = some ⟨g, off, none⟩ ∧ okk g ∧ ∀ i x, b[i]? = some x → w.cell? ⟨g, off + i, none⟩ = some (.int .u8 x)) → ∀ W, Below w.heap.size w W → Rd W W.heap.size Ba b.length cp b := fun hcp hBB W hW =>
        ⟨rfl, hcp.1, hcp.2, hby0, fun hp => by
          obtain ⟨g, off, e, _, hc⟩ := hBB hp
          have h1 := World.block_lt_of_cell? w _ (hc 0 _ (List.getElem?_eq_getElem hp))
          exact ⟨g, off, e, Nat.lt_of_lt_of_le h1 hW.size, fun j u hu => (below_fr0 hW).cell (hc j u hu) trivial⟩⟩
      have hrb : ∀ W, Below w.heap.size w W → Calls Tryz.prog 41 #[.slice B b.length capb, .slice E b.length dapb] W fun e w' => e = .returned (.bool true) ∧ W = w' := fun W hW =>
        bytes_same W.heap.size B E b.length b.length capb dapb b W (hrd (V := fun _ => True) hcapb hB W hW) (hrd (V := fun _ => True) hdapb hB' W hW)
      have hkk : SlS w A' ks := fun hp => by obtain ⟨g, off, e, _, hc⟩ := hK hp; exact ⟨g, off, e, hc⟩
      have hkk' : SlS w D' ks := fun hp => by obtain ⟨g, off, e, _, hc⟩ := hK' hp; exact ⟨g, off, e, hc⟩
      have hpl : ∀ W, Below w.heap.size w W → Calls Tryz.prog 42 #[.slice A' ks.length cap', .slice D' ks.length dap'] W fun e w' => e = .returned (.bool true) ∧ ∃ n, w' = W.drewN n := fun W hW => by
        have hf := below_fr0 hW
        exact plain_strs A' D' ks cap' dap' W hk (fun hp => by obtain ⟨g, off, e, hc⟩ := hkk hp; exact ⟨g, off, e, fun i s hi => hf.cell (hc i s hi) trivial⟩) (fun hp => by obtain ⟨g, off, e, hc⟩ := hkk' hp; exact ⟨g, off, e, fun i s hi => hf.cell (hc i s hi) trivial⟩)
      have HPl := Lib.hid hpl
      have HSl := Lib.hid hsl
      have HRb := Lib.hid hrb
      have hB1 : ((w.alloc (.cells #[.int .i64 k, .int .i64 n, .slice B b.length capb, .slice A l.length cap, .slice A' ks.length cap'] 29)).alloc (.cells #[.int .i64 k, .int .i64 n, .slice E b.length dapb, .slice D l.length dap, .slice D' ks.length dap'] 29)).heap[w.heap.size]? = some (.cells #[.int .i64 k, .int .i64 n, .slice B b.length capb, .slice A l.length cap, .slice A' ks.length cap'] 29 (0, 0)) := old_at _ (new_at rfl _)
      have hB2 : ((w.alloc (.cells #[.int .i64 k, .int .i64 n, .slice B b.length capb, .slice A l.length cap, .slice A' ks.length cap'] 29)).alloc (.cells #[.int .i64 k, .int .i64 n, .slice E b.length dapb, .slice D l.length dap, .slice D' ks.length dap'] 29)).heap[w.heap.size + 1]? = some (.cells #[.int .i64 k, .int .i64 n, .slice E b.length dapb, .slice D l.length dap, .slice D' ks.length dap'] 29 (0, 0)) := new_at (by simp) _
      clear hk0 hn0 hby0 hs0 hk1 hn1 hby1 hs1 hB hL hK hE hB' hL' hK' hE' hf hkk hkk' hpl hs hsl hrb hrd
      go_enter Tryz.func19, Tryz.ntmps19
      go_wp2_with fail
      generalize ((w.alloc (.cells #[.int .i64 k, .int .i64 n, .slice B b.length capb, .slice A l.length cap, .slice A' ks.length cap'] 29)).alloc (.cells #[.int .i64 k, .int .i64 n, .slice E b.length dapb, .slice D l.length dap, .slice D' ks.length dap'] 29)) = W0 at *
      refine (HRb.out W0 hb).mono ?_
      rintro e w1 ⟨rfl, hw1⟩
      subst hw1
      obtain ⟨p0, p1, p2, p3, p4⟩ := cells_5 hB1
      obtain ⟨q0, q1, q2, q3, q4⟩ := cells_5 hB2
      have hsc := HSl.out _ hb
      clear p0 p1 p2 p4 q0 q1 q2 q4 HRb HSl
      go_wp2_with fail
      refine hsc.mono ?_
      rintro e w1 ⟨rfl, hb1⟩
      have hb2 : Below w.heap.size w w1 := hb.trans (hb1.mono hb.size)
      have hB1' := (hb1.block _ (blk_lt hB1)).trans hB1
      have hB2' := (hb1.block _ (blk_lt hB2)).trans hB2
      have q3 : w1.cell? ⟨w.heap.size, 4, none⟩ = some (.slice A' ks.length cap') := (cells_5 hB1').2.2.2.2
      have r3 : w1.cell? ⟨w.heap.size + 1, 4, none⟩ = some (.slice D' ks.length dap') := (cells_5 hB2').2.2.2.2
      have hpc := HPl.out w1 hb2
      clear hsc hb1 hB1 hB2 hB1' hB2' HPl
      go_wp2_with fail
      refine hpc.mono ?_
      rintro e w2 ⟨rfl, n, rfl⟩
      go_wp2
      go_ret
      exact ⟨rfl, hb2.os, hb2.tape, hb2.output, hb2.size, hb2.block⟩
theorem usame_json : ∀ (n : Nat) (t : U), SizeOf.sizeOf t < n → un t ≤ 1000000 → USame t
  | 0, _, h, _ => by omega
  | n + 1, .mk k m b l ks, h, hf => by
    rw [un] at hf
    have hln := unL_len l
    refine usame_step k m b l ks (by omega) (by omega) (fun x hx => usame_json n x ?_ (by have := unL_mem hx; omega))
    have := List.sizeOf_lt_of_mem hx
    simp only [U.mk.sizeOf_spec] at h
    omega
theorem usame_any {t : U} (hf : un t ≤ 1000000) : USame t := usame_json (SizeOf.sizeOf t + 1) t (by omega) hf
end Go.Proofs.YtfboecnhakihnaaGreatDoor

namespace Go.Proofs.YtfboecnhakihnaaGreatDoor
open Go.RowKit Go.Shelf

/-- A row of numbers in memory. -/
def SlI (w : World) (A : Option Addr) (xs : List Int) : Prop := 0 < xs.length → ∃ g off, A = some ⟨g, off, none⟩ ∧ ∀ i u, xs[i]? = some u → w.cell? ⟨g, off + i, none⟩ = some (.int .i64 u)
set_option maxHeartbeats 400000 in
theorem eq_ints (x : Int) (w : World) : Calls Tryz.prog 51 #[.int .i64 x, .int .i64 x] w fun e w' => e = .returned (.bool true) ∧ w' = w := by
  go_enter Tryz.func51, Tryz.ntmps51
  go_wp2
  go_ret
  exact ⟨rfl, rfl⟩
set_option maxHeartbeats 400000 in
theorem same_ints (A A' : Option Addr) (ks : List Int) (cap cap' : Nat) (w : World) (hb : ks.length ≤ 1000000) (h : SlI w A ks) (h' : SlI w A' ks) :
    Calls Tryz.prog 50 #[.slice A ks.length cap, .slice A' ks.length cap', .func (.func 51) #[] #[]] w fun e w' => e = .returned (.bool true) ∧ ∃ n, w' = w.drewN n := by
  by_cases h0 : ks = []
  · subst h0
    go_enter Tryz.func50, Tryz.ntmps50
    go_wp2
    go_loopg [7] 0 (fun g i wr => i = .int .i64 0 ∧ w = wr)
    case atStart => exact ⟨rfl, rfl⟩
    case round =>
      obtain ⟨rfl, rfl⟩ := hrel
      go_wp2
      go_ret
      exact ⟨rfl, 0, rfl⟩
  · have hpos : 0 < ks.length := List.length_pos_iff.2 h0
    obtain ⟨g, off, rfl, hc⟩ := h hpos
    obtain ⟨g', off', rfl, hc'⟩ := h' hpos
    have HC := Lib.hid hc
    have HC' := Lib.hid hc'
    clear hc hc' h0
    go_enter Tryz.func50, Tryz.ntmps50
    go_wp2
    go_loopg [7] ks.length (fun g i wr => ∃ k n : Nat, k + g = ks.length ∧ i = .int .i64 k ∧ w.drewN n = wr)
    case atStart => exact ⟨0, 0, by omega, rfl, rfl⟩
    case round =>
      obtain ⟨k, n, hk, rfl, hW⟩ := hrel
      have HW := Lib.hid hW
      by_cases hlt : k < ks.length
      · obtain ⟨s, hs⟩ : ∃ s, ks[k]? = some s := ⟨_, List.getElem?_eq_getElem hlt⟩
        have hcell : wr.cell? ⟨g, off + k, none⟩ = some (.int .i64 s) := by rw [← hW]; exact HC.out k s hs
        have hcell' : wr.cell? ⟨g', off' + k, none⟩ = some (.int .i64 s) := by rw [← hW]; exact HC'.out k s hs
        have hki : (k : Int) < (ks.length : Int) := by omega
        have heq := fun n : Nat => eq_ints s (wr.drewN n)
        have HE := Lib.hid heq
        clear hs hW heq
        go_wp2
        go_quiet ((go_at_call 51; exact quiet_same (fun n => HE.out n) _))
        go_wp2
        go_roundg (ks.length - (k + 1))
        case measure => omega
        case rel => exact ⟨k + 1, n + nq, by omega, by go_num, by rw [← HW.out]; simp⟩
      · clear hW
        go_wp2
        go_ret
        exact ⟨rfl, n, HW.out.symm⟩
set_option maxHeartbeats 400000 in
theorem plain_ints (A A' : Option Addr) (ks : List Int) (cap cap' : Nat) (w : World) (hb : ks.length ≤ 1000000) (h : SlI w A ks) (h' : SlI w A' ks) :
    Calls Tryz.prog 24 #[.slice A ks.length cap, .slice A' ks.length cap'] w fun e w' => e = .returned (.bool true) ∧ ∃ n, w' = w.drewN n := by
  have hs := same_ints A A' ks cap cap' w hb h h'
  go_enter Tryz.func24, Tryz.ntmps24
  go_wp2_with fail
  refine hs.mono ?_
  rintro e w' ⟨rfl, n, rfl⟩
  go_wp2
  go_ret
  exact ⟨rfl, n, rfl⟩
/-- What 'Walk' tells: a function value over a box with a copy. -/
def WalkP (w : World) (z : U) (e : Ending) (w' : World) : Prop := ∃ (p : Nat) (d0 d1 d2 d3 d4 : Value), e = .returned (.func (.func 48) #[] #[.pointer (some ⟨p, 0, none⟩)]) ∧ w.heap.size ≤ p ∧ w'.heap[p]? = some (.cells #[d0, d1, d2, d3, d4] 29 (0, 0)) ∧ UIn w' (fun b => w.heap.size ≤ b) z d0 d1 d2 d3 d4 ∧ Below w.heap.size w w'
/-- The two calls of a copy. -/
theorem meas_u (z : U) (hc : uc z ≤ 100000) (ho : uo z ≤ 1000000) (hk : uk z ≤ 100000) (W : World) (v0 v1 v2 v3 v4 : Value) (hz : UIn W (fun b => b < W.heap.size) z v0 v1 v2 v3 v4) : Calls Tryz.prog 47 #[.agg #[v0, v1, v2, v3, v4]] W fun e w' => e = .returned (.agg #[.int .i64 (uc z : Nat), .int .i64 (uo z : Nat), .int .i64 (uk z : Nat)]) ∧ Below W.heap.size W w' := by
  obtain ⟨kids, hv⟩ := hz.vt
  exact measure_any (.mk z v0 v1 v2 v3 v4 kids) W hv hc ho hk
theorem copy_u (z : U) (hc : uc z ≤ 100000) (ho : uo z ≤ 1000000) (hk : uk z ≤ 100000) (W : World) (v0 v1 v2 v3 v4 : Value) (hz : UIn W (fun b => b < W.heap.size) z v0 v1 v2 v3 v4) : Calls Tryz.prog 46 #[.agg #[v0, v1, v2, v3, v4], .agg #[.int .i64 (uc z : Nat), .int .i64 (uo z : Nat), .int .i64 (uk z : Nat)]] W (CopyP W z) :=
  copied_any z W _ _ _ _ _ hz (uc z) (uo z) (uk z) rfl rfl rfl hc ho hk
set_option maxHeartbeats 1000000 in
set_option maxRecDepth 100000 in
theorem walk_any (z : U) (w : World) (v0 v1 v2 v3 v4 : Value) (hz : UIn w (fun b => b < w.heap.size) z v0 v1 v2 v3 v4) (hc : uc z ≤ 100000) (ho : uo z ≤ 1000000) (hk : uk z ≤ 100000) :
    Calls Tryz.prog 21 #[.agg #[v0, v1, v2, v3, v4]] w (WalkP w z) := by
  obtain ⟨kk, tt, Ykk, ykk, zkk, A0, n1, c1, A1, n2, c2, rfl, rfl, rfl, rfl, rfl⟩ := uin_agg hz
  have hin : ∀ W, Below w.heap.size w W → UIn W (fun b => b < W.heap.size) z (.int .i64 kk) (.int .i64 tt) (.slice Ykk ykk zkk) (.slice A0 n1 c1) (.slice A1 n2 c2) := fun W hW => (hz.fr (below_fr0 hW) (fun _ _ => trivial)).mono (fun b _ hb => Nat.lt_of_lt_of_le hb hW.size)
  have HM := Lib.hid (fun W hW => meas_u z hc ho hk W _ _ _ _ _ (hin W hW))
  have HC := Lib.hid (fun W hW => copy_u z hc ho hk W _ _ _ _ _ (hin W hW))
  clear hz hin
  go_enter Tryz.func21, Tryz.ntmps21
  go_wp2_with fail
  refine wp_region_any (by kernel_rfl) ?_
  change wpAny _ _ _ _ _ _ _ (World.drew _)
  have hW0 : Below w.heap.size w (w.alloc (.cells #[.int .i64 kk, .int .i64 tt, .slice Ykk ykk zkk, .slice A0 n1 c1, .slice A1 n2 c2] 29)) := (Below.refl _ _).alloc (Nat.le_refl _) _
  have hbx0 := heap_alloc_new w (.cells #[.int .i64 kk, .int .i64 tt, .slice Ykk ykk zkk, .slice A0 n1 c1, .slice A1 n2 c2] 29 (0, 0))
  have hs0 : (w.alloc (.cells #[.int .i64 kk, .int .i64 tt, .slice Ykk ykk zkk, .slice A0 n1 c1, .slice A1 n2 c2] 29)).heap.size = w.heap.size + 1 := by simp
  generalize (w.alloc (.cells #[.int .i64 kk, .int .i64 tt, .slice Ykk ykk zkk, .slice A0 n1 c1, .slice A1 n2 c2] 29)) = W0 at *
  have hbl : ∀ wx, Fr W0 wx (fun _ => True) → Below w.heap.size w wx := fun wx h => hW0.trans (⟨h.os, h.tape, h.output, h.size, fun k hk => h.block k (by omega) trivial⟩ : Below w.heap.size W0 wx)
  have HBL := Lib.hid hbl
  obtain ⟨q0, q1, q2, q3, q4⟩ := cells_5 hbx0
  clear hbl
  refine any_rel0 (R := (fun f L a wx => ∃ b0 b1 b2 b3 b4 b5 : Bool, ∃ (p : Nat) (d0 d1 d2 d3 d4 v7 : Value), L = #[b0, b1, b2, b3, b4, b5] ∧ f = bcnt b0 + bcnt b1 + bcnt b2 + bcnt b3 + bcnt b4 + bcnt b5 ∧ (b2 = true → b1 = true) ∧ (b3 = true → b0 = true ∧ b2 = true) ∧ (b5 = true → b3 = true ∧ b4 = true) ∧
      a = { tmps := #[.agg #[.int .i64 kk, .int .i64 tt, .slice Ykk ykk zkk, .slice A0 n1 c1, .slice A1 n2 c2], .pointer (some ⟨w.heap.size, 0, none⟩), .nilFunc, bsel b4 (.pointer (some ⟨p, 0, none⟩)), bsel b0 (.agg #[.int .i64 kk, .int .i64 tt, .slice Ykk ykk zkk, .slice A0 n1 c1, .slice A1 n2 c2]), bsel b1 (.agg #[.int .i64 kk, .int .i64 tt, .slice Ykk ykk zkk, .slice A0 n1 c1, .slice A1 n2 c2]), bsel b2 (.agg #[.int .i64 (uc z : Nat), .int .i64 (uo z : Nat), .int .i64 (uk z : Nat)]), v7, undef], defers := [] } ∧
      Fr W0 wx (fun _ => True) ∧ (b3 = false → v7 = undef) ∧ (b4 = true → W0.heap.size ≤ p) ∧ (b4 = true → b5 = false → wx.heap[p]? = some (.cells #[.int .i64 0, .int .i64 0, .slice none 0 0, .slice none 0 0, .slice none 0 0] 29 (0, 0))) ∧ (b3 = true → v7 = .agg #[d0, d1, d2, d3, d4] ∧ UIn wx (fun b => w.heap.size ≤ b ∧ (b4 = true → b ≠ p)) z d0 d1 d2 d3 d4) ∧ (b5 = true → wx.heap[p]? = some (.cells #[d0, d1, d2, d3, d4] 29 (0, 0))))) ?_ _ _ _ _ ?start
  case start => exact ⟨false, false, false, false, false, false, 0, undef, undef, undef, undef, undef, undef, rfl, rfl, by simp, by simp, by simp, rfl, (Fr.refl W0 _).drewN 1, fun _ => rfl, by simp, by simp, by simp, by simp⟩
  · rintro f L a w7 ⟨b0, b1, b2, b3, b4, b5, p, d0, d1, d2, d3, d4, v7, rfl, rfl, i2, i3, i5, rfl, hF, s3, p4, z4, u3, u5⟩
    refine ⟨fun h0 => ?_, fun i hi => ?_⟩
    · have hno := List.eq_nil_iff_forall_not_mem.1 h0
      obtain rfl : b0 = true := by cases b0 with | true => rfl | false => exact absurd (mem_ready.2 ⟨rfl, _, rfl, fun e he _ => by simp at he⟩) (hno 0)
      obtain rfl : b1 = true := by cases b1 with | true => rfl | false => exact absurd (mem_ready.2 ⟨rfl, _, rfl, fun e he _ => by simp at he⟩) (hno 1)
      obtain rfl : b2 = true := by cases b2 with | true => rfl | false => exact absurd (mem_ready.2 ⟨rfl, _, rfl, fun e he _ => by simp at he; rcases he with rfl; rfl⟩) (hno 2)
      obtain rfl : b3 = true := by cases b3 with | true => rfl | false => exact absurd (mem_ready.2 ⟨rfl, _, rfl, fun e he _ => by simp at he; rcases he with rfl | rfl | rfl <;> rfl⟩) (hno 3)
      obtain rfl : b4 = true := by cases b4 with | true => rfl | false => exact absurd (mem_ready.2 ⟨rfl, _, rfl, fun e he _ => by simp at he⟩) (hno 4)
      obtain rfl : b5 = true := by cases b5 with | true => rfl | false => exact absurd (mem_ready.2 ⟨rfl, _, rfl, fun e he _ => by simp at he; rcases he with rfl | rfl | rfl | rfl | rfl | rfl | rfl | rfl <;> rfl⟩) (hno 5)
      simp only [bsel, if_true]
      obtain ⟨rfl, hu⟩ := u3 rfl
      have hp := p4 rfl
      have HU := Lib.hid (hu.mono (ok' := fun b => w.heap.size ≤ b) (fun b _ hb => hb.1))
      have HP := Lib.hid (u5 rfl)
      have HB := Lib.hid (HBL.out w7 hF)
      clear hu u3 u5 z4 s3 p4 i2 i3 i5 hno h0
      go_wp2
      go_ret
      exact ⟨p, _, _, _, _, _, rfl, by omega, HP.out, HU.out, HB.out⟩
    obtain ⟨g0, o, ho, ha⟩ := mem_ready.1 hi
    match i, g0, o, ho, ha with
    | 0, g0, o, ho, ha =>
      obtain rfl : b0 = false := g0
      obtain rfl : b3 = false := by cases b3 with | false => rfl | true => exact (i3 rfl).1.symm
      obtain rfl := s3 rfl
      have hq := hF.cell q0 trivial
      have hq1 := hF.cell q1 trivial
      have hq2 := hF.cell q2 trivial
      have hq3 := hF.cell q3 trivial
      have hq4 := hF.cell q4 trivial
      refine ⟨bcnt true + bcnt b1 + bcnt b2 + bcnt false + bcnt b4 + bcnt b5, by have e0 : bcnt false = 1 := rfl; have e1 : bcnt true = 0 := rfl; omega, wpOp_step rfl fun K' hK => ?_⟩
      go_simp
      exact hK _ _ ⟨true, b1, b2, false, b4, b5, p, d0, d1, d2, d3, d4, undef, rfl, rfl, i2, by simp, i5, rfl, hF, s3, p4, z4, u3, u5⟩
    | 1, g0, o, ho, ha =>
      obtain rfl : b1 = false := g0
      obtain rfl : b2 = false := by cases b2 with | false => rfl | true => exact (i2 rfl).symm
      have hq := hF.cell q0 trivial
      have hq1 := hF.cell q1 trivial
      have hq2 := hF.cell q2 trivial
      have hq3 := hF.cell q3 trivial
      have hq4 := hF.cell q4 trivial
      refine ⟨bcnt b0 + bcnt true + bcnt false + bcnt b3 + bcnt b4 + bcnt b5, by have e0 : bcnt false = 1 := rfl; have e1 : bcnt true = 0 := rfl; omega, wpOp_step rfl fun K' hK => ?_⟩
      go_simp
      exact hK _ _ ⟨b0, true, false, b3, b4, b5, p, d0, d1, d2, d3, d4, v7, rfl, rfl, fun _ => rfl, i3, i5, rfl, hF, s3, p4, z4, u3, u5⟩
    | 2, g0, o, ho, ha =>
      obtain rfl : b2 = false := g0
      cases ho
      obtain rfl : b1 = true := ha ⟨1, .data⟩ (by simp) rfl
      obtain rfl : b3 = false := by cases b3 with | false => rfl | true => exact (i3 rfl).2.symm
      obtain rfl : b5 = false := by cases b5 with | false => rfl | true => exact (i5 rfl).1.symm
      obtain rfl := s3 rfl
      refine ⟨bcnt b0 + bcnt true + bcnt true + bcnt false + bcnt b4 + bcnt false, by have e0 : bcnt false = 1 := rfl; have e1 : bcnt true = 0 := rfl; omega, wpOp_step rfl fun K' hK => ?_⟩
      simp only [bsel]
      go_simp
      refine (HM.out w7 (HBL.out w7 hF)).mono ?_
      rintro e w8 ⟨rfl, hb8⟩
      have hf8 : Fr w7 w8 (fun _ => True) := below_fr0 hb8
      exact hK _ _ ⟨b0, true, true, false, b4, false, p, d0, d1, d2, d3, d4, undef, rfl, rfl, fun _ => rfl, by simp, by simp, rfl, hF.trans hf8, fun _ => rfl, p4, fun h h' => hf8.at (z4 h h') trivial, by simp, by simp⟩
    | 3, g0, o, ho, ha =>
      obtain rfl : b3 = false := g0
      cases ho
      obtain rfl : b0 = true := ha ⟨0, .data⟩ (by simp) rfl
      obtain rfl : b2 = true := ha ⟨2, .data⟩ (by simp) rfl
      obtain rfl : b1 = true := i2 rfl
      obtain rfl : b5 = false := by cases b5 with | false => rfl | true => exact (i5 rfl).1.symm
      obtain rfl := s3 rfl
      refine ⟨bcnt true + bcnt true + bcnt true + bcnt true + bcnt b4 + bcnt false, by have e0 : bcnt false = 1 := rfl; have e1 : bcnt true = 0 := rfl; omega, wpOp_step rfl fun K' hK => ?_⟩
      simp only [bsel]
      go_simp
      refine (HC.out w7 (HBL.out w7 hF)).mono ?_
      rintro e w8 ⟨c0, c1, c2, c3, c4, rfl, hu8, hb8⟩
      have hf8 : Fr w7 w8 (fun _ => True) := below_fr0 hb8
      have hws := (HBL.out w7 hF).size
      exact hK _ _ ⟨true, true, true, true, b4, false, p, c0, c1, c2, c3, c4, _, rfl, rfl, fun _ => rfl, fun _ => ⟨rfl, rfl⟩, by simp, rfl, hF.trans hf8, by simp, p4, fun h h' => hf8.at (z4 h h') trivial, fun _ => ⟨rfl, hu8.mono (fun b _ hb => ⟨by omega, fun h => by have := blk_lt (z4 h rfl); omega⟩)⟩, by simp⟩
    | 4, g0, o, ho, ha =>
      obtain rfl : b4 = false := g0
      obtain rfl : b5 = false := by cases b5 with | false => rfl | true => exact (i5 rfl).2.symm
      refine ⟨bcnt b0 + bcnt b1 + bcnt b2 + bcnt b3 + bcnt true + bcnt false, by have e0 : bcnt false = 1 := rfl; have e1 : bcnt true = 0 := rfl; omega, wpOp_step rfl fun K' hK => ?_⟩
      simp only [bsel]
      go_simp
      have hFa : Fr w7 (w7.alloc (.cells #[.int .i64 0, .int .i64 0, .slice none 0 0, .slice none 0 0, .slice none 0 0] 29)) (fun _ => True) := (Fr.refl w7 _).alloc _
      exact hK _ _ ⟨b0, b1, b2, b3, true, false, w7.heap.size, d0, d1, d2, d3, d4, v7, rfl, rfl, i2, i3, by simp, rfl, hF.trans hFa, s3, fun _ => hF.size, fun _ _ => heap_alloc_new w7 _, fun h => ⟨(u3 h).1, (((u3 h).2.mono (ok' := fun b => w.heap.size ≤ b ∧ b < w7.heap.size) (fun b hb h => ⟨h.1, hb⟩)).fr hFa (fun _ _ => trivial)).mono (fun b _ hb => ⟨hb.1, fun _ => by omega⟩)⟩, by simp⟩
    | 5, g0, o, ho, ha =>
      obtain rfl : b5 = false := g0
      cases ho
      obtain rfl : b4 = true := ha ⟨4, .data⟩ (by simp) rfl
      obtain rfl : b3 = true := ha ⟨3, .data⟩ (by simp) rfl
      obtain ⟨rfl, rfl⟩ := i3 rfl
      obtain rfl : b1 = true := i2 rfl
      obtain ⟨rfl, hu⟩ := u3 rfl
      obtain ⟨k9, t9, Yk9, yk9, zk9, A9, n9, c9, B9, m9, s9, rfl, rfl, rfl, rfl, rfl⟩ := uin_agg hu
      have hp := p4 rfl
      have hz := z4 rfl rfl
      obtain ⟨r0, r1, r2, r3, r4⟩ := cells_5 hz
      obtain ⟨f0, f1, f2, f3, f4⟩ := frozen_5 hz
      have hset := fr_set5 w7 p (.int .i64 k9) (.int .i64 t9) (.slice Yk9 yk9 zk9) (.slice A9 n9 c9) (.slice B9 m9 s9)
      have hc5 : (((((w7.setCell ⟨p, 0, none⟩ (.int .i64 k9)).setCell ⟨p, 1, none⟩ (.int .i64 t9)).setCell ⟨p, 2, none⟩ (.slice Yk9 yk9 zk9)).setCell ⟨p, 3, none⟩ (.slice A9 n9 c9)).setCell ⟨p, 4, none⟩ (.slice B9 m9 s9)).heap[p]? = some (.cells #[.int .i64 k9, .int .i64 t9, .slice Yk9 yk9 zk9, .slice A9 n9 c9, .slice B9 m9 s9] 29 (0, 0)) :=
        heap_setCell_same _ _ 4 _ _ _ (heap_setCell_same _ _ 3 _ _ _ (heap_setCell_same _ _ 2 _ _ _ (heap_setCell_same _ _ 1 _ _ _ (heap_setCell_same _ _ 0 _ _ _ hz))))
      have hF8 : Fr W0 (((((w7.setCell ⟨p, 0, none⟩ (.int .i64 k9)).setCell ⟨p, 1, none⟩ (.int .i64 t9)).setCell ⟨p, 2, none⟩ (.slice Yk9 yk9 zk9)).setCell ⟨p, 3, none⟩ (.slice A9 n9 c9)).setCell ⟨p, 4, none⟩ (.slice B9 m9 s9)) (fun _ => True) :=
        ⟨hset.os.trans hF.os, hset.tape.trans hF.tape, hset.output.trans hF.output, Nat.le_trans hF.size hset.size, fun b hb _ => (hset.block b (by have := hF.size; omega) (by omega)).trans (hF.block b hb trivial)⟩
      have hu8 := hu.fr hset (fun b hb => hb.2 rfl)
      have HU := Lib.hid hu8
      have HF8 := Lib.hid hF8
      have HC5 := Lib.hid hc5
      clear hu8 hF8 hc5 hset hu hF u3 u5 z4 s3 p4 hz
      refine ⟨bcnt true + bcnt true + bcnt true + bcnt true + bcnt true + bcnt true, by have e0 : bcnt false = 1 := rfl; have e1 : bcnt true = 0 := rfl; omega, wpOp_step rfl fun K' hK => ?_⟩
      simp only [bsel]
      go_simp
      exact hK _ _ ⟨true, true, true, true, true, true, p, _, _, _, _, _, _, rfl, rfl, fun _ => rfl, fun _ => ⟨rfl, rfl⟩, fun _ => ⟨rfl, rfl⟩, rfl, HF8.out, by simp, fun _ => hp, by simp, fun _ => ⟨rfl, HU.out⟩, fun _ => HC5.out⟩
    | k + 6, g0, o, ho, ha => exact absurd g0 (by simp)
end Go.Proofs.YtfboecnhakihnaaGreatDoor
