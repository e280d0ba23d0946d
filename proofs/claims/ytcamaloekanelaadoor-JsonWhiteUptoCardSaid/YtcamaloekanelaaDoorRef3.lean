/-
  The reference's reader: 'four', 'escaped'.
-/
import Derived.Test.YtcamaloekanelaaDoorRef2
namespace Go.Proofs.YtcamaloekanelaaDoor
open Go.RowKit

/-- What 'four' answers. -/
def FourPost (w : World) (p : Nat) (s : ByteArray) (er : Nat) (o : Option (Nat × Bs)) (e : Ending) (w' : World) : Prop :=
  match o with
  | some (v, r) => e = .returned (.int .i64 v) ∧ RStep w p s r er w'
  | none => e = .returned (.int .i64 (-1)) ∧ ∃ ys, RStep w p s ys er w'
def FRel (w : World) (p : Nat) (s : ByteArray) (er : Nat) (R : Option (Nat × Bs)) (g : Nat) (v i : Value) (wr : World) : Prop :=
  ∃ (j a : Nat) (ys : Bs), j + g = 4 ∧ i = .int .i64 j ∧ v = .int .i64 a ∧ a < 16 ^ j ∧ hexRun g a ys = R ∧ RStep w p s ys er wr
theorem pow16_le {j : Nat} (h : j ≤ 4) : 16 ^ j ≤ 65536 := Nat.pow_le_pow_right (by omega) h
theorem hexI_some {c : UInt8} {d : Nat} (h : hexD c = some d) : hexI c = d := by unfold hexI; rw [h]
theorem hexI_none {c : UInt8} (h : hexD c = none) : hexI c = -1 := by unfold hexI; rw [h]

set_option maxHeartbeats 1000000 in
theorem ref_four (p : Nat) (s : ByteArray) (xs : Bs) (er : Nat) (w : World) (h : RRd w p s xs er) :
    Calls Tryd.prog 91 #[.pointer (some ⟨p, 0, none⟩)] w (FourPost w p s er (hex4 xs)) := by
  rw [← hexRun_four]
  have hrel0 : FRel w p s er (hexRun 4 0 xs) 4 (.int .i64 0) (.int .i64 0) w := ⟨0, 0, xs, rfl, rfl, rfl, by decide, rfl, RStep.refl h⟩
  generalize hexRun 4 0 xs = R at *
  go_enter Tryd.func91, Tryd.ntmps91
  go_wp2
  go_loopg [3, 4] 4 (fun g v i wr => FRel w p s er R g v i wr)
  case atStart => exact hrel0
  case round =>
    obtain ⟨j, a, ys, hj, rfl, rfl, ha, hR, hst⟩ := hrel
    clear hrel0
    have HR := Lib.hid hR
    clear hR
    match gk, hj, HR with
    | 0, hj, HR =>
      have hj4 : ¬ ((j : Int) < 4) := by omega
      clear ha
      go_wp2
      go_ret
      show FourPost w p s er R _ _
      rw [← HR.out]
      exact ⟨rfl, hst⟩
    | g + 1, hj, HR =>
      have hj4 : (j : Int) < 4 := by omega
      have hp16 := pow16_le (show j ≤ 4 by omega)
      have hab : a < 65536 := by omega
      have HA := Lib.hid ha
      clear ha hp16
      obtain ⟨k, c0, c1, c2, f0, f1, f2, hat, hs⟩ := hst.1.parts
      cases ys with
      | nil =>
        have hk := hat.nil
        have hk' : decide (s.size ≤ k) = true := by simp; omega
        have HK := Lib.hid hk
        clear hk hat
        go_wp2
        go_quiet (fail)
        go_wp2
        go_ret
        show FourPost w p s er R _ _
        rw [← HR.out]
        exact ⟨rfl, _, hst.drewN _⟩
      | cons c r =>
        have hlt := hat.lt
        have hget := hat.get hlt
        have hk' : decide (s.size ≤ k) = false := by simp; omega
        have hst' := hst.set hat.tail
        have hdig := fun w1 => ref_digit c w1
        have HD := Lib.hid hdig
        clear hdig hat
        cases hd : hexD c with
        | none =>
          have HI := Lib.hid (hexI_none hd)
          rw [HI.out] at HD
          have HN := Lib.hid hd
          clear hd
          go_wp2
          go_quiet ((go_at_call 93; exact quiet_same (fun n => HD.out _) _))
          go_wp2
          go_ret
          show FourPost w p s er R _ _
          rw [← HR.out, hexRun, HN.out]
          exact ⟨rfl, _, hst.drewN _⟩
        | some d =>
          have HI := Lib.hid (hexI_some hd)
          rw [HI.out] at HD
          have hd16 := hexD_lt hd
          have HN := Lib.hid hd
          clear hd
          go_wp2
          go_quiet ((go_at_call 93; exact quiet_same (fun n => HD.out _) _))
          go_wp2
          generalize hW : wr.drewN _ = w1
          have hst1 : RStep w p s (c :: r) er w1 := by rw [← hW]; exact hst.drewN _
          clear hW hst hst' c0 c1 c2 f0 f1 f2
          obtain ⟨k1, c0, c1, c2, f0, f1, f2, hat1, _⟩ := hst1.1.parts
          have hlt1 := hat1.lt
          have hget1 := hat1.get hlt1
          have hst' := hst1.set hat1.tail
          have m1 : IntKind.i64.wrap (16 * (a : Int)) = 16 * (a : Int) := IntWalk.i64_in _ (by omega)
          have m2 : IntKind.i64.wrap (16 * (a : Int) + (d : Int)) = 16 * (a : Int) + (d : Int) := IntWalk.i64_in _ (by omega)
          clear hat1
          go_quiet ((go_at_call 93; exact quiet_same (fun n => HD.out _) _))
          clear m1 m2
          go_wp2
          go_roundg g
          case measure => omega
          case rel => exact ⟨j + 1, 16 * a + d, r, by omega, by go_num, by go_num, by have := HA.out; rw [Nat.pow_succ]; omega, by rw [← HR.out, hexRun, HN.out], hst'.drewN _⟩

/-- 'four' that answers, its number an integer. -/
theorem four_some {p er : Nat} {s : ByteArray} {r : Bs} {v : Nat} {w : World} (h : Calls Tryd.prog 91 #[.pointer (some ⟨p, 0, none⟩)] w (FourPost w p s er (some (v, r)))) {V : Int} (hV : V = (v : Int)) :
    Calls Tryd.prog 91 #[.pointer (some ⟨p, 0, none⟩)] w fun e w' => e = .returned (.int .i64 V) ∧ RStep w p s r er w' := by
  subst hV; exact h
theorem four_none {p er : Nat} {s : ByteArray} {w : World} (h : Calls Tryd.prog 91 #[.pointer (some ⟨p, 0, none⟩)] w (FourPost w p s er none)) :
    Calls Tryd.prog 91 #[.pointer (some ⟨p, 0, none⟩)] w fun e w' => e = .returned (.int .i64 (-1)) ∧ ∃ ys, RStep w p s ys er w' := h
/-- What 'escaped' answers. -/
def EscP (w : World) (p : Nat) (s : ByteArray) (o : Option (Int × Bs)) (e : Ending) (w' : World) : Prop :=
  match o with
  | some (u, r) => e = .returned (.string (str (Lib.encodeRune u))) ∧ RStep w p s r 0 w'
  | none => e = .returned (.string ⟨#[]⟩) ∧ ∃ ys, RStep w p s ys 4 w'
theorem fail4 {p : Nat} {s : ByteArray} {xs : Bs} {w : World} (h : RRd w p s xs 0) : Calls Tryd.prog 39 #[.pointer (some ⟨p, 0, none⟩), .int .i64 4] w fun e w' => e = .returned (.tuple #[]) ∧ RStep w p s xs 4 w' := ref_fail p s xs 0 4 w h

set_option maxHeartbeats 1000000 in
theorem escaped_nil (p : Nat) (s : ByteArray) (w : World) (h : RRd w p s [] 0) : Calls Tryd.prog 81 #[.pointer (some ⟨p, 0, none⟩)] w (EscP w p s none) := by
  obtain ⟨k, c0, c1, c2, f0, f1, f2, hat, hs⟩ := h.parts
  have hk := hat.nil
  have hk' : decide (s.size ≤ k) = true := by simp; omega
  have HF : ∀ n, Hid (Calls Tryd.prog 39 #[.pointer (some ⟨p, 0, none⟩), .int .i64 4] (w.drewN n) fun e w' => e = .returned (.tuple #[]) ∧ RStep (w.drewN n) p s [] 4 w') := fun n => fail4 (h.drewN n)
  have HFF := Lib.hid HF
  have hst := RStep.refl h
  clear hk hat HF
  go_enter Tryd.func81, Tryd.ntmps81
  go_wp2
  go_quiet (fail)
  go_wp2_with fail
  refine (HFF.out _).out.mono ?_
  rintro e w1 ⟨rfl, hst1⟩
  go_wp2
  go_ret
  exact ⟨rfl, _, (hst.drewN _).of hst1⟩

theorem str_rune {n : Nat} (h : n ≤ 127) : str (Lib.encodeRune n) = ⟨#[UInt8.ofNat n]⟩ := by
  unfold Lib.encodeRune
  rw [Lib.encodeRuneZ_one (by omega) (by omega)]
  rfl
theorem str_byte {c : UInt8} (h : c.toNat ≤ 127) : str (Lib.encodeRune c.toNat) = ⟨#[c]⟩ := by rw [str_rune h, UInt8.ofNat_toNat]
theorem conv_one (w : World) (c : UInt8) : (convert 50 9 (.slice (some ⟨w.heap.size, 0, none⟩) 1 1)).run Tryd.prog (w.alloc (.cells #[.int .u8 c.toNat] 5)) = .ok (.string ⟨#[c]⟩) (w.alloc (.cells #[.int .u8 c.toNat] 5)) :=
  run_convert_bytes_back _ 50 9 5 ⟨w.heap.size, 0, none⟩ 1 [c] Tryd.underlying50 Tryd.underlying5 Tryd.underlying9 (fun j hj => by
    simp only [List.length_cons, List.length_nil] at hj
    obtain rfl : j = 0 := by omega
    rw [addr_add, cell_of_row _ w.heap.size 0 _ _ _ (heap_alloc_new w _)]
    rfl)

end Go.Proofs.YtcamaloekanelaaDoor
