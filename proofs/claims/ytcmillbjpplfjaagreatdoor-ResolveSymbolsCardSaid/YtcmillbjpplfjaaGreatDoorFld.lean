/-
  'Field' of the program and of the reference: the place of the field that a field is read from.
-/
import Derived.Test.YtcmillbjpplfjaaGreatDoorLaw
import Derived.Lib.AppendZerosOnto
import Derived.Lib.Walk
import Derived.Maps.AppendAt
import Derived.Maps.OwnIn
namespace Go.Proofs.YtcmillbjpplfjaaGreatDoor
open Go.RowKit

def fdP (s : ByteArray) (f : Fd) : Bool := eqS f.name s
def fdI (fs : List Fd) (s : ByteArray) : Int := firstI (fdP s) fs 0
/-- The first of some names that a field has. -/
def fieldL (fs : List Fd) : List ByteArray → Int
  | [] => -1
  | n :: r => if 0 ≤ fdI fs n then fdI fs n else fieldL fs r
set_option maxHeartbeats 1000000 in
theorem fd_eq (s : ByteArray) (b : Nat) (f : Fd) (c : Nat → Value) (w : World) (ok : Nat → Prop) (hs : w.cell? ⟨b, 0, none⟩ = some (.string s)) (hf : FdIn w ok f c) :
    Calls Tryz.prog 152 #[fdv c, .pointer (some ⟨b, 0, none⟩)] w fun e w' => e = .returned (.bool (fdP s f)) ∧ Below w.heap.size w w' := by
  have hb0 : Below w.heap.size w (w.alloc (.cells #[c 0, c 1, c 2, c 3, c 4] 57)) := (Below.refl _ w).alloc (Nat.le_refl _) _
  have h1 : (w.alloc (.cells #[c 0, c 1, c 2, c 3, c 4] 57)).heap[w.heap.size]? = some (.cells #[c 0, c 1, c 2, c 3, c 4] 57 (0, 0)) := new_at rfl _
  have p0 : (w.alloc (.cells #[c 0, c 1, c 2, c 3, c 4] 57)).cell? ⟨w.heap.size, 0, none⟩ = some (.string f.name) := by rw [← hf.name]; exact cell_of_row _ _ 0 _ _ _ h1
  have p1 := (below_fr0 hb0).cell hs trivial
  have HP : Hid (fdP s f = (f.name.toList == s.toList)) := rfl
  generalize fdP s f = R at *
  generalize f.name = nm at *
  have HB0 := Lib.hid hb0
  clear hf hb0 h1 hs
  go_enter Tryz.func152, Tryz.ntmps152
  go_upto_region 1 with fail
  generalize w.alloc (.cells #[c 0, c 1, c 2, c 3, c 4] 57) = W0 at *
  go_wp2
  go_ret
  exact ⟨by rw [HP.out]; rfl, HB0.out⟩
set_option maxRecDepth 100000 in
set_option maxHeartbeats 2000000 in
theorem indexF_any (fs : List Fd) (s : ByteArray) (b : Nat) (v : Value) (w : World) (ok : Nat → Prop) (h : RowsAt 5 (FdIn w ok) w ok fs v) (hs : w.cell? ⟨b, 0, none⟩ = some (.string s)) :
    Calls Tryz.prog 151 #[v, .func (.func 152) #[] #[.pointer (some ⟨b, 0, none⟩)]] w fun e w' => e = .returned (.int .i64 (fdI fs s)) ∧ Below w.heap.size w w' := by
  obtain ⟨A, cap, c, rfl, hl, hm, hc, ho⟩ := h
  unfold maxLen at hm
  have HC := Lib.hid hc
  have HO := Lib.hid ho
  have HS := Lib.hid hs
  clear hc ho hs
  go_enter Tryz.func151, Tryz.ntmps151
  go_wp2
  go_loopg [8] fs.length (fun g i wr => ∃ k : Nat, k + g = fs.length ∧ i = .int .i64 (k : Int) ∧ Hid (fdI fs s = firstI (fdP s) (fs.drop k) k) ∧ Below w.heap.size w wr)
  case atStart => exact ⟨0, by omega, rfl, Lib.hid rfl, Below.refl _ _⟩
  case round =>
    obtain ⟨k, hg, rfl, HN, hb⟩ := hrel
    have HG := Lib.hid hg
    have HB := Lib.hid hb
    clear hg hb
    by_cases hlt : k < fs.length
    · obtain ⟨f, hf⟩ : ∃ f, fs[k]? = some f := ⟨_, List.getElem?_eq_getElem hlt⟩
      obtain ⟨g, off, rfl, _, hcell⟩ := HC.out (by omega)
      have hfr := below_fr0 HB.out
      have z0 := hfr.cell (hcell k 0 hlt (by omega)) trivial
      have z1 := hfr.cell (hcell k 1 hlt (by omega)) trivial
      have z2 := hfr.cell (hcell k 2 hlt (by omega)) trivial
      have z3 := hfr.cell (hcell k 3 hlt (by omega)) trivial
      have z4 := hfr.cell (hcell k 4 hlt (by omega)) trivial
      rw [show off + (5 * k + 0) = off + k * 5 by omega] at z0
      rw [show off + (5 * k + 1) = off + k * 5 + 1 by omega] at z1
      rw [show off + (5 * k + 2) = off + k * 5 + 2 by omega] at z2
      rw [show off + (5 * k + 3) = off + k * 5 + 3 by omega] at z3
      rw [show off + (5 * k + 4) = off + k * 5 + 4 by omega] at z4
      have hcall := fd_eq s b f (c k) wr ok (hfr.cell HS.out trivial) ((HO.out k f hf).fr hfr (fun _ _ => trivial))
      have HF := Lib.hid hf
      clear hcell hf hfr
      rw [fdv] at hcall
      generalize c k 0 = a0 at *
      generalize c k 1 = a1 at *
      generalize c k 2 = a2 at *
      generalize c k 3 = a3 at *
      generalize c k 4 = a4 at *
      go_wp2_with fail
      refine hcall.mono ?_
      rintro e w1 ⟨rfl, hb1⟩
      have HB1 := Lib.hid (HB.out.trans (hb1.mono HB.out.size))
      clear hcall hb1 z0 z1 z2 z3 z4
      cases he : fdP s f with
      | true =>
        have HE := Lib.hid he
        clear he
        go_wp2
        go_ret
        exact ⟨by rw [HN.out, firstI_yes HF.out HE.out]; rfl, HB1.out⟩
      | false =>
        have HE := Lib.hid he
        clear he
        go_wp2
        go_roundg (fs.length - (k + 1))
        case measure => have := HG.out; omega
        case rel => exact ⟨k + 1, by omega, by go_num, Lib.hid (by rw [HN.out, firstI_no HF.out HE.out]), HB1.out⟩
    · have hk := HG.out
      go_wp2
      go_ret
      exact ⟨by rw [HN.out, firstI_end (by omega)]; rfl, HB.out⟩
set_option maxRecDepth 100000 in
set_option maxHeartbeats 2000000 in
theorem named_ref (n : Nd) (c : Nat → Value) (s : ByteArray) (w : World) (ok : Nat → Prop) (hn : NdIn w ok n c) :
    Calls Tryz.prog 128 #[ndv c, .string s] w fun e w' => e = .returned (.int .i64 (fdI n.fs s)) ∧ Below w.heap.size w w' := by
  have hb0 : Below w.heap.size w (w.alloc (.cells #[c 0, c 1, c 2, c 3, c 4, c 5, c 6, c 7, c 8, c 9] 50)) := (Below.refl _ w).alloc (Nat.le_refl _) _
  have h1 : (w.alloc (.cells #[c 0, c 1, c 2, c 3, c 4, c 5, c 6, c 7, c 8, c 9] 50)).heap[w.heap.size]? = some (.cells #[c 0, c 1, c 2, c 3, c 4, c 5, c 6, c 7, c 8, c 9] 50 (0, 0)) := new_at rfl _
  obtain ⟨A, cap, d, e3, hl, hm, hc, ho⟩ := hn.fs
  have p3 : (w.alloc (.cells #[c 0, c 1, c 2, c 3, c 4, c 5, c 6, c 7, c 8, c 9] 50)).cell? ⟨w.heap.size, 3, none⟩ = some (.slice A n.fs.length cap) := by rw [← e3]; exact cell_of_row _ _ 3 _ _ _ h1
  unfold maxLen at hm
  have HC := Lib.hid hc
  have HO := Lib.hid ho
  have HB0 := Lib.hid hb0
  clear hc ho hn hb0 e3 h1
  go_enter Tryz.func128, Tryz.ntmps128
  go_upto_region 1 with fail
  generalize w.alloc (.cells #[c 0, c 1, c 2, c 3, c 4, c 5, c 6, c 7, c 8, c 9] 50) = W0 at *
  go_wp2
  go_loopg [5] n.fs.length (fun g i wr => ∃ k : Nat, k + g = n.fs.length ∧ i = .int .i64 (k : Int) ∧ Hid (fdI n.fs s = firstI (fdP s) (n.fs.drop k) k) ∧ W0 = wr)
  case atStart => exact ⟨0, by omega, rfl, Lib.hid rfl, rfl⟩
  case round =>
    obtain ⟨k, hg, rfl, HN, rfl⟩ := hrel
    have HG := Lib.hid hg
    clear hg
    by_cases hlt : k < n.fs.length
    · obtain ⟨f, hf⟩ : ∃ f, n.fs[k]? = some f := ⟨_, List.getElem?_eq_getElem hlt⟩
      obtain ⟨g, off, rfl, _, hcell⟩ := HC.out (by omega)
      have z0 := (below_fr0 HB0.out).cell (hcell k 0 hlt (by omega)) trivial
      rw [(HO.out k f hf).name, show off + (5 * k + 0) = off + k * 5 by omega] at z0
      have hki : (k : Int) < (n.fs.length : Int) := by omega
      have HF := Lib.hid hf
      clear hcell hf
      cases he : fdP s f with
      | true =>
        have he' : (f.name.toList == s.toList) = true := he
        have HE := Lib.hid he
        clear he
        go_wp2
        go_ret
        exact ⟨by rw [HN.out, firstI_yes HF.out HE.out]; rfl, HB0.out⟩
      | false =>
        have he' : (f.name.toList == s.toList) = false := he
        have HE := Lib.hid he
        clear he
        go_wp2
        go_roundg (n.fs.length - (k + 1))
        case measure => have := HG.out; omega
        case rel => exact ⟨k + 1, by omega, by go_num, Lib.hid (by rw [HN.out, firstI_no HF.out HE.out]), rfl⟩
    · have hk := HG.out
      go_wp2
      go_ret
      exact ⟨by rw [HN.out, firstI_end (by omega)]; rfl, HB0.out⟩
end Go.Proofs.YtcmillbjpplfjaaGreatDoor
