/-
  The program's reader: signed numbers, raw bytes, texts, the end.
-/
import Derived.Test.YtlkbcdbjmkfkkaaDoorRdr
namespace Go.Proofs.YtlkbcdbjmkfkkaaDoor
open Go.RowKit

theorem scan_lt : ∀ (xs : List Int) (i acc : Nat), i ≤ 9 → acc < 128 ^ i → (∀ x ∈ xs, 0 ≤ x ∧ x < 256) → (scan i acc xs).1 < 18446744073709551616
  | [], i, acc, _, _, _ => by simp [scan]
  | c :: r, i, acc, hi, ha, hx => by
    have hc := hx c (by simp)
    rw [scan]
    split
    · simp
    · rename_i hn
      split
      · rename_i h8
        simp only
        rcases Nat.lt_or_ge i 9 with h9 | h9
        · have h1 : c.toNat * 128 ^ i ≤ 127 * 128 ^ i := Nat.mul_le_mul_right _ (by omega)
          have h2 : 128 ^ i ≤ 128 ^ 8 := Nat.pow_le_pow_right (by omega) (by omega)
          omega
        · obtain rfl : i = 9 := by omega
          have : c ≤ 1 := by
            by_cases h : 1 < c
            · exact absurd (.inl ⟨rfl, h⟩) hn
            · omega
          have h1 : c.toNat * 128 ^ 9 ≤ 1 * 128 ^ 9 := Nat.mul_le_mul_right _ (by omega)
          omega
      · rename_i h8
        have h9 : i ≠ 9 := fun e => hn (.inl ⟨e, by omega⟩)
        refine scan_lt r (i + 1) _ (by omega) ?_ (fun x hx' => hx x (by simp [hx']))
        have h1 : (c.toNat - 128) * 128 ^ i ≤ 127 * 128 ^ i := Nat.mul_le_mul_right _ (by omega)
        rw [Nat.pow_succ]; omega
theorem rNum_lt {xs : List Int} {f : Nat} (hx : ∀ x ∈ xs, 0 ≤ x ∧ x < 256) : (rNum xs f).1 < 18446744073709551616 := by
  unfold rNum
  split
  · simp
  · exact scan_lt xs 0 0 (by omega) (by decide) hx

/-- The number of which 'Zig' is that. -/
def signedN (u : Nat) : Int := if u % 2 = 0 then ((u / 2 : Nat) : Int) else -((u / 2 : Nat) : Int) - 1
theorem signed_i64 {u : Nat} (h : u < 18446744073709551616) : I64 (signedN u) := by
  unfold signedN I64; split <;> omega
theorem half_wrap {u : Nat} (h : u < 18446744073709551616) : wrap64 (IntKind.u64.wrap ((u : Int) / 2)) = ((u / 2 : Nat) : Int) := by
  rw [wrap_u64]; unfold wrap64; omega
theorem odd_wrap {u : Nat} (h : u < 18446744073709551616) : wrap64 (wrap64 (-((u / 2 : Nat) : Int)) - 1) = -((u / 2 : Nat) : Int) - 1 := by
  unfold wrap64; omega

def ZigPost (w : World) (p : Nat) (r : Nat × List Int × Nat) (e : Ending) (w' : World) : Prop :=
  e = .returned (.int .i64 (signedN r.1)) ∧ Rdr w' p r.2.1 r.2.2 ∧ w.grownBy w' (some p)

set_option maxHeartbeats 400000 in
theorem zig_rd (p : Nat) (xs : List Int) (f : Nat) (w : World) (h : Rdr w p xs f) : Calls Tryd.prog 57 #[.pointer (some ⟨p, 0, none⟩)] w (ZigPost w p (rNum xs f)) := by
  have hb : ∀ x ∈ xs, 0 ≤ x ∧ x < 256 := by obtain ⟨_, _, _, hr, _⟩ := h; exact hr.byte
  have HB := Lib.hid (rNum_lt (f := f) hb)
  clear hb
  go_enter Tryd.func57, Tryd.ntmps57
  go_wp2_with fail
  refine (num_rd p xs f w h).mono ?_
  rintro e w1 ⟨rfl, h1, hg⟩
  generalize rNum xs f = r at *
  obtain ⟨u, ys, f2⟩ := r
  simp only at HB h1 ⊢
  by_cases hev : u % 2 = 0
  · have h2 : ((u : Int) % 2 == 0) = true := by simp; omega
    go_wp2
    rw [half_wrap HB.out]
    go_ret
    exact ⟨by unfold signedN; rw [if_pos hev]; rfl, h1, hg⟩
  · have h2 : ((u : Int) % 2 == 0) = false := by simp; omega
    go_wp2
    rw [half_wrap HB.out, odd_wrap HB.out]
    go_ret
    exact ⟨by unfold signedN; rw [if_neg hev]; rfl, h1, hg⟩

/-- What 'Raw' answers, and where the reader then stands. -/
def rRaw (n : Int) (xs : List Int) (f : Nat) : List Int × List Int × Nat := if f ≠ 0 then ([], xs, f) else if xs.length < n.toNat then ([], xs, 3) else (xs.take n.toNat, xs.drop n.toNat, 0)
def BytesPost (w : World) (p : Nat) (r : List Int × List Int × Nat) (e : Ending) (w' : World) : Prop :=
  ∃ A c, e = .returned (.slice A r.1.length c) ∧ w'.ownsRow w.heap.size 5 1 (.slice A r.1.length c) r.1.length (cellsB r.1) ∧ Rdr w' p r.2.1 r.2.2 ∧ w.grownBy w' (some p)
theorem bytesPost_none {w w' : World} {p : Nat} {r : List Int × List Int × Nat} {xs : List Int} {f : Nat} (hr : r = ([], xs, f)) (h : Rdr w' p xs f) (hg : w.grownBy w' (some p)) : BytesPost w p r (.returned (.slice none 0 0)) w' := by
  subst hr
  exact ⟨none, 0, rfl, World.ownsRow_nil _ _ _ _, h, hg⟩
theorem Rd.take {w : World} {B n c k : Nat} {A : Option Addr} {xs : List Int} (h : Rd w B A n c xs) (hk : k ≤ n) : Rd w B A k c (xs.take k) := by
  obtain ⟨h1, h2, h3, h4, h5⟩ := h
  refine ⟨by simp; omega, by omega, h3, fun x hx => h4 x (List.mem_of_mem_take hx), fun hn => ?_⟩
  obtain ⟨b, off, e, hb, hc⟩ := h5 (by omega)
  refine ⟨b, off, e, hb, fun j u hu => hc j u ?_⟩
  rw [List.getElem?_take] at hu
  split at hu
  · exact hu
  · cases hu

set_option maxHeartbeats 400000 in
theorem raw_fault (p : Nat) (n : Int) (xs : List Int) (f : Nat) (w : World) (h : Rdr w p xs f) (hf : f ≠ 0) : Calls Tryd.prog 59 #[.pointer (some ⟨p, 0, none⟩), .int .i64 n] w (BytesPost w p (rRaw n xs f)) := by
  have hr : rRaw n xs f = ([], xs, f) := by unfold rRaw; rw [if_pos hf]
  have HR := Lib.hid hr
  clear hr
  have hf'' : ((f : Int) != 0) = true := by simp; omega
  go_enter Tryd.func59, Tryd.ntmps59
  go_wp2_with fail
  refine (err_rd p xs f w h).mono ?_
  rintro e w1 ⟨rfl, rfl⟩
  go_wp2
  go_ret
  exact bytesPost_none HR.out h (World.grownBy.refl _ _)

set_option maxHeartbeats 400000 in
theorem raw_short (p : Nat) (n : Int) (xs : List Int) (w : World) (h : Rdr w p xs 0) (hn : xs.length < n.toNat) : Calls Tryd.prog 59 #[.pointer (some ⟨p, 0, none⟩), .int .i64 n] w (BytesPost w p (rRaw n xs 0)) := by
  have hr : rRaw n xs 0 = ([], xs, 3) := by unfold rRaw; rw [if_neg (by omega), if_pos hn]
  have HR := Lib.hid hr
  clear hr
  obtain ⟨A, c, c0, c1, f0, f1, hr, hl, hh⟩ := h.parts
  clear hh
  have h3 := h.putF (f2 := 3)
  go_enter Tryd.func59, Tryd.ntmps59
  go_wp2_with fail
  refine (err_rd p xs 0 w h).mono ?_
  rintro e w1 ⟨rfl, rfl⟩
  go_wp2
  go_ret
  exact bytesPost_none HR.out h3.1 h3.2
theorem bytesPost_some {w w1 w2 : World} {p c n1 : Nat} {A1 : Option Addr} {r : List Int × List Int × Nat} {ys zs : List Int} (hr : r = (ys, zs, 0)) (hown : w1.ownsRow w.heap.size 5 1 (.slice A1 ys.length c) ys.length (cellsB ys)) (hb : Below w.heap.size w w1)
    (h2 : Rdr w2 p zs 0) (hg : w1.grownBy w2 (some p)) (hp : p < w.heap.size) (hn : n1 = ys.length) : BytesPost w p r (.returned (.slice A1 n1 c)) w2 := by
  subst hr hn
  refine ⟨A1, c, rfl, hown.kept hg (.inr fun e => ?_), h2, (new_grown hb _).trans hg⟩
  have := (hown.lt p e).1
  omega

set_option maxHeartbeats 400000 in
theorem raw_some (p k : Nat) (xs : List Int) (w : World) (h : Rdr w p xs 0) (hn : k ≤ xs.length) : Calls Tryd.prog 59 #[.pointer (some ⟨p, 0, none⟩), .int .i64 k] w (BytesPost w p (rRaw k xs 0)) := by
  have hr : rRaw k xs 0 = (xs.take k, xs.drop k, 0) := by unfold rRaw; rw [if_neg (by omega), if_neg (by omega)]; rfl
  have HR := Lib.hid hr
  clear hr
  obtain ⟨A, c, c0, c1, f0, f1, hr, hl, hh⟩ := h.parts
  clear hh
  have hc := hr.2.1
  have hrc := hr.cut (k := k) hn
  have htl : (xs.take k).length = k := by simp; omega
  have HTL := Lib.hid htl
  clear htl
  have hplt := h.lt
  go_enter Tryd.func59, Tryd.ntmps59
  go_wp2_with fail
  refine (err_rd p xs 0 w h).mono ?_
  rintro e w1 ⟨rfl, rfl⟩
  go_wp2_with fail
  refine (clone_any _ _ _ _ _ w (hr.take hn) (by omega)).mono ?_
  rintro e w1 ⟨A1, ca, rfl, hown, hb⟩
  have h1 := h.below hb (Nat.le_refl _)
  have hrc1 := hrc.below (hb.mono (Nat.le_of_lt hplt))
  have d0 : w1.cell? ⟨p, 0, none⟩ = some (.slice A xs.length c) := (hb.cell (p := ⟨p, 0, none⟩) hplt).trans c0
  have e0 : w1.frozen? ⟨p, 0, none⟩ = false := (hb.frozen (p := ⟨p, 0, none⟩) hplt).trans f0
  have HC := Lib.hid hrc1
  clear hrc hrc1 c0 c1 f0 f1
  go_wp2
  · have hck : c = k := by assumption
    go_ret
    have hrc := HC.out
    rw [if_pos hck, hck, Nat.sub_self] at hrc
    have h2 := h1.putR hrc (by simp; omega)
    exact bytesPost_some HR.out hown hb h2.1 h2.2 hplt HTL.out.symm
  · have hck : ¬ c = k := by assumption
    go_ret
    have hrc := HC.out
    rw [if_neg hck] at hrc
    have h2 := h1.putR hrc (by simp; omega)
    exact bytesPost_some HR.out hown hb h2.1 h2.2 hplt HTL.out.symm

set_option maxHeartbeats 400000 in
theorem raw_neg (p : Nat) (n : Int) (xs : List Int) (w : World) (h : Rdr w p xs 0) (hn : n < 0) : Calls Tryd.prog 59 #[.pointer (some ⟨p, 0, none⟩), .int .i64 n] w (BytesPost w p (rRaw n xs 0)) := by
  have hr : rRaw n xs 0 = ([], xs, 0) := by unfold rRaw; rw [if_neg (by omega), if_neg (by omega), show n.toNat = 0 by omega]; simp
  have HR := Lib.hid hr
  clear hr
  obtain ⟨A, c, c0, c1, f0, f1, hr, hl, hh⟩ := h.parts
  clear hh
  have hc := hr.2.1
  have hrc := hr.cut (k := 0) (by omega)
  have hplt := h.lt
  go_enter Tryd.func59, Tryd.ntmps59
  go_wp2_with fail
  refine (err_rd p xs 0 w h).mono ?_
  rintro e w1 ⟨rfl, rfl⟩
  go_wp2_with fail
  refine (clone_any _ _ _ _ _ w (hr.take (k := 0) (by omega)) (by omega)).mono ?_
  rintro e w1 ⟨A1, ca, rfl, hown, hb⟩
  have h1 := h.below hb (Nat.le_refl _)
  have hr1 := hr.below (hb.mono (Nat.le_of_lt hplt))
  have d0 : w1.cell? ⟨p, 0, none⟩ = some (.slice A xs.length c) := (hb.cell (p := ⟨p, 0, none⟩) hplt).trans c0
  have e0 : w1.frozen? ⟨p, 0, none⟩ = false := (hb.frozen (p := ⟨p, 0, none⟩) hplt).trans f0
  clear hrc c0 c1 f0 f1
  go_wp2
  go_ret
  have h2 := h1.putR hr1 hl
  exact bytesPost_some (ys := []) HR.out hown hb h2.1 h2.2 hplt rfl

theorem raw_rd (p : Nat) (n : Int) (xs : List Int) (f : Nat) (w : World) (h : Rdr w p xs f) : Calls Tryd.prog 59 #[.pointer (some ⟨p, 0, none⟩), .int .i64 n] w (BytesPost w p (rRaw n xs f)) := by
  by_cases hf : f = 0
  · subst hf
    by_cases hn : xs.length < n.toNat
    · exact raw_short p n xs w h hn
    · by_cases h0 : n < 0
      · exact raw_neg p n xs w h h0
      · obtain ⟨k, rfl⟩ := Int.eq_ofNat_of_zero_le (show 0 ≤ n by omega)
        exact raw_some p k xs w h (by omega)
  · exact raw_fault p n xs f w h hf

/-- What is wrong with a text of that length. -/
def tFault (len most : Int) (xs : List Int) (f : Nat) : Nat := if f ≠ 0 then f else if len < 0 then 4 else if (if most < 0 then 0 else most) < len then 5 else if (xs.length : Int) < len then 3 else 0
set_option maxHeartbeats 400000 in
theorem textFault_any (p : Nat) (len most : Int) (xs : List Int) (f : Nat) (w : World) (h : Rdr w p xs f) : Calls Tryd.prog 66 #[.pointer (some ⟨p, 0, none⟩), .int .i64 len, .int .i64 most] w fun e w' => e = .returned (.int .i64 (tFault len most xs f)) ∧ w = w' := by
  obtain ⟨A, c, c0, c1, f0, f1, hr, hl, hh⟩ := h.parts
  clear hh
  by_cases hf : f = 0
  · subst hf
    have HT : Hid (tFault len most xs 0 = if len < 0 then 4 else if (if most < 0 then 0 else most) < len then 5 else if (xs.length : Int) < len then 3 else 0) := Lib.hid (by unfold tFault; rw [if_neg (by omega)])
    by_cases hm : most < 0
    · simp only [if_pos hm] at HT
      go_enter Tryd.func66, Tryd.ntmps66
      go_wp2
      all_goals
        go_ret
        refine ⟨?_, rfl⟩
        rw [HT.out]
        (repeat' split) <;> first | rfl | (exfalso; omega)
    · simp only [if_neg hm] at HT
      go_enter Tryd.func66, Tryd.ntmps66
      go_wp2
      all_goals
        go_ret
        refine ⟨?_, rfl⟩
        rw [HT.out]
        (repeat' split) <;> first | rfl | (exfalso; omega)
  · have hf'' : ((f : Int) != 0) = true := by simp; omega
    go_enter Tryd.func66, Tryd.ntmps66
    go_wp2
    go_ret
    exact ⟨by unfold tFault; rw [if_pos hf]; rfl, rfl⟩
end Go.Proofs.YtlkbcdbjmkfkkaaDoor
