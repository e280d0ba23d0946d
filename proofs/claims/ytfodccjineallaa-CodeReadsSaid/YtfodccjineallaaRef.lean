/-
  The reference's reader: its calls answer as the same functions on the bytes that are left.
-/
import Derived.Test.YtfodccjineallaaRdr3
import Derived.IntWalk
namespace Go.Proofs.Ytfodccjineallaa
open Go.RowKit

/-- The reference's reader at block q has these bytes left, and this fault. -/
def Ref (w : World) (q : Nat) (xs : List Int) (f : Nat) : Prop :=
  ∃ A c at_ all, w.heap[q]? = some (.cells #[.slice A all.length c, .int .i64 (at_ : Nat), .int .i64 f] 47 (0, 0)) ∧ Rd w q A all.length c all ∧ all.length ≤ 100000 ∧ at_ ≤ all.length ∧ all.drop at_ = xs
section
variable {w w' : World} {q : Nat} {xs ys : List Int} {f : Nat}
theorem Ref.lt (h : Ref w q xs f) : q < w.heap.size := by
  obtain ⟨A, c, a, all, hh, _⟩ := h
  exact blk_lt hh
theorem Ref.parts (h : Ref w q xs f) : ∃ A c, ∃ (a : Nat) (all : List Int), w.cell? ⟨q, 0, none⟩ = some (.slice A all.length c) ∧ w.cell? ⟨q, 1, none⟩ = some (.int .i64 a) ∧ w.cell? ⟨q, 2, none⟩ = some (.int .i64 f) ∧
    w.frozen? ⟨q, 1, none⟩ = false ∧ w.frozen? ⟨q, 2, none⟩ = false ∧ Rd w q A all.length c all ∧ all.length ≤ 100000 ∧ a ≤ all.length ∧ Hid (all.drop a = xs) ∧ xs.length = all.length - a ∧
    Hid (w.heap[q]? = some (.cells #[.slice A all.length c, .int .i64 a, .int .i64 f] 47 (0, 0))) := by
  obtain ⟨A, c, a, all, hh, hr, hl, ha, hd⟩ := h
  exact ⟨A, c, a, all, by rw [cell_of_row w q 0 _ 47 (0, 0) hh]; rfl, by rw [cell_of_row w q 1 _ 47 (0, 0) hh]; rfl, by rw [cell_of_row w q 2 _ 47 (0, 0) hh]; rfl, frozen_of_row w q 1 _ 47 hh, frozen_of_row w q 2 _ 47 hh, hr, hl, ha, hd, by rw [← hd]; simp, hh⟩
theorem rd_far3 {B n c : Nat} {A A' : Option Addr} {n' c' : Nat} {a f : Int} (h : Rd w B A n c ys) (hp : w.heap[q]? = some (.cells #[.slice A' n' c', .int .i64 a, .int .i64 f] 47 (0, 0))) (hw : ∀ p : Addr, p.block < B → p.block ≠ q → w'.cell? p = w.cell? p) : Rd w' B A n c ys := by
  obtain ⟨h1, h2, h3, h4, h5⟩ := h
  refine ⟨h1, h2, h3, h4, fun hn => ?_⟩
  obtain ⟨b, off, e, hb, hc⟩ := h5 hn
  have hne : b ≠ q := by
    rintro rfl
    obtain ⟨u, hu⟩ : ∃ u, ys[0]? = some u := ⟨ys[0]'(by omega), List.getElem?_eq_getElem _⟩
    have := hc 0 u hu
    rw [cell_of_row w b (off + 0) _ 47 (0, 0) hp] at this
    match off, this with
    | 0, h => simp at h
    | 1, h => simp at h
    | 2, h => simp at h
    | k + 3, h => simp at h
  exact ⟨b, off, e, hb, fun j u hu => (hw _ hb hne).trans (hc j u hu)⟩
theorem Ref.below {B : Nat} (h : Ref w q xs f) (hb : Below B w w') (hB : w.heap.size ≤ B) : Ref w' q xs f := by
  obtain ⟨A, c, a, all, hh, hr, hl⟩ := h
  exact ⟨A, c, a, all, (hb.block q (by have := blk_lt hh; omega)).trans hh, hr.below (hb.mono (by have := blk_lt hh; omega)), hl⟩
/-- The place and the fault stored anew. -/
theorem Ref.putF {f2 : Nat} (h : Ref w q xs f) : Ref (w.setCell ⟨q, 2, none⟩ (.int .i64 f2)) q xs f2 ∧ w.grownBy (w.setCell ⟨q, 2, none⟩ (.int .i64 f2)) (some q) := by
  obtain ⟨A, c, a, all, hh, hr, hl⟩ := h
  have h2 := heap_setCell_same _ q 2 _ 47 (.int .i64 f2) hh
  have hg : w.grownBy (w.setCell ⟨q, 2, none⟩ (.int .i64 f2)) (some q) := grown_set (World.grownBy.refl _ _) _ _
  refine ⟨⟨A, c, a, all, by simpa using h2, rd_far3 hr hh fun p hp hne => World.cell?_of_block (hg.block _ (Nat.lt_trans hp (blk_lt hh)) (fun e => hne (by injection e))), hl⟩, hg⟩
end
theorem Ref.putA {w : World} {q c f a n2 : Nat} {A : Option Addr} {all : List Int} (hh : w.heap[q]? = some (.cells #[.slice A all.length c, .int .i64 a, .int .i64 f] 47 (0, 0))) (hr : Rd w q A all.length c all) (hl : all.length ≤ 100000) (h2 : n2 ≤ all.length) {x : Int} (hx : x = n2) :
    Ref (w.setCell ⟨q, 1, none⟩ (.int .i64 x)) q (all.drop n2) f ∧ w.grownBy (w.setCell ⟨q, 1, none⟩ (.int .i64 x)) (some q) := by
  subst hx
  have h3 := heap_setCell_same _ q 1 _ 47 (.int .i64 n2) hh
  have hg : w.grownBy (w.setCell ⟨q, 1, none⟩ (.int .i64 n2)) (some q) := grown_set (World.grownBy.refl _ _) _ _
  exact ⟨⟨A, c, n2, all, by simpa using h3, rd_far3 hr hh fun p hp hne => World.cell?_of_block (hg.block _ (Nat.lt_trans hp (blk_lt hh)) (fun e => hne (by injection e))), hl, h2, rfl⟩, hg⟩

/-- What the reference's scan answers. -/
def ScanPostD (r : Nat × Nat × Nat) (w : World) (e : Ending) (w' : World) : Prop := e = .returned (.tuple #[.int .u64 r.1, .int .i64 r.2.1, .int .i64 r.2.2]) ∧ ∃ m, w' = w.drewN m
theorem ScanPostD.of {r : Nat × Nat × Nat} {a b c : Nat} {x y z : Int} {w w' : World} {e : Ending} (h : r = (a, b, c)) (he : e = .returned (.tuple #[.int .u64 x, .int .i64 y, .int .i64 z])) (hx : x = a) (hy : y = b) (hz : z = c) (hw : ∃ m, w' = w.drewN m) : ScanPostD r w e w' := by
  subst h hx hy hz; exact ⟨he, hw⟩

theorem or_any (acc k : Nat) (x : Int) (ha : acc < 128 ^ k) (hk : k ≤ 9) (h0 : 0 ≤ x) (h1 : x < 128) (h9 : k = 9 → x ≤ 1) :
    bits BinOp.or IntKind.u64 (acc : Int) (IntKind.u64.wrap (x * 2 ^ (7 * k))) = ((acc + x.toNat * 128 ^ k : Nat) : Int) := by
  rcases Nat.lt_or_ge k 9 with h | h
  · exact or_low acc k x ha (by omega) h0 h1
  · obtain rfl : k = 9 := by omega
    have hx := h9 rfl
    have e1 : x * 2 ^ (7 * 9) = x * 9223372036854775808 := rfl
    rw [e1, wrap_u64, Int.emod_eq_of_lt (by omega) (by omega)]
    exact or_low9 acc x ha h0 hx
theorem and_lowb (x : Int) (h0 : 0 ≤ x) (h1 : x < 128) : IntKind.u64.wrap (bits BinOp.and IntKind.u8 x 127) = x := by
  obtain ⟨y, rfl⟩ := Int.eq_ofNat_of_zero_le h0
  have := u8_and_nat y 127 (by omega) (by omega)
  rw [nat_mask7] at this
  have h2 : bits BinOp.and IntKind.u8 (y : Int) 127 = ((y % 128 : Nat) : Int) := this
  rw [h2, wrap_u64]
  omega

set_option maxHeartbeats 1000000 in
set_option maxRecDepth 100000 in
theorem refNumber_any (q : Nat) (xs : List Int) (f : Nat) (w : World) (h : Ref w q xs f) : Calls Try.prog 37 #[.pointer (some ⟨q, 0, none⟩)] w (ScanPostD (scan 0 0 xs) w) := by
  obtain ⟨A, c, a, all, c0, c1, c2, _, _, hr, hl, ha, HD, hxl, _⟩ := h.parts
  have HXL := Lib.hid hxl
  clear h hxl
  go_enter Try.func37, Try.ntmps37
  go_wp2
  go_loopw [5, 6] (fun t i wr => ∃ k acc m : Nat, t = .int .u64 acc ∧ i = .int .i64 k ∧ ScanAt xs k acc ∧ wr = w.drewN m) (fun _ i _ => xs.length + 1 - (intOf i).toNat)
  case atStart => exact ⟨0, 0, 0, rfl, rfl, ScanAt.zero xs, rfl⟩
  case round =>
    obtain ⟨k, acc, m, rfl, rfl, hs, rfl⟩ := hrel
    have hk9 := hs.2.1
    have e1 : IntKind.i64.wrap ((a : Int) + (k : Int)) = (a : Int) + (k : Int) := IntWalk.i64_in _ (by omega)
    have e2 : (0 : Int) ≤ (a : Int) + (k : Int) := by omega
    have e3 : ((a : Int) + (k : Int)).toNat = a + k := by omega
    by_cases hlt : k < xs.length
    · have hge : decide ((all.length : Int) ≤ (a : Int) + (k : Int)) = false := by have := HXL.out; simp; omega
      have hlt' : (a : Int) + (k : Int) < (all.length : Int) := by have := HXL.out; omega
      obtain ⟨b, off, rfl, _, hc⟩ := hr.at_ (k := a + k) (by have := HXL.out; omega)
      have hgd : all.getD (a + k) 0 = xs.getD k 0 := by rw [← HD.out]; simp [List.getElem?_drop]
      rw [hgd] at hc
      have hx : 0 ≤ xs.getD k 0 ∧ xs.getD k 0 < 256 := by
        rw [← hgd]
        have hlen := HXL.out
        rw [getD_at (by omega)]; exact hr.byte _ (List.getElem_mem _)
      have HF := Lib.hid (hs.form hlt)
      have HDn := Lib.hid (hs.done hlt)
      have HN := Lib.hid (hs.next hlt)
      have HS := Lib.hid hs
      clear hs hr hgd
      generalize xs.getD k 0 = x at hc hx HF HDn HN
      go_wp2_with fail
      go_quiet (fail)
      go_wp2_with fail
      go_quiet (fail)
      clear e1 e2 e3
      go_wp2
      · go_ret3
        exact ScanPostD.of (HF.out (.inl ⟨by omega, by omega⟩)) rfl rfl rfl rfl ⟨_, rfl⟩
      · have h0 : x = 0 := by assumption
        go_ret3
        exact ScanPostD.of (HF.out (.inr ⟨by omega, h0⟩)) rfl rfl rfl rfl ⟨_, rfl⟩
      · have h0 : ¬ x = 0 := by assumption
        have hk : k = 9 := by omega
        have ho := or_any acc k x HS.out.2.2.1 hk9 (by omega) (by omega) (fun _ => by omega)
        rw [show (2 : Int) ^ (7 * k) = 9223372036854775808 from by rw [hk]; rfl] at ho
        rw [and_lowb x (by omega) (by omega), ho]
        go_ret3
        exact ScanPostD.of (HDn.out (by omega) (by omega)) rfl rfl (by omega) rfl ⟨_, rfl⟩
      · have h0 : x = 0 := by assumption
        go_ret3
        exact ScanPostD.of (HF.out (.inr ⟨by omega, h0⟩)) rfl rfl rfl rfl ⟨_, rfl⟩
      · have h0 : x = 0 := by assumption
        rw [and_lowb 0 (by omega) (by omega), or_any acc k 0 HS.out.2.2.1 hk9 (by omega) (by omega) (fun _ => by omega)]
        go_ret3
        exact ScanPostD.of (HDn.out (by omega) (by omega)) rfl (by rw [h0]) (by omega) rfl ⟨_, rfl⟩
      · have h0 : ¬ x = 0 := by assumption
        rw [and_lowb x (by omega) (by omega), or_any acc k x HS.out.2.2.1 hk9 (by omega) (by omega) (fun _ => by omega)]
        go_ret3
        exact ScanPostD.of (HDn.out (by omega) (by omega)) rfl rfl (by omega) rfl ⟨_, rfl⟩
      · rw [and_low x (by omega) (by omega), or_any acc k (x - 128) HS.out.2.2.1 hk9 (by omega) (by omega) (fun _ => by omega)]
        go_roundw
        case rel => exact ⟨k + 1, acc + (x - 128).toNat * 128 ^ k, _, rfl, by go_num, by have := HN.out (by omega) (by omega) (by omega); rwa [show (x - 128).toNat = x.toNat - 128 from by omega], rfl⟩
        case measure => simp [intOf]; omega
    · have hge : decide ((all.length : Int) ≤ (a : Int) + (k : Int)) = true := by have := HXL.out; simp; omega
      go_wp2_with fail
      go_quiet (fail)
      go_wp2
      go_ret3
      exact ScanPostD.of (hs.end_ hlt) rfl rfl rfl rfl ⟨_, by rw [World.drewN_drewN]⟩

/-- What the reference's calls leave. -/
def RefNumPost (w : World) (q : Nat) (r : Nat × List Int × Nat) (e : Ending) (w' : World) : Prop :=
  e = .returned (.int .u64 r.1) ∧ Ref w' q r.2.1 r.2.2 ∧ w.grownBy w' (some q)
theorem grown_drewN {a w : World} {row : Option Nat} (h : a.grownBy w row) (n : Nat) : a.grownBy (w.drewN n) row := ⟨h.os, h.tape, h.output, h.size, h.block⟩
theorem grown_undrew {w w' : World} {row : Option Nat} {n : Nat} (h : (w.drewN n).grownBy w' row) : w.grownBy w' row := ⟨h.os, h.tape, h.output, h.size, h.block⟩
set_option maxHeartbeats 400000 in
theorem refNum_rd (q : Nat) (xs : List Int) (f : Nat) (w : World) (h : Ref w q xs f) : Calls Try.prog 22 #[.pointer (some ⟨q, 0, none⟩)] w (RefNumPost w q (rNum xs f)) := by
  by_cases hf : f = 0
  · subst hf
    obtain ⟨A, c, a, all, c0, c1, c2, f1, f2, hr, hl, ha, HD, hxl, HH⟩ := h.parts
    have HXL := Lib.hid hxl
    clear hxl
    have hsz := scan_size xs 0 0
    have HZ : Hid ((scan 0 0 xs).2.1 ≤ all.length - a) := Lib.hid (by have := HXL.out; omega)
    clear hsz
    go_enter Try.func22, Try.ntmps22
    go_wp2_with fail
    refine (refNumber_any q xs 0 w h).mono ?_
    rintro e w1 ⟨rfl, m, rfl⟩
    have hr1 : Rd (w.drewN m) q A all.length c all := hr
    have hpf := Ref.putF (w := w.drewN m) (q := q) (xs := xs) (f := 0) (f2 := (scan 0 0 xs).2.2) h
    have HP := Lib.hid hpf
    clear hpf
    have hb1 : (scan 0 0 xs).2.1 ≤ 100000 := by have := HZ.out; omega
    go_wp2
    go_ret
    obtain ⟨hP1, hg1⟩ := HP.out
    have hh2 := heap_setCell_same (w.drewN m) q 2 _ 47 (.int .i64 (scan 0 0 xs).2.2) HH.out
    have hr2 : Rd ((w.drewN m).setCell ⟨q, 2, none⟩ (.int .i64 (scan 0 0 xs).2.2)) q A all.length c all :=
      rd_far3 hr1 HH.out fun p hp hne => World.cell?_of_block (hg1.block _ (Nat.lt_trans hp (blk_lt HH.out)) (fun e => hne (by injection e)))
    have hA := Ref.putA (f := (scan 0 0 xs).2.2) (a := a) (n2 := a + (scan 0 0 xs).2.1) (by simpa using hh2) hr2 hl (by have := HZ.out; omega) (x := (a : Int) + ((scan 0 0 xs).2.1 : Int)) (by omega)
    have hN : rNum xs 0 = ((scan 0 0 xs).1, all.drop (a + (scan 0 0 xs).2.1), (scan 0 0 xs).2.2) := by
      unfold rNum; rw [if_neg (by omega), ← HD.out, List.drop_drop]
    rw [hN]
    exact ⟨rfl, hA.1, (grown_undrew hg1).trans hA.2⟩
  · obtain ⟨A, c, a, all, c0, c1, c2, f1, f2, hr, hl, ha, HD, hxl, HH⟩ := h.parts
    have HXL := Lib.hid hxl
    clear hxl
    have hf'' : ((f : Int) != 0) = true := by simp; omega
    go_enter Try.func22, Try.ntmps22
    go_wp2
    go_ret
    have hr : rNum xs f = (0, xs, f) := by unfold rNum; rw [if_pos hf]
    rw [hr]
    exact ⟨rfl, h, World.grownBy.refl _ _⟩

set_option maxHeartbeats 400000 in
theorem signed_any (u : Nat) (hu : u < 18446744073709551616) (w : World) : Calls Try.prog 38 #[.int .u64 u] w fun e w' => e = .returned (.int .i64 (signedN u)) ∧ w = w' := by
  have HU := Lib.hid hu
  clear hu
  by_cases hev : u % 2 = 0
  · have h2 : ((u : Int) % 2 == 0) = true := by simp; omega
    go_enter Try.func38, Try.ntmps38
    go_wp2
    rw [half_wrap HU.out]
    go_ret
    exact ⟨by unfold signedN; rw [if_pos hev]; rfl, rfl⟩
  · have h2 : ((u : Int) % 2 == 0) = false := by simp; omega
    go_enter Try.func38, Try.ntmps38
    go_wp2
    rw [half_wrap HU.out, odd_wrap HU.out]
    go_ret
    exact ⟨by unfold signedN; rw [if_neg hev]; rfl, rfl⟩

theorem Ref.byte {w : World} {q : Nat} {xs : List Int} {f : Nat} (h : Ref w q xs f) : ∀ x ∈ xs, 0 ≤ x ∧ x < 256 := by
  obtain ⟨A, c, a, all, _, hr, _, _, rfl⟩ := h
  exact fun x hx => hr.byte x (List.mem_of_mem_drop hx)
def RefZigPost (w : World) (q : Nat) (r : Nat × List Int × Nat) (e : Ending) (w' : World) : Prop :=
  e = .returned (.int .i64 (signedN r.1)) ∧ Ref w' q r.2.1 r.2.2 ∧ w.grownBy w' (some q)
set_option maxHeartbeats 400000 in
theorem refZig_rd (q : Nat) (xs : List Int) (f : Nat) (w : World) (h : Ref w q xs f) : Calls Try.prog 24 #[.pointer (some ⟨q, 0, none⟩)] w (RefZigPost w q (rNum xs f)) := by
  have HB := Lib.hid (rNum_lt (f := f) h.byte)
  go_enter Try.func24, Try.ntmps24
  go_wp2_with fail
  refine (refNum_rd q xs f w h).mono ?_
  rintro e w1 ⟨rfl, h1, hg⟩
  go_wp2_with fail
  refine (signed_any _ HB.out w1).mono ?_
  rintro e w2 ⟨rfl, rfl⟩
  go_wp2
  go_ret
  exact ⟨rfl, h1, hg⟩

set_option maxHeartbeats 400000 in
theorem refLeft_rd (q : Nat) (xs : List Int) (f : Nat) (w : World) (h : Ref w q xs f) : Calls Try.prog 30 #[.pointer (some ⟨q, 0, none⟩)] w fun e w' => e = .returned (.int .i64 xs.length) ∧ ∃ m, w' = w.drewN m := by
  obtain ⟨A, c, a, all, c0, c1, c2, f1, f2, hr, hl, ha, HD, hxl, HH⟩ := h.parts
  have HXL := Lib.hid hxl
  clear hxl
  have e1 : IntKind.i64.wrap ((all.length : Int) - (a : Int)) = (all.length : Int) - (a : Int) := IntWalk.i64_in _ (by omega)
  go_enter Try.func30, Try.ntmps30
  go_wp2_with fail
  go_quiet (fail)
  go_wp2
  go_ret
  exact ⟨by rw [HXL.out]; exact congrArg (fun x => Ending.returned (.int .i64 x)) (by omega), _, rfl⟩

set_option maxHeartbeats 400000 in
theorem refEnd_rd (q : Nat) (xs : List Int) (f : Nat) (w : World) (h : Ref w q xs f) : Calls Try.prog 33 #[.pointer (some ⟨q, 0, none⟩)] w fun e w' => e = .returned (.int .i64 (rEnd xs f)) ∧ ∃ m, w' = w.drewN m := by
  obtain ⟨A, c, a, all, c0, c1, c2, f1, f2, hr, hl, ha, HD, hxl, HH⟩ := h.parts
  have HXL := Lib.hid hxl
  clear hxl
  by_cases hf : f = 0
  · subst hf
    have HE : Hid (rEnd xs 0 = if 0 < xs.length then 4 else 0) := Lib.hid (by unfold rEnd; rw [if_neg (by omega)])
    by_cases hlt : a < all.length
    · have hd : decide ((a : Int) < (all.length : Int)) = true := by simp; omega
      go_enter Try.func33, Try.ntmps33
      go_wp2_with fail
      go_quiet (fail)
      go_wp2
      go_ret
      exact ⟨by rw [HE.out, if_pos (by have := HXL.out; omega)]; rfl, _, rfl⟩
    · have hd : decide ((a : Int) < (all.length : Int)) = false := by simp; omega
      go_enter Try.func33, Try.ntmps33
      go_wp2_with fail
      go_quiet (fail)
      go_wp2
      go_ret
      exact ⟨by rw [HE.out, if_neg (by have := HXL.out; omega)]; rfl, _, rfl⟩
  · have HR : Hid (rEnd xs f = f) := Lib.hid (by unfold rEnd; rw [if_pos hf])
    have hf'' : ((f : Int) == 0) = false := by simp; omega
    go_enter Try.func33, Try.ntmps33
    go_wp2_with fail
    go_quiet (fail)
    go_wp2
    go_ret
    exact ⟨by rw [HR.out]; rfl, _, rfl⟩
end Go.Proofs.Ytfodccjineallaa
