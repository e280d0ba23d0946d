/-
  PROVED: for every byte slice b and every list of readings the law 'CodeReads' returns true: each answer, what is left and the first fault are the document's; what is handed in stays, and nobody writes into what is told (P1.2, P1.3). No condition.
-/
import Derived.Test.YtfodccjineallaaRef3
import Derived.Test.YtfodccjineallaaWritesProof
import Derived.Deep.SlicePairs
namespace Go.Proofs.Ytfodccjineallaa
open Go.ChangeShapes Go.WideShapes Go.ChangeAt Go.RowKit

theorem Ref.keep {w w' : World} {p q : Nat} {xs ys : List Int} {f g : Nat} (h : Ref w q xs f) (hR : Rdr w p ys g) (hg : w.grownBy w' (some p)) (hpq : p ≠ q) : Ref w' q xs f := by
  obtain ⟨A, c, a, all, hh, hr, hl⟩ := h
  obtain ⟨A', c', hh', _, _⟩ := hR
  exact ⟨A, c, a, all, (hg.block q (blk_lt hh) (fun e => hpq (by injection e with e; exact e.symm))).trans hh, rd_far hr hh' fun z hz hne => World.cell?_of_block (hg.block _ (Nat.lt_trans hz (blk_lt hh)) (fun e => hne (by injection e))), hl⟩
theorem Rdr.keep {w w' : World} {p q : Nat} {xs ys : List Int} {f g : Nat} (h : Rdr w p xs f) (hQ : Ref w q ys g) (hg : w.grownBy w' (some q)) (hpq : p ≠ q) : Rdr w' p xs f := by
  obtain ⟨A, c, hh, hr, hl⟩ := h
  obtain ⟨A', c', a', all', hh', _⟩ := hQ
  exact ⟨A, c, (hg.block p (blk_lt hh) (fun e => hpq (by injection e))).trans hh, rd_far3 hr hh' fun z hz hne => World.cell?_of_block (hg.block _ (Nat.lt_trans hz (blk_lt hh)) (fun e => hne (by injection e))), hl⟩
theorem Rdr.belowB {w w' : World} {p B : Nat} {xs : List Int} {f : Nat} (h : Rdr w p xs f) (hb : Below B w w') (hp : p < B) : Rdr w' p xs f := by
  obtain ⟨A, c, hh, hr, hl⟩ := h
  exact ⟨A, c, (hb.block p hp).trans hh, hr.below (hb.mono (Nat.le_of_lt hp)), hl⟩
theorem Ref.belowB {w w' : World} {q B : Nat} {xs : List Int} {f : Nat} (h : Ref w q xs f) (hb : Below B w w') (hq : q < B) : Ref w' q xs f := by
  obtain ⟨A, c, a, all, hh, hr, hl⟩ := h
  exact ⟨A, c, a, all, (hb.block q hq).trans hh, hr.below (hb.mono (Nat.le_of_lt hq)), hl⟩

/-- Bytes that lie in block lo or behind it. -/
def Lo (lo : Nat) (A : Option Addr) (n : Nat) : Prop := 0 < n → ∃ b off, A = some ⟨b, off, none⟩ ∧ lo ≤ b
theorem lo_of_own {w : World} {B n c : Nat} {A : Option Addr} {vs : List Value} (h : w.ownsRow B 5 1 (.slice A n c) n vs) : Lo B A n := by
  intro hn
  obtain ⟨g, cap, hv, hB, _⟩ := h.form hn
  injection hv with h1
  exact ⟨g, 0, h1, hB⟩
/-- A reader, and a reference's one, just made: their bytes lie in new memory. -/
def RdrN (w : World) (lo p : Nat) (xs : List Int) : Prop := ∃ A c, w.heap[p]? = some (.cells #[.slice A xs.length c, .int .i64 (0 : Nat)] 55 (0, 0)) ∧ Rd w p A xs.length c xs ∧ Lo lo A xs.length ∧ xs.length ≤ 100000
def RefN (w : World) (lo q : Nat) (xs : List Int) : Prop := ∃ A c, w.heap[q]? = some (.cells #[.slice A xs.length c, .int .i64 (0 : Nat), .int .i64 (0 : Nat)] 47 (0, 0)) ∧ Rd w q A xs.length c xs ∧ Lo lo A xs.length ∧ xs.length ≤ 100000
section
variable {w w' : World} {lo p g B : Nat} {xs : List Int}
theorem rd_past {A : Option Addr} {n c : Nat} (h : Rd w B A n c xs) (hl : Lo lo A n) (hg : w.grownBy w' (some g)) (hlo : g < lo) (hB : B ≤ w.heap.size) : Rd w' B A n c xs := by
  obtain ⟨h1, h2, h3, h4, h5⟩ := h
  refine ⟨h1, h2, h3, h4, fun hn => ?_⟩
  obtain ⟨b, off, e, hb, hc⟩ := h5 hn
  obtain ⟨b', off', e', hl'⟩ := hl hn
  rw [e] at e'
  injection e' with e'
  injection e' with e1 e2
  subst e1
  exact ⟨b, off, e, hb, fun j u hu => (World.cell?_of_block (hg.block b (by omega) (fun e => by injection e with e; omega))).trans (hc j u hu)⟩
theorem RdrN.below (h : RdrN w lo p xs) (hb : Below w.heap.size w w') : RdrN w' lo p xs := by
  obtain ⟨A, c, hh, hr, hl⟩ := h
  exact ⟨A, c, (hb.block p (blk_lt hh)).trans hh, hr.below (hb.mono (Nat.le_of_lt (blk_lt hh))), hl⟩
theorem RefN.below (h : RefN w lo p xs) (hb : Below w.heap.size w w') : RefN w' lo p xs := by
  obtain ⟨A, c, hh, hr, hl⟩ := h
  exact ⟨A, c, (hb.block p (blk_lt hh)).trans hh, hr.below (hb.mono (Nat.le_of_lt (blk_lt hh))), hl⟩
theorem RdrN.past (h : RdrN w lo p xs) (hg : w.grownBy w' (some g)) (hlo : g < lo) (hp : g ≠ p) : Rdr w' p xs 0 := by
  obtain ⟨A, c, hh, hr, hl, hx⟩ := h
  exact ⟨A, c, (hg.block p (blk_lt hh) (fun e => hp (by injection e with e; exact e.symm))).trans hh, rd_past hr hl hg hlo (Nat.le_of_lt (blk_lt hh)), hx⟩
theorem RefN.past (h : RefN w lo p xs) (hg : w.grownBy w' (some g)) (hlo : g < lo) (hp : g ≠ p) : Ref w' p xs 0 := by
  obtain ⟨A, c, hh, hr, hl, hx⟩ := h
  exact ⟨A, c, 0, xs, (hg.block p (blk_lt hh) (fun e => hp (by injection e with e; exact e.symm))).trans hh, rd_past hr hl hg hlo (Nat.le_of_lt (blk_lt hh)), hx, by omega, by simp⟩
end
set_option maxHeartbeats 400000 in
theorem new_lo (B : Nat) (A : Option Addr) (n c : Nat) (xs : List Int) (w : World) (hr : Rd w B A n c xs) (hn : n ≤ 100000) :
    Calls Try.prog 18 #[.slice A n c] w fun e w' => ∃ p, e = .returned (.pointer (some ⟨p, 0, none⟩)) ∧ w.heap.size ≤ p ∧ p < w'.heap.size ∧ RdrN w' w.heap.size p xs ∧ Below w.heap.size w w' := by
  have HL := Lib.hid hr.len
  have HX := Lib.hid hr.byte
  go_enter Try.func18, Try.ntmps18
  go_wp2_with fail
  refine (clone_any B A n c xs w hr (by omega)).mono ?_
  rintro e w1 ⟨A1, c1, rfl, hown, hb⟩
  go_wp2
  go_ret
  refine ⟨w1.heap.size, rfl, hb.size, by simp, ⟨A1, c1, heap_alloc_new w1 _, ?_, lo_of_own hown, by have := HL.out; omega⟩, hb.alloc hb.size _⟩
  exact (Rd.of_own hown HX.out).alloc (Nat.le_refl _) (.cells #[.slice A1 xs.length c1, .int .i64 0] 55)
set_option maxHeartbeats 400000 in
theorem refNew_lo (A : Option Addr) (n c : Nat) (xs : List Int) (w : World) (hr : Rd w w.heap.size A n c xs) (hn : n ≤ 100000) :
    Calls Try.prog 19 #[.slice A n c] w fun e w' => ∃ q, e = .returned (.pointer (some ⟨q, 0, none⟩)) ∧ w.heap.size ≤ q ∧ RefN w' w.heap.size q xs ∧ Below w.heap.size w w' := by
  obtain ⟨i0, hi, hz0, hz1, hz2⟩ := info_parts Try.info5
  have HL := Lib.hid hr.len
  have HX := Lib.hid hr.byte
  go_enter Try.func19, Try.ntmps19
  go_wp2_with (at_builtin; refine wpList_append_rd _ rfl _ _ 23 rfl w.heap.size 5 i0 Try.underlying23 hi hz0 hz1 hz2 _ _ _ rfl (World.ownsRow_nil _ _ _ _) w.heap.size _ _ _ _ rfl hr (by omega) (Nat.le_refl _) ?_)
  intro v' w2 hown' hg _
  have hb2 : Below w.heap.size w w2 := (Below.refl _ _).grown hg (Nat.le_refl _) (fun k hk => by cases hk)
  have hown : w2.ownsRow w.heap.size 5 1 v' xs.length (cellsB xs) := by rw [HL.out]; simpa using hown'
  obtain ⟨A2, c2, rfl⟩ := own_form hown
  clear hg hr hown'
  go_wp2
  go_ret
  refine ⟨w2.heap.size, rfl, hb2.size, ⟨A2, c2, heap_alloc_new w2 _, ?_, lo_of_own hown, by have := HL.out; omega⟩, hb2.alloc hb2.size _⟩
  exact (Rd.of_own hown HX.out).alloc (Nat.le_refl _) (.cells #[.slice A2 xs.length c2, .int .i64 0, .int .i64 0] 47)

/-- A slice of readings that came in. -/
def Ops (w : World) (A : Option Addr) (n c : Nat) (K N : Nat → Int) : Prop :=
  n ≤ c ∧ c ≤ maxLen ∧ (0 < n → ∃ b off, A = some ⟨b, off, none⟩ ∧ b < w.heap.size ∧ ∀ k, k < n → w.cell? ⟨b, off + k * 2, none⟩ = some (.int .i64 (K k)) ∧ w.cell? ⟨b, off + k * 2 + 1, none⟩ = some (.int .i64 (N k)))

theorem Rdr.byte {w : World} {p : Nat} {xs : List Int} {f : Nat} (h : Rdr w p xs f) : ∀ x ∈ xs, 0 ≤ x ∧ x < 256 := by
  obtain ⟨_, _, _, hr, _⟩ := h; exact hr.byte
theorem Rdr.len_le {w : World} {p : Nat} {xs : List Int} {f : Nat} (h : Rdr w p xs f) : xs.length ≤ 100000 := by
  obtain ⟨_, _, _, _, hl⟩ := h; exact hl
theorem rRaw_sub {n : Int} {xs : List Int} {f : Nat} {x : Int} (h : x ∈ (rRaw n xs f).1) : x ∈ xs := by
  unfold rRaw at h
  split at h
  · simp at h
  · split at h
    · simp at h
    · exact List.mem_of_mem_take h
theorem rRaw_short {n : Int} {xs : List Int} {f : Nat} : (rRaw n xs f).1.length ≤ xs.length := by
  unfold rRaw
  split
  · simp
  · split
    · simp
    · simp; omega
theorem rNum_rest {xs : List Int} {f : Nat} : ∃ k, (rNum xs f).2.1 = xs.drop k := by
  unfold rNum
  split
  · exact ⟨0, by simp⟩
  · exact ⟨_, rfl⟩
theorem rRaw_byte {n : Int} {xs rs ys : List Int} {f f2 : Nat} (h : rRaw n xs f = (rs, ys, f2)) (hx : ∀ x ∈ xs, 0 ≤ x ∧ x < 256) : ∀ x ∈ rs, 0 ≤ x ∧ x < 256 :=
  fun x hr => hx x (rRaw_sub (n := n) (f := f) (by rw [h]; exact hr))
theorem rRaw_len {n : Int} {xs rs ys : List Int} {f f2 : Nat} (h : rRaw n xs f = (rs, ys, f2)) (hx : xs.length ≤ 100000) : rs.length ≤ 100000 := by
  have := rRaw_short (n := n) (xs := xs) (f := f); rw [h] at this; simp only at this; omega
theorem rText_fst {m : Int} {xs : List Int} {f : Nat} : (∀ x ∈ (rText m xs f).1, x ∈ xs) ∧ (rText m xs f).1.length ≤ xs.length := by
  unfold rText
  split
  · simp
  · split
    · simp
    · obtain ⟨k, hk⟩ := rNum_rest (xs := xs) (f := 0)
      rw [hk]
      refine ⟨fun x hx => List.mem_of_mem_drop (rRaw_sub hx), ?_⟩
      have := rRaw_short (n := signedN (rNum xs 0).1) (xs := xs.drop k) (f := (rNum xs 0).2.2)
      rw [List.length_drop] at this; omega
theorem rText_byte {n : Int} {xs rs ys : List Int} {f f2 : Nat} (h : rText n xs f = (rs, ys, f2)) (hx : ∀ x ∈ xs, 0 ≤ x ∧ x < 256) : ∀ x ∈ rs, 0 ≤ x ∧ x < 256 :=
  fun x hr => hx x ((rText_fst (m := n) (f := f)).1 x (by rw [h]; exact hr))
theorem rText_len {n : Int} {xs rs ys : List Int} {f f2 : Nat} (h : rText n xs f = (rs, ys, f2)) (hx : xs.length ≤ 100000) : rs.length ≤ 100000 := by
  have := (rText_fst (m := n) (xs := xs) (f := f)).2; rw [h] at this; simp only at this; omega
section
variable {W : World} {p q : Nat} {ys : List Int} {f : Nat}
theorem q_left (h : Rdr W p ys f) (n : Nat) : Calls Try.prog 29 #[.pointer (some ⟨p, 0, none⟩)] (W.drewN n) fun e w'' => e = .returned (.int .i64 ys.length) ∧ ∃ m, w'' = W.drewN m :=
  (left_rd p ys f (W.drewN n) h).mono fun _ _ ⟨h1, h2⟩ => ⟨h1, n, h2.symm⟩
theorem q_err (h : Rdr W p ys f) (n : Nat) : Calls Try.prog 31 #[.pointer (some ⟨p, 0, none⟩)] (W.drewN n) fun e w'' => e = .returned (.int .i64 f) ∧ ∃ m, w'' = W.drewN m :=
  (err_rd p ys f (W.drewN n) h).mono fun _ _ ⟨h1, h2⟩ => ⟨h1, n, h2.symm⟩
theorem q_end (h : Rdr W p ys f) (n : Nat) : Calls Try.prog 32 #[.pointer (some ⟨p, 0, none⟩)] (W.drewN n) fun e w'' => e = .returned (.int .i64 (rEnd ys f)) ∧ ∃ m, w'' = W.drewN m :=
  (end_rd p ys f (W.drewN n) h).mono fun _ _ ⟨h1, h2⟩ => ⟨h1, n, h2.symm⟩
theorem q_refLeft (h : Ref W q ys f) (n : Nat) : Calls Try.prog 30 #[.pointer (some ⟨q, 0, none⟩)] (W.drewN n) fun e w'' => e = .returned (.int .i64 ys.length) ∧ ∃ m, w'' = W.drewN m :=
  (refLeft_rd q ys f (W.drewN n) h).mono fun _ _ ⟨h1, m, hm⟩ => ⟨h1, n + m, by rw [hm, World.drewN_drewN]⟩
theorem q_refEnd (h : Ref W q ys f) (n : Nat) : Calls Try.prog 33 #[.pointer (some ⟨q, 0, none⟩)] (W.drewN n) fun e w'' => e = .returned (.int .i64 (rEnd ys f)) ∧ ∃ m, w'' = W.drewN m :=
  (refEnd_rd q ys f (W.drewN n) h).mono fun _ _ ⟨h1, m, hm⟩ => ⟨h1, n + m, by rw [hm, World.drewN_drewN]⟩
end

namespace codeReads
/-- Both readers stand alike. -/
def Both (w0 wr : World) (p q : Nat) (xs : List Int) (f : Nat) : Prop := Rdr wr p xs f ∧ Ref wr q xs f ∧ Below w0.heap.size w0 wr

set_option maxHeartbeats 1000000 in
set_option maxRecDepth 100000 in
theorem walk (A : Option Addr) (l c : Nat) (xs : List Int) (A' : Option Addr) (l' c' : Nat) (K N : Nat → Int) (w : World) (hr : Rd w w.heap.size A l c xs) (hl : l ≤ 5000) (ho : Ops w A' l' c' K N) :
    Calls Try.prog 4 #[.slice A l c, .slice A' l' c'] w fun e w' => e = .returned (.bool true) ∧ Below w.heap.size w w' := by
  have HL := Lib.hid hr.len
  have hm' : l' ≤ 9223372036854775807 := by have := ho.1; have := ho.2.1; unfold maxLen at this; omega
  have HM := Lib.hid hm'
  clear hm'
  go_enter Try.func4, Try.ntmps4
  go_wp2_with fail
  refine (own_any w.heap.size A l c xs 71 w hr (Nat.le_refl _) (by omega)).mono ?_
  rintro e w1 ⟨g, rfl, hg, hrow, hb1⟩
  have hin : Rd w1 w1.heap.size (some ⟨g, 0, none⟩) l (l + 3) xs := by
    have := hrow.rd (n := l) (c := l + 3) (fun x hx => by
      rw [List.mem_append] at hx
      rcases hx with hx | hx
      · exact hr.byte x hx
      · simp at hx; omega) (by simp; have := HL.out; omega) (by omega) (by unfold maxLen; omega)
    rwa [List.take_left' HL.out] at this
  go_wp2_with fail
  refine (new_lo _ _ _ _ xs w1 hin (by omega)).mono ?_
  rintro e w2 ⟨p, rfl, hp, hpl, hR2, hb2⟩
  have hrow2 := hrow.below hb2 hrow.lt
  have hbw2 := bstep hb1 hb2
  have hrw2 := (hr.below hbw2).more hbw2.size
  have hg1 := hrow.lt
  have hg2 := hrow2.lt
  have hpw : w.heap.size ≤ p := Nat.le_trans hb1.size hp
  clear hin hrow hb1 hb2
  go_wp2_with fail
  refine (refNew_lo _ _ _ xs w2 hrw2 (by omega)).mono ?_
  rintro e w3 ⟨q, rfl, hq, hQ3, hb3⟩
  have hR3 := hR2.below hb3
  have hpq : p ≠ q := by omega
  have hgp : g ≠ p := by omega
  have hgq : g ≠ q := by omega
  have hqw : w.heap.size ≤ q := by omega
  have hrow3 := hrow2.below hb3 hrow2.lt
  have hbw3 := bstep hbw2 hb3
  clear hR2 hb3 hq hrow2 hbw2 hrw2 hp hpl
  go_wp2_with fail
  refine (awake_any w3).mono ?_
  rintro e w4 ⟨rfl, hb4⟩
  have hR4 := hR3.below hb4
  have hQ4 := hQ3.below hb4
  have hrow4 := hrow3.below hb4 hrow3.lt
  have hbw4 := bstep hbw3 hb4
  have hrw4 := (hr.below hbw4).more hbw4.size
  clear hR3 hQ3 hrow3 hbw3 hb4
  go_wp2_with fail
  refine (kept_true A g l c xs 71 w4 hrow4 (by omega) hrw4 (by omega)).mono ?_
  rintro e w5 ⟨rfl, hb5⟩
  have hR5 := hR4.below hb5
  have hQ5 := hQ4.below hb5
  have hrow5 := hrow4.below hb5 hrow4.lt
  have hbw5 := bstep hbw4 hb5
  clear hR4 hQ4 hrow4 hbw4 hb5 hrw4
  have hown5 : w5.ownsRow w.heap.size 5 1 (.slice (some ⟨g, 0, none⟩) l (l + 3)) l (cellsB xs) := hrow5.own hg HL.out rfl (by unfold maxLen; omega)
  go_wp2_with fail
  refine (spoil_any _ _ _ _ xs w5 (by omega) hown5).mono ?_
  rintro e w6 ⟨rfl, hb6, hg6⟩
  have hR6 : Rdr w6 p xs 0 := hR5.past hg6 hg1 hgp
  have hQ6 : Ref w6 q xs 0 := hQ5.past hg6 hg2 hgq
  have hB6 : Both w w6 p q xs 0 := ⟨hR6, hQ6, hbw5.trans hb6⟩
  clear hR5 hQ5 hrow5 hbw5 hown5 hg6 hb6 hR6 hQ6 hr HL hgp hgq hg1 hg2 hg
  go_wp2
  go_loopw [8] (fun i wr => ∃ (k : Nat) (ys : List Int) (f : Nat), i = .int .i64 k ∧ k ≤ l' ∧ k ≤ 60 ∧ Both w wr p q ys f) (fun i _ => 60 - (intOf i).toNat)
  case atStart => exact ⟨0, xs, 0, rfl, by omega, by omega, hB6⟩
  case round =>
    clear hB6
    obtain ⟨k, ys, f, rfl, hk, hk60, hB⟩ := hrel
    by_cases hlt : k < l' ∧ k < 60
    · obtain ⟨b, off, rfl, hbl, hcells⟩ := ho.2.2 (by omega)
      obtain ⟨x0, x1⟩ := hcells k hlt.1
      have hbel := hB.2.2
      have y0 : wr.cell? ⟨b, off + k * 2, none⟩ = some (.int .i64 (K k)) := (hbel.cell (p := ⟨b, off + k * 2, none⟩) hbl).trans x0
      have y1 : wr.cell? ⟨b, off + k * 2 + 1, none⟩ = some (.int .i64 (N k)) := (hbel.cell (p := ⟨b, off + k * 2 + 1, none⟩) hbl).trans x1
      clear hcells x0 x1 hbel
      obtain ⟨hl1, hl2⟩ := hlt
      generalize K k = kd at y0
      generalize N k = nn at y1
      by_cases h0 : kd = 0
      · subst h0
        go_wp2_with fail
        have hbo : Below wr.heap.size wr (wr.alloc (.cells #[.int .i64 0, .int .i64 nn] 39)) := (Below.refl _ _).alloc (Nat.le_refl _) _
        have hB1 : Both w (wr.alloc (.cells #[.int .i64 0, .int .i64 nn] 39)) p q ys f := ⟨hB.1.below hbo (Nat.le_refl _), hB.2.1.below hbo (Nat.le_refl _), hB.2.2.trans (hbo.mono hB.2.2.size)⟩
        clear hB y0 y1 hbo
        generalize wr.alloc (.cells #[.int .i64 0, .int .i64 nn] 39) = w7 at *
        obtain ⟨hR7, hQ7, hb7⟩ := hB1
        refine (num_rd p ys f w7 hR7).mono ?_
        generalize hres : rNum ys f = res
        have HRES := Lib.hid hres
        clear hres
        obtain ⟨u, ys2, f2⟩ := res
        rintro e w8 ⟨rfl, hR8, hg8⟩
        simp only at hR8 ⊢
        have hQ8 : Ref w8 q ys f := hQ7.keep hR7 hg8 hpq
        have hb8 : Below w.heap.size w w8 := hb7.grown hg8 hb7.size (fun k hk => by cases hk; exact hpw)
        clear hR7 hQ7 hb7 hg8
        go_wp2_with fail
        refine (refNum_rd q ys f w8 hQ8).mono ?_
        rw [HRES.out]
        rintro e w9 ⟨rfl, hQ9, hg9⟩
        simp only at hQ9 ⊢
        have hR9 : Rdr w9 p ys2 f2 := hR8.keep hQ8 hg9 hpq
        have hb9 : Below w.heap.size w w9 := hb8.grown hg9 hb8.size (fun k hk => by cases hk; exact hqw)
        have hB' : Both w w9 p q ys2 f2 := ⟨hR9, hQ9, hb9⟩
        clear hR8 hQ8 hR9 hQ9 hb8 hb9 hg9
        obtain ⟨hRt, hQt, hbt⟩ := hB'
        obtain ⟨Aq, cq, aq, allq, _, _, cE, _⟩ := hQt.parts
        go_wp2_with fail
        go_quiet (first | (go_at_call 29; exact q_left hRt _) | (go_at_call 30; exact q_refLeft hQt _) | (go_at_call 31; exact q_err hRt _) | (go_at_call 32; exact q_end hRt _) | (go_at_call 33; exact q_refEnd hQt _))
        go_wp2
        go_roundw
        case rel => exact ⟨k + 1, _, _, by go_num, by omega, by omega, hRt, hQt, below_drewN hbt _⟩
        case measure => simp [intOf]; omega
      by_cases h1 : kd = 1
      · subst h1
        go_wp2_with fail
        have hbo : Below wr.heap.size wr (wr.alloc (.cells #[.int .i64 1, .int .i64 nn] 39)) := (Below.refl _ _).alloc (Nat.le_refl _) _
        have hB1 : Both w (wr.alloc (.cells #[.int .i64 1, .int .i64 nn] 39)) p q ys f := ⟨hB.1.below hbo (Nat.le_refl _), hB.2.1.below hbo (Nat.le_refl _), hB.2.2.trans (hbo.mono hB.2.2.size)⟩
        clear hB y0 y1 hbo
        generalize wr.alloc (.cells #[.int .i64 1, .int .i64 nn] 39) = w7 at *
        obtain ⟨hR7, hQ7, hb7⟩ := hB1
        refine (zig_rd p ys f w7 hR7).mono ?_
        generalize hres : rNum ys f = res
        have HRES := Lib.hid hres
        clear hres
        obtain ⟨u, ys2, f2⟩ := res
        rintro e w8 ⟨rfl, hR8, hg8⟩
        simp only at hR8 ⊢
        have hQ8 : Ref w8 q ys f := hQ7.keep hR7 hg8 hpq
        have hb8 : Below w.heap.size w w8 := hb7.grown hg8 hb7.size (fun k hk => by cases hk; exact hpw)
        clear hR7 hQ7 hb7 hg8
        go_wp2_with fail
        refine (refZig_rd q ys f w8 hQ8).mono ?_
        rw [HRES.out]
        rintro e w9 ⟨rfl, hQ9, hg9⟩
        simp only at hQ9 ⊢
        have hR9 : Rdr w9 p ys2 f2 := hR8.keep hQ8 hg9 hpq
        have hb9 : Below w.heap.size w w9 := hb8.grown hg9 hb8.size (fun k hk => by cases hk; exact hqw)
        have hB' : Both w w9 p q ys2 f2 := ⟨hR9, hQ9, hb9⟩
        clear hR8 hQ8 hR9 hQ9 hb8 hb9 hg9
        obtain ⟨hRt, hQt, hbt⟩ := hB'
        obtain ⟨Aq, cq, aq, allq, _, _, cE, _⟩ := hQt.parts
        go_wp2_with fail
        go_quiet (first | (go_at_call 29; exact q_left hRt _) | (go_at_call 30; exact q_refLeft hQt _) | (go_at_call 31; exact q_err hRt _) | (go_at_call 32; exact q_end hRt _) | (go_at_call 33; exact q_refEnd hQt _))
        go_wp2
        go_roundw
        case rel => exact ⟨k + 1, _, _, by go_num, by omega, by omega, hRt, hQt, below_drewN hbt _⟩
        case measure => simp [intOf]; omega
      by_cases h2 : kd = 2
      · subst h2
        go_wp2_with fail
        have cN : (wr.alloc (.cells #[.int .i64 2, .int .i64 nn] 39)).cell? ⟨wr.heap.size, 1, none⟩ = some (.int .i64 nn) := by
          rw [cell_of_row _ wr.heap.size 1 _ 39 (0, 0) (heap_alloc_new wr _)]; rfl
        have hol : wr.heap.size < (wr.alloc (.cells #[.int .i64 2, .int .i64 nn] 39)).heap.size := by simp
        have hbo : Below wr.heap.size wr (wr.alloc (.cells #[.int .i64 2, .int .i64 nn] 39)) := (Below.refl _ _).alloc (Nat.le_refl _) _
        have hop : wr.heap.size ≠ p := by have := hB.1.lt; omega
        have hoq : wr.heap.size ≠ q := by have := hB.2.1.lt; omega
        have hp1 : p < wr.heap.size := hB.1.lt
        have hq1 : q < wr.heap.size := hB.2.1.lt
        have hB1 : Both w (wr.alloc (.cells #[.int .i64 2, .int .i64 nn] 39)) p q ys f := ⟨hB.1.below hbo (Nat.le_refl _), hB.2.1.below hbo (Nat.le_refl _), hB.2.2.trans (hbo.mono hB.2.2.size)⟩
        clear hB y0 y1
        generalize wr.alloc (.cells #[.int .i64 2, .int .i64 nn] 39) = w7 at *
        generalize wr.heap.size = ob at *
        obtain ⟨hR7, hQ7, hb7⟩ := hB1
        have hp7 := hR7.lt
        have hq7 := hQ7.lt
        refine (text_rd p nn ys f w7 hR7).mono ?_
        generalize hres : rText nn ys f = res
        have HRES := Lib.hid hres
        clear hres
        obtain ⟨rs, ys2, f2⟩ := res
        rintro e w8 ⟨A8, c8, rfl, hown8, hR8, hg8⟩
        simp only at hown8 hR8 ⊢
        have hQ8 : Ref w8 q ys f := hQ7.keep hR7 hg8 hpq
        have hb8 : Below w.heap.size w w8 := hb7.grown hg8 hb7.size (fun k hk => by cases hk; exact hpw)
        have cN8 : w8.cell? ⟨ob, 1, none⟩ = some (.int .i64 nn) := (World.cell?_of_block (hg8.block ob hol (fun e => hop (by injection e)))).trans cN
        have hs8 := hg8.size
        have hrs : ∀ x ∈ rs, 0 ≤ x ∧ x < 256 := rText_byte HRES.out hR7.byte
        have HRS := Lib.hid hrs
        have hrl : rs.length ≤ 100000 := rText_len HRES.out hR7.len_le
        clear hrs cN hR7 hg8 hb7
        go_wp2_with fail
        refine (refText_rd q nn ys f w8 hQ8).mono ?_
        rw [HRES.out]
        rintro e w9 ⟨A9, c9, rfl, hown9, hQ9, hg9⟩
        simp only at hown9 hQ9 ⊢
        have hR9 : Rdr w9 p ys2 f2 := hR8.keep hQ8 hg9 hpq
        have hb9 : Below w.heap.size w w9 := hb8.grown hg9 hb8.size (fun k hk => by cases hk; exact hqw)
        have hown8' : w9.ownsRow w7.heap.size 5 1 (.slice A8 rs.length c8) rs.length (cellsB rs) := hown8.kept hg9 (.inr fun e => by have := (hown8.lt q e).1; omega)
        have hra := Rd.of_own hown8' HRS.out
        have hrb := Rd.of_own hown9 HRS.out
        clear hR8 hQ8 hb8 hown8 hown9 hg9 cN8
        go_wp2_with fail
        refine (bytes_same w9.heap.size _ _ _ _ _ _ rs w9 hra hrb).mono ?_
        rintro e w10 ⟨rfl, rfl⟩
        clear hra hrb
        go_wp2_with fail
        refine (spoil_any w7.heap.size _ _ _ rs w9 hrl hown8').mono ?_
        rintro e w10 ⟨rfl, hb10, _⟩
        have hB' : Both w w10 p q ys2 f2 := ⟨hR9.belowB hb10 hp7, hQ9.belowB hb10 hq7, hb9.trans (hb10.mono (by omega))⟩
        clear hR9 hQ9 hb9 hown8' hb10 hQ7
        obtain ⟨hRt, hQt, hbt⟩ := hB'
        obtain ⟨Aq, cq, aq, allq, _, _, cE, _⟩ := hQt.parts
        go_wp2_with fail
        go_quiet (first | (go_at_call 29; exact q_left hRt _) | (go_at_call 30; exact q_refLeft hQt _) | (go_at_call 31; exact q_err hRt _) | (go_at_call 32; exact q_end hRt _) | (go_at_call 33; exact q_refEnd hQt _))
        go_wp2
        go_roundw
        case rel => exact ⟨k + 1, _, _, by go_num, by omega, by omega, hRt, hQt, below_drewN hbt _⟩
        case measure => simp [intOf]; omega
      by_cases h3 : kd = 3
      · subst h3
        go_wp2_with fail
        have cN : (wr.alloc (.cells #[.int .i64 3, .int .i64 nn] 39)).cell? ⟨wr.heap.size, 1, none⟩ = some (.int .i64 nn) := by
          rw [cell_of_row _ wr.heap.size 1 _ 39 (0, 0) (heap_alloc_new wr _)]; rfl
        have hol : wr.heap.size < (wr.alloc (.cells #[.int .i64 3, .int .i64 nn] 39)).heap.size := by simp
        have hbo : Below wr.heap.size wr (wr.alloc (.cells #[.int .i64 3, .int .i64 nn] 39)) := (Below.refl _ _).alloc (Nat.le_refl _) _
        have hop : wr.heap.size ≠ p := by have := hB.1.lt; omega
        have hoq : wr.heap.size ≠ q := by have := hB.2.1.lt; omega
        have hp1 : p < wr.heap.size := hB.1.lt
        have hq1 : q < wr.heap.size := hB.2.1.lt
        have hB1 : Both w (wr.alloc (.cells #[.int .i64 3, .int .i64 nn] 39)) p q ys f := ⟨hB.1.below hbo (Nat.le_refl _), hB.2.1.below hbo (Nat.le_refl _), hB.2.2.trans (hbo.mono hB.2.2.size)⟩
        clear hB y0 y1
        generalize wr.alloc (.cells #[.int .i64 3, .int .i64 nn] 39) = w7 at *
        generalize wr.heap.size = ob at *
        obtain ⟨hR7, hQ7, hb7⟩ := hB1
        have hp7 := hR7.lt
        have hq7 := hQ7.lt
        refine (raw_rd p nn ys f w7 hR7).mono ?_
        generalize hres : rRaw nn ys f = res
        have HRES := Lib.hid hres
        clear hres
        obtain ⟨rs, ys2, f2⟩ := res
        rintro e w8 ⟨A8, c8, rfl, hown8, hR8, hg8⟩
        simp only at hown8 hR8 ⊢
        have hQ8 : Ref w8 q ys f := hQ7.keep hR7 hg8 hpq
        have hb8 : Below w.heap.size w w8 := hb7.grown hg8 hb7.size (fun k hk => by cases hk; exact hpw)
        have cN8 : w8.cell? ⟨ob, 1, none⟩ = some (.int .i64 nn) := (World.cell?_of_block (hg8.block ob hol (fun e => hop (by injection e)))).trans cN
        have hs8 := hg8.size
        have hrs : ∀ x ∈ rs, 0 ≤ x ∧ x < 256 := rRaw_byte HRES.out hR7.byte
        have HRS := Lib.hid hrs
        have hrl : rs.length ≤ 100000 := rRaw_len HRES.out hR7.len_le
        clear hrs cN hR7 hg8 hb7
        go_wp2_with fail
        refine (refRaw_rd q nn ys f w8 hQ8).mono ?_
        rw [HRES.out]
        rintro e w9 ⟨A9, c9, rfl, hown9, hQ9, hg9⟩
        simp only at hown9 hQ9 ⊢
        have hR9 : Rdr w9 p ys2 f2 := hR8.keep hQ8 hg9 hpq
        have hb9 : Below w.heap.size w w9 := hb8.grown hg9 hb8.size (fun k hk => by cases hk; exact hqw)
        have hown8' : w9.ownsRow w7.heap.size 5 1 (.slice A8 rs.length c8) rs.length (cellsB rs) := hown8.kept hg9 (.inr fun e => by have := (hown8.lt q e).1; omega)
        have hra := Rd.of_own hown8' HRS.out
        have hrb := Rd.of_own hown9 HRS.out
        clear hR8 hQ8 hb8 hown8 hown9 hg9 cN8
        go_wp2_with fail
        refine (bytes_same w9.heap.size _ _ _ _ _ _ rs w9 hra hrb).mono ?_
        rintro e w10 ⟨rfl, rfl⟩
        clear hra hrb
        go_wp2_with fail
        refine (spoil_any w7.heap.size _ _ _ rs w9 hrl hown8').mono ?_
        rintro e w10 ⟨rfl, hb10, _⟩
        have hB' : Both w w10 p q ys2 f2 := ⟨hR9.belowB hb10 hp7, hQ9.belowB hb10 hq7, hb9.trans (hb10.mono (by omega))⟩
        clear hR9 hQ9 hb9 hown8' hb10 hQ7
        obtain ⟨hRt, hQt, hbt⟩ := hB'
        obtain ⟨Aq, cq, aq, allq, _, _, cE, _⟩ := hQt.parts
        go_wp2_with fail
        go_quiet (first | (go_at_call 29; exact q_left hRt _) | (go_at_call 30; exact q_refLeft hQt _) | (go_at_call 31; exact q_err hRt _) | (go_at_call 32; exact q_end hRt _) | (go_at_call 33; exact q_refEnd hQt _))
        go_wp2
        go_roundw
        case rel => exact ⟨k + 1, _, _, by go_num, by omega, by omega, hRt, hQt, below_drewN hbt _⟩
        case measure => simp [intOf]; omega
      · have n0 : (kd == 0) = false := by simp [h0]
        have n1 : (kd == 1) = false := by simp [h1]
        have n2 : (kd == 2) = false := by simp [h2]
        have n3 : (kd == 3) = false := by simp [h3]
        clear h0 h1 h2 h3
        go_wp2_with fail
        have hbo : Below wr.heap.size wr (wr.alloc (.cells #[.int .i64 kd, .int .i64 nn] 39)) := (Below.refl _ _).alloc (Nat.le_refl _) _
        have hB' : Both w (wr.alloc (.cells #[.int .i64 kd, .int .i64 nn] 39)) p q ys f := ⟨hB.1.below hbo (Nat.le_refl _), hB.2.1.below hbo (Nat.le_refl _), hB.2.2.trans (hbo.mono hB.2.2.size)⟩
        clear hB y0 y1 hbo
        generalize wr.alloc (.cells #[.int .i64 kd, .int .i64 nn] 39) = w7 at *
        obtain ⟨hRt, hQt, hbt⟩ := hB'
        obtain ⟨Aq, cq, aq, allq, _, _, cE, _⟩ := hQt.parts
        go_wp2_with fail
        go_quiet (first | (go_at_call 29; exact q_left hRt _) | (go_at_call 30; exact q_refLeft hQt _) | (go_at_call 31; exact q_err hRt _) | (go_at_call 32; exact q_end hRt _) | (go_at_call 33; exact q_refEnd hQt _))
        go_wp2
        go_roundw
        case rel => exact ⟨k + 1, _, _, by go_num, by omega, by omega, hRt, hQt, below_drewN hbt _⟩
        case measure => simp [intOf]; omega
    · obtain ⟨_, _, hbel⟩ := hB
      by_cases hlt1 : k < l'
      · have hd : decide ((k : Int) < (l' : Int)) = true := by simp; omega
        have hd2 : decide ((k : Int) < 60) = false := by simp; omega
        clear hlt
        go_wp2
        go_ret
        exact ⟨rfl, hbel⟩
      · have hd : decide ((k : Int) < (l' : Int)) = false := by simp; omega
        clear hlt
        go_wp2
        go_ret
        exact ⟨rfl, hbel⟩
set_option maxHeartbeats 400000 in
theorem walk_long (A : Option Addr) (l c : Nat) (A' : Option Addr) (l' c' : Nat) (w : World) (hl : ¬ l ≤ 5000) :
    Calls Try.prog 4 #[.slice A l c, .slice A' l' c'] w fun e w' => e = .returned (.bool true) ∧ Below w.heap.size w w' := by
  go_enter Try.func4, Try.ntmps4
  go_wp2_with fail
  refine (awake_any w).mono ?_
  rintro e w2 ⟨rfl, hb2⟩
  go_wp2
  go_ret
  exact ⟨rfl, hb2⟩
theorem open32 {H : Type} {enc : TypeId × Value → H} {W : World} {base : Nat} {v : Value} {d : DataW H} {ps : List MemPlace} (hval : Value.okWide Try.prog W .any base 32 v) (h : DataW.Trod enc Try.prog W 0 (fun _ => true) true 32 v d ps) :
    ∃ A l c, ∃ X : (Nat → Int) × (Nat → Int), v = .slice A l c ∧ Ops W A l c X.1 X.2 := by
  obtain ⟨A, l, c, rfl⟩ := WideShapes.okWide_slice Try.underlying32 hval
  obtain ⟨fuel, hf⟩ := h
  rcases Deep.open_slice_pairs Try.underlying32 Try.underlying39 (by kernel_rfl) rfl rfl (by kernel_rfl) (by kernel_rfl) hf with ⟨hcs, _⟩ | ⟨a, len, cap, m, n, V0, V1, D0, D1, P0, P1, hcs, _, hl, hm, hmm, _, hx⟩
  · simp [Value.cells] at hcs
    obtain ⟨rfl, rfl, rfl⟩ := hcs
    exact ⟨_, _, _, (fun _ => 0, fun _ => 0), rfl, Nat.le_refl _, by unfold maxLen; omega, fun h => absurd h (by omega)⟩
  · simp [Value.cells] at hcs
    obtain ⟨rfl, rfl, rfl⟩ := hcs
    simp only [if_true] at hmm
    have hex : ∀ i, ∃ x : Int × Int, i < m → W.cell? (a.add (i * 2)) = some (.int .i64 x.1) ∧ W.cell? (a.add (i * 2 + 1)) = some (.int .i64 x.2) := by
      intro i
      by_cases hi : i < m
      · obtain ⟨h1, h2, h3, h4⟩ := hx i hi
        obtain ⟨x, e0, _, _⟩ := DataW.trod_int Try.underlying3 h3
        obtain ⟨y, e1, _, _⟩ := DataW.trod_int Try.underlying3 h4
        simp at e0 e1
        exact ⟨(x, y), fun _ => ⟨by rw [h1, e0], by rw [h2, e1]⟩⟩
      · exact ⟨(0, 0), fun h => absurd h hi⟩
    obtain ⟨X, hX⟩ := Classical.axiomOfChoice hex
    refine ⟨_, _, _, (fun i => (X i).1, fun i => (X i).2), rfl, hl, hm, fun hn => ?_⟩
    have h0 := (hX 0 (by omega)).1
    obtain ⟨b, off, spot⟩ := a
    have hspot : spot = none := by simpa [Addr.add] using World.cell?_spot h0
    subst hspot
    refine ⟨b, off, rfl, by have := cell_lt h0; simpa [Addr.add] using this, fun k hk => ?_⟩
    have := hX k (by omega)
    rwa [addr_add, addr_add] at this
theorem final (A : Option Addr) (l c : Nat) (xs : List Int) (A' : Option Addr) (l' c' : Nat) (X : (Nat → Int) × (Nat → Int)) (w : World) (w0 : Rd w w.heap.size A l c xs) (w1 : Ops w A' l' c' X.1 X.2) :
    Calls Try.prog 4 #[.slice A l c, .slice A' l' c'] w fun e w' => e = .returned (.bool true) ∧ Below w.heap.size w w' := by
  by_cases hl : l ≤ 5000
  · exact walk A l c xs A' l' c' X.1 X.2 w w0 hl w1
  · exact walk_long A l c A' l' c' w hl
theorem own : ownKnob Try.prog.godebug = none := by kernel_rfl
theorem laidOut : laidOutB Try.prog = true := by kernel_rfl
set_option maxRecDepth 100000 in
theorem lifted (os : Os) (started : os.Started) (H : Type) (enc : TypeId × Value → H) :
    ReturnsInHanded {} Try.checked os 4 .any (Rows.codeReadsSpec.pre6 enc Try.prog Try.f4 Rows.codeReadsRow.domain false) (Rows.codeReadsSpec.post enc Try.prog Try.f4 false true false false) := by
  refine returnsInHanded_of_change (C := Try.checked) own started (by kernel_rfl) Try.func4
    (ChangeSpec.witness6 (enc := enc) (C := Try.checked) false ⟨#[], #[.slice none 0 0, .slice none 0 0], []⟩ 8 (by kernel_rfl) (by kernel_rfl) (by kernel_rfl) (by kernel_rfl)) ?_
  intro W base args ds gs before hval0 hW hcnd _
  have hval : ∀ (j : Nat) t v, Try.f4.params[j]? = some t → args[j]? = some v → Value.okWide Try.prog W .any base t v := hval0
  have hW' := hW
  obtain ⟨p, q, hA0, hV, rfl, hfz, hnd⟩ := hW
  have hA : DataW.TrodAll enc Try.prog W 0 (fun _ => true) true Try.f4.params.toList args.toList ds p := hA0
  rw [Try.params4] at hA hval
  obtain ⟨v0, vs0, d0, ds0, p0, q0, hargs, rfl, rfl, h0, r0⟩ := trodAll_cons hA
  obtain ⟨v1, vs1, d1, ds1, p1, q1, rfl, rfl, rfl, h1, r1⟩ := trodAll_cons r0
  obtain ⟨rfl, rfl, rfl⟩ := trodAll_nil r1
  obtain rfl : args = #[v0, v1] := by cases args; simp_all
  obtain ⟨rfl, rfl⟩ := trodVars_none hV
  have k0 := h0
  have lt0 : ∀ x ∈ p0, x.block < W.heap.size := by obtain ⟨m, hm⟩ := k0; exact DataW.trod_lt m _ _ _ hm
  obtain ⟨A0, l0, c0, x0, rfl, w0⟩ := open_rd Try.underlying23 Try.underlying5 (by kernel_rfl) (hval 0 23 v0 rfl rfl) h0
  have k1 := h1
  have lt1 : ∀ x ∈ p1, x.block < W.heap.size := by obtain ⟨m, hm⟩ := k1; exact DataW.trod_lt m _ _ _ hm
  obtain ⟨A1, l1, c1, x1, rfl, w1⟩ := open32 (hval 1 32 v1 rfl rfl) h1
  clear hA0 hval0
  refine (final A0 l0 c0 x0 A1 l1 c1 x1 W w0 w1).mono fun e W' ⟨he, bel⟩ => ?_
  subst he
  exact ⟨_, rfl, _, _, _, [], _, [], hW', trodAll_mk1 (shut_bool Try.underlying4 _), (trodAll_cons_mk (Below.trod laidOut (by kernel_rfl) (of_decide_eq_true (by kernel_rfl)) k0 bel lt0) (trodAll_cons_mk (Below.trod laidOut (by kernel_rfl) (of_decide_eq_true (by kernel_rfl)) k1 bel lt1) trodAll_mk0)), rfl, bel.frame _, fun h => by cases h⟩

theorem over : Rows.codeReadsRow.holds Try.pinned (OpenSpec.ofChange Rows.codeReadsSpec) :=
  OpenClaim.holds_of_wide 4 Try.f4 rfl rfl rfl rfl rfl rfl rfl ⟨rfl, rfl, rfl, rfl, rfl⟩ rfl rfl rfl rfl rfl (by kernel_rfl) Try.func4 (by kernel_rfl)
    (of_decide_eq_true (by kernel_rfl)) (by unfold Func.isWrapper; first | (rw [if_pos (by decide +kernel)]; kernel_rfl) | (rw [if_neg (by decide +kernel)]; exact ⟨rfl, rfl⟩))
    (fun os started H enc _ => lifted os started H enc)
theorem proved : Rows.CodeReadsSaid := over
#print axioms proved
end codeReads
end Go.Proofs.Ytfodccjineallaa
