/-
  The taker's numbers, and the head of a block.
-/
import Derived.Test.YtlkbcdbjmkfkkaaDoorTkm
import Derived.Test.YtlkbcdbjmkfkkaaDoorGnl
namespace Go.Proofs.YtlkbcdbjmkfkkaaDoor
open Go.RowKit Go.Shelf

/-- The taker at block p, its reader at q. -/
structure Tk (w : World) (p q : Nat) (nv : Value) (xs : List Int) (cnt : Nat) : Prop where
  box : w.heap[p]? = some (.cells #[nv, .pointer (some ⟨q, 0, none⟩), .int .i64 cnt] 65 (0, 0))
  rdr : Rdr w q xs 0
  ne : p ≠ q
theorem Tk.cells {w : World} {p q : Nat} {nv : Value} {xs : List Int} {cnt : Nat} (h : Tk w p q nv xs cnt) : w.cell? ⟨p, 0, none⟩ = some nv ∧ w.cell? ⟨p, 1, none⟩ = some (.pointer (some ⟨q, 0, none⟩)) ∧ w.cell? ⟨p, 2, none⟩ = some (.int .i64 cnt) ∧ w.frozen? ⟨p, 2, none⟩ = false :=
  ⟨cell_of_row w p 0 _ _ _ h.box, cell_of_row w p 1 _ _ _ h.box, cell_of_row w p 2 _ _ _ h.box, frozen_of_row w p 2 _ _ h.box⟩
theorem Tk.lt {w : World} {p q : Nat} {nv : Value} {xs : List Int} {cnt : Nat} (h : Tk w p q nv xs cnt) : p < w.heap.size ∧ q < w.heap.size := ⟨blk_lt h.box, h.rdr.lt⟩
theorem fr_grown {w w' : World} {q : Nat} (h : w.grownBy w' (some q)) : Fr w w' (fun k => k ≠ q) := Fr.of h (fun b _ hb e => hb (by cases e; rfl))
theorem Rdr.fr {w w' : World} {q : Nat} {xs : List Int} {f : Nat} {ok : Nat → Prop} (h : Rdr w q xs f) (hf : Fr w w' ok) (hq : ∀ k, k ≤ q → ok k) : Rdr w' q xs f := by
  obtain ⟨A, c, hh, hr, hl⟩ := h
  exact ⟨A, c, hf.at hh (hq q (Nat.le_refl _)), hr.keep fun a ha => World.cell?_of_block (hf.block _ (by have := blk_lt hh; omega) (hq _ (by omega))), hl⟩
def NumbP (w : World) (p q : Nat) (nv : Value) (cnt : Nat) (r : Except Nat (Int × List Int)) (e : Ending) (w' : World) : Prop :=
  Fr w w' (fun k => k ≠ q) ∧ match r with
  | .ok (n, ys) => e = .returned (.tuple #[.int .i64 n, .int .i64 0]) ∧ Tk w' p q nv ys cnt
  | .error f => ∃ n : Int, e = .returned (.tuple #[.int .i64 n, .int .i64 f])
theorem numbP_ok {w : World} {p q : Nat} {nv : Value} {cnt : Nat} {r : Except Nat (Int × List Int)} {n : Int} {ys : List Int} {w' : World} (hr : r = .ok (n, ys)) (hf : Fr w w' (fun k => k ≠ q)) (h : Tk w' p q nv ys cnt) : NumbP w p q nv cnt r (.returned (.tuple #[.int .i64 n, .int .i64 0])) w' := by
  subst hr; exact ⟨hf, rfl, h⟩
theorem numbP_err {w : World} {p q : Nat} {nv : Value} {cnt : Nat} {r : Except Nat (Int × List Int)} {n : Int} {f : Nat} {w' : World} (hr : r = .error f) (hf : Fr w w' (fun k => k ≠ q)) : NumbP w p q nv cnt r (.returned (.tuple #[.int .i64 n, .int .i64 f])) w' := by
  subst hr; exact ⟨hf, n, rfl⟩

set_option maxHeartbeats 1000000 in
set_option maxRecDepth 100000 in
theorem number_tk (lo hi : Int) (p q : Nat) (nv : Value) (xs : List Int) (cnt : Nat) (w : World) (h : Tk w p q nv xs cnt) : Calls Tryd.prog 48 #[.pointer (some ⟨p, 0, none⟩), .int .i64 lo, .int .i64 hi] w (NumbP w p q nv cnt (numberM lo hi xs)) := by
  obtain ⟨c0, c1, c2, _⟩ := h.cells
  have hx : ∃ r, rNum xs 0 = r := ⟨_, rfl⟩
  obtain ⟨⟨u, ys, f⟩, hx⟩ := hx
  have HM : Hid (numberM lo hi xs = if f ≠ 0 then .error f else if signedN u < lo ∨ hi < signedN u then .error 4 else .ok (signedN u, ys)) := Lib.hid (by unfold numberM; rw [hx])
  have hz := zig_rd q xs 0 w h.rdr
  rw [hx] at hz
  have hb := h.box
  have hne := h.ne
  have HB := Lib.hid hb
  clear hx hb h
  go_enter Tryd.func48, Tryd.ntmps48
  go_wp2_with fail
  refine hz.mono ?_
  rintro e w1 ⟨rfl, h1, hg⟩
  simp only at h1
  have hf := fr_grown hg
  have hb1 := hf.at HB.out hne
  have c1' : w1.cell? ⟨p, 1, none⟩ = some (.pointer (some ⟨q, 0, none⟩)) := cell_of_row w1 p 1 _ _ _ hb1
  have HF := Lib.hid hf
  have HB1 := Lib.hid hb1
  clear hz c0 c1 c2 hg hf hb1
  simp only
  generalize signedN u = n at *
  go_wp2_with fail
  refine (err_rd q ys f w1 h1).mono ?_
  rintro e w2 ⟨rfl, rfl⟩
  by_cases hf0 : f = 0
  · subst hf0
    have HM2 : Hid (numberM lo hi xs = if n < lo ∨ hi < n then .error 4 else .ok (n, ys)) := Lib.hid (by rw [HM.out, if_neg (by omega)])
    have HT : Hid (Tk w1 p q nv ys cnt) := Lib.hid ⟨HB1.out, h1, hne⟩
    clear HM
    by_cases hlo : n < lo
    · go_wp2
      go_ret2
      exact numbP_err (f := 4) (by rw [HM2.out, if_pos (.inl hlo)]) HF.out
    · by_cases hhi : hi < n
      · have hd : decide (n < lo) = false := decide_eq_false hlo
        go_wp2
        go_ret2
        exact numbP_err (f := 4) (by rw [HM2.out, if_pos (.inr hhi)]) HF.out
      · have hd : decide (n < lo) = false := decide_eq_false hlo
        have hd2 : decide (hi < n) = false := decide_eq_false hhi
        go_wp2
        go_ret2
        exact numbP_ok (by rw [HM2.out, if_neg (by omega)]) HF.out HT.out
  · have hf'' : ((f : Int) != 0) = true := by simp; omega
    have HM2 : Hid (numberM lo hi xs = .error f) := Lib.hid (by rw [HM.out, if_pos hf0])
    clear HM
    go_wp2
    go_ret2
    exact numbP_err HM2.out HF.out

/-- What 'head' answers. -/
def HeadP (w : World) (p q : Nat) (nv : Value) (cnt : Nat) (r : Except Nat (Int × Int × List Int)) (e : Ending) (w' : World) : Prop :=
  Fr w w' (fun k => k ≠ q) ∧ match r with
  | .ok (n, s, ys) => e = .returned (.tuple #[.int .i64 n, .int .i64 s, .int .i64 0]) ∧ Tk w' p q nv ys cnt
  | .error f => ∃ n s : Int, e = .returned (.tuple #[.int .i64 n, .int .i64 s, .int .i64 f])
theorem headP_ok {w : World} {p q : Nat} {nv : Value} {cnt : Nat} {r : Except Nat (Int × Int × List Int)} {n s : Int} {ys : List Int} {w' : World} (hr : r = .ok (n, s, ys)) (hf : Fr w w' (fun k => k ≠ q)) (h : Tk w' p q nv ys cnt) : HeadP w p q nv cnt r (.returned (.tuple #[.int .i64 n, .int .i64 s, .int .i64 0])) w' := by
  subst hr; exact ⟨hf, rfl, h⟩
theorem headP_err {w : World} {p q : Nat} {nv : Value} {cnt : Nat} {r : Except Nat (Int × Int × List Int)} {n s : Int} {f : Nat} {w' : World} (hr : r = .error f) (hf : Fr w w' (fun k => k ≠ q)) : HeadP w p q nv cnt r (.returned (.tuple #[.int .i64 n, .int .i64 s, .int .i64 f])) w' := by
  subst hr; exact ⟨hf, n, s, rfl⟩
theorem neg_wrap {n : Int} (h0 : n < 0) (h1 : minI ≤ n) (h2 : n ≠ minI) : wrap64 (-n) = -n := by unfold minI at *; unfold wrap64; omega

set_option maxHeartbeats 1000000 in
set_option maxRecDepth 100000 in
theorem head_tk (p q : Nat) (nv : Value) (xs : List Int) (cnt : Nat) (w : World) (h : Tk w p q nv xs cnt) : Calls Tryd.prog 56 #[.pointer (some ⟨p, 0, none⟩)] w (HeadP w p q nv cnt (headM xs)) := by
  have hn := number_tk minI maxI p q nv xs cnt w h
  cases hr : numberM minI maxI xs with
  | error f =>
    rw [hr] at hn
    have HM : Hid (headM xs = .error f) := Lib.hid (by rw [headM, hr])
    have hfe := numberM_err hr
    have hf'' : ((f : Int) != 0) = true := by simp; omega
    clear hr h
    go_enter Tryd.func56, Tryd.ntmps56
    go_wp2_with fail
    refine hn.mono ?_
    rintro e w1 ⟨hf, n, rfl⟩
    clear hn
    go_wp2
    go_ret3
    exact headP_err HM.out hf
  | ok v =>
    obtain ⟨n, ys⟩ := v
    rw [hr] at hn
    have HM : Hid (headM xs = if 0 ≤ n then .ok (n, -1, ys) else
      match numberM 0 maxI ys with
      | .error f => .error f
      | .ok (s, zs) => if n = minI then .error 4 else .ok (-n, s, zs)) := Lib.hid (by rw [headM, hr]; rfl)
    have hb := (numberM_len hr).2
    have HB := Lib.hid hb
    clear hr h hb
    go_enter Tryd.func56, Tryd.ntmps56
    go_wp2_with fail
    refine hn.mono ?_
    rintro e w1 ⟨hf, rfl, h1⟩
    have HF := Lib.hid hf
    clear hn hf
    by_cases h0 : 0 ≤ n
    · have HM2 : Hid (headM xs = .ok (n, -1, ys)) := Lib.hid (by rw [HM.out]; simp only [if_pos h0])
      clear HM
      go_wp2
      go_ret3
      exact headP_ok HM2.out HF.out h1
    · have hd0 : decide (0 ≤ n) = false := decide_eq_false h0
      have hn2 := number_tk 0 maxI p q nv ys cnt w1 h1
      cases hr2 : numberM 0 maxI ys with
      | error f =>
        rw [hr2] at hn2
        have hfe := numberM_err hr2
        have hf'' : ((f : Int) == 0) = false := by simp; omega
        have HM2 : Hid (headM xs = .error f) := Lib.hid (by rw [HM.out]; simp only [if_neg h0, hr2])
        clear HM hr2 h1
        go_wp2_with fail
        refine hn2.mono ?_
        rintro e w2 ⟨hf, m, rfl⟩
        clear hn2
        go_wp2
        go_ret3
        exact headP_err HM2.out (HF.out.trans hf)
      | ok v =>
        obtain ⟨s, zs⟩ := v
        rw [hr2] at hn2
        have HM2 : Hid (headM xs = if n = minI then .error 4 else .ok (-n, s, zs)) := Lib.hid (by rw [HM.out]; simp only [if_neg h0, hr2])
        clear HM hr2 h1
        go_wp2_with fail
        refine hn2.mono ?_
        rintro e w2 ⟨hf, rfl, h2⟩
        have HF2 := Lib.hid (HF.out.trans hf)
        clear hn2 hf HF
        by_cases hm : n = minI
        · have hd : (n == -9223372036854775808) = true := by simpa [minI] using hm
          have HM3 : Hid (headM xs = .error 4) := Lib.hid (by rw [HM2.out, if_pos hm])
          clear HM2 hm
          go_wp2
          go_ret3
          exact headP_err (f := 4) HM3.out HF2.out
        · have hd : (n == -9223372036854775808) = false := by simpa [minI] using hm
          have HM3 : Hid (headM xs = .ok (-n, s, zs)) := Lib.hid (by rw [HM2.out, if_neg hm])
          have HW := Lib.hid (neg_wrap (by omega) HB.out.1 hm)
          clear HM2 hm
          go_wp2
          rw [HW.out]
          go_ret3
          exact headP_ok HM3.out HF2.out h2
end Go.Proofs.YtlkbcdbjmkfkkaaDoor
