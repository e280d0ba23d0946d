/-
  'flat': a value, and all within, in order, with their depths.
-/
import Derived.Test.YtfboecnhakihnaaGreatDoorUtl
import Derived.Lib.SmallJoins
namespace Go.Proofs.YtfboecnhakihnaaGreatDoor
open Go.RowKit Go.Shelf

theorem elc5 {w : World} {g off q n : Nat} {c : Nat → Nat → Value} (hc : ∀ i j, i < n → j < 5 → w.cell? ⟨g, off + (5 * i + j), none⟩ = some (c i j)) (hq : q < n) :
    w.cell? ⟨g, off + q * 5, none⟩ = some (c q 0) ∧ w.cell? ⟨g, off + q * 5 + 1, none⟩ = some (c q 1) ∧ w.cell? ⟨g, off + q * 5 + 2, none⟩ = some (c q 2) ∧ w.cell? ⟨g, off + q * 5 + 3, none⟩ = some (c q 3) ∧ w.cell? ⟨g, off + q * 5 + 4, none⟩ = some (c q 4) := by
  refine ⟨?_, ?_, ?_, ?_, ?_⟩
  · have := hc q 0 hq (by omega); rwa [show off + (5 * q + 0) = off + q * 5 by omega] at this
  · have := hc q 1 hq (by omega); rwa [show off + (5 * q + 1) = off + q * 5 + 1 by omega] at this
  · have := hc q 2 hq (by omega); rwa [show off + (5 * q + 2) = off + q * 5 + 2 by omega] at this
  · have := hc q 3 hq (by omega); rwa [show off + (5 * q + 3) = off + q * 5 + 3 by omega] at this
  · have := hc q 4 hq (by omega); rwa [show off + (5 * q + 4) = off + q * 5 + 4 by omega] at this
theorem ucL_mem : ∀ {l : List U} {z : U}, z ∈ l → uc z ≤ ucL l
  | x :: r, z, h => by
    rw [ucL]
    rcases List.mem_cons.1 h with rfl | h
    · omega
    · have := ucL_mem h; omega
theorem Tryz.info3 : (Tryz.prog.info? 3).map (fun i => (i.zero, i.size, i.bytes)) = some (some (.int .i64 0), 1, 8) := by kernel_rfl
/-- Two rows: the depths, and the values as they lie in w0. -/
def FlatRow (w0 w' : World) (base : Nat) (L : List (Nat × U)) (A B : Value) : Prop :=
  ∃ (xb : List Value) (c : Nat → Nat → Value), w'.ownsRow base 3 1 A L.length (L.map fun p => Value.int .i64 (p.1 : Nat)) ∧ w'.ownsRow base 29 5 B L.length xb ∧ A.ownBlock ≠ B.ownBlock ∧
    (∀ (i j : Nat), i < L.length → j < 5 → xb[5 * i + j]? = some (c i j)) ∧ (∀ (i : Nat) (p : Nat × U), L[i]? = some p → UIn w0 (fun b => b < w0.heap.size) p.2 (c i 0) (c i 1) (c i 2) (c i 3) (c i 4))
def FlatP (w0 w : World) (L : List (Nat × U)) (e : Ending) (w' : World) : Prop := ∃ A B, e = .returned (.tuple #[A, B]) ∧ FlatRow w0 w' w.heap.size L A B ∧ Below w.heap.size w w'
/-- 'flat' of that value. -/
def FlC (z : U) : Prop := ∀ (d : Nat) (w0 w : World) (v0 v1 v2 v3 v4 : Value), UIn w0 (fun b => b < w0.heap.size) z v0 v1 v2 v3 v4 → Below w0.heap.size w0 w → d + uc z ≤ 100000 → Calls Tryz.prog 22 #[.agg #[v0, v1, v2, v3, v4], .int .i64 (d : Int)] w (FlatP w0 w (pu d z))
theorem uin_one {w : World} {ok : Nat → Prop} {z : U} {v0 v1 v2 v3 v4 : Value} (h : UIn w ok z v0 v1 v2 v3 v4) : v0.oneCell' = true ∧ v1.oneCell' = true ∧ v2.oneCell' = true ∧ v3.oneCell' = true ∧ v4.oneCell' = true := by
  obtain ⟨k9, t9, Yk9, yk9, zk9, A9, n9, c9, B9, m9, s9, rfl, rfl, rfl, rfl, rfl⟩ := uin_agg h
  exact ⟨rfl, rfl, rfl, rfl, rfl⟩
/-- A row of values has cells of one each. -/
theorem row_one {w0 : World} {L : List (Nat × U)} {xb : List Value} {c : Nat → Nat → Value} (hl : xb.length = L.length * 5) (hx : ∀ (i j : Nat), i < L.length → j < 5 → xb[5 * i + j]? = some (c i j)) (hz : ∀ (i : Nat) (p : Nat × U), L[i]? = some p → UIn w0 (fun b => b < w0.heap.size) p.2 (c i 0) (c i 1) (c i 2) (c i 3) (c i 4)) :
    ∀ u ∈ xb, u.oneCell' = true := by
  intro u hu
  obtain ⟨j, hj⟩ := List.getElem?_of_mem hu
  have hlt := (List.getElem?_eq_some_iff.1 hj).1
  have hi : j / 5 < L.length := by omega
  have h4 : j % 5 < 5 := by omega
  have := hx (j / 5) (j % 5) hi h4
  rw [show 5 * (j / 5) + j % 5 = j by omega, hj] at this
  cases this
  obtain ⟨h0, h1, h2, h3, h5⟩ := uin_one (hz (j / 5) _ (List.getElem?_eq_getElem hi))
  have : j % 5 = 0 ∨ j % 5 = 1 ∨ j % 5 = 2 ∨ j % 5 = 3 ∨ j % 5 = 4 := by omega
  rcases this with h | h | h | h | h <;> rw [h] <;> assumption
/-- What holds in the loop. -/
def FlRel (w0 w : World) (d : Nat) (z : U) (bx : Obj) (n : Nat) (g : Nat) (v6 v7 v8 : Value) (wr : World) : Prop :=
  ∃ q : Nat, q + g = n ∧ v8 = .int .i64 q ∧ FlatRow w0 wr (w.heap.size + 1) ((d, z) :: puL (d + 1) (z.l.take q)) v6 v7 ∧ wr.heap[w.heap.size]? = some bx ∧ Below w.heap.size w wr
/-- Behind a row's append another row of another block is as it was. -/
theorem row_kept {w w5 : World} {base e sz n e2 sz2 m : Nat} {A B : Value} {xs ys : List Value} (hB : w.ownsRow base e2 sz2 B m ys) (hg : w.grownBy w5 A.ownBlock) (hne : A.ownBlock ≠ B.ownBlock) (_ : w.ownsRow base e sz A n xs) : w5.ownsRow base e2 sz2 B m ys :=
  ownsRow_fr hB (Fr.of (ok := fun k => some k ≠ A.ownBlock) hg (fun _ _ h => h)) (fun g h => by rw [← h]; exact fun e => hne e.symm)
theorem flat_more {w0 w6 : World} {base : Nat} {L M : List (Nat × U)} {A5 B6 : Value} {xb yb : List Value} {c c2 : Nat → Nat → Value} (h1 : w6.ownsRow base 3 1 A5 (L.length + M.length) ((L.map fun p => Value.int .i64 (p.1 : Nat)) ++ (M.map fun p => Value.int .i64 (p.1 : Nat))))
    (h2 : w6.ownsRow base 29 5 B6 (L.length + M.length) (xb ++ yb)) (hne : A5.ownBlock ≠ B6.ownBlock) (hxl : xb.length = L.length * 5) (hx : ∀ (i j : Nat), i < L.length → j < 5 → xb[5 * i + j]? = some (c i j)) (hz : ∀ (i : Nat) (p : Nat × U), L[i]? = some p → UIn w0 (fun b => b < w0.heap.size) p.2 (c i 0) (c i 1) (c i 2) (c i 3) (c i 4))
    (hy : ∀ (i j : Nat), i < M.length → j < 5 → yb[5 * i + j]? = some (c2 i j)) (hz2 : ∀ (i : Nat) (p : Nat × U), M[i]? = some p → UIn w0 (fun b => b < w0.heap.size) p.2 (c2 i 0) (c2 i 1) (c2 i 2) (c2 i 3) (c2 i 4)) : FlatRow w0 w6 base (L ++ M) A5 B6 := by
  refine ⟨xb ++ yb, fun i j => if i < L.length then c i j else c2 (i - L.length) j, by rw [List.length_append, List.map_append]; exact h1, by rw [List.length_append]; exact h2, hne, fun i j hi hj => ?_, fun i p hp => ?_⟩
  · rw [List.length_append] at hi
    by_cases h : i < L.length
    · simp only [if_pos h]
      rw [List.getElem?_append_left (by omega)]
      exact hx i j h hj
    · simp only [if_neg h]
      rw [List.getElem?_append_right (by omega), show 5 * i + j - xb.length = 5 * (i - L.length) + j by omega]
      exact hy (i - L.length) j (by omega) hj
  · by_cases h : i < L.length
    · rw [List.getElem?_append_left h] at hp
      simp only [if_pos h]
      exact hz i p hp
    · rw [List.getElem?_append_right (by omega)] at hp
      simp only [if_neg h]
      exact hz2 _ p hp
theorem ownsRow_posn {w : World} {base e sz n : Nat} {v : Value} {xs : List Value} (h : w.ownsRow base e sz v n xs) (hn : 0 < n) : ∃ g cap, v = .slice (some ⟨g, 0, none⟩) n cap := by
  rcases h.2 with ⟨_, h0⟩ | ⟨g, cap, cur, rfl, _⟩
  · omega
  · exact ⟨g, cap, rfl⟩
set_option maxHeartbeats 8000000 in
set_option maxRecDepth 100000 in
theorem flat_step (z : U) (hs : ∀ x, x ∈ z.l → FlC x) : FlC z := by
  intro d w0 w v0 v1 v2 v3 v4 hz hbw0 hd
  obtain ⟨Ykk, A0, A1, zkk, c1, c2, cc, e0, e1, e2, e3, e4, _, _, _, _, hl0, hl1, hl2, _, hL, _, hE⟩ := hz.full
  subst e0 e1 e2 e3 e4
  have hpz : pu d z = (d, z) :: puL (d + 1) z.l := by cases z; rw [pu]; rfl
  rw [hpz]
  have hzc := uc_l z
  have hzl := ucL_len z.l
  have hfin : puL (d + 1) z.l = puL (d + 1) (z.l.take z.l.length) := by rw [List.take_of_length_le (Nat.le_refl _)]
  rw [hfin]
  have HZ := Lib.hid hz
  have HL := Lib.hid hL
  have HE := Lib.hid hE
  have HS := Lib.hid hs
  have HZC := Lib.hid hzc
  clear hz hL hE hs hpz hfin
  generalize z.k = kk at *
  generalize z.n = tt at *
  generalize z.b.length = ykk at *
  generalize hnl : z.l.length = nl at *
  generalize z.ks.length = n2 at *
  have HNL := Lib.hid hnl
  have hdn : d ≤ 100000 ∧ nl ≤ 100000 := by omega
  obtain ⟨hd1, hd2⟩ := hdn
  obtain ⟨i3, hi3, hz30, hz31, hz32⟩ := info_parts Tryz.info3
  obtain ⟨i26, hi26, hz260, hz261, hz262⟩ := info_parts Tryz.info29
  clear hnl hl0 hl1 hl2 hzc hzl
  have hbx0 := heap_alloc_new w (.cells #[.int .i64 kk, .int .i64 tt, .slice Ykk ykk zkk, .slice A0 nl c1, .slice A1 n2 c2] 29 (0, 0))
  go_enter Tryz.func22, Tryz.ntmps22
  go_wp2
  go_region
  · have hI : (((w.alloc (.cells #[.int .i64 kk, .int .i64 tt, .slice Ykk ykk zkk, .slice A0 nl c1, .slice A1 n2 c2] 29)).alloc (.cells #[.int .i64 d] 3)).alloc (.cells #[.int .i64 kk, .int .i64 tt, .slice Ykk ykk zkk, .slice A0 nl c1, .slice A1 n2 c2] 29)).drew.heap[w.heap.size + 1]? = some (.cells #[.int .i64 d] 3 (0, 0)) := old_at _ (new_at (by simp) _)
    have hJ : (((w.alloc (.cells #[.int .i64 kk, .int .i64 tt, .slice Ykk ykk zkk, .slice A0 nl c1, .slice A1 n2 c2] 29)).alloc (.cells #[.int .i64 d] 3)).alloc (.cells #[.int .i64 kk, .int .i64 tt, .slice Ykk ykk zkk, .slice A0 nl c1, .slice A1 n2 c2] 29)).drew.heap[w.heap.size + 1 + 1]? = some (.cells #[.int .i64 kk, .int .i64 tt, .slice Ykk ykk zkk, .slice A0 nl c1, .slice A1 n2 c2] 29 (0, 0)) := new_at (by simp) _
    have hfr : Fr w (((w.alloc (.cells #[.int .i64 kk, .int .i64 tt, .slice Ykk ykk zkk, .slice A0 nl c1, .slice A1 n2 c2] 29)).alloc (.cells #[.int .i64 d] 3)).alloc (.cells #[.int .i64 kk, .int .i64 tt, .slice Ykk ykk zkk, .slice A0 nl c1, .slice A1 n2 c2] 29)).drew (fun _ => True) := ((((Fr.refl w _).alloc _).alloc _).alloc _).drewN 1
    have hbx : (((w.alloc (.cells #[.int .i64 kk, .int .i64 tt, .slice Ykk ykk zkk, .slice A0 nl c1, .slice A1 n2 c2] 29)).alloc (.cells #[.int .i64 d] 3)).alloc (.cells #[.int .i64 kk, .int .i64 tt, .slice Ykk ykk zkk, .slice A0 nl c1, .slice A1 n2 c2] 29)).drew.heap[w.heap.size]? = some (.cells #[.int .i64 kk, .int .i64 tt, .slice Ykk ykk zkk, .slice A0 nl c1, .slice A1 n2 c2] 29 (0, 0)) := old_at _ (old_at _ (new_at rfl _))
    have hrel0 : FlRel w0 w d z (.cells #[.int .i64 kk, .int .i64 tt, .slice Ykk ykk zkk, .slice A0 nl c1, .slice A1 n2 c2] 29) nl nl (.slice (some ⟨w.heap.size + 1, 0, none⟩) 1 1) (.slice (some ⟨w.heap.size + 1 + 1, 0, none⟩) 1 1) (.int .i64 0) (((w.alloc (.cells #[.int .i64 kk, .int .i64 tt, .slice Ykk ykk zkk, .slice A0 nl c1, .slice A1 n2 c2] 29)).alloc (.cells #[.int .i64 d] 3)).alloc (.cells #[.int .i64 kk, .int .i64 tt, .slice Ykk ykk zkk, .slice A0 nl c1, .slice A1 n2 c2] 29)).drew := by
      refine ⟨0, by omega, rfl, ⟨[.int .i64 kk, .int .i64 tt, .slice Ykk ykk zkk, .slice A0 nl c1, .slice A1 n2 c2], fun _ j => if j = 0 then .int .i64 kk else if j = 1 then .int .i64 tt else if j = 2 then .slice Ykk ykk zkk else if j = 3 then .slice A0 nl c1 else .slice A1 n2 c2, ?_, ?_, ?_, fun i j hi hj => ?_, fun i p hp => ?_⟩, hbx, ⟨hfr.os, hfr.tape, hfr.output, hfr.size, fun i hi => hfr.block i hi trivial⟩⟩
      · rw [List.take_zero, puL]
        exact ⟨rfl, .inr ⟨_, 1, _, rfl, by omega, hI, Nat.le_refl _, by unfold maxLen; omega, rfl, rfl⟩⟩
      · rw [List.take_zero, puL]
        exact ⟨rfl, .inr ⟨_, 1, _, rfl, by omega, hJ, Nat.le_refl _, by unfold maxLen; omega, rfl, rfl⟩⟩
      · intro e
        have : (w.heap.size + 1) = (w.heap.size + 1 + 1) := Option.some.inj e
        omega
      · rw [List.take_zero, puL] at hi
        have hi0 : i = 0 := by simpa using hi
        subst hi0
        match j, hj with
        | 0, _ => rfl
        | 1, _ => rfl
        | 2, _ => rfl
        | 3, _ => rfl
        | 4, _ => rfl
      · rw [List.take_zero, puL] at hp
        have hi0 : i = 0 := by have := (List.getElem?_eq_some_iff.1 hp).1; simpa using this
        subst hi0
        cases hp
        exact HZ.out
    have HR0 := Lib.hid hrel0
    clear hrel0 hI hJ hfr hbx
    go_wp2
    generalize (((w.alloc (.cells #[.int .i64 kk, .int .i64 tt, .slice Ykk ykk zkk, .slice A0 nl c1, .slice A1 n2 c2] 29)).alloc (.cells #[.int .i64 d] 3)).alloc (.cells #[.int .i64 kk, .int .i64 tt, .slice Ykk ykk zkk, .slice A0 nl c1, .slice A1 n2 c2] 29)).drew = W0 at *
    go_loopg [6, 7, 8] nl (fun g v6 v7 v8 wr => FlRel w0 w d z (.cells #[.int .i64 kk, .int .i64 tt, .slice Ykk ykk zkk, .slice A0 nl c1, .slice A1 n2 c2] 29) nl g v6 v7 v8 wr)
    case atStart => exact HR0.out
    case round =>
      clear HR0
      obtain ⟨q, hqg, rfl, ⟨xb, c, ho1, ho2, hne, hx, hzz⟩, hbx, hbw⟩ := hrel
      obtain ⟨p0, p1, p2, p3, p4⟩ := cells_5 hbx
      by_cases hq : q < nl
      · obtain ⟨x, hxq⟩ : ∃ x, z.l[q]? = some x := ⟨_, List.getElem?_eq_getElem (by have := HNL.out; omega)⟩
        obtain ⟨eg, off, rfl, hgw, hcell⟩ := HL.out (by omega)
        obtain ⟨y0, y1, y2, y3, y4⟩ := elc5 hcell hq
        have hb0r : Below w0.heap.size w0 wr := hbw0.trans (hbw.mono hbw0.size)
        have hf := below_fr hb0r
        have x0 := hf.cell y0 hgw
        have x1 := hf.cell y1 hgw
        have x2 := hf.cell y2 hgw
        have x3 := hf.cell y3 hgw
        have x4 := hf.cell y4 hgw
        have hxz := HE.out q x hxq
        have htk : z.l.take (q + 1) = z.l.take q ++ [x] := by
          have hlt := (List.getElem?_eq_some_iff.1 hxq).1
          rw [List.take_succ_eq_append_getElem hlt, (List.getElem?_eq_some_iff.1 hxq).2]
        have hpn : puL (d + 1) (z.l.take (q + 1)) = puL (d + 1) (z.l.take q) ++ pu (d + 1) x := by rw [htk, puL_app, puL, puL, List.append_nil]
        have hxc := ucL_mem (List.mem_of_getElem? hxq)
        have hcall := HS.out x (List.mem_of_getElem? hxq) (d + 1) w0 wr _ _ _ _ _ hxz hb0r (by have := HZC.out; omega)
        have hlen1 : ((d, z) :: puL (d + 1) (z.l.take q)).length ≤ 100001 := by
          have h1 := ucL_app (z.l.take q) (z.l.drop q)
          rw [List.take_append_drop] at h1
          rw [List.length_cons, puL_len]
          have := HZC.out
          omega
        have hlen2 : (pu (d + 1) x).length ≤ 100000 := by rw [pu_len]; have := HZC.out; omega
        have hlen3 : 0 < (pu (d + 1) x).length := by cases x; rw [pu]; simp
        have hxl : xb.length = ((d, z) :: puL (d + 1) (z.l.take q)).length * 5 := ho2.1
        have hone := row_one hxl hx hzz
        have HPN := Lib.hid (show (d, z) :: puL (d + 1) (z.l.take (q + 1)) = ((d, z) :: puL (d + 1) (z.l.take q)) ++ pu (d + 1) x by rw [hpn]; rfl)
        generalize ((d, z) :: puL (d + 1) (z.l.take q)) = LL at *
        generalize pu (d + 1) x = MM at *
        obtain ⟨g', hg'⟩ : ∃ g', gk = g' + 1 := ⟨gk - 1, by omega⟩
        subst hg'
        have hqi : (q : Int) < (nl : Int) := by omega
        have HX := Lib.hid hx
        have HZZ := Lib.hid hzz
        have HXL := Lib.hid hxl
        have hdi : (0 : Int) ≤ (d : Int) := by omega
        obtain ⟨k9, t9, Yk9, yk9, zk9, A9, n9, c9, B9, m9, s9, e0, e1, e2, e3, e4⟩ := uin_agg hxz
        rw [e0, e1, e2, e3, e4] at hcall
        rw [e0] at x0
        rw [e1] at x1
        rw [e2] at x2
        rw [e3] at x3
        rw [e4] at x4
        clear hxq hcell y0 y1 y2 y3 y4 hxz htk hpn hxc hf hx hzz hxl hone HL HE HS HZ e0 e1 e2 e3 e4
        go_wp2_with fail
        refine hcall.mono ?_
        rintro e w1 ⟨C, D, rfl, ⟨yb, c3, hc1, hc2, hne2, hy, hz2⟩, hb1⟩
        obtain ⟨gC, capC, hC⟩ := ownsRow_posn hc1 hlen3
        obtain ⟨gD, capD, hD⟩ := ownsRow_posn hc2 hlen3
        subst hC hD
        have hbw1 : Below w.heap.size w w1 := hbw.trans (hb1.mono hbw.size)
        have hbx1 := (below_fr0 hb1).at hbx trivial
        have hr1 := ownsRow_fr ho1 (below_fr hb1) (fun g e => (ho1.lt g e).2)
        have hr2 := ownsRow_fr ho2 (below_fr hb1) (fun g e => (ho2.lt g e).2)
        have hgC := (hc1.lt gC rfl).1
        have hgD := (hc2.lt gD rfl).1
        have hcC : ∀ (j : Nat) (u : Value), (MM.map fun p => Value.int .i64 (p.1 : Nat))[j]? = some u → w1.cell? ((⟨gC, 0, none⟩ : Addr).add j) = some u := hc1.cells (g := gC) rfl
        have hcD : ∀ (j : Nat) (u : Value), yb[j]? = some u → w1.cell? ((⟨gD, 0, none⟩ : Addr).add j) = some u := hc2.cells (g := gD) rfl
        have hDone := row_one (w0 := w0) hc2.1 hy hz2
        have hCone : ∀ u ∈ (MM.map fun p => Value.int .i64 (p.1 : Nat)), u.oneCell' = true := fun u hu => by obtain ⟨p, _, rfl⟩ := List.mem_map.1 hu; rfl
        have HML := Lib.hid (show (MM.map fun p => Value.int .i64 (p.1 : Nat)).length = MM.length * 1 by simp)
        have hlA := ho1.lt
        have hlB := ho2.lt
        have hafter : ∀ (A5 B6 : Value) (w5 w6 : World), w5.ownsRow (w.heap.size + 1) 3 1 A5 (LL.length + MM.length) ((LL.map fun p => Value.int .i64 (p.1 : Nat)) ++ (MM.map fun p => Value.int .i64 (p.1 : Nat))) → w1.grownBy w5 u6.ownBlock → (A5.ownBlock = u6.ownBlock ∨ A5.ownBlock = some w1.heap.size) →
            w6.ownsRow (w.heap.size + 1) 29 5 B6 (LL.length + MM.length) (xb ++ yb) → w5.grownBy w6 u7.ownBlock → (B6.ownBlock = u7.ownBlock ∨ B6.ownBlock = some w5.heap.size) →
            FlRel w0 w d z (.cells #[.int .i64 kk, .int .i64 tt, .slice Ykk ykk zkk, .slice (some ⟨eg, off, none⟩) nl c1, .slice A1 n2 c2] 29) nl g' A5 B6 (.int .i64 ((q + 1 : Nat) : Int)) w6 := by
          intro A5 B6 w5 w6 h5 hg5 hb5 h6 hg6 hb6
          have hA5 : A5.ownBlock ≠ u7.ownBlock := by
            rcases hb5 with e | e
            · rw [e]; exact hne
            · rw [e]; intro e'; have := (hlB _ e'.symm).2; have := hb1.size; omega
          have h5' := row_kept h5 hg6 (fun e => hA5 e.symm) (row_kept hr2 hg5 hne hr1)
          have hs5 := hg5.size
          have hb5w := below_app hbw1 hg5 (fun g e => by have := (hlA g e).1; omega) hbw1.size
          have hb6w := below_app hb5w hg6 (fun g e => by have := (hlB g e).1; omega) hb5w.size
          refine ⟨q + 1, by omega, rfl, ?_, ?_, hb6w⟩
          · rw [HPN.out]
            refine flat_more h5' h6 ?_ HXL.out HX.out HZZ.out hy hz2
            rcases hb6 with e | e
            · rw [e]; exact hA5
            · rw [e]
              intro e'
              have := (h5.lt _ e').2
              omega
          · have hbs := blk_lt hbx1
            exact (hg6.block _ (by omega) (fun e => by have := (hlB _ e.symm).1; omega)).trans ((hg5.block _ hbs (fun e => by have := (hlA _ e.symm).1; omega)).trans hbx1)
        have HAf := Lib.hid hafter
        have hlen1b : LL.length ≤ 100001 := hlen1
        have hbs1 : w.heap.size + 1 ≤ w1.heap.size := by have := blk_lt hbx1; omega
        have hD5 : ∀ w5, w1.grownBy w5 u6.ownBlock → ∀ (j : Nat) (u : Value), yb[j]? = some u → w5.cell? ((⟨gD, 0, none⟩ : Addr).add j) = some u := fun w5 hg5 j u hu => hg5.cell (hcD j u hu) (fun e => by have h : u6.ownBlock = some gD := (by rw [addr_add] at e; exact e.symm); have := (hlA gD h).2; omega)
        have hyl : yb.length = MM.length * 5 := hc2.1
        have HD5 := Lib.hid hD5
        have HCC := Lib.hid hcC
        have HC1 := Lib.hid hCone
        have HDO := Lib.hid hDone
        have HKE := Lib.hid (show ∀ w5, w1.grownBy w5 u6.ownBlock → w5.ownsRow (w.heap.size + 1) 29 5 u7 LL.length xb from fun w5 hg5 => row_kept hr2 hg5 hne hr1)
        have hr1' := hr1
        clear hafter hbx hbx1 hbw hbw1 hb1 hb0r hne hne2 hy hz2 hlA hlB hD5 hcC hcD hCone hDone hc1 hc2 hr2 hcall x0 x1 x2 x3 x4 p0 p1 p2 p3 p4 ho1 ho2 hlen1 hr1
        generalize MM.length = nM at *
        go_wp2_with (first | (at_builtin; refine wpList_append_own_at _ rfl _ _ 50 rfl (w.heap.size + 1) 3 i3 _ 1 8 Tryz.underlying50 hi3 hz30 hz31 hz32 rfl (by decide) _ _ _ rfl hr1' ⟨gC, 0, none⟩ nM capC (MM.map fun p => Value.int .i64 (p.1 : Nat)) rfl HML.out HCC.out HC1.out (by unfold maxLen; omega) (by omega) hbs1 ?_; intro v5 w5 hown5 hg5 _ hb5; have hk5 := HKE.out w5 hg5; have hs5 := hg5.size) | (at_builtin; refine wpList_append_own_at _ rfl _ _ 26 rfl (w.heap.size + 1) 29 i26 _ 5 88 Tryz.underlying26 hi26 hz260 hz261 hz262 rfl (by decide) _ _ _ rfl hk5 ⟨gD, 0, none⟩ nM capD yb rfl hyl (HD5.out w5 hg5) HDO.out (by unfold maxLen; omega) (by omega) (by omega) ?_; intro v6 w6 hown6 hg6 _ hb6; have HEND := (Lib.hid (HAf.out v5 v6 w5 w6 hown5 hg5 hb5 hown6 hg6 hb6))))
        go_roundg g'
        case measure => omega
        case rel => have h := HEND.out; simpa using h
      · have hqn : q = nl := by omega
        subst hqn
        have hout : FlatRow w0 wr w.heap.size ((d, z) :: puL (d + 1) (z.l.take q)) u6 u7 := ⟨xb, c, Joins.ownsRow_le ho1 (by omega), Joins.ownsRow_le ho2 (by omega), hne, hx, hzz⟩
        have HO := Lib.hid hout
        clear HL HE HS HZ hout ho1 ho2 hne hx hzz hbx
        go_wp2
        go_ret2
        exact ⟨_, _, rfl, HO.out, hbw⟩
  · have hI : (((w.alloc (.cells #[.int .i64 kk, .int .i64 tt, .slice Ykk ykk zkk, .slice A0 nl c1, .slice A1 n2 c2] 29)).alloc (.cells #[.int .i64 kk, .int .i64 tt, .slice Ykk ykk zkk, .slice A0 nl c1, .slice A1 n2 c2] 29)).alloc (.cells #[.int .i64 d] 3)).drew.heap[w.heap.size + 1 + 1]? = some (.cells #[.int .i64 d] 3 (0, 0)) := new_at (by simp) _
    have hJ : (((w.alloc (.cells #[.int .i64 kk, .int .i64 tt, .slice Ykk ykk zkk, .slice A0 nl c1, .slice A1 n2 c2] 29)).alloc (.cells #[.int .i64 kk, .int .i64 tt, .slice Ykk ykk zkk, .slice A0 nl c1, .slice A1 n2 c2] 29)).alloc (.cells #[.int .i64 d] 3)).drew.heap[w.heap.size + 1]? = some (.cells #[.int .i64 kk, .int .i64 tt, .slice Ykk ykk zkk, .slice A0 nl c1, .slice A1 n2 c2] 29 (0, 0)) := old_at _ (new_at (by simp) _)
    have hfr : Fr w (((w.alloc (.cells #[.int .i64 kk, .int .i64 tt, .slice Ykk ykk zkk, .slice A0 nl c1, .slice A1 n2 c2] 29)).alloc (.cells #[.int .i64 kk, .int .i64 tt, .slice Ykk ykk zkk, .slice A0 nl c1, .slice A1 n2 c2] 29)).alloc (.cells #[.int .i64 d] 3)).drew (fun _ => True) := ((((Fr.refl w _).alloc _).alloc _).alloc _).drewN 1
    have hbx : (((w.alloc (.cells #[.int .i64 kk, .int .i64 tt, .slice Ykk ykk zkk, .slice A0 nl c1, .slice A1 n2 c2] 29)).alloc (.cells #[.int .i64 kk, .int .i64 tt, .slice Ykk ykk zkk, .slice A0 nl c1, .slice A1 n2 c2] 29)).alloc (.cells #[.int .i64 d] 3)).drew.heap[w.heap.size]? = some (.cells #[.int .i64 kk, .int .i64 tt, .slice Ykk ykk zkk, .slice A0 nl c1, .slice A1 n2 c2] 29 (0, 0)) := old_at _ (old_at _ (new_at rfl _))
    have hrel0 : FlRel w0 w d z (.cells #[.int .i64 kk, .int .i64 tt, .slice Ykk ykk zkk, .slice A0 nl c1, .slice A1 n2 c2] 29) nl nl (.slice (some ⟨w.heap.size + 1 + 1, 0, none⟩) 1 1) (.slice (some ⟨w.heap.size + 1, 0, none⟩) 1 1) (.int .i64 0) (((w.alloc (.cells #[.int .i64 kk, .int .i64 tt, .slice Ykk ykk zkk, .slice A0 nl c1, .slice A1 n2 c2] 29)).alloc (.cells #[.int .i64 kk, .int .i64 tt, .slice Ykk ykk zkk, .slice A0 nl c1, .slice A1 n2 c2] 29)).alloc (.cells #[.int .i64 d] 3)).drew := by
      refine ⟨0, by omega, rfl, ⟨[.int .i64 kk, .int .i64 tt, .slice Ykk ykk zkk, .slice A0 nl c1, .slice A1 n2 c2], fun _ j => if j = 0 then .int .i64 kk else if j = 1 then .int .i64 tt else if j = 2 then .slice Ykk ykk zkk else if j = 3 then .slice A0 nl c1 else .slice A1 n2 c2, ?_, ?_, ?_, fun i j hi hj => ?_, fun i p hp => ?_⟩, hbx, ⟨hfr.os, hfr.tape, hfr.output, hfr.size, fun i hi => hfr.block i hi trivial⟩⟩
      · rw [List.take_zero, puL]
        exact ⟨rfl, .inr ⟨_, 1, _, rfl, by omega, hI, Nat.le_refl _, by unfold maxLen; omega, rfl, rfl⟩⟩
      · rw [List.take_zero, puL]
        exact ⟨rfl, .inr ⟨_, 1, _, rfl, by omega, hJ, Nat.le_refl _, by unfold maxLen; omega, rfl, rfl⟩⟩
      · intro e
        have : (w.heap.size + 1 + 1) = (w.heap.size + 1) := Option.some.inj e
        omega
      · rw [List.take_zero, puL] at hi
        have hi0 : i = 0 := by simpa using hi
        subst hi0
        match j, hj with
        | 0, _ => rfl
        | 1, _ => rfl
        | 2, _ => rfl
        | 3, _ => rfl
        | 4, _ => rfl
      · rw [List.take_zero, puL] at hp
        have hi0 : i = 0 := by have := (List.getElem?_eq_some_iff.1 hp).1; simpa using this
        subst hi0
        cases hp
        exact HZ.out
    have HR0 := Lib.hid hrel0
    clear hrel0 hI hJ hfr hbx
    go_wp2
    generalize (((w.alloc (.cells #[.int .i64 kk, .int .i64 tt, .slice Ykk ykk zkk, .slice A0 nl c1, .slice A1 n2 c2] 29)).alloc (.cells #[.int .i64 kk, .int .i64 tt, .slice Ykk ykk zkk, .slice A0 nl c1, .slice A1 n2 c2] 29)).alloc (.cells #[.int .i64 d] 3)).drew = W0 at *
    go_loopg [6, 7, 8] nl (fun g v6 v7 v8 wr => FlRel w0 w d z (.cells #[.int .i64 kk, .int .i64 tt, .slice Ykk ykk zkk, .slice A0 nl c1, .slice A1 n2 c2] 29) nl g v6 v7 v8 wr)
    case atStart => exact HR0.out
    case round =>
      clear HR0
      obtain ⟨q, hqg, rfl, ⟨xb, c, ho1, ho2, hne, hx, hzz⟩, hbx, hbw⟩ := hrel
      obtain ⟨p0, p1, p2, p3, p4⟩ := cells_5 hbx
      by_cases hq : q < nl
      · obtain ⟨x, hxq⟩ : ∃ x, z.l[q]? = some x := ⟨_, List.getElem?_eq_getElem (by have := HNL.out; omega)⟩
        obtain ⟨eg, off, rfl, hgw, hcell⟩ := HL.out (by omega)
        obtain ⟨y0, y1, y2, y3, y4⟩ := elc5 hcell hq
        have hb0r : Below w0.heap.size w0 wr := hbw0.trans (hbw.mono hbw0.size)
        have hf := below_fr hb0r
        have x0 := hf.cell y0 hgw
        have x1 := hf.cell y1 hgw
        have x2 := hf.cell y2 hgw
        have x3 := hf.cell y3 hgw
        have x4 := hf.cell y4 hgw
        have hxz := HE.out q x hxq
        have htk : z.l.take (q + 1) = z.l.take q ++ [x] := by
          have hlt := (List.getElem?_eq_some_iff.1 hxq).1
          rw [List.take_succ_eq_append_getElem hlt, (List.getElem?_eq_some_iff.1 hxq).2]
        have hpn : puL (d + 1) (z.l.take (q + 1)) = puL (d + 1) (z.l.take q) ++ pu (d + 1) x := by rw [htk, puL_app, puL, puL, List.append_nil]
        have hxc := ucL_mem (List.mem_of_getElem? hxq)
        have hcall := HS.out x (List.mem_of_getElem? hxq) (d + 1) w0 wr _ _ _ _ _ hxz hb0r (by have := HZC.out; omega)
        have hlen1 : ((d, z) :: puL (d + 1) (z.l.take q)).length ≤ 100001 := by
          have h1 := ucL_app (z.l.take q) (z.l.drop q)
          rw [List.take_append_drop] at h1
          rw [List.length_cons, puL_len]
          have := HZC.out
          omega
        have hlen2 : (pu (d + 1) x).length ≤ 100000 := by rw [pu_len]; have := HZC.out; omega
        have hlen3 : 0 < (pu (d + 1) x).length := by cases x; rw [pu]; simp
        have hxl : xb.length = ((d, z) :: puL (d + 1) (z.l.take q)).length * 5 := ho2.1
        have hone := row_one hxl hx hzz
        have HPN := Lib.hid (show (d, z) :: puL (d + 1) (z.l.take (q + 1)) = ((d, z) :: puL (d + 1) (z.l.take q)) ++ pu (d + 1) x by rw [hpn]; rfl)
        generalize ((d, z) :: puL (d + 1) (z.l.take q)) = LL at *
        generalize pu (d + 1) x = MM at *
        obtain ⟨g', hg'⟩ : ∃ g', gk = g' + 1 := ⟨gk - 1, by omega⟩
        subst hg'
        have hqi : (q : Int) < (nl : Int) := by omega
        have HX := Lib.hid hx
        have HZZ := Lib.hid hzz
        have HXL := Lib.hid hxl
        have hdi : (0 : Int) ≤ (d : Int) := by omega
        obtain ⟨k9, t9, Yk9, yk9, zk9, A9, n9, c9, B9, m9, s9, e0, e1, e2, e3, e4⟩ := uin_agg hxz
        rw [e0, e1, e2, e3, e4] at hcall
        rw [e0] at x0
        rw [e1] at x1
        rw [e2] at x2
        rw [e3] at x3
        rw [e4] at x4
        clear hxq hcell y0 y1 y2 y3 y4 hxz htk hpn hxc hf hx hzz hxl hone HL HE HS HZ e0 e1 e2 e3 e4
        go_wp2_with fail
        refine hcall.mono ?_
        rintro e w1 ⟨C, D, rfl, ⟨yb, c3, hc1, hc2, hne2, hy, hz2⟩, hb1⟩
        obtain ⟨gC, capC, hC⟩ := ownsRow_posn hc1 hlen3
        obtain ⟨gD, capD, hD⟩ := ownsRow_posn hc2 hlen3
        subst hC hD
        have hbw1 : Below w.heap.size w w1 := hbw.trans (hb1.mono hbw.size)
        have hbx1 := (below_fr0 hb1).at hbx trivial
        have hr1 := ownsRow_fr ho1 (below_fr hb1) (fun g e => (ho1.lt g e).2)
        have hr2 := ownsRow_fr ho2 (below_fr hb1) (fun g e => (ho2.lt g e).2)
        have hgC := (hc1.lt gC rfl).1
        have hgD := (hc2.lt gD rfl).1
        have hcC : ∀ (j : Nat) (u : Value), (MM.map fun p => Value.int .i64 (p.1 : Nat))[j]? = some u → w1.cell? ((⟨gC, 0, none⟩ : Addr).add j) = some u := hc1.cells (g := gC) rfl
        have hcD : ∀ (j : Nat) (u : Value), yb[j]? = some u → w1.cell? ((⟨gD, 0, none⟩ : Addr).add j) = some u := hc2.cells (g := gD) rfl
        have hDone := row_one (w0 := w0) hc2.1 hy hz2
        have hCone : ∀ u ∈ (MM.map fun p => Value.int .i64 (p.1 : Nat)), u.oneCell' = true := fun u hu => by obtain ⟨p, _, rfl⟩ := List.mem_map.1 hu; rfl
        have HML := Lib.hid (show (MM.map fun p => Value.int .i64 (p.1 : Nat)).length = MM.length * 1 by simp)
        have hlA := ho1.lt
        have hlB := ho2.lt
        have hafter : ∀ (A5 B6 : Value) (w5 w6 : World), w5.ownsRow (w.heap.size + 1) 3 1 A5 (LL.length + MM.length) ((LL.map fun p => Value.int .i64 (p.1 : Nat)) ++ (MM.map fun p => Value.int .i64 (p.1 : Nat))) → w1.grownBy w5 u6.ownBlock → (A5.ownBlock = u6.ownBlock ∨ A5.ownBlock = some w1.heap.size) →
            w6.ownsRow (w.heap.size + 1) 29 5 B6 (LL.length + MM.length) (xb ++ yb) → w5.grownBy w6 u7.ownBlock → (B6.ownBlock = u7.ownBlock ∨ B6.ownBlock = some w5.heap.size) →
            FlRel w0 w d z (.cells #[.int .i64 kk, .int .i64 tt, .slice Ykk ykk zkk, .slice (some ⟨eg, off, none⟩) nl c1, .slice A1 n2 c2] 29) nl g' A5 B6 (.int .i64 ((q + 1 : Nat) : Int)) w6 := by
          intro A5 B6 w5 w6 h5 hg5 hb5 h6 hg6 hb6
          have hA5 : A5.ownBlock ≠ u7.ownBlock := by
            rcases hb5 with e | e
            · rw [e]; exact hne
            · rw [e]; intro e'; have := (hlB _ e'.symm).2; have := hb1.size; omega
          have h5' := row_kept h5 hg6 (fun e => hA5 e.symm) (row_kept hr2 hg5 hne hr1)
          have hs5 := hg5.size
          have hb5w := below_app hbw1 hg5 (fun g e => by have := (hlA g e).1; omega) hbw1.size
          have hb6w := below_app hb5w hg6 (fun g e => by have := (hlB g e).1; omega) hb5w.size
          refine ⟨q + 1, by omega, rfl, ?_, ?_, hb6w⟩
          · rw [HPN.out]
            refine flat_more h5' h6 ?_ HXL.out HX.out HZZ.out hy hz2
            rcases hb6 with e | e
            · rw [e]; exact hA5
            · rw [e]
              intro e'
              have := (h5.lt _ e').2
              omega
          · have hbs := blk_lt hbx1
            exact (hg6.block _ (by omega) (fun e => by have := (hlB _ e.symm).1; omega)).trans ((hg5.block _ hbs (fun e => by have := (hlA _ e.symm).1; omega)).trans hbx1)
        have HAf := Lib.hid hafter
        have hlen1b : LL.length ≤ 100001 := hlen1
        have hbs1 : w.heap.size + 1 ≤ w1.heap.size := by have := blk_lt hbx1; omega
        have hD5 : ∀ w5, w1.grownBy w5 u6.ownBlock → ∀ (j : Nat) (u : Value), yb[j]? = some u → w5.cell? ((⟨gD, 0, none⟩ : Addr).add j) = some u := fun w5 hg5 j u hu => hg5.cell (hcD j u hu) (fun e => by have h : u6.ownBlock = some gD := (by rw [addr_add] at e; exact e.symm); have := (hlA gD h).2; omega)
        have hyl : yb.length = MM.length * 5 := hc2.1
        have HD5 := Lib.hid hD5
        have HCC := Lib.hid hcC
        have HC1 := Lib.hid hCone
        have HDO := Lib.hid hDone
        have HKE := Lib.hid (show ∀ w5, w1.grownBy w5 u6.ownBlock → w5.ownsRow (w.heap.size + 1) 29 5 u7 LL.length xb from fun w5 hg5 => row_kept hr2 hg5 hne hr1)
        have hr1' := hr1
        clear hafter hbx hbx1 hbw hbw1 hb1 hb0r hne hne2 hy hz2 hlA hlB hD5 hcC hcD hCone hDone hc1 hc2 hr2 hcall x0 x1 x2 x3 x4 p0 p1 p2 p3 p4 ho1 ho2 hlen1 hr1
        generalize MM.length = nM at *
        go_wp2_with (first | (at_builtin; refine wpList_append_own_at _ rfl _ _ 50 rfl (w.heap.size + 1) 3 i3 _ 1 8 Tryz.underlying50 hi3 hz30 hz31 hz32 rfl (by decide) _ _ _ rfl hr1' ⟨gC, 0, none⟩ nM capC (MM.map fun p => Value.int .i64 (p.1 : Nat)) rfl HML.out HCC.out HC1.out (by unfold maxLen; omega) (by omega) hbs1 ?_; intro v5 w5 hown5 hg5 _ hb5; have hk5 := HKE.out w5 hg5; have hs5 := hg5.size) | (at_builtin; refine wpList_append_own_at _ rfl _ _ 26 rfl (w.heap.size + 1) 29 i26 _ 5 88 Tryz.underlying26 hi26 hz260 hz261 hz262 rfl (by decide) _ _ _ rfl hk5 ⟨gD, 0, none⟩ nM capD yb rfl hyl (HD5.out w5 hg5) HDO.out (by unfold maxLen; omega) (by omega) (by omega) ?_; intro v6 w6 hown6 hg6 _ hb6; have HEND := (Lib.hid (HAf.out v5 v6 w5 w6 hown5 hg5 hb5 hown6 hg6 hb6))))
        go_roundg g'
        case measure => omega
        case rel => have h := HEND.out; simpa using h
      · have hqn : q = nl := by omega
        subst hqn
        have hout : FlatRow w0 wr w.heap.size ((d, z) :: puL (d + 1) (z.l.take q)) u6 u7 := ⟨xb, c, Joins.ownsRow_le ho1 (by omega), Joins.ownsRow_le ho2 (by omega), hne, hx, hzz⟩
        have HO := Lib.hid hout
        clear HL HE HS HZ hout ho1 ho2 hne hx hzz hbx
        go_wp2
        go_ret2
        exact ⟨_, _, rfl, HO.out, hbw⟩
theorem flat_any : ∀ (n : Nat) (z : U), SizeOf.sizeOf z < n → FlC z
  | 0, _, h => by omega
  | n + 1, .mk k t b l ks, h => flat_step (.mk k t b l ks) (fun x hx => flat_any n x (by
      have := List.sizeOf_lt_of_mem (show x ∈ l from hx)
      simp only [U.mk.sizeOf_spec] at h
      omega))
end Go.Proofs.YtfboecnhakihnaaGreatDoor
