/-
  'append(row, src...)' onto a row of the call's own, from whatever source; 'slices.Grow' of nothing; 'slices.Concat' of one text and some.
-/
import Derived.Test.YtcmillbjpplfjaaGreatDoorFld
namespace Go.Proofs.YtcmillbjpplfjaaGreatDoor
open Go.RowKit

section
variable {P : Program} (w : World)
theorem run_append_nil_src1 (base : Nat) (t ty e : TypeId) (i : TypeInfo) (size : Nat) (ht : P.underlying t = some (.slice e)) (hi : P.info? e = some i)
    (v : Value) (n : Nat) (xs : List Value) (hown : w.ownsRow base e size v n xs) (c : Nat) : (Builtin.append_ #[t, t] ty #[v, .slice none 0 c]).run P w = .ok v w := by
  rcases hown.2 with ⟨rfl, rfl⟩ | ⟨g, cap, cur, rfl, _, _, hnc, _⟩
  · simp [Builtin.append_, run_underlying ht, sizeOf, typeInfo, hi, Builtin.lenOf, Builtin.firstCells]
  · simp [Builtin.append_, run_underlying ht, sizeOf, typeInfo, hi, Builtin.lenOf, Builtin.firstCells, hnc, storeCells]
theorem run_append_src (base : Nat) (t ty e : TypeId) (i : TypeInfo) (z : Value) (bytes : Nat) (ht : P.underlying t = some (.slice e)) (hi : P.info? e = some i) (hz : i.zero = some z)
    (hsize : i.size = 1) (hby : i.bytes = bytes) (hzs : z.cells.size = 1) (v : Value) (n : Nat) (xs : List Value) (hown : w.ownsRow base e 1 v n xs)
    (A : Option Addr) (m c : Nat) (ys : List Value) (hl : ys.length = m) (hcc : 0 < m → ∃ b off, A = some ⟨b, off, none⟩ ∧ ∀ j u, ys[j]? = some u → w.cell? ⟨b, off + j, none⟩ = some u) (h1 : ∀ u ∈ ys, u.oneCell' = true)
    (h63 : n + m ≤ maxLen) (hbig : (n + m) * bytes ≤ 140737488355328) (hbase : base ≤ w.heap.size) :
    ∃ v' w', (Builtin.append_ #[t, t] ty #[v, .slice A m c]).run P w = .ok v' w' ∧ w'.ownsRow base e 1 v' (n + m) (xs ++ ys) ∧ w.grownBy w' v.ownBlock ∧
      (v'.ownBlock = v.ownBlock ∨ v'.ownBlock = some w.heap.size) := by
  rcases A with _ | ad
  · have hm : m = 0 := by
      rcases Nat.eq_zero_or_pos m with h0 | h0
      · exact h0
      · obtain ⟨_, _, h, _⟩ := hcc h0
        cases h
    subst hm
    have hn : ys = [] := List.eq_nil_of_length_eq_zero hl
    subst hn
    exact ⟨v, w, run_append_nil_src1 w base t ty e i 1 ht hi v n xs hown c, by simpa using hown, World.grownBy.refl w _, .inl rfl⟩
  · have hcells : ∀ j u, ys[j]? = some u → w.cell? (ad.add j) = some u := by
      intro j u hu
      rcases Nat.eq_zero_or_pos m with h0 | h0
      · subst h0
        have hn : ys = [] := List.eq_nil_of_length_eq_zero hl
        subst hn
        simp at hu
      · obtain ⟨b, off, h, hc⟩ := hcc h0
        injection h with h
        subst h
        rw [addr_add]
        exact hc j u hu
    obtain ⟨v', w', hrun, h2, h3, _, h5⟩ := run_append_own_at (P := P) w base t ty e i z 1 bytes ht hi hz hsize hby hzs (by omega) v n xs hown ad m c ys (by simpa using hl) hcells h1 h63 hbig hbase
    exact ⟨v', w', hrun, h2, h3, h5⟩
theorem wpList_append_src {ops : Array Oper} {rest : List Oper} {o : Oper} {a : Act} {Q : Exit → Act → World → Prop} (hgd : o.guard = none) (s x : Operand) (t : TypeId)
    (ho : o.op = .call { callee := .builtin .append, args := #[s, x], argTypes := #[t, t] })
    (base : Nat) (e : TypeId) (i : TypeInfo) (z : Value) (bytes : Nat) (ht : P.underlying t = some (.slice e)) (hi : P.info? e = some i) (hz : i.zero = some z) (hsize : i.size = 1) (hby : i.bytes = bytes) (hzs : z.cells.size = 1)
    (v : Value) (n : Nat) (xs : List Value) (hs : a.eval s = v) (hown : w.ownsRow base e 1 v n xs)
    (A : Option Addr) (m c : Nat) (ys : List Value) (hx : a.eval x = .slice A m c) (hl : ys.length = m) (hcc : 0 < m → ∃ b off, A = some ⟨b, off, none⟩ ∧ ∀ j u, ys[j]? = some u → w.cell? ⟨b, off + j, none⟩ = some u) (h1 : ∀ u ∈ ys, u.oneCell' = true)
    (h63 : n + m ≤ maxLen) (hbig : (n + m) * bytes ≤ 140737488355328) (hbase : base ≤ w.heap.size)
    (h : ∀ v' w', w'.ownsRow base e 1 v' (n + m) (xs ++ ys) → w.grownBy w' v.ownBlock → (v'.ownBlock = v.ownBlock ∨ v'.ownBlock = some w.heap.size) → wpList P ops Q rest (a.put o.dst v') w') : wpList P ops Q (o :: rest) a w := by
  refine wpList_plain hgd fun _ hK => ?_
  obtain ⟨v', w', hr, h2, h3, h5⟩ := run_append_src (P := P) w base t o.type e i z bytes ht hi hz hsize hby hzs v n xs hown A m c ys hl hcc h1 h63 hbig hbase
  unfold Oper.wp execOp
  simp only [ho, resolve, invoke, builtin, Sem.run_bind, Sem.run_pure, Result.andThen_ok, List.map_toArray, List.map_cons, List.map_nil, hs, hx, hr]
  exact hK _ _ (h v' w' h2 h3 h5)
end
theorem gset_below {w w' : World} {row : Option Nat} {b : Nat} (h : w.grownBy w' row) (hr : ∀ r, row = some r → b ≤ r) (hb : b ≤ w.heap.size) : Below b w w' :=
  ⟨h.os, h.tape, h.output, h.size, fun i hi => h.block i (by omega) (fun e => by have := hr i e.symm; omega)⟩
/-- 'Grow' of a nil slice: room, nothing in it. -/
def GrowP (w : World) (n : Nat) (e : Ending) (w' : World) : Prop := ∃ v, e = .returned v ∧ w'.ownsRow w.heap.size 9 1 v 0 [] ∧ Below w.heap.size w w'
theorem info9 : (Tryz.prog.info? 9).map (fun i => (i.zero, i.size, i.bytes)) = some (some (.string ⟨#[]⟩), 1, 16) := by kernel_rfl
set_option maxRecDepth 100000 in
set_option maxHeartbeats 1000000 in
theorem grow_any (n : Nat) (h1 : 1 ≤ n) (h2 : n ≤ 101) (w : World) : Calls Tryz.prog 173 #[.slice none 0 0, .int .i64 n] w (GrowP w n) := by
  obtain ⟨i0, hi, hz0, hz1, hz2⟩ := info_parts info9
  have hold : (Builtin.firstCells i0.size 0 (.slice none 0 0)).run Tryz.prog w.drew = .ok ([] : List Value).toArray w.drew := run_firstCells_none w.drew i0.size 0 0 0
  have hrz : ∀ ty, (Builtin.append_ #[24, 3] ty #[.slice none 0 0, .int .i64 n]).run Tryz.prog w =
      .ok (.slice (some ⟨w.heap.size, 0, none⟩) n (grownCap w n 0 9)) (w.drew.alloc (.cells (([] : List Value).toArray ++ Builtin.zeroCells (Value.string ⟨#[]⟩).cells n ++ Builtin.zeroCells (Value.string ⟨#[]⟩).cells (grownCap w n 0 9 - n)) 9)) := fun ty => by
    have h := Lib.run_append_grow_zeros w 24 3 ty 9 i0 _ .i64 .i64 Tryz.underlying24 Tryz.underlying3 hi hz0 none 0 0 [] hold n (by omega) (by rw [hz1]; exact Nat.one_pos) (by omega) (by omega) (by rw [hz2]; omega)
      (by rw [Nat.zero_add, hz2]; exact growslice_fits (by omega) (by omega))
    rw [Nat.zero_add] at h
    exact h
  have hge : n ≤ grownCap w n 0 9 := grownCap_ge w _ _ _
  have hle := grownCap_le_maxLen w n 0 9 (by unfold maxLen; omega)
  obtain ⟨G, hG⟩ : ∃ G, grownCap w n 0 9 = G := ⟨_, rfl⟩
  rw [hG] at hge hle hrz
  obtain ⟨C, hC⟩ : ∃ C, (([] : List Value).toArray ++ Builtin.zeroCells (Value.string ⟨#[]⟩).cells n ++ Builtin.zeroCells (Value.string ⟨#[]⟩).cells (G - n)) = C := ⟨_, rfl⟩
  have hCs : C.size = G := by
    rw [← hC]
    have hz : ∀ k, (Builtin.zeroCells (Value.string ⟨#[]⟩).cells k).size = k := fun k => by simp [Builtin.zeroCells, Value.cells]
    simp only [Array.size_append, hz, List.size_toArray, List.length_nil]
    omega
  rw [hC] at hrz
  have HG : Hid (n ≤ G ∧ G ≤ maxLen ∧ C.size = G) := ⟨hge, hle, hCs⟩
  have hG63 : G ≤ 9223372036854775807 := by unfold maxLen at hle; omega
  clear hold hG hC hle hCs
  go_enter Tryz.func173, Tryz.ntmps173
  go_wp2_with (at_builtin; refine Lib.wpList_append_run _ rfl _ _ _ _ rfl _ _ rfl rfl _ _ (hrz _) ?_)
  go_ret
  refine ⟨_, rfl, ⟨rfl, .inr ⟨w.heap.size, G, C, rfl, Nat.le_refl _, new_at rfl _, Nat.zero_le _, HG.out.2.1, by have := HG.out.2.2; omega, by simp⟩⟩, ?_⟩
  have h := (Below.refl w.heap.size w).alloc (Nat.le_refl _) (.cells C 9)
  exact ⟨h.os, h.tape, h.output, h.size, h.block⟩
theorem own_open1 {wr : World} {base n : Nat} {e : TypeId} {v : Value} {xs : List Value} (h : wr.ownsRow base e 1 v n xs) :
    ∃ A cap, v = .slice A n cap ∧ n ≤ cap ∧ cap ≤ maxLen ∧ (0 < n → ∃ g, A = some ⟨g, 0, none⟩ ∧ base ≤ g ∧ ∀ j u, xs[j]? = some u → wr.cell? ⟨g, j, none⟩ = some u) := by
  have hc := @World.ownsRow.cells wr base e 1 v n xs h
  rcases h.2 with ⟨rfl, h0⟩ | ⟨g, cap, cur, rfl, hb, hg, hn, hm, _, _⟩
  · subst h0
    exact ⟨none, 0, rfl, Nat.le_refl _, by unfold maxLen; omega, fun h => by omega⟩
  · refine ⟨_, cap, rfl, hn, hm, fun _ => ⟨g, rfl, hb, fun j u hu => ?_⟩⟩
    have := hc (g := g) rfl j u hu
    rw [addr_add, Nat.zero_add] at this
    exact this
theorem own_strs {wr : World} {base : Nat} {e : TypeId} {v : Value} {ss : List ByteArray} {n : Nat} (hn : ss.length = n) (hs : ∀ s, s ∈ ss → s.size ≤ maxLen) (h : wr.ownsRow base e 1 v n (ss.map Value.string)) : StrsAt wr (fun _ => True) ss v := by
  subst hn
  obtain ⟨A, cap, rfl, h1, h2, h3⟩ := own_open1 h
  exact ⟨A, cap, rfl, h1, h2, hs, fun hp => by
    obtain ⟨g, e, _, hc⟩ := h3 hp
    exact ⟨g, 0, e, trivial, fun i s hi => by rw [Nat.zero_add]; exact hc i _ (by rw [List.getElem?_map, hi]; rfl)⟩⟩
theorem one_strs (ss : List ByteArray) : ∀ u ∈ ss.map Value.string, u.oneCell' = true := by
  intro u hu
  obtain ⟨s, _, rfl⟩ := List.mem_map.1 hu
  rfl
theorem own_below {wr : World} {base n : Nat} {e : TypeId} {v : Value} {xs : List Value} (h : wr.ownsRow base e 1 v n xs) {B : Nat} (hB : B ≤ base) : ∀ r, v.ownBlock = some r → B ≤ r := by
  intro r hr
  rcases h.2 with ⟨rfl, _⟩ | ⟨g, cap, cur, rfl, hb, _⟩
  · cases hr
  · cases hr; exact Nat.le_trans hB hb
/-- 'Concat' of one text and some. -/
def CatP (w : World) (ss : List ByteArray) (e : Ending) (w' : World) : Prop := ∃ v, e = .returned v ∧ StrsAt w' (fun _ => True) ss v ∧ Below w.heap.size w w'
set_option maxRecDepth 100000 in
set_option maxHeartbeats 2000000 in
theorem concat_any (s : ByteArray) (ss : List ByteArray) (b1 b2 : Nat) (v : Value) (w : World) (ok : Nat → Prop) (hl : ss.length ≤ 100) (hs : s.size ≤ maxLen) (h1 : w.cell? ⟨b1, 0, none⟩ = some (.string s)) (h : StrsAt w ok ss v)
    (h2 : w.heap[b2]? = some (.cells #[.slice (some ⟨b1, 0, none⟩) 1 1, v] 24 (0, 0))) :
    Calls Tryz.prog 150 #[.slice (some ⟨b2, 0, none⟩) 2 2] w (CatP w (s :: ss)) := by
  obtain ⟨i0, hi, hz0, hz1, hz2⟩ := info_parts info9
  obtain ⟨A, cap, rfl, hlc, hcm, hsz, hc⟩ := h
  unfold maxLen at hcm
  have p0 := cell_of_row _ _ 0 _ _ _ h2
  have p1 := cell_of_row _ _ 1 _ _ _ h2
  have HC := Lib.hid hc
  have H1 := Lib.hid h1
  have HS := Lib.hid hsz
  have HS0 := Lib.hid hs
  have H2 := Lib.hid h2
  have n0 : ¬ (1 + (ss.length : Int) < 0) := by omega
  clear hc h1 hsz hs
  go_enter Tryz.func150, Tryz.ntmps150
  obtain ⟨N, hN⟩ : ∃ N : Nat, 1 + ss.length = N := ⟨_, rfl⟩
  have hN1 : 1 ≤ N := by omega
  have hN2 : N ≤ 101 := by omega
  have HN := Lib.hid hN
  have hNi : 1 + (ss.length : Int) = (N : Int) := by omega
  have HNI := Lib.hid hNi
  clear hN hNi
  go_wp2
  go_loopg [3, 11] 2 (fun g s i wr => ∃ k : Nat, k + g = 2 ∧ i = .int .i64 (k : Int) ∧ s = .int .i64 (if k = 0 then 0 else if k = 1 then 1 else (N : Int)) ∧ w = wr)
  case atStart => exact ⟨0, rfl, rfl, rfl, rfl⟩
  case round =>
    obtain ⟨k, hg, rfl, rfl, rfl⟩ := hrel
    have HG := Lib.hid hg
    have hk : k = 0 ∨ k = 1 ∨ k = 2 := by omega
    clear hg
    rcases hk with rfl | rfl | rfl
    · rw [if_pos rfl]
      go_wp2
      go_roundg 1
      case measure => have := HG.out; omega
      case rel => exact ⟨1, rfl, rfl, by simp, rfl⟩
    · rw [if_neg (by decide), if_pos rfl]
      go_wp2
      go_roundg 0
      case measure => have := HG.out; omega
      case rel => exact ⟨2, rfl, rfl, by rw [if_neg (by decide), if_neg (by decide), HNI.out], rfl⟩
    · rw [if_neg (by decide), if_neg (by decide)]
      go_wp2_with fail
      refine (grow_any N hN1 hN2 w).mono ?_
      rintro e w1 ⟨v1, rfl, hown, hb1⟩
      have HOW := Lib.hid hown
      have HB1 := Lib.hid hb1
      clear hown hb1 p0 p1
      go_wp2
      go_loopg [6, 27] 2 (fun g r i wr => ∃ k : Nat, k + g = 2 ∧ i = .int .i64 (k : Int) ∧ wr.ownsRow w.heap.size 9 1 r (if k = 0 then 0 else if k = 1 then 1 else 1 + ss.length) (if k = 0 then [] else if k = 1 then [Value.string s] else Value.string s :: ss.map Value.string) ∧ Below w.heap.size w wr)
      case atStart => exact ⟨0, rfl, rfl, HOW.out, HB1.out⟩
      case round =>
        obtain ⟨k, hg, rfl, hown, hb⟩ := hrel
        have HG := Lib.hid hg
        have hk : k = 0 ∨ k = 1 ∨ k = 2 := by omega
        clear hg
        have HB := Lib.hid hb
        have hfr := below_fr0 hb
        have hb2 := hfr.at H2.out trivial
        have p0 := cell_of_row _ _ 0 _ _ _ hb2
        have p1 := cell_of_row _ _ 1 _ _ _ hb2
        clear hb hb2
        rcases hk with rfl | rfl | rfl
        · rw [if_pos rfl, if_pos rfl] at hown
          have hs0 := hfr.cell H1.out trivial
          go_wp2_with (at_builtin; refine wpList_append_src _ rfl _ _ 24 rfl w.heap.size 9 i0 _ 16 Tryz.underlying24 hi hz0 hz1 hz2 rfl _ _ _ rfl hown (some ⟨b1, 0, none⟩) 1 1 [.string s] rfl rfl (fun _ => ⟨b1, 0, rfl, fun j u hu => ?c1⟩) ?c2 (by unfold maxLen; omega) (by omega) hfr.size ?_)
          case c1 =>
            rcases j with _ | j
            · simp only [List.getElem?_cons_zero, Option.some.injEq] at hu
              rw [← hu]; exact hs0
            · simp at hu
          case c2 => intro u hu; simp at hu; subst hu; rfl
          intro v2 w2 hown2 hgr _
          have HO2 := Lib.hid hown2
          have HB2 := Lib.hid (HB.out.trans (gset_below hgr (own_below hown (Nat.le_refl _)) hfr.size))
          clear hown hown2 hgr p0 p1 hs0 hfr
          go_wp2
          go_roundg 1
          case measure => have := HG.out; omega
          case rel => exact ⟨1, rfl, rfl, HO2.out, HB2.out⟩
        · rw [if_neg (by decide), if_pos rfl, if_neg (by decide), if_pos rfl] at hown
          have hcs : 0 < ss.length → ∃ b off, A = some ⟨b, off, none⟩ ∧ ∀ j u, (ss.map Value.string)[j]? = some u → wr.cell? ⟨b, off + j, none⟩ = some u := fun hp => by
            obtain ⟨g, off, e, _, hcc⟩ := HC.out hp
            refine ⟨g, off, e, fun j u hu => ?_⟩
            rw [List.getElem?_map] at hu
            obtain ⟨x, hx, rfl⟩ := Option.map_eq_some_iff.1 hu
            exact hfr.cell (hcc j x hx) trivial
          have HCS := Lib.hid hcs
          clear hcs
          go_wp2_with (at_builtin; refine wpList_append_src _ rfl _ _ 24 rfl w.heap.size 9 i0 _ 16 Tryz.underlying24 hi hz0 hz1 hz2 rfl _ _ _ rfl hown A ss.length cap (ss.map Value.string) rfl (by simp) HCS.out (one_strs ss) (by unfold maxLen; omega) (by omega) hfr.size ?_)
          intro v2 w2 hown2 hgr _
          have HO2 := Lib.hid hown2
          have HB2 := Lib.hid (HB.out.trans (gset_below hgr (own_below hown (Nat.le_refl _)) hfr.size))
          clear hown hown2 hgr p0 p1 hfr
          go_wp2
          go_roundg 0
          case measure => have := HG.out; omega
          case rel => exact ⟨2, rfl, rfl, HO2.out, HB2.out⟩
        · rw [if_neg (by decide), if_neg (by decide), if_neg (by decide), if_neg (by decide)] at hown
          have HO2 := Lib.hid hown
          clear hown p0 p1 hfr
          go_wp2
          go_ret
          refine ⟨_, rfl, own_strs (by simp; omega) (fun x hx => ?_) HO2.out, HB.out⟩
          rcases List.mem_cons.1 hx with rfl | hx
          · exact HS0.out
          · exact HS.out x hx
end Go.Proofs.YtcmillbjpplfjaaGreatDoor
