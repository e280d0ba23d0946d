/-
  The reference's 'ranks'.
-/
import Derived.Test.YtpajccehkcgoaaaDoorLqr
namespace Go.Proofs.YtpajccehkcgoaaaDoor
open Go.RowKit Go.Shelf Lv

section
variable {P : Program} (w : World)
theorem run_append_nil_srcL (base : Nat) (t ty e : TypeId) (i : TypeInfo) (size : Nat) (ht : P.underlying t = some (.slice e)) (hi : P.info? e = some i)
    (v : Value) (n : Nat) (xs : List Value) (hown : w.ownsRow base e size v n xs) (c : Nat) : (Builtin.append_ #[t, t] ty #[v, .slice none 0 c]).run P w = .ok v w := by
  rcases hown.2 with ⟨rfl, rfl⟩ | ⟨g, cap, cur, rfl, _, _, hnc, _⟩
  · simp [Builtin.append_, run_underlying ht, sizeOf, typeInfo, hi, Builtin.lenOf, Builtin.firstCells]
  · simp [Builtin.append_, run_underlying ht, sizeOf, typeInfo, hi, Builtin.lenOf, Builtin.firstCells, hnc, storeCells]
theorem run_append_srcL (base : Nat) (t ty e : TypeId) (i : TypeInfo) (z : Value) (bytes : Nat) (ht : P.underlying t = some (.slice e)) (hi : P.info? e = some i) (hz : i.zero = some z)
    (hsize : i.size = 1) (hby : i.bytes = bytes) (hzs : z.cells.size = 1) (v : Value) (n : Nat) (xs : List Value) (hown : w.ownsRow base e 1 v n xs)
    (A : Option Addr) (m c : Nat) (ys : List Value) (hl : ys.length = m) (hcc : 0 < m → ∃ b off, A = some ⟨b, off, none⟩ ∧ ∀ j u, ys[j]? = some u → w.cell? ⟨b, off + j, none⟩ = some u) (h1 : ∀ u ∈ ys, u.oneCell' = true)
    (h63 : n + m ≤ maxLen) (hbig : (n + m) * bytes ≤ 140737488355328) (hbase : base ≤ w.heap.size) :
    ∃ v' w', (Builtin.append_ #[t, t] ty #[v, .slice A m c]).run P w = .ok v' w' ∧ w'.ownsRow base e 1 v' (n + m) (xs ++ ys) ∧ w.grownBy w' v.ownBlock ∧
      (v'.ownBlock = v.ownBlock ∨ v'.ownBlock = some w.heap.size) := by
  rcases A with _ | ad
  · have hm : m = 0 := by
      rcases Nat.eq_zero_or_pos m with h0 | h0
      · exact h0
      · obtain ⟨_, _, h, _⟩ := hcc h0
        cases h
    subst hm
    have hn : ys = [] := List.eq_nil_of_length_eq_zero hl
    subst hn
    exact ⟨v, w, run_append_nil_srcL w base t ty e i 1 ht hi v n xs hown c, by simpa using hown, World.grownBy.refl w _, .inl rfl⟩
  · have hcells : ∀ j u, ys[j]? = some u → w.cell? (ad.add j) = some u := by
      intro j u hu
      rcases Nat.eq_zero_or_pos m with h0 | h0
      · subst h0
        have hn : ys = [] := List.eq_nil_of_length_eq_zero hl
        subst hn
        simp at hu
      · obtain ⟨b, off, h, hc⟩ := hcc h0
        injection h with h
        subst h
        rw [addr_add]
        exact hc j u hu
    obtain ⟨v', w', hrun, h2, h3, _, h5⟩ := run_append_own_at (P := P) w base t ty e i z 1 bytes ht hi hz hsize hby hzs (by omega) v n xs hown ad m c ys (by simpa using hl) hcells h1 h63 hbig hbase
    exact ⟨v', w', hrun, h2, h3, h5⟩
theorem wpList_append_srcL {ops : Array Oper} {rest : List Oper} {o : Oper} {a : Act} {Q : Exit → Act → World → Prop} (hgd : o.guard = none) (s x : Operand) (t : TypeId)
    (ho : o.op = .call { callee := .builtin .append, args := #[s, x], argTypes := #[t, t] })
    (base : Nat) (e : TypeId) (i : TypeInfo) (z : Value) (bytes : Nat) (ht : P.underlying t = some (.slice e)) (hi : P.info? e = some i) (hz : i.zero = some z) (hsize : i.size = 1) (hby : i.bytes = bytes) (hzs : z.cells.size = 1)
    (v : Value) (n : Nat) (xs : List Value) (hs : a.eval s = v) (hown : w.ownsRow base e 1 v n xs)
    (A : Option Addr) (m c : Nat) (ys : List Value) (hx : a.eval x = .slice A m c) (hl : ys.length = m) (hcc : 0 < m → ∃ b off, A = some ⟨b, off, none⟩ ∧ ∀ j u, ys[j]? = some u → w.cell? ⟨b, off + j, none⟩ = some u) (h1 : ∀ u ∈ ys, u.oneCell' = true)
    (h63 : n + m ≤ maxLen) (hbig : (n + m) * bytes ≤ 140737488355328) (hbase : base ≤ w.heap.size)
    (h : ∀ v' w', w'.ownsRow base e 1 v' (n + m) (xs ++ ys) → w.grownBy w' v.ownBlock → (v'.ownBlock = v.ownBlock ∨ v'.ownBlock = some w.heap.size) → wpList P ops Q rest (a.put o.dst v') w') : wpList P ops Q (o :: rest) a w := by
  refine wpList_plain hgd fun _ hK => ?_
  obtain ⟨v', w', hr, h2, h3, h5⟩ := run_append_srcL (P := P) w base t o.type e i z bytes ht hi hz hsize hby hzs v n xs hown A m c ys hl hcc h1 h63 hbig hbase
  unfold Oper.wp execOp
  simp only [ho, resolve, invoke, builtin, Sem.run_bind, Sem.run_pure, Result.andThen_ok, List.map_toArray, List.map_cons, List.map_nil, hs, hx, hr]
  exact hK _ _ (h v' w' h2 h3 h5)
end
abbrev vals (l : List Int) : List Value := l.map (Value.int .i64)
theorem vals_one (l : List Int) : ∀ u ∈ vals l, u.oneCell' = true := fun u hu => by obtain ⟨x, _, rfl⟩ := List.mem_map.1 hu; rfl
theorem rgL_next (k : Nat) (l : Nat → Int) : rgL (k + 1) l = rgL k l ++ [l k] := by simp [rgL, List.range_succ]
theorem own_intsR {w : World} {base n : Nat} {L : List Int} {v : Value} (h : w.ownsRow base 3 1 v n (vals L)) (hn : L.length = n) (hb : ∀ x, x ∈ L → -1 ≤ x ∧ x ≤ 1000) : IntsAt w (fun b => v.ownBlock = some b) L v := by
  subst hn
  obtain ⟨A, cap, rfl, h1, h2, h3⟩ := own_open h (by omega)
  refine ⟨A, cap, rfl, h1, h2, fun x hx => ?_, fun h0 => ?_⟩
  · have := hb x hx
    have e1 : IntKind.i64.min = -9223372036854775808 := by decide
    have e2 : IntKind.i64.max = 9223372036854775807 := by decide
    simp [Lit.wf, e1, e2]
    omega
  · obtain ⟨g, rfl, _, hc⟩ := h3 h0
    refine ⟨g, 0, rfl, rfl, fun i x hx => ?_⟩
    rw [Nat.zero_add]
    exact hc i _ (by rw [List.getElem?_map, hx]; rfl)
theorem row_frB5 {W wr w3 : World} {e : TypeId} {sz k : Nat} {v : Value} {xs : List Value} (h : wr.ownsRow W.heap.size e sz v k xs) (hf : Fr W wr (fun _ => True)) (hg : wr.grownBy w3 v.ownBlock) : Fr W w3 (fun _ => True) := row_fr h hf hg
/-- A row of which the first are of the next round. -/
def mixM (n : Nat) (m : Nat → N) (j k : Nat) : Nat → Int := fun i => if i < k then refM n m (j + 1) i else refM n m j i
theorem mix_0 (n : Nat) (m : Nat → N) (j : Nat) : rgL n (mixM n m j 0) = rgL n (refM n m j) := by
  apply List.map_congr_left
  intro i _
  simp [mixM]
theorem mix_n (n : Nat) (m : Nat → N) (j : Nat) : rgL n (mixM n m j n) = rgL n (refM n m (j + 1)) := by
  apply List.map_congr_left
  intro i hi
  simp [mixM, List.mem_range.1 hi]
theorem mix_set (n : Nat) (m : Nat → N) (j k : Nat) (hk : k < n) : (rgL n (mixM n m j k)).set k (refM n m (j + 1) k) = rgL n (mixM n m j (k + 1)) := by
  apply List.ext_getElem?
  intro i
  by_cases hi : i < n
  · by_cases e : k = i
    · subst e
      rw [List.getElem?_set_self (by simpa using hi), rgL_at _ _ _ hi]
      simp [mixM]
    · rw [List.getElem?_set_ne e, rgL_at _ _ _ hi, rgL_at _ _ _ hi]
      congr 1
      unfold mixM
      by_cases h : i < k
      · rw [if_pos h, if_pos (by omega)]
      · rw [if_neg h, if_neg (by omega)]
  · rw [List.getElem?_eq_none (by simp; omega), List.getElem?_eq_none (by simp; omega)]
theorem mix_same (n : Nat) (m : Nat → N) (j k : Nat) (h : ¬ refM n m j k < 0) : rgL n (mixM n m j (k + 1)) = rgL n (mixM n m j k) := by
  apply List.map_congr_left
  intro i _
  unfold mixM
  by_cases e : i = k
  · subst e
    rw [if_pos (by omega), if_neg (by omega), ref_mono _ _ (by omega)]
  · by_cases h : i < k
    · rw [if_pos h, if_pos (by omega)]
    · rw [if_neg h, if_neg (by omega)]
theorem ref_in (n : Nat) (m : Nat → N) (j : Nat) (hj : j ≤ 1000) (L : List Int) (hL : L = rgL n (refM n m j)) : ∀ x, x ∈ L → -1 ≤ x ∧ x ≤ 1000 := by
  subst hL
  intro x hx
  obtain ⟨i, _, rfl⟩ := List.mem_map.1 hx
  have := ref_bd (n := n) (ns := m) j i
  omega
set_option maxRecDepth 100000 in
set_option maxHeartbeats 8000000 in
theorem refranks_any (W : World) (ns : List Nd) (nsv : Value) (hns : NdsAt W (fun b => b < W.heap.size) ns nsv) (hn : ns.length ≤ 40) (hlens : ∀ d, d ∈ ns → d.br.length ≤ 20 ∧ d.fs.length ≤ 20) :
    Calls Tryd.prog 16 #[.agg #[nsv]] W fun e w' => ∃ v, e = .returned v ∧ w'.ownsRow W.heap.size 3 1 v ns.length (vals (rgL ns.length (refM ns.length (nsF ns) (ns.length + 1)))) ∧ Fr W w' (fun _ => True) := by
  obtain ⟨A, cap, cc, rfl, hc1, hc2, hc3, hc4⟩ := id hns
  unfold maxLen at hc2
  obtain ⟨i3, hi3, hz3, hs3, hb3⟩ := info_parts info3L
  have hf0 : Fr W (W.alloc (.cells #[.slice A ns.length cap] 24)) (fun _ => True) := fr_allocX (Fr.refl _ _)
  have hb : (W.alloc (.cells #[.slice A ns.length cap] 24)).heap[W.heap.size]? = some (.cells #[.slice A ns.length cap] 24 (0, 0)) := new_at rfl _
  have HNF := Lib.hid (show ∀ k nd, ns[k]? = some nd → nsF ns k = toN nd from fun k nd h => by unfold nsF; rw [List.getD_eq_getElem?_getD, h]; rfl)
  have HLE := Lib.hid hlens
  obtain ⟨n, hnn⟩ : ∃ n, ns.length = n := ⟨_, rfl⟩
  rw [hnn] at hn hf0 hb hc1 hc3 ⊢
  have HNL := Lib.hid hnn
  have HC3 := Lib.hid hc3
  have HC4 := Lib.hid hc4
  clear hns hlens hnn hc3 hc4
  obtain ⟨m, hm⟩ : ∃ m, nsF ns = m := ⟨_, rfl⟩
  rw [hm] at HNF ⊢
  clear hm
  go_enter Tryd.func16, Tryd.ntmps16
  go_upto_region 1 with fail
  generalize W.alloc (.cells #[.slice A n cap] 24) = W0 at *
  have HF0 := Lib.hid hf0
  have HB := Lib.hid hb
  clear hf0 hb
  go_wp2
  go_loopg [3, 4] n (fun gh lv c wr => ∃ k : Nat, k + gh = n ∧ c = .int .i64 (k : Int) ∧ Hid (wr.ownsRow W0.heap.size 3 1 lv k (vals (rgL k (refM n m 0)))) ∧ Fr W0 wr (fun _ => True))
  case atStart => exact ⟨0, by omega, rfl, Lib.hid (World.ownsRow_nil _ _ _ _), Fr.refl _ _⟩
  case round =>
    obtain ⟨k, hg, rfl, HO, hfr⟩ := hrel
    have b0 := cell_of_row _ _ 0 _ _ _ (hfr.at HB.out trivial)
    have HG := Lib.hid hg
    have HF := Lib.hid hfr
    clear hg hfr
    by_cases hlt : k < n
    · go_wp2_with (at_builtin; refine wpList_append_own_at _ rfl _ _ 28 rfl W0.heap.size 3 i3 _ 1 8 Tryd.underlying28 hi3 hz3 hs3 hb3 rfl (by decide) u3 k _ rfl (HO.out.alloc _) ⟨wr.heap.size, 0, none⟩ 1 1 [.int .i64 (-1)] rfl rfl (cell_one_new _ _ _) (by simp [Value.oneCell']) (by unfold maxLen; omega) (by omega) (by have := HF.out.size; simp; omega) ?_; intro v' w5 hown5 hg5 _ hv5)
      have hf5 : Fr W0 w5 (fun _ => True) := row_frB5 (HO.out.alloc _) (fr_allocX HF.out) hg5
      have HO5 := Lib.hid hown5
      have HF5 := Lib.hid hf5
      clear hown5 hg5 hv5 hf5
      go_wp2
      go_roundg (n - (k + 1))
      case measure => have := HG.out; omega
      case rel => exact ⟨k + 1, by omega, by go_num, Lib.hid (by have := HO5.out; rw [rgL_next]; unfold vals; rw [List.map_append]; exact this), HF5.out⟩
    · have hk : n = k := by have := HG.out; omega
      subst hk
      have hnr : n ≤ n + 1 := by omega
      go_wp2
      go_loopg [3, 5] (n + 1) (fun gh lv c wr => ∃ j : Nat, j + gh = n + 1 ∧ c = .int .i64 (j : Int) ∧ Hid (wr.ownsRow W0.heap.size 3 1 lv n (vals (rgL n (refM n m j)))) ∧ Fr W0 wr (fun _ => True))
      case atStart => exact ⟨0, by omega, rfl, HO, HF.out⟩
      case round =>
        clear b0
        obtain ⟨j, hg, rfl, HL, hfr⟩ := hrel
        have b0 := cell_of_row _ _ 0 _ _ _ (hfr.at HB.out trivial)
        have HG2 := Lib.hid hg
        have HF2 := Lib.hid hfr
        clear hg hfr
        by_cases hle : j ≤ n
        · obtain ⟨Al, capl, hle1, hl1, hl2, hl3⟩ := own_open HL.out (by omega)
          subst hle1
          have HL3 := Lib.hid (show 0 < n → ∃ b off, Al = some ⟨b, off, none⟩ ∧ ∀ j' u, (vals (rgL n (refM n m j)))[j']? = some u → wr.cell? ⟨b, off + j', none⟩ = some u from fun h0 => by
            obtain ⟨g, e, _, hc⟩ := hl3 h0
            exact ⟨g, 0, e, fun j' u hu => by rw [Nat.zero_add]; exact hc j' u hu⟩)
          clear hl3
          unfold maxLen at hl2
          go_wp2_with (at_builtin; refine wpList_append_srcL _ rfl _ _ 28 rfl W0.heap.size 3 i3 _ 8 Tryd.underlying28 hi3 hz3 hs3 hb3 rfl (.slice none 0 0) 0 [] rfl (World.ownsRow_nil _ _ _ _) Al n capl (vals (rgL n (refM n m j))) rfl (by simp) HL3.out (vals_one _) (by unfold maxLen; omega) (by omega) HF2.out.size ?_; intro nx w5 hown5 hg5 hv5)
          rw [Nat.zero_add, List.nil_append] at hown5
          have hf5 : Fr wr w5 (fun _ => True) := below_fr0 ⟨hg5.os, hg5.tape, hg5.output, hg5.size, fun i hi => hg5.block i hi (fun e => by cases e)⟩
          have HL5 := Lib.hid (ownsRow_fr HL.out hf5 (fun _ _ => trivial))
          have HAP := Lib.hid (show ∀ b, (Value.slice Al n capl).ownBlock = some b → nx.ownBlock ≠ some b from fun b hb hb2 => by
            rcases hv5 with h | h
            · rw [h] at hb2; cases hb2
            · rw [h] at hb2; cases hb2; have := (HL.out.lt _ hb).2; omega)
          have HN5 := Lib.hid hown5
          have HF5 := Lib.hid (HF2.out.trans hf5)
          clear hown5 hg5 hv5 hf5
          have HB5 := Lib.hid (HF5.out.at HB.out trivial)
          obtain ⟨An, capn, hne1, hn1, hn2, hn3⟩ := own_open HN5.out (by omega)
          subst hne1
          clear hn3 b0
          unfold maxLen at hn2
          have b0 := cell_of_row _ _ 0 _ _ _ HB5.out
          go_wp2
          go_loopg [7] n (fun gh c w6 => ∃ k : Nat, k + gh = n ∧ c = .int .i64 (k : Int) ∧ Hid (w6.ownsRow W0.heap.size 3 1 (.slice An n capn) n (vals (rgL n (mixM n m j k)))) ∧ Hid (w6.ownsRow W0.heap.size 3 1 (.slice Al n capl) n (vals (rgL n (refM n m j)))) ∧ Fr W0 w6 (fun _ => True))
          case atStart => exact ⟨0, by omega, rfl, Lib.hid (by rw [mix_0]; exact HN5.out), HL5, HF5.out⟩
          case round =>
            clear b0
            obtain ⟨k, hg, rfl, HNX, HLX, hfr⟩ := hrel
            have b0 := cell_of_row _ _ 0 _ _ _ (hfr.at HB.out trivial)
            have HG3 := Lib.hid hg
            have HF3 := Lib.hid hfr
            clear hg hfr
            by_cases hlt3 : k < n
            · obtain ⟨_, _, hq, _, _, hl3⟩ := own_open HLX.out (by omega)
              injection hq with q1 q2 q3
              subst q1 q3
              obtain ⟨gl, rfl, _, hcl⟩ := hl3 (by omega)
              have y0 := hcl k (.int .i64 (refM n m j k)) (by rw [List.getElem?_map, rgL_at _ _ _ hlt3]; rfl)
              obtain ⟨x, hx⟩ : ∃ x, refM n m j k = x := ⟨_, rfl⟩
              rw [hx] at y0
              have HX := Lib.hid hx
              clear hx hcl hl3
              by_cases hxn : x < 0
              · obtain ⟨nd, hnd⟩ : ∃ nd, ns[k]? = some nd := ⟨_, List.getElem?_eq_getElem (by rw [HNL.out]; exact hlt3)⟩
                obtain ⟨gn, off, rfl, hgn, hcz⟩ := HC3.out (by omega)
                have hfw : Fr W wr (fun _ => True) := HF0.out.trans HF3.out
                have hNI := (HC4.out k nd hnd).fr (ok' := fun _ => True) hfw (fun _ _ => trivial)
                have HMK := Lib.hid (HNF.out k nd hnd)
                have hcall := rank_any n (refM n m j) (.slice (some ⟨gl, 0, none⟩) n capl) wr (fun b => (Value.slice (some ⟨gl, 0, none⟩) n capl).ownBlock = some b) (fun b => b < W.heap.size) (own_intsR HLX.out (rgL_len _ _) (ref_in n m j (by omega) _ rfl)) (by omega) nd (cc k) hNI (fun i => (ref_bd j i).1) (fun i => by have := (ref_bd (n := n) (ns := m) j i).2; omega) (HLE.out nd (List.mem_of_getElem? hnd)).2 (HLE.out nd (List.mem_of_getElem? hnd)).1
                have hrl := rank_le (n := n) (l := refM n m j) (m := (j : Int)) (fun i => (ref_bd j i).2) (by omega) (toN nd)
                have HRV : Hid (refM n m (j + 1) k = rankM n (toN nd) (refM n m j)) := Lib.hid (by
                  show (if refM n m j k < 0 then _ else _) = _
                  rw [HX.out, if_pos hxn, HMK.out])
                have z0 := hfw.cell (hcz k 0 hlt3 (by omega)) trivial
                rw [show off + (10 * k + 0) = off + k * 10 by omega] at z0
                have z1 := hfw.cell (hcz k 1 hlt3 (by omega)) trivial
                rw [show off + (10 * k + 1) = off + k * 10 + 1 by omega] at z1
                have z2 := hfw.cell (hcz k 2 hlt3 (by omega)) trivial
                rw [show off + (10 * k + 2) = off + k * 10 + 2 by omega] at z2
                have z3 := hfw.cell (hcz k 3 hlt3 (by omega)) trivial
                rw [show off + (10 * k + 3) = off + k * 10 + 3 by omega] at z3
                have z4 := hfw.cell (hcz k 4 hlt3 (by omega)) trivial
                rw [show off + (10 * k + 4) = off + k * 10 + 4 by omega] at z4
                have z5 := hfw.cell (hcz k 5 hlt3 (by omega)) trivial
                rw [show off + (10 * k + 5) = off + k * 10 + 5 by omega] at z5
                have z6 := hfw.cell (hcz k 6 hlt3 (by omega)) trivial
                rw [show off + (10 * k + 6) = off + k * 10 + 6 by omega] at z6
                have z7 := hfw.cell (hcz k 7 hlt3 (by omega)) trivial
                rw [show off + (10 * k + 7) = off + k * 10 + 7 by omega] at z7
                have z8 := hfw.cell (hcz k 8 hlt3 (by omega)) trivial
                rw [show off + (10 * k + 8) = off + k * 10 + 8 by omega] at z8
                have z9 := hfw.cell (hcz k 9 hlt3 (by omega)) trivial
                rw [show off + (10 * k + 9) = off + k * 10 + 9 by omega] at z9
                obtain ⟨rv, hrv⟩ : ∃ rv, rankM n (toN nd) (refM n m j) = rv := ⟨_, rfl⟩
                rw [hrv] at hcall HRV
                unfold ndv at hcall
                clear hcz hnd hNI hrl hrv
                go_wp2_with fail
                refine hcall.mono ?_
                rintro e w7 ⟨rfl, hf7⟩
                have HNX7 := Lib.hid (ownsRow_fr HNX.out hf7 (fun _ _ => trivial))
                have HLX7 := Lib.hid (ownsRow_fr HLX.out hf7 (fun _ _ => trivial))
                have HF7 := Lib.hid (HF3.out.trans hf7)
                clear hcall z0 z1 z2 z3 z4 z5 z6 z7 z8 z9 y0 b0 hfw hf7
                obtain ⟨_, _, hq, _, _, hl3⟩ := own_open HNX7.out (by omega)
                injection hq with q1 q2 q3
                subst q1 q3
                obtain ⟨gx, rfl, hgx, hcl⟩ := hl3 (by omega)
                have y0 := hcl k (.int .i64 (mixM n m j k k)) (by rw [List.getElem?_map, rgL_at _ _ _ hlt3]; rfl)
                have f0 : w7.frozen? ⟨gx, k, none⟩ = false := by
                  rcases HNX7.out.2 with ⟨hv, _⟩ | ⟨g2, cap2, cur, hv, _, hh, _⟩
                  · cases hv
                  · cases hv; exact frozen_of_row _ _ _ _ _ hh
                have hne : gl ≠ gx := fun e => HAP.out gl rfl (by rw [e]; rfl)
                have HNE := Lib.hid hne
                have HSET := Lib.hid (show (w7.setCell ⟨gx, k, none⟩ (.int .i64 rv)).ownsRow W0.heap.size 3 1 (.slice (some ⟨gx, 0, none⟩) n capn) n (vals (rgL n (mixM n m j (k + 1)))) from by
                  have h := own_set HNX7.out k (.int .i64 rv)
                  have e : (vals (rgL n (mixM n m j k))).set k (.int .i64 rv) = vals (rgL n (mixM n m j (k + 1))) := by
                    rw [← mix_set n m j k hlt3, HRV.out]
                    unfold vals
                    rw [List.map_set]
                  rwa [e] at h)
                have HLS := Lib.hid (ownsRow_fr HLX7.out (set_frL w7 gx k (.int .i64 rv)) (fun b hb => by cases hb; exact HNE.out))
                have HFS := Lib.hid (show Fr W0 (w7.setCell ⟨gx, k, none⟩ (.int .i64 rv)) (fun _ => True) from ⟨HF7.out.os, HF7.out.tape, HF7.out.output, Nat.le_trans HF7.out.size (set_frL w7 gx k _).size, fun b hb _ => ((set_frL w7 gx k _).block b (Nat.lt_of_lt_of_le hb HF7.out.size) (by omega)).trans (HF7.out.block b hb trivial)⟩)
                clear hcl hl3 hne
                go_wp2
                go_roundg (n - (k + 1))
                case measure => have := HG3.out; omega
                case rel => exact ⟨k + 1, by omega, by go_num, HSET, HLS, HFS.out⟩
              · go_wp2
                go_roundg (n - (k + 1))
                case measure => have := HG3.out; omega
                case rel => exact ⟨k + 1, by omega, by go_num, Lib.hid (by rw [mix_same n m j k (by rw [HX.out]; omega)]; exact HNX.out), HLX, HF3.out⟩
            · have hk : n = k := by have := HG3.out; omega
              have HNM : Hid (wr.ownsRow W0.heap.size 3 1 (.slice An n capn) n (vals (rgL n (refM n m (j + 1))))) := Lib.hid (by have := HNX.out; rwa [← hk, mix_n] at this)
              clear hk
              go_wp2
              go_roundg (n + 1 - (j + 1))
              case measure => have := HG2.out; omega
              case rel => exact ⟨j + 1, by omega, by go_num, HNM, HF3.out⟩
        · have hj : j = n + 1 := by have := HG2.out; omega
          subst hj
          obtain ⟨Al, capl, hle1, _⟩ := own_open HL.out (by omega)
          subst hle1
          go_wp2
          go_ret
          exact ⟨_, rfl, own_low HL.out HF0.out.size, HF0.out.trans HF2.out⟩
end Go.Proofs.YtpajccehkcgoaaaDoor
