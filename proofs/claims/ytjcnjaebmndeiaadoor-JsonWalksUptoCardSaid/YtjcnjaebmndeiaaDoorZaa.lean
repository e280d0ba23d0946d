/-
  A JSON value as an argument, of kinds of any sign: what it holds, and how much.
  'couranthelp.SmallJson' of every value: whether it is so small.
  Plain: which values are right; their text with white wherever it may stand, read again.
-/
import Derived.Test.YtjcnjaebmndeiaaDoorOpn
import Derived.Test.YtjcnjaebmndeiaaDoorMem
import Derived.Test.YtjcnjaebmndeiaaDoorCln
import Derived.Test.YtjcnjaebmndeiaaDoorRfq
import Derived.StillTailTactics
import Derived.Deep.DeepCutAuto
import Derived.Test.YtjcnjaebmndeiaaDoorKym
import Derived.Test.YtjcnjaebmndeiaaDoorNsv
namespace Go.Proofs.YtjcnjaebmndeiaaDoor
open Go.RowKit

inductive Z where
  | mk (k : Int) (t : ByteArray) (l : List Z) (ks : List ByteArray)
instance : Inhabited Z := ⟨.mk 0 ByteArray.empty [] []⟩
inductive ZIn (w : World) (ok : Nat → Prop) : Z → Value → Value → Value → Value → Prop
  | mk (k : Int) (t : ByteArray) (l : List Z) (ks : List ByteArray) (A A' : Option Addr) (cap cap' : Nat) (c : Nat → Nat → Value)
      (hk : (Lit.int .i64 k).wf = true) (ht : t.size ≤ maxLen) (hks : ∀ s, s ∈ ks → s.size ≤ maxLen)
      (hcap : l.length ≤ cap ∧ cap ≤ maxLen) (hcap' : ks.length ≤ cap' ∧ cap' ≤ maxLen)
      (hL : 0 < l.length → ∃ g off, A = some ⟨g, off, none⟩ ∧ ok g ∧ ∀ i j, i < l.length → j < 4 → w.cell? ⟨g, off + (4 * i + j), none⟩ = some (c i j))
      (hK : 0 < ks.length → ∃ g off, A' = some ⟨g, off, none⟩ ∧ ok g ∧ ∀ i s, ks[i]? = some s → w.cell? ⟨g, off + i, none⟩ = some (.string s))
      (hE : ∀ i z, l[i]? = some z → ZIn w ok z (c i 0) (c i 1) (c i 2) (c i 3)) :
      ZIn w ok (.mk k t l ks) (.int .i64 k) (.string t) (.slice A l.length cap) (.slice A' ks.length cap')
/-- How many letters the keys have. -/
def kw : List ByteArray → Nat
  | [] => 0
  | s :: r => s.size + 1 + kw r
mutual
def zw : Z → Nat
  | .mk _ t l ks => 1 + t.size + zwL l + kw ks
def zwL : List Z → Nat
  | [] => 0
  | z :: r => zw z + zwL r
end
theorem choose_lt' {α : Type} [Inhabited α] {m : Nat} {p : Nat → α → Prop} (h : ∀ i, i < m → ∃ q, p i q) : ∃ q : Nat → α, ∀ i, i < m → p i (q i) := by
  refine ⟨fun i => if hi : i < m then Classical.choose (h i hi) else default, fun i hi => ?_⟩
  simp only [dif_pos hi]
  exact Classical.choose_spec (h i hi)
theorem bulk_list {H : Type} : ∀ (zs : List Z) (es : List (DataW H)), (∀ (i : Nat) (z : Z), zs[i]? = some z → ∃ e, es[i]? = some e ∧ zw z ≤ Rows.uptoBulk e) → zwL zs ≤ Rows.uptoBulkAll es
  | [], es, _ => by rw [zwL]; exact Nat.zero_le _
  | z :: zs, [], h => by obtain ⟨e, he, _⟩ := h 0 z rfl; simp at he
  | z :: zs, e :: es, h => by
    obtain ⟨e', he, h0⟩ := h 0 z rfl
    simp only [List.getElem?_cons_zero, Option.some.injEq] at he
    subst he
    have ih := bulk_list zs es (fun i z hz => by simpa using h (i + 1) z (by simpa using hz))
    rw [zwL, Rows.uptoBulkAll]
    omega
theorem bulk_strs {H : Type} : ∀ (l : List ByteArray), kw l = Rows.uptoBulkAll (ChangeShapes.strs (H := H) l)
  | [] => rfl
  | s :: r => by
    have ih := bulk_strs (H := H) r
    have e : s.data.toList.length = s.size := by rw [Array.length_toList]; rfl
    unfold ChangeShapes.strs at ih ⊢
    rw [kw, List.map_cons, Rows.uptoBulkAll, ih]
    simp only [Rows.uptoBulk]
    omega
set_option maxRecDepth 100000 in
theorem open_z {H : Type} {enc : TypeId × Value → H} {W : World} : ∀ (m fuel : Nat), fuel < m → ∀ (cs : List Value) (x : DataW H × List MemPlace), DataW.trod enc Tryd.prog W 0 (fun _ => true) true fuel 26 cs = some x →
    ∃ z v0 v1 v2 v3, cs = [v0, v1, v2, v3] ∧ ZIn W (fun b => b < W.heap.size) z v0 v1 v2 v3 ∧ zw z ≤ Rows.uptoBulk x.1
  | 0, _, h => absurd h (by omega)
  | m + 1, fuel, hm => fun cs x h => by
    obtain ⟨xs, n, hn, hx, hl, hxl, hf⟩ := DataW.trod_struct Tryd.underlying26 h
    have c4 : Tryd.prog.cellsOf 26 = 4 := by kernel_rfl
    have c3 : Tryd.prog.cellsOf 3 = 1 := by kernel_rfl
    have c9 : Tryd.prog.cellsOf 9 = 1 := by kernel_rfl
    have c23 : Tryd.prog.cellsOf 23 = 1 := by kernel_rfl
    have c24 : Tryd.prog.cellsOf 24 = 1 := by kernel_rfl
    rw [c4] at hl
    match cs, hl, xs, hxl with
    | [v0, v1, v2, v3], _, [y0, y1, y2, y3], _ =>
      have g0 := hf 0 _ rfl
      have g1 := hf 1 _ rfl
      have g2 := hf 2 _ rfl
      have g3 := hf 3 _ rfl
      simp [c3, c9, c23, c24] at g0 g1 g2 g3
      obtain ⟨k, e0, d0, hk⟩ := DataW.trod_int Tryd.underlying3 g0
      obtain ⟨t, e1, d1, ht⟩ := DataW.trod_string Tryd.underlying9 g1
      simp only [List.cons.injEq, and_true] at e0 e1
      subst e0; subst e1; subst d0; subst d1
      have hL : ∃ (zs : List Z) (A : Option Addr) (cap : Nat) (c : Nat → Nat → Value), v2 = .slice A zs.length cap ∧ zs.length ≤ cap ∧ cap ≤ maxLen ∧ zwL zs + 1 ≤ Rows.uptoBulk y2.1 ∧
          (0 < zs.length → ∃ g off, A = some ⟨g, off, none⟩ ∧ g < W.heap.size ∧ ∀ i j, i < zs.length → j < 4 → W.cell? ⟨g, off + (4 * i + j), none⟩ = some (c i j)) ∧
          (∀ i z, zs[i]? = some z → ZIn W (fun b => b < W.heap.size) z (c i 0) (c i 1) (c i 2) (c i 3)) := by
        rcases DataW.trod_slice Tryd.underlying23 g2 with ⟨h0, hx0⟩ | ⟨a, len, cap, elems, rest, n', hn', h1, hx1, hb, hlc, hcm, hel, hE, _, _⟩
        · simp only [List.cons.injEq, and_true] at h0
          subst hx0
          exact ⟨[], none, 0, fun _ _ => undef, h0, Nat.le_refl _, by unfold maxLen; omega, by simp [zwL, Rows.uptoBulk], fun h => absurd h (by simp), fun i z hz => by simp at hz⟩
        · simp only [List.cons.injEq, and_true] at h1
          subst hx1
          rw [c4] at hE
          have each : ∀ i, i < len → ∃ q : Z × (Nat → Value), (∀ j, j < 4 → W.cell? (a.add (i * 4 + j)) = some (q.2 j)) ∧ ZIn W (fun b => b < W.heap.size) q.1 (q.2 0) (q.2 1) (q.2 2) (q.2 3) ∧ ∃ e, elems[i]? = some e ∧ zw q.1 ≤ Rows.uptoBulk e.1 := by
            intro i hi
            have he := hE i hi
            obtain ⟨ei, hei⟩ : ∃ ei, elems[i]? = some ei := ⟨_, List.getElem?_eq_getElem (by omega)⟩
            rw [hei] at he
            obtain ⟨cs', h1, h2⟩ := Option.bind_eq_some_iff.1 he
            obtain ⟨_, hcl, hcc⟩ := World.cells?_some h1
            obtain ⟨z, u0, u1, u2, u3, rfl, hz, hzw⟩ := open_z m n' (by omega) cs' ei h2
            have hq0 := hcc 0 (by omega)
            have hq1 := hcc 1 (by omega)
            have hq2 := hcc 2 (by omega)
            have hq3 := hcc 3 (by omega)
            refine ⟨(z, fun j => if j = 0 then u0 else if j = 1 then u1 else if j = 2 then u2 else u3), ?_, hz, ei, hei, hzw⟩
            intro j hj
            rw [Deep.add_add] at hq0 hq1 hq2 hq3
            match j, hj with
            | 0, _ => exact hq0
            | 1, _ => exact hq1
            | 2, _ => exact hq2
            | 3, _ => exact hq3
          obtain ⟨q, hq⟩ := choose_lt' each
          have hzl : ((List.range len).map fun i => (q i).1).length = len := by simp
          refine ⟨(List.range len).map fun i => (q i).1, some a, cap, fun i j => (q i).2 j, by rw [hzl]; exact h1, by omega, hcm, ?_, ?_, ?_⟩
          · simp only [Rows.uptoBulk]
            have := bulk_list ((List.range len).map fun i => (q i).1) (elems.map (·.1)) (fun i z hz => by
              obtain ⟨hlt, he⟩ := List.getElem?_eq_some_iff.1 hz
              rw [hzl] at hlt
              obtain ⟨_, _, e, h1, h2⟩ := hq i hlt
              refine ⟨e.1, by rw [List.getElem?_map, h1]; rfl, ?_⟩
              rw [← he]
              simpa using h2)
            omega
          · intro hp
            rw [hzl] at hp ⊢
            have h0 := (hq 0 hp).1 0 (by omega)
            obtain ⟨b, off, spot⟩ := a
            have hspot : spot = none := by simpa [Addr.add] using World.cell?_spot h0
            subst hspot
            refine ⟨b, off, rfl, by have := World.block_lt_of_cell? W _ h0; simpa [Addr.add] using this, fun i j hi hj => ?_⟩
            have := (hq i hi).1 j hj
            rw [addr_addB] at this
            rw [Nat.mul_comm 4 i]
            exact this
          · intro i z hz
            obtain ⟨hlt, he⟩ := List.getElem?_eq_some_iff.1 hz
            rw [hzl] at hlt
            have := (hq i hlt).2.1
            rw [← he]
            simpa using this
      have hK : ∃ (ks : List ByteArray) (A : Option Addr) (cap : Nat), v3 = .slice A ks.length cap ∧ ks.length ≤ cap ∧ cap ≤ maxLen ∧ kw ks + 1 ≤ Rows.uptoBulk y3.1 ∧ (∀ s, s ∈ ks → s.size ≤ maxLen) ∧
          (0 < ks.length → ∃ g off, A = some ⟨g, off, none⟩ ∧ g < W.heap.size ∧ ∀ i s, ks[i]? = some s → W.cell? ⟨g, off + i, none⟩ = some (.string s)) := by
        rcases ChangeShapes.open_strings Tryd.underlying24 Tryd.underlying9 c9 g3 with ⟨h0, hx0⟩ | ⟨a, len, cap, ss, h1, _, hlc, hcm, hz, hx1, hcell, hsz⟩
        · simp only [List.cons.injEq, and_true] at h0
          subst hx0
          exact ⟨[], none, 0, h0, Nat.le_refl _, by unfold maxLen; omega, by simp [kw, Rows.uptoBulk], fun s hs => by simp at hs, fun h => absurd h (by simp)⟩
        · simp only [List.cons.injEq, and_true] at h1
          simp only [if_true] at hz
          subst hx1
          have htl : (ss.take len).length = len := by rw [List.length_take]; omega
          refine ⟨ss.take len, some a, cap, by rw [htl]; exact h1, by omega, hcm, ?_, fun s hs => hsz s (List.mem_of_mem_take hs), fun hp => ?_⟩
          · rw [bulk_strs (H := H)]
            simp only [Rows.uptoBulk]
            omega
          · rw [htl] at hp
            have h0 := hcell 0 (by omega)
            obtain ⟨b, off, spot⟩ := a
            have hspot : spot = none := by simpa [Addr.add] using World.cell?_spot h0
            subst hspot
            refine ⟨b, off, rfl, by have := World.block_lt_of_cell? W _ h0; simpa [Addr.add] using this, fun i u hu => ?_⟩
            rw [List.getElem?_take] at hu
            split at hu
            · have h2 := hcell i (by omega)
              rw [addr_addB] at h2
              rw [h2, List.getD_eq_getElem?_getD, hu]
              rfl
            · cases hu
      obtain ⟨zs, A, cap, c, rfl, hl1, hl2, hw1, hl3, hl4⟩ := hL
      obtain ⟨ks, A', cap', rfl, hk1, hk2, hw2, hk3, hk4⟩ := hK
      refine ⟨.mk k t zs ks, _, _, _, _, rfl, .mk k t zs ks A A' cap cap' c hk ht hk3 ⟨hl1, hl2⟩ ⟨hk1, hk2⟩ hl3 hk4 hl4, ?_⟩
      subst hx
      have e : t.data.toList.length = t.size := by rw [Array.length_toList]; rfl
      simp only [List.map_cons, List.map_nil, Rows.uptoBulk, Rows.uptoBulkAll, zw]
      omega
set_option maxRecDepth 100000 in
/-- The argument opened. -/
theorem open_json {H : Type} {enc : TypeId × Value → H} {W : World} {base : Nat} {v : Value} {d : DataW H} {ps : List MemPlace} (hval : Value.okWide Tryd.prog W .any base 26 v)
    (h : DataW.Trod enc Tryd.prog W 0 (fun _ => true) true 26 v d ps) : ∃ z v0 v1 v2 v3, v = .agg #[v0, v1, v2, v3] ∧ ZIn W (fun b => b < W.heap.size) z v0 v1 v2 v3 ∧ zw z ≤ Rows.uptoBulk d := by
  obtain ⟨fuel, hf⟩ := h
  obtain ⟨z, v0, v1, v2, v3, hcs, hz, hw⟩ := open_z (fuel + 1) fuel (by omega) _ _ hf
  obtain ⟨cs, rfl, _⟩ := WideShapes.okWide_struct Tryd.underlying26 hval
  refine ⟨z, v0, v1, v2, v3, ?_, hz, hw⟩
  have : cs.toList = [v0, v1, v2, v3] := by simpa [Value.cells] using hcs
  rw [← this]
end Go.Proofs.YtjcnjaebmndeiaaDoor

namespace Go.Proofs.YtjcnjaebmndeiaaDoor
open Go.RowKit

mutual
def zn : Z → Nat
  | .mk _ t l ks => 1 + t.size / 50 + ks.length + znL l
def znL : List Z → Nat
  | [] => 0
  | z :: r => zn z + znL r
end
theorem znL_take : ∀ (l : List Z) (q : Nat) (z : Z), l[q]? = some z → znL (l.take (q + 1)) = znL (l.take q) + zn z
  | [], q, z, h => by simp at h
  | x :: r, 0, z, h => by
    simp only [List.getElem?_cons_zero, Option.some.injEq] at h
    subst h
    simp [znL]
  | x :: r, q + 1, z, h => by
    have ih := znL_take r q z (by simpa using h)
    rw [List.take_succ_cons, List.take_succ_cons, znL, znL, ih]
    omega
theorem znL_le : ∀ (l : List Z) (q : Nat), znL (l.take q) ≤ znL l
  | [], q => by simp
  | x :: r, 0 => by simp [znL]
  | x :: r, q + 1 => by have ih := znL_le r q; rw [List.take_succ_cons, znL, znL]; omega
theorem ZIn.fr {w w' : World} {ok ok' : Nat → Prop} (hf : Fr w w' ok') (hk : ∀ b, ok b → ok' b) {z : Z} {v0 v1 v2 v3 : Value} (h : ZIn w ok z v0 v1 v2 v3) : ZIn w' ok z v0 v1 v2 v3 := by
  induction h with
  | mk k t l ks A A' cap cap' c h1 h2 h3 hcap hcap' hL hK _ ih =>
    refine .mk k t l ks A A' cap cap' c h1 h2 h3 hcap hcap' (fun h => ?_) (fun h => ?_) ih
    · obtain ⟨g, off, e, ho, hc⟩ := hL h
      exact ⟨g, off, e, ho, fun i j hi hj => hf.cell (hc i j hi hj) (hk g ho)⟩
    · obtain ⟨g, off, e, ho, hc⟩ := hK h
      exact ⟨g, off, e, ho, fun i s hs => hf.cell (hc i s hs) (hk g ho)⟩
theorem ZIn.mono {w : World} {ok ok' : Nat → Prop} (hk : ∀ b, b < w.heap.size → ok b → ok' b) {z : Z} {v0 v1 v2 v3 : Value} (h : ZIn w ok z v0 v1 v2 v3) : ZIn w ok' z v0 v1 v2 v3 := by
  induction h with
  | mk k t l ks A A' cap cap' c h1 h2 h3 hcap hcap' hL hK _ ih =>
    refine .mk k t l ks A A' cap cap' c h1 h2 h3 hcap hcap' (fun h => ?_) (fun h => ?_) ih
    · obtain ⟨g, off, e, ho, hc⟩ := hL h
      exact ⟨g, off, e, hk g (World.block_lt_of_cell? w _ (hc 0 0 h (by omega))) ho, hc⟩
    · obtain ⟨g, off, e, ho, hc⟩ := hK h
      exact ⟨g, off, e, hk g (World.block_lt_of_cell? w _ (hc 0 _ (List.getElem?_eq_getElem h))) ho, hc⟩
/-- How a value's parts are bounded by all that it holds. -/
theorem zwL_len : ∀ (l : List Z), l.length ≤ zwL l
  | [] => by simp
  | .mk k t l ks :: r => by have := zwL_len r; rw [zwL, zw]; simp only [List.length_cons]; omega
theorem kw_len : ∀ (ks : List ByteArray), ks.length ≤ kw ks
  | [] => by simp
  | s :: r => by have := kw_len r; rw [kw]; simp only [List.length_cons]; omega
theorem zwL_mem : ∀ {l : List Z} {z : Z}, z ∈ l → zw z ≤ zwL l
  | x :: r, z, h => by
    rw [zwL]
    rcases List.mem_cons.1 h with rfl | h
    · omega
    · have := zwL_mem h; omega
theorem kw_mem : ∀ {ks : List ByteArray} {s : ByteArray}, s ∈ ks → s.size + 1 ≤ kw ks
  | x :: r, s, h => by
    rw [kw]
    rcases List.mem_cons.1 h with rfl | h
    · omega
    · have := kw_mem h; omega
/-- What 'smallJson' answers. -/
def SmC (z : Z) : Prop := ∀ (w : World) (p : Nat) (n : Int) (v0 v1 v2 v3 : Value), ZIn w (fun g => g ≠ p) z v0 v1 v2 v3 → w.heap[p]? = some (.cells #[.int .i64 n] 3 (0, 0)) → 0 ≤ n → n ≤ 1000000 →
  Calls Tryd.prog 40 #[.agg #[v0, v1, v2, v3], .pointer (some ⟨p, 0, none⟩)] w fun e w' => e = .returned (.bool (decide ((zn z : Int) ≤ n))) ∧ (∃ n' : Int, w'.heap[p]? = some (.cells #[.int .i64 n'] 3 (0, 0)) ∧ ((zn z : Int) ≤ n → n' = n - zn z)) ∧ Fr w w' (fun g => g ≠ p)
set_option maxHeartbeats 1000000 in
set_option maxRecDepth 100000 in
theorem small_step (k : Int) (t : ByteArray) (l : List Z) (ks : List ByteArray) (hzw : zw (.mk k t l ks) ≤ 1048576) (hs : ∀ x, x ∈ l → SmC x) : SmC (.mk k t l ks) := by
  intro w p n v0 v1 v2 v3 h hp hn0 hn1
  rw [zw] at hzw
  have hll := zwL_len l
  have hkl := kw_len ks
  cases h with
  | mk _ _ _ _ A A' cap cap' c h1 h2 h3 hcap hcap' hL hK hE =>
    have hplt := blk_lt hp
    have hB0 := heap_alloc_new w (.cells #[.int .i64 k, .string t, .slice A l.length cap, .slice A' ks.length cap'] 26 (0, 0))
    have hf0 : Fr w (w.alloc (.cells #[.int .i64 k, .string t, .slice A l.length cap, .slice A' ks.length cap'] 26)) (fun g => g ≠ p) := (Fr.refl w _).alloc _
    have hp0 : (w.alloc (.cells #[.int .i64 k, .string t, .slice A l.length cap, .slice A' ks.length cap'] 26)).heap[p]? = some (.cells #[.int .i64 n] 3 (0, 0)) := ((Fr.refl w (fun _ => True)).alloc _).at hp trivial
    obtain ⟨n1, hn1e⟩ : ∃ n1 : Int, n1 = n - 1 - ((t.size / 50 : Nat) : Int) - (ks.length : Int) := ⟨_, rfl⟩
    have hzn : (zn (.mk k t l ks) : Int) = 1 + ((t.size / 50 : Nat) : Int) + (ks.length : Int) + (znL l : Int) := by rw [zn]; push_cast; omega
    have HZN := Lib.hid hzn
    have HL := Lib.hid hL
    have HE := Lib.hid hE
    have HS := Lib.hid hs
    have HF0 := Lib.hid hf0
    clear hL hK hE hs hzn hp hf0 h1 h2 h3
    go_enter Tryd.func40, Tryd.ntmps40
    go_wp2_with fail
    generalize (w.alloc (.cells #[.int .i64 k, .string t, .slice A l.length cap, .slice A' ks.length cap'] 26)) = W0 at *
    obtain ⟨q0, q1, q2, q3⟩ := cells_4 hB0
    have r0 : W0.cell? ⟨p, 0, none⟩ = some (.int .i64 n) := cell_of_row W0 p 0 _ _ _ hp0
    have r1 : W0.frozen? ⟨p, 0, none⟩ = false := frozen_of_row W0 p 0 _ 3 hp0
    go_still_tail 15, (by kernel_rfl)
    have e1 : IntKind.i64.wrap (n - 1) = n - 1 := IntWalk.i64_in _ (by omega)
    have e2 : IntKind.i64.wrap ((t.size : Int) / 50) = (t.size : Int) / 50 := IntWalk.i64_in _ (by omega)
    have e3 : IntKind.i64.wrap (n - 1 - (t.size : Int) / 50) = n - 1 - (t.size : Int) / 50 := IntWalk.i64_in _ (by omega)
    have e4 : IntKind.i64.wrap (n - 1 - (t.size : Int) / 50 - (ks.length : Int)) = n1 := (IntWalk.i64_in _ (by omega)).trans (by omega)
    rw [e1, e2, e3, e4]
    have HN := Lib.hid hn1e
    clear e1 e2 e3 e4 hn1e
    have hw1 : (W0.drew).heap[w.heap.size]? = some (.cells #[.int .i64 k, .string t, .slice A l.length cap, .slice A' ks.length cap'] 26 (0, 0)) := hB0
    have hp1 : (W0.drew).heap[p]? = some (.cells #[.int .i64 n] 3 (0, 0)) := hp0
    have hf1 : Fr w W0.drew (fun g => g ≠ p) := HF0.out.drewN 1
    change wpList _ _ _ _ _ W0.drew
    clear q0 q1 q2 q3 r0 r1 hB0 hp0 HF0
    generalize W0.drew = W1 at *
    have hf2 : Fr w (W1.setCell ⟨p, 0, none⟩ (.int .i64 n1)) (fun g => g ≠ p) := hf1.trans (Fr.of (gset W1 p 0 _) (fun b _ hb e => hb (by cases e; rfl)))
    have hp2 : (W1.setCell ⟨p, 0, none⟩ (.int .i64 n1)).heap[p]? = some (.cells #[.int .i64 n1] 3 (0, 0)) := by rw [heap_setCell_same W1 p 0 _ 3 _ hp1]; rfl
    have hw2 : (W1.setCell ⟨p, 0, none⟩ (.int .i64 n1)).heap[w.heap.size]? = some (.cells #[.int .i64 k, .string t, .slice A l.length cap, .slice A' ks.length cap'] 26 (0, 0)) :=
      (Fr.of (gset W1 p 0 (.int .i64 n1)) (ok := fun g => g ≠ p) (fun b _ hb e => hb (by cases e; rfl))).at hw1 (by omega)
    have r0 : W1.cell? ⟨p, 0, none⟩ = some (.int .i64 n) := cell_of_row W1 p 0 _ _ _ hp1
    have r1 : W1.frozen? ⟨p, 0, none⟩ = false := frozen_of_row W1 p 0 _ 3 hp1
    go_upto_region 2 with fail
    clear r0 r1 hw1 hp1 hf1
    generalize W1.setCell ⟨p, 0, none⟩ (.int .i64 n1) = W2 at *
    have r0 : W2.cell? ⟨p, 0, none⟩ = some (.int .i64 n1) := cell_of_row W2 p 0 _ _ _ hp2
    by_cases hneg : n1 < 0
    · have hd : decide ((zn (.mk k t l ks) : Int) ≤ n) = false := by rw [decide_eq_false_iff_not, HZN.out]; have := HN.out; omega
      have HD := Lib.hid hd
      clear hd
      go_wp2
      go_ret
      exact ⟨by rw [HD.out]; rfl, ⟨n1, hp2, fun h => by have := HD.out; rw [decide_eq_false_iff_not] at this; exact absurd h this⟩, hf2⟩
    · go_wp2
      clear r0
      have HW := Lib.hid hw2
      have HP := Lib.hid hp2
      have HF := Lib.hid hf2
      clear hw2 hp2 hf2
      go_loopg [5] l.length (fun g i wr => ∃ (q : Nat) (m : Int), q + g = l.length ∧ i = .int .i64 q ∧ wr.heap[p]? = some (.cells #[.int .i64 m] 3 (0, 0)) ∧ m = n1 - (znL (l.take q) : Int) ∧ 0 ≤ m ∧ wr.heap[w.heap.size]? = some (.cells #[.int .i64 k, .string t, .slice A l.length cap, .slice A' ks.length cap'] 26 (0, 0)) ∧ Fr w wr (fun g => g ≠ p))
      case atStart => exact ⟨0, n1, by omega, rfl, HP.out, by simp [znL], by omega, HW.out, HF.out⟩
      case round =>
        obtain ⟨q, m, hqg, rfl, hpw, hm, hm0, hbw, hfw⟩ := hrel
        obtain ⟨p0, p1, p2, p3⟩ := cells_4 hbw
        by_cases hq : q < l.length
        · obtain ⟨x, hx⟩ : ∃ x, l[q]? = some x := ⟨_, List.getElem?_eq_getElem hq⟩
          obtain ⟨g, off, rfl, hgp, hc⟩ := HL.out (by omega)
          have hqi : (q : Int) < (l.length : Int) := by omega
          have x0 : wr.cell? ⟨g, off + q * 4, none⟩ = some (c q 0) := by have := hfw.cell (hc q 0 hq (by omega)) hgp; rwa [show off + (4 * q + 0) = off + q * 4 by omega] at this
          have x1 : wr.cell? ⟨g, off + q * 4 + 1, none⟩ = some (c q 1) := by have := hfw.cell (hc q 1 hq (by omega)) hgp; rwa [show off + (4 * q + 1) = off + q * 4 + 1 by omega] at this
          have x2 : wr.cell? ⟨g, off + q * 4 + 2, none⟩ = some (c q 2) := by have := hfw.cell (hc q 2 hq (by omega)) hgp; rwa [show off + (4 * q + 2) = off + q * 4 + 2 by omega] at this
          have x3 : wr.cell? ⟨g, off + q * 4 + 3, none⟩ = some (c q 3) := by have := hfw.cell (hc q 3 hq (by omega)) hgp; rwa [show off + (4 * q + 3) = off + q * 4 + 3 by omega] at this
          have hcall := HS.out x (List.mem_of_getElem? hx) wr p m _ _ _ _ ((HE.out q x hx).fr hfw (fun _ h => h)) hpw hm0 (by have := HN.out; omega)
          have htk := znL_take l q x hx
          have hle := znL_le l (q + 1)
          have HM := Lib.hid hm
          have HB := Lib.hid hbw
          have HFW := Lib.hid hfw
          obtain ⟨g', hg'⟩ : ∃ g', gk = g' + 1 := ⟨gk - 1, by omega⟩
          subst hg'
          clear hc hx hbw hfw hpw hm
          generalize c q 0 = a0 at *
          generalize c q 1 = a1 at *
          generalize c q 2 = a2 at *
          generalize c q 3 = a3 at *
          by_cases hfit : (zn x : Int) ≤ m
          · rw [decide_eq_true hfit] at hcall
            go_wp2_with fail
            refine hcall.mono ?_
            rintro e w3 ⟨rfl, ⟨n', hpw3, hn'⟩, hf3⟩
            have hnn := hn' hfit
            have hb3 := hf3.at HB.out (by omega)
            clear hcall x0 x1 x2 x3 p0 p1 p2 p3 hn'
            go_wp2
            go_roundg g'
            case measure => omega
            case rel => exact ⟨q + 1, n', by omega, by go_num, hpw3, by rw [htk]; have := HM.out; push_cast; omega, by omega, hb3, HFW.out.trans hf3⟩
          · rw [decide_eq_false hfit] at hcall
            have hd : decide ((zn (.mk k t l ks) : Int) ≤ n) = false := by
              rw [decide_eq_false_iff_not, HZN.out]; have := HM.out; have := HN.out; omega
            have HD := Lib.hid hd
            clear hd
            go_wp2_with fail
            refine hcall.mono ?_
            rintro e w3 ⟨rfl, ⟨n', hpw3, hn'⟩, hf3⟩
            clear hcall x0 x1 x2 x3 p0 p1 p2 p3 hn'
            go_wp2
            go_ret
            exact ⟨by rw [HD.out]; rfl, ⟨n', hpw3, fun h => by have := HD.out; rw [decide_eq_false_iff_not] at this; exact absurd h this⟩, HFW.out.trans hf3⟩
        · have hqe : l.take q = l := List.take_of_length_le (by omega)
          rw [hqe] at hm
          have hd : decide ((zn (.mk k t l ks) : Int) ≤ n) = true := by
            rw [decide_eq_true_iff, HZN.out]; have := HN.out; omega
          have HD := Lib.hid hd
          have HM := Lib.hid hm
          clear hd hm
          go_wp2
          go_ret
          exact ⟨by rw [HD.out]; rfl, ⟨m, hpw, fun _ => by have := HM.out; have := HN.out; rw [HZN.out]; omega⟩, hfw⟩
theorem small_json : ∀ (n : Nat) (z : Z), SizeOf.sizeOf z < n → zw z ≤ 1048576 → SmC z
  | 0, _, h, _ => by omega
  | n + 1, .mk k t l ks, h, hz => by
    refine small_step k t l ks hz (fun x hx => small_json n x ?_ ?_)
    · have := List.sizeOf_lt_of_mem hx
      simp only [Z.mk.sizeOf_spec] at h
      omega
    · have := zwL_mem hx
      rw [zw] at hz
      omega
theorem zin_agg {w : World} {ok : Nat → Prop} {z : Z} {v0 v1 v2 v3 : Value} (h : ZIn w ok z v0 v1 v2 v3) : ∃ k t A n1 c1 A' n2 c2, v0 = .int .i64 k ∧ v1 = .string t ∧ v2 = .slice A n1 c1 ∧ v3 = .slice A' n2 c2 := by
  cases h; exact ⟨_, _, _, _, _, _, _, _, rfl, rfl, rfl, rfl⟩
set_option maxHeartbeats 1000000 in
set_option maxRecDepth 100000 in
/-- 'SmallJson'. -/
theorem small_any (z : Z) (hz : zw z ≤ 1048576) (most : Nat) (hm : most ≤ 2000) (w : World) (v0 v1 v2 v3 : Value) (h : ZIn w (fun b => b < w.heap.size) z v0 v1 v2 v3) :
    Calls Tryd.prog 15 #[.agg #[v0, v1, v2, v3], .int .i64 most] w fun e w' => e = .returned (.bool (decide (zn z ≤ most))) ∧ Below w.heap.size w w' := by
  obtain ⟨k, t, A, n1, c1, A', n2, c2, rfl, rfl, rfl, rfl⟩ := zin_agg h
  have hb0 : Below w.heap.size w ((w.alloc (.cells #[.int .i64 k, .string t, .slice A n1 c1, .slice A' n2 c2] 26)).alloc (.cells #[.int .i64 most] 3)) := ((Below.refl _ _).alloc (Nat.le_refl _) _).alloc (by simp) _
  have hB0 : ((w.alloc (.cells #[.int .i64 k, .string t, .slice A n1 c1, .slice A' n2 c2] 26)).alloc (.cells #[.int .i64 most] 3)).heap[w.heap.size]? = some (.cells #[.int .i64 k, .string t, .slice A n1 c1, .slice A' n2 c2] 26 (0, 0)) := old_at _ (new_at rfl _)
  have hP0 : ((w.alloc (.cells #[.int .i64 k, .string t, .slice A n1 c1, .slice A' n2 c2] 26)).alloc (.cells #[.int .i64 most] 3)).heap[w.heap.size + 1]? = some (.cells #[.int .i64 most] 3 (0, 0)) := new_at (by simp) _
  have hsm := small_json (SizeOf.sizeOf z + 1) z (by omega) hz ((w.alloc (.cells #[.int .i64 k, .string t, .slice A n1 c1, .slice A' n2 c2] 26)).alloc (.cells #[.int .i64 most] 3)) (w.heap.size + 1) most _ _ _ _
    ((h.fr (below_fr hb0) (fun _ h => h)).mono (fun b _ hb => by omega)) hP0 (by omega) (by omega)
  have hdec : decide ((zn z : Int) ≤ (most : Int)) = decide (zn z ≤ most) := by simp
  rw [hdec] at hsm
  obtain ⟨p0, p1, p2, p3⟩ := cells_4 hB0
  clear hP0 hdec
  go_enter Tryd.func15, Tryd.ntmps15
  go_wp2_with fail
  generalize ((w.alloc (.cells #[.int .i64 k, .string t, .slice A n1 c1, .slice A' n2 c2] 26)).alloc (.cells #[.int .i64 most] 3)) = W0 at *
  refine hsm.mono ?_
  rintro e w1 ⟨rfl, _, hf1⟩
  go_wp2
  go_ret
  exact ⟨rfl, hb0.trans ⟨hf1.os, hf1.tape, hf1.output, hf1.size, fun i hi => hf1.block i (Nat.lt_of_lt_of_le hi hb0.size) (by omega)⟩⟩
end Go.Proofs.YtjcnjaebmndeiaaDoor

namespace Go.Proofs.YtjcnjaebmndeiaaDoor

def NumT (t : ByteArray) : Prop := numM t.data.toList = some (t.data.toList, [])
def LeafP (k : Int) (t : ByteArray) : Prop := ((k = 1 ∨ k = 2 ∨ k = 3) ∧ t = ⟨#[]⟩) ∨ (k = 4 ∧ NumT t) ∨ (k = 5 ∧ Lib.validD t.data.toList = true)
def NestP (k : Int) (t : ByteArray) (n : Nat) (ks : List ByteArray) (d : Nat) : Prop :=
  t = ⟨#[]⟩ ∧ d < 64 ∧ ((k = 6 ∧ ks = []) ∨ (k = 7 ∧ ks.length = n ∧ (∀ s, s ∈ ks → Lib.validD s.data.toList = true) ∧ ks.Nodup))
mutual
def Rgt : Nat → Z → Prop
  | d, .mk k t l ks => (LeafP k t ∧ l = [] ∧ ks = []) ∨ (NestP k t l.length ks d ∧ RgtL (d + 1) l)
def RgtL : Nat → List Z → Prop
  | _, [] => True
  | d, z :: r => Rgt d z ∧ RgtL d r
end
theorem RgtL_mem : ∀ {l : List Z} {d : Nat}, RgtL d l → ∀ z, z ∈ l → Rgt d z
  | [], _, _, z, hz => by cases hz
  | y :: r, d, h, z, hz => by
    rw [RgtL] at h
    rcases List.mem_cons.1 hz with rfl | hz
    · exact h.1
    · exact RgtL_mem h.2 z hz
theorem RgtL_of : ∀ {l : List Z} {d : Nat}, (∀ z, z ∈ l → Rgt d z) → RgtL d l
  | [], _, _ => by rw [RgtL]; trivial
  | y :: r, d, h => by rw [RgtL]; exact ⟨h y (by simp), RgtL_of (fun z hz => h z (by simp [hz]))⟩
mutual
def toJ : Z → J
  | .mk k t l ks => .mk k.toNat t (toJL l) ks
def toJL : List Z → List J
  | [] => []
  | z :: r => toJ z :: toJL r
end
theorem toJL_len : ∀ (l : List Z), (toJL l).length = l.length
  | [] => rfl
  | z :: r => by rw [toJL, List.length_cons, toJL_len r]; rfl
theorem toJL_get : ∀ (l : List Z) (i : Nat) (t : J), (toJL l)[i]? = some t → ∃ z, l[i]? = some z ∧ t = toJ z
  | [], i, t, h => by simp [toJL] at h
  | z :: r, 0, t, h => by rw [toJL] at h; simp at h; exact ⟨z, rfl, h.symm⟩
  | z :: r, i + 1, t, h => by rw [toJL] at h; simpa using toJL_get r i t (by simpa using h)
def leafTx (k : Int) (t : ByteArray) : Bs := if k = 1 then wordNull else if k = 2 then wordFalse else if k = 3 then wordTrue else if k = 4 then t.data.toList else 34 :: (quoL t.data.toList ++ [34])
mutual
/-- A value's text, with white between. -/
def core (g : Bs) : Z → Bs
  | .mk k t l ks => if k = 6 then 91 :: ((memC g false l ks).drop 1 ++ (g ++ [93])) else if k = 7 then 123 :: ((memC g true l ks).drop 1 ++ (g ++ [125])) else leafTx k t
/-- Its members, each with a comma ahead. -/
def memC (g : Bs) (obj : Bool) : List Z → List ByteArray → Bs
  | [], _ => []
  | z :: r, ks => 44 :: ((if obj then g ++ 34 :: (quoL (ks.headD ByteArray.empty).data.toList ++ 34 :: (g ++ [58])) else []) ++ (g ++ (core g z ++ g)) ++ memC g obj r ks.tail)
end
def Stop (r : Bs) : Prop := ∀ c t, r = c :: t → isDig c = false
theorem white_app {g : Bs} (hg : g.all isWhite = true) (xs : Bs) : white (g ++ xs) = white xs := by
  induction g with
  | nil => rfl
  | cons c t ih =>
    simp only [List.all_cons, Bool.and_eq_true] at hg
    rw [List.cons_append, white_cons_yes hg.1, ih hg.2]
theorem white_notdig {c : UInt8} (h : isWhite c = true) : isDig c = false := by
  unfold isWhite at h; unfold isDig; simp at h ⊢; omega
theorem stop_app {g : Bs} (hg : g.all isWhite = true) {c : UInt8} (hc : isDig c = false) (r : Bs) : Stop (g ++ c :: r) := by
  intro d t h
  match g, hg with
  | [], _ => simp at h; rw [← h.1]; exact hc
  | a :: b, hg =>
    simp only [List.all_cons, Bool.and_eq_true] at hg
    simp at h
    rw [← h.1]; exact white_notdig hg.1
theorem stop_white {g : Bs} (hg : g.all isWhite = true) : Stop g := by
  intro d t h
  rw [h] at hg
  simp only [List.all_cons, Bool.and_eq_true] at hg
  exact white_notdig hg.1
theorem lev_white (n : Nat) (xs : Bs) : lev n (white xs) = lev n xs := by
  cases n with
  | zero => show valM none _ = valM none _; unfold valM; rw [white_white]
  | succ n => show valM (some (lev n)) _ = valM (some (lev n)) _; unfold valM; rw [white_white]
theorem lev_app {g : Bs} (hg : g.all isWhite = true) (n : Nat) (xs : Bs) : lev n (g ++ xs) = lev n xs := by rw [← lev_white, white_app hg, lev_white]
theorem lev_plain (n : Nat) {c : UInt8} {r : Bs} (hw : isWhite c = false) (h1 : c.toNat ≠ 91) (h2 : c.toNat ≠ 123) (h3 : c.toNat ≠ 34) : lev n (c :: r) = plainM (c :: r) := by
  cases n with
  | zero => show valM none _ = _; unfold valM; rw [white_cons_no hw]; simp only; rw [if_neg h1, if_neg h2, if_neg h3]
  | succ n => show valM (some (lev n)) _ = _; unfold valM; rw [white_cons_no hw]; simp only; rw [if_neg h1, if_neg h2, if_neg h3]
theorem takeWhile_all {p : UInt8 → Bool} : ∀ (l : Bs), l.all p = true → l.takeWhile p = l
  | [], _ => rfl
  | c :: t, h => by
    simp only [List.all_cons, Bool.and_eq_true] at h
    rw [List.takeWhile_cons_of_pos h.1, takeWhile_all t h.2]
theorem all_takeWhile' {p : UInt8 → Bool} : ∀ (l : Bs), (l.takeWhile p).all p = true
  | [] => rfl
  | c :: t => by
    cases hc : p c with
    | true => rw [List.takeWhile_cons_of_pos hc, List.all_cons, hc, all_takeWhile' t]; rfl
    | false => rw [List.takeWhile_cons_of_neg (by rw [hc]; decide)]; rfl
theorem num_app {ts r : Bs} (h : numM ts = some (ts, [])) (hr : Stop r) : numM (ts ++ r) = some (ts, r) ∧ ∃ c t, ts = c :: t ∧ (c = 45 ∨ isDig c = true) := by
  unfold numM at h
  split at h
  · cases h
  · rename_i hc
    simp only [Option.some.injEq, Prod.mk.injEq] at h
    obtain ⟨h1, h2⟩ := h
    rw [not_or, not_or] at hc
    obtain ⟨hc1, hc2, hc3⟩ := hc
    match ts, h1, h2, hc1, hc2, hc3 with
    | [], _, _, hc1, _, _ => simp [neg, digs] at hc1
    | c :: t, h1, h2, hc1, hc2, hc3 =>
      have hn : neg (c :: t ++ r) = neg (c :: t) := by unfold neg; rfl
      have hnl : neg (c :: t) ≤ 1 := by unfold neg; split <;> omega
      have hd : (c :: t ++ r).drop (neg (c :: t)) = (c :: t).drop (neg (c :: t)) ++ r := List.drop_append_of_le_length (by simp only [List.length_cons]; omega)
      have hall : ((c :: t).drop (neg (c :: t))).all isDig = true := by
        have hl : ((c :: t).drop (neg (c :: t))).length ≤ digs ((c :: t).drop (neg (c :: t))) := by
          rw [List.drop_eq_nil_iff] at h2; rw [List.length_drop]; omega
        have hp := List.takeWhile_prefix isDig (l := (c :: t).drop (neg (c :: t)))
        have he := hp.eq_of_length_le hl
        have ha := all_takeWhile' (p := isDig) ((c :: t).drop (neg (c :: t)))
        rw [he] at ha
        exact ha
      have htw : ∀ (a : Bs), a.all isDig = true → (a ++ r).takeWhile isDig = a := fun a ha => by
        match r, hr with
        | [], _ => rw [List.append_nil]; exact takeWhile_all a ha
        | x :: y, hr => exact takeWhile_stop a x y ha (hr x y rfl)
      have hg : digs ((c :: t).drop (neg (c :: t)) ++ r) = digs ((c :: t).drop (neg (c :: t))) := by
        unfold digs
        rw [htw _ hall, takeWhile_all _ hall]
      have hgl : neg (c :: t) + digs ((c :: t).drop (neg (c :: t))) = (c :: t).length := by
        unfold digs
        rw [takeWhile_all _ hall, List.length_drop]
        simp only [List.length_cons]; omega
      have hpos : 0 < ((c :: t).drop (neg (c :: t))).length := by
        have : digs ((c :: t).drop (neg (c :: t))) ≤ ((c :: t).drop (neg (c :: t))).length := digs_le _
        omega
      refine ⟨?_, c, t, rfl, ?_⟩
      · unfold numM
        rw [hn, hd, hg, hgl]
        have hh : ((c :: t).drop (neg (c :: t)) ++ r).head? = ((c :: t).drop (neg (c :: t))).head? := by
          match (c :: t).drop (neg (c :: t)), hpos with
          | _ :: _, _ => rfl
        rw [hh, if_neg (by rw [not_or, not_or]; exact ⟨hc1, hc2, hc3⟩)]
        rw [hgl] at h1
        rw [List.take_of_length_le (Nat.le_refl _)] at h1
        rw [List.take_left, List.drop_left, h1]
      · by_cases h45 : c = 45
        · exact .inl h45
        · right
          have : neg (c :: t) = 0 := by unfold neg; rw [List.head?_cons, if_neg (by simpa using h45)]
          rw [this, List.drop_zero] at hall
          simp only [List.all_cons, Bool.and_eq_true] at hall
          exact hall.1
theorem leaf_lev (m : Nat) {k : Int} {t : ByteArray} (h : LeafP k t) (r : Bs) (hr : Stop r) : lev m (leafTx k t ++ r) = .ok (.mk k.toNat t [] [], r) := by
  rcases h with ⟨hk, rfl⟩ | ⟨rfl, hn⟩ | ⟨rfl, hv⟩
  · rcases hk with rfl | rfl | rfl
    · show lev m (110 :: (117 :: 108 :: 108 :: r)) = _
      rw [lev_plain m (by decide) (by decide) (by decide) (by decide)]
      rfl
    · show lev m (102 :: (97 :: 108 :: 115 :: 101 :: r)) = _
      rw [lev_plain m (by decide) (by decide) (by decide) (by decide)]
      rfl
    · show lev m (116 :: (114 :: 117 :: 101 :: r)) = _
      rw [lev_plain m (by decide) (by decide) (by decide) (by decide)]
      rfl
  · obtain ⟨h1, c, tl, hts, hc⟩ := num_app hn hr
    show lev m (t.data.toList ++ r) = _
    rw [hts] at h1 ⊢
    have hcn : c.toNat = 45 ∨ (48 ≤ c.toNat ∧ c.toNat ≤ 57) := by
      rcases hc with rfl | hc
      · exact .inl rfl
      · exact .inr (isDig_nat hc)
    have hw : isWhite c = false := by unfold isWhite; simp; omega
    rw [List.cons_append] at h1 ⊢
    rw [lev_plain m hw (by omega) (by omega) (by omega)]
    unfold plainM
    have pf : ∀ (a : UInt8) (w : Bs), a.toNat > 57 → ((a :: w).isPrefixOf (c :: (tl ++ r))) = false := fun a w ha => by
      simp only [List.isPrefixOf, Bool.and_eq_false_iff, beq_eq_false_iff_ne]
      left; intro e; rw [e] at ha; omega
    rw [show wordNull = 110 :: [117, 108, 108] from rfl, pf 110 _ (by decide), show wordFalse = 102 :: [97, 108, 115, 101] from rfl, pf 102 _ (by decide), show wordTrue = 116 :: [114, 117, 101] from rfl, pf 116 _ (by decide), h1]
    have : str (c :: tl) = t := by rw [← hts]; exact str_id t
    simp only [this]
    rfl
  · show lev m (34 :: (quoL t.data.toList ++ [34]) ++ r) = _
    have e : (34 :: (quoL t.data.toList ++ [34]) ++ r : Bs) = 34 :: (quoL t.data.toList ++ 34 :: r) := by simp
    rw [e]
    have hq := qstr_quo t.data.toList r hv
    cases m with
    | zero => show valM none _ = _; unfold valM; rw [white_cons_no (by decide)]; simp only; rw [if_neg (by decide), if_neg (by decide), if_pos (by decide), hq]; simp only [str_id]; rfl
    | succ m => show valM (some (lev m)) _ = _; unfold valM; rw [white_cons_no (by decide)]; simp only; rw [if_neg (by decide), if_neg (by decide), if_pos (by decide), hq]; simp only [str_id]; rfl
theorem head_gap {g : Bs} (hg : g.all isWhite = true) (ks : List ByteArray) (k : ByteArray) (r : Bs) (hv : Lib.validD k.data.toList = true) :
    headM true ks (g ++ 34 :: (quoL k.data.toList ++ 34 :: (g ++ 58 :: r))) = if ks.any (fun x => decide (x = k)) then .error 7 else .ok (ks ++ [k], r) := by
  unfold headM keyM
  rw [white_app hg, white_cons_no (by decide)]
  simp only [if_true]
  rw [if_pos (show UInt8.toNat 34 = 34 from rfl), qstr_quo _ _ hv]
  simp only [str_id]
  by_cases h : (ks.any fun x => decide (x = k)) = true
  · rw [if_pos h, if_pos h]
  · rw [if_neg h, if_neg h, white_app hg, white_cons_no (by decide)]
    simp only
    rw [if_pos (show UInt8.toNat 58 = 58 from rfl)]
/-- What is told of a value's text. -/
def CoreC (g : Bs) (m : Nat) (z : Z) : Prop := ∀ r, Stop r → lev m (core g z ++ r) = .ok (toJ z, r)
theorem loop_arr {g : Bs} (hg : g.all isWhite = true) (m : Nat) (r : Bs) : ∀ (l : List Z) (f : Nat) (dl : List J), l ≠ [] → l.length ≤ f → (∀ z, z ∈ l → CoreC g m z) →
    loopM (lev m) false f [] dl ((memC g false l []).drop 1 ++ (g ++ 93 :: r)) = .ok (.mk 6 ByteArray.empty (dl ++ toJL l) [], r)
  | [], _, _, h, _, _ => absurd rfl h
  | [z], f, dl, _, hf, hz => by
    obtain ⟨f', rfl⟩ : ∃ f', f = f' + 1 := ⟨f - 1, by simp at hf; omega⟩
    have e : (memC g false [z] []).drop 1 ++ (g ++ 93 :: r) = g ++ (core g z ++ (g ++ (g ++ 93 :: r))) := by simp [memC]
    rw [e]
    have hs := hz z (by simp) (g ++ (g ++ 93 :: r)) (by
      have := stop_app (g := g ++ g) (by rw [List.all_append, hg]; rfl) (show isDig 93 = false by decide) r
      rwa [List.append_assoc] at this)
    rw [loopM_cons (h := rfl) (hs := by rw [lev_app hg]; exact hs) (hw := by rw [white_app hg, white_app hg, white_cons_no (by decide)]), if_neg (by decide), if_pos (by decide)]
    simp [toJL, kindOf]
  | z :: z2 :: l, f, dl, _, hf, hz => by
    obtain ⟨f', rfl⟩ : ∃ f', f = f' + 1 := ⟨f - 1, by simp at hf; omega⟩
    have ih := loop_arr hg m r (z2 :: l) f' (dl ++ [toJ z]) (by simp) (by simp at hf ⊢; omega) (fun x hx => hz x (by simp at hx ⊢; right; exact hx))
    have e : (memC g false (z :: z2 :: l) []).drop 1 ++ (g ++ 93 :: r) = g ++ (core g z ++ (g ++ 44 :: ((memC g false (z2 :: l) []).drop 1 ++ (g ++ 93 :: r)))) := by simp [memC]
    rw [e]
    have hs := hz z (by simp) (g ++ 44 :: ((memC g false (z2 :: l) []).drop 1 ++ (g ++ 93 :: r))) (stop_app hg (by decide) _)
    rw [loopM_cons (h := rfl) (hs := by rw [lev_app hg]; exact hs) (hw := by rw [white_app hg, white_cons_no (by decide)]), if_pos (by decide), ih]
    simp [toJL]
theorem loop_obj {g : Bs} (hg : g.all isWhite = true) (m : Nat) (r : Bs) : ∀ (l : List Z) (ks : List ByteArray) (f : Nat) (dk : List ByteArray) (dl : List J), l ≠ [] → l.length ≤ f → ks.length = l.length →
    (∀ s, s ∈ ks → Lib.validD s.data.toList = true) → (dk ++ ks).Nodup → (∀ z, z ∈ l → CoreC g m z) →
    loopM (lev m) true f dk dl ((memC g true l ks).drop 1 ++ (g ++ 125 :: r)) = .ok (.mk 7 ByteArray.empty (dl ++ toJL l) (dk ++ ks), r)
  | [], _, _, _, _, h, _, _, _, _, _ => absurd rfl h
  | z :: l, [], _, _, _, _, _, hk, _, _, _ => by simp at hk
  | [z], [k], f, dk, dl, _, hf, _, hv, hn, hz => by
    obtain ⟨f', rfl⟩ : ∃ f', f = f' + 1 := ⟨f - 1, by simp at hf; omega⟩
    have e : (memC g true [z] [k]).drop 1 ++ (g ++ 125 :: r) = g ++ 34 :: (quoL k.data.toList ++ 34 :: (g ++ 58 :: (g ++ (core g z ++ (g ++ (g ++ 125 :: r)))))) := by simp [memC]
    rw [e]
    have hs := hz z (by simp) (g ++ (g ++ 125 :: r)) (by
      have := stop_app (g := g ++ g) (by rw [List.all_append, hg]; rfl) (show isDig 125 = false by decide) r
      rwa [List.append_assoc] at this)
    have hh := head_gap hg dk k (g ++ (core g z ++ (g ++ (g ++ 125 :: r)))) (hv k (by simp))
    have hnk : k ∉ dk := fun hm => by rw [List.nodup_append] at hn; exact hn.2.2 k hm k (by simp) rfl
    rw [any_false hnk] at hh
    rw [loopM_cons (h := hh) (hs := by rw [lev_app hg]; exact hs) (hw := by rw [white_app hg, white_app hg, white_cons_no (by decide)]), if_neg (by decide), if_pos (by decide)]
    simp [toJL, kindOf]
  | [z], k :: k2 :: ks, _, _, _, _, _, hk, _, _, _ => by simp at hk
  | z :: z2 :: l, [k], _, _, _, _, _, hk, _, _, _ => by simp at hk
  | z :: z2 :: l, k :: k2 :: ks, f, dk, dl, _, hf, hk, hv, hn, hz => by
    obtain ⟨f', rfl⟩ : ∃ f', f = f' + 1 := ⟨f - 1, by simp at hf; omega⟩
    have ih := loop_obj hg m r (z2 :: l) (k2 :: ks) f' (dk ++ [k]) (dl ++ [toJ z]) (by simp) (by simp at hf ⊢; omega) (by simp at hk ⊢; omega) (fun s hs => hv s (by simp at hs ⊢; right; exact hs)) (by simpa using hn) (fun x hx => hz x (by simp at hx ⊢; right; exact hx))
    have e : (memC g true (z :: z2 :: l) (k :: k2 :: ks)).drop 1 ++ (g ++ 125 :: r) = g ++ 34 :: (quoL k.data.toList ++ 34 :: (g ++ 58 :: (g ++ (core g z ++ (g ++ 44 :: ((memC g true (z2 :: l) (k2 :: ks)).drop 1 ++ (g ++ 125 :: r))))))) := by simp [memC]
    rw [e]
    have hs := hz z (by simp) (g ++ 44 :: ((memC g true (z2 :: l) (k2 :: ks)).drop 1 ++ (g ++ 125 :: r))) (stop_app hg (by decide) _)
    have hh := head_gap hg dk k (g ++ (core g z ++ (g ++ 44 :: ((memC g true (z2 :: l) (k2 :: ks)).drop 1 ++ (g ++ 125 :: r))))) (hv k (by simp))
    have hnk : k ∉ dk := fun hm => by rw [List.nodup_append] at hn; exact hn.2.2 k hm k (by simp) rfl
    rw [any_false hnk] at hh
    rw [loopM_cons (h := hh) (hs := by rw [lev_app hg]; exact hs) (hw := by rw [white_app hg, white_cons_no (by decide)]), if_pos (by decide), ih]
    simp [toJL]
theorem memC_len (g : Bs) (obj : Bool) : ∀ (l : List Z) (ks : List ByteArray), l.length ≤ (memC g obj l ks).length
  | [], _ => by simp
  | z :: r, ks => by
    have := memC_len g obj r ks.tail
    rw [memC]
    simp only [List.length_cons, List.length_append]
    omega
theorem leaf_head {k : Int} {t : ByteArray} (h : LeafP k t) : ∃ c r, leafTx k t = c :: r ∧ isWhite c = false ∧ c.toNat ≠ 93 ∧ c.toNat ≠ 125 := by
  rcases h with ⟨hk, rfl⟩ | ⟨rfl, hn⟩ | ⟨rfl, hv⟩
  · rcases hk with rfl | rfl | rfl
    · exact ⟨110, _, rfl, by decide, by decide, by decide⟩
    · exact ⟨102, _, rfl, by decide, by decide, by decide⟩
    · exact ⟨116, _, rfl, by decide, by decide, by decide⟩
  · obtain ⟨_, c, tl, hts, hc⟩ := num_app hn (r := []) (fun c t h => by cases h)
    have hcn : c.toNat = 45 ∨ (48 ≤ c.toNat ∧ c.toNat ≤ 57) := by
      rcases hc with rfl | hc
      · exact .inl rfl
      · exact .inr (isDig_nat hc)
    exact ⟨c, tl, hts, by unfold isWhite; simp; omega, by omega, by omega⟩
  · exact ⟨34, _, rfl, by decide, by decide, by decide⟩
theorem core_head {g : Bs} {d : Nat} : ∀ {z : Z}, Rgt d z → ∃ c r, core g z = c :: r ∧ isWhite c = false ∧ c.toNat ≠ 93 ∧ c.toNat ≠ 125
  | .mk k t l ks, h => by
    rw [Rgt] at h
    rw [core]
    by_cases h6 : k = 6
    · rw [if_pos h6]; exact ⟨91, _, rfl, by decide, by decide, by decide⟩
    · rw [if_neg h6]
      by_cases h7 : k = 7
      · rw [if_pos h7]; exact ⟨123, _, rfl, by decide, by decide, by decide⟩
      · rw [if_neg h7]
        rcases h with h | h
        · exact leaf_head h.1
        · rcases h.1.2.2 with h | h
          · exact absurd h.1 h6
          · exact absurd h.1 h7
theorem loop_white (m : Nat) (obj : Bool) (f : Nat) (ks : List ByteArray) (l : List J) (xs : Bs) : loopM (lev m) obj (f + 1) ks l (white xs) = loopM (lev m) obj (f + 1) ks l xs := by
  cases obj with
  | false =>
    rw [loopM, loopM, show headM false ks (white xs) = .ok (ks, white xs) from rfl, show headM false ks xs = .ok (ks, xs) from rfl]
    simp only [lev_white]
  | true =>
    have : headM true ks (white xs) = headM true ks xs := by unfold headM keyM; rw [white_white]; simp only [if_true]
    simp only [loopM, this]
theorem lev_arr (m : Nat) (xs : Bs) : lev (m + 1) (91 :: xs) = manyM (lev m) false xs := by
  show valM (some (lev m)) _ = _
  unfold valM; rw [white_cons_no (by decide)]; simp only; rw [if_pos (by decide)]
theorem lev_obj (m : Nat) (xs : Bs) : lev (m + 1) (123 :: xs) = manyM (lev m) true xs := by
  show valM (some (lev m)) _ = _
  unfold valM; rw [white_cons_no (by decide)]; simp only; rw [if_neg (by decide), if_pos (by decide)]
/-- A right value's text is read again, whatever stands behind it. -/
theorem core_lev {g : Bs} (hg : g.all isWhite = true) : ∀ (n : Nat) (z : Z), SizeOf.sizeOf z < n → ∀ d m, m + d = 64 → Rgt d z → CoreC g m z
  | 0, _, h => by omega
  | n + 1, .mk k t l ks, hsz => fun d m hmd h r hr => by
    have hh := h
    rw [Rgt] at h
    rcases h with ⟨hl, rfl, rfl⟩ | ⟨⟨rfl, hd, hk⟩, hc⟩
    · have hk6 : k ≠ 6 := by rcases hl with ⟨h | h | h, _⟩ | ⟨h, _⟩ | ⟨h, _⟩ <;> omega
      have hk7 : k ≠ 7 := by rcases hl with ⟨h | h | h, _⟩ | ⟨h, _⟩ | ⟨h, _⟩ <;> omega
      rw [core, if_neg hk6, if_neg hk7, leaf_lev m hl r hr, toJ, toJL]
    · obtain ⟨m', rfl⟩ : ∃ m', m = m' + 1 := ⟨m - 1, by omega⟩
      have hel : ∀ z, z ∈ l → CoreC g m' z := fun z hz => by
        refine core_lev hg n z ?_ (d + 1) m' (by omega) (RgtL_mem hc z hz)
        have := List.sizeOf_lt_of_mem hz
        simp only [Z.mk.sizeOf_spec] at hsz
        omega
      rcases hk with ⟨rfl, rfl⟩ | ⟨rfl, hkl, hkv, hkn⟩
      · rw [core, if_pos rfl]
        have e : (91 :: ((memC g false l []).drop 1 ++ (g ++ [93])) ++ r : Bs) = 91 :: ((memC g false l []).drop 1 ++ (g ++ 93 :: r)) := by simp
        rw [e, lev_arr, toJ]
        match l, hel, hc with
        | [], _, _ =>
          rw [memC, manyM_fin (c := 93) (t := r) (by show white (g ++ 93 :: r) = _; rw [white_app hg, white_cons_no (by decide)]) (by decide)]
          rfl
        | z :: l, hel, hc =>
          obtain ⟨c, y, hcy, hw, h93, _⟩ := core_head (g := g) (RgtL_mem hc z (by simp))
          have hX : white ((memC g false (z :: l) []).drop 1 ++ (g ++ 93 :: r)) = core g z ++ (g ++ (memC g false l [] ++ (g ++ 93 :: r))) := by
            have e : (memC g false (z :: l) []).drop 1 ++ (g ++ 93 :: r) = g ++ (core g z ++ (g ++ (memC g false l [] ++ (g ++ 93 :: r)))) := by simp [memC]
            rw [e, white_app hg, hcy, List.cons_append, white_cons_no hw]
          have hlen := memC_len g false l []
          rw [manyM_loop (fun c' t' h' => by rw [hX, hcy, List.cons_append] at h'; simp at h'; rw [← h'.1]; exact h93), loop_white]
          rw [loop_arr hg m' r (z :: l) _ [] (by simp) (by rw [hX, hcy]; simp only [List.length_cons, List.length_append]; omega) hel]
          rfl
      · rw [core, if_neg (by decide), if_pos rfl]
        have e : (123 :: ((memC g true l ks).drop 1 ++ (g ++ [125])) ++ r : Bs) = 123 :: ((memC g true l ks).drop 1 ++ (g ++ 125 :: r)) := by simp
        rw [e, lev_obj, toJ]
        match l, ks, hel, hc, hkl, hkv, hkn with
        | [], [], _, _, _, _, _ =>
          rw [memC, manyM_fin (c := 125) (t := r) (by show white (g ++ 125 :: r) = _; rw [white_app hg, white_cons_no (by decide)]) (by decide)]
          rfl
        | [], _ :: _, _, _, hkl, _, _ => simp at hkl
        | _ :: _, [], _, _, hkl, _, _ => simp at hkl
        | z :: l, k :: ks, hel, hc, hkl, hkv, hkn =>
          obtain ⟨Y, hY⟩ : ∃ Y, Y = quoL k.data.toList ++ 34 :: (g ++ 58 :: (g ++ (core g z ++ (g ++ (memC g true l ks ++ (g ++ 125 :: r)))))) := ⟨_, rfl⟩
          have hX : white ((memC g true (z :: l) (k :: ks)).drop 1 ++ (g ++ 125 :: r)) = 34 :: Y := by
            have e : (memC g true (z :: l) (k :: ks)).drop 1 ++ (g ++ 125 :: r) = g ++ 34 :: Y := by rw [hY]; simp [memC]
            rw [e, white_app hg, white_cons_no (by decide)]
          have hlen := memC_len g true l ks
          rw [manyM_loop (fun c' t' h' => by rw [hX] at h'; simp at h'; rw [← h'.1]; decide), loop_white]
          rw [loop_obj hg m' r (z :: l) (k :: ks) _ [] [] (by simp) (by rw [hX, hY]; simp only [List.length_cons, List.length_append]; omega) hkl hkv (by simpa using hkn) hel]
          rfl
def spc (g : Bs) (z : Z) : Bs := g ++ (core g z ++ g)
theorem parse_spc {g : Bs} (hg : g.all isWhite = true) {z : Z} (h : Rgt 0 z) (hl : (spc g z).length ≤ 20000) : parseM (spc g z) = .ok (toJ z) := by
  have hc := core_lev hg (SizeOf.sizeOf z + 1) z (by omega) 0 64 (by omega) h g (stop_white hg)
  unfold parseM
  rw [if_neg (by omega)]
  unfold spc
  rw [lev_app hg, hc]
  have : white g = [] := by have := white_app hg []; rw [List.append_nil] at this; exact this
  simp only [this, if_true]
/-- How long it is. -/
theorem leaf_long (k : Int) (t : ByteArray) : (leafTx k t).length ≤ 6 * t.size + 6 := by
  have h := (quoL_len t.data.toList).2
  have e : t.data.toList.length = t.size := (size_len t).symm
  unfold leafTx
  repeat' split
  all_goals first | (rw [e]; omega) | (show 4 ≤ _; omega) | (show 5 ≤ _; omega) | (simp only [List.length_cons, List.length_append, List.length_nil]; omega)
mutual
theorem core_long (g : Bs) (hg : g.length ≤ 8) : ∀ (z : Z), (core g z).length + 40 ≤ 60 * zw z
  | .mk k t l ks => by
    have h1 := leaf_long k t
    have h2 := memC_long g hg false l ks
    have h3 := memC_long g hg true l ks
    rw [core, zw]
    repeat' split
    all_goals try simp only [List.length_cons, List.length_append, List.length_drop, List.length_nil]
    all_goals omega
theorem memC_long (g : Bs) (hg : g.length ≤ 8) (obj : Bool) : ∀ (l : List Z) (ks : List ByteArray), (memC g obj l ks).length ≤ 60 * (zwL l + kw ks)
  | [], ks => by simp [memC]
  | z :: r, ks => by
    have h1 := core_long g hg z
    have h2 := memC_long g hg obj r ks.tail
    have h3 : (ks.headD ByteArray.empty).size + kw ks.tail ≤ kw ks := by
      cases ks with
      | nil => simp [kw]
      | cons a b => simp only [List.headD_cons, List.tail_cons, kw]; omega
    have h4 := (quoL_len (ks.headD ByteArray.empty).data.toList).2
    rw [← size_len] at h4
    rw [memC, zwL]
    cases obj <;> simp only [List.length_cons, List.length_append, List.length_nil, if_true, if_false, Bool.false_eq_true] <;> omega
end
end Go.Proofs.YtjcnjaebmndeiaaDoor
