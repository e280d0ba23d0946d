/-
  A value of any type as an argument: what it holds, and how much.
-/
import Derived.Test.YtpajccehkcgoaaaDoorBas
import Derived.ProofKit
import Derived.OpenShut
import Derived.SliceStrings
import Derived.Deep.Slices
import Derived.ChangeOld
namespace Go.Proofs.YtpajccehkcgoaaaDoor
open Go.RowKit

inductive U where
  | mk (k n : Int) (b : List Int) (l : List U) (ks : List ByteArray)
instance : Inhabited U := ⟨.mk 0 0 [] [] []⟩
inductive UIn (w : World) (ok : Nat → Prop) : U → Value → Value → Value → Value → Value → Prop
  | mk (k n : Int) (b : List Int) (l : List U) (ks : List ByteArray) (B A A' : Option Addr) (capb cap cap' : Nat) (c : Nat → Nat → Value)
      (hk : (Lit.int .i64 k).wf = true) (hn : (Lit.int .i64 n).wf = true) (hb : ∀ x, x ∈ b → 0 ≤ x ∧ x < 256) (hks : ∀ s, s ∈ ks → s.size ≤ maxLen)
      (hcapb : b.length ≤ capb ∧ capb ≤ maxLen) (hcap : l.length ≤ cap ∧ cap ≤ maxLen) (hcap' : ks.length ≤ cap' ∧ cap' ≤ maxLen)
      (hB : 0 < b.length → ∃ g off, B = some ⟨g, off, none⟩ ∧ ok g ∧ ∀ i x, b[i]? = some x → w.cell? ⟨g, off + i, none⟩ = some (.int .u8 x))
      (hL : 0 < l.length → ∃ g off, A = some ⟨g, off, none⟩ ∧ ok g ∧ ∀ i j, i < l.length → j < 5 → w.cell? ⟨g, off + (5 * i + j), none⟩ = some (c i j))
      (hK : 0 < ks.length → ∃ g off, A' = some ⟨g, off, none⟩ ∧ ok g ∧ ∀ i s, ks[i]? = some s → w.cell? ⟨g, off + i, none⟩ = some (.string s))
      (hE : ∀ i z, l[i]? = some z → UIn w ok z (c i 0) (c i 1) (c i 2) (c i 3) (c i 4)) :
      UIn w ok (.mk k n b l ks) (.int .i64 k) (.int .i64 n) (.slice B b.length capb) (.slice A l.length cap) (.slice A' ks.length cap')
/-- How many letters the keys have. -/
def kw : List ByteArray → Nat
  | [] => 0
  | s :: r => s.size + 1 + kw r
mutual
def uw : U → Nat
  | .mk _ _ b l ks => 1 + b.length + uwL l + kw ks
def uwL : List U → Nat
  | [] => 0
  | z :: r => uw z + uwL r
end
theorem choose_lt' {α : Type} [Inhabited α] {m : Nat} {p : Nat → α → Prop} (h : ∀ i, i < m → ∃ q, p i q) : ∃ q : Nat → α, ∀ i, i < m → p i (q i) := by
  refine ⟨fun i => if hi : i < m then Classical.choose (h i hi) else default, fun i hi => ?_⟩
  simp only [dif_pos hi]
  exact Classical.choose_spec (h i hi)
theorem bulk_list {H : Type} : ∀ (zs : List U) (es : List (DataW H)), (∀ (i : Nat) (z : U), zs[i]? = some z → ∃ e, es[i]? = some e ∧ uw z ≤ Rows.uptoBulk e) → uwL zs ≤ Rows.uptoBulkAll es
  | [], es, _ => by rw [uwL]; exact Nat.zero_le _
  | z :: zs, [], h => by obtain ⟨e, he, _⟩ := h 0 z rfl; simp at he
  | z :: zs, e :: es, h => by
    obtain ⟨e', he, h0⟩ := h 0 z rfl
    simp only [List.getElem?_cons_zero, Option.some.injEq] at he
    subst he
    have ih := bulk_list zs es (fun i z hz => by simpa using h (i + 1) z (by simpa using hz))
    rw [uwL, Rows.uptoBulkAll]
    omega
theorem bulk_lits {H : Type} (k : IntKind) : ∀ (l : List Int), l.length = Rows.uptoBulkAll (ChangeShapes.lits (H := H) k l)
  | [] => rfl
  | x :: r => by
    have ih := bulk_lits (H := H) k r
    unfold ChangeShapes.lits at ih ⊢
    rw [List.map_cons, Rows.uptoBulkAll, List.length_cons, ih]
    simp only [Rows.uptoBulk]
    omega
theorem bulk_strs {H : Type} : ∀ (l : List ByteArray), kw l = Rows.uptoBulkAll (ChangeShapes.strs (H := H) l)
  | [] => rfl
  | s :: r => by
    have ih := bulk_strs (H := H) r
    have e : s.data.toList.length = s.size := by rw [Array.length_toList]; rfl
    unfold ChangeShapes.strs at ih ⊢
    rw [kw, List.map_cons, Rows.uptoBulkAll, ih]
    simp only [Rows.uptoBulk]
    omega
set_option maxRecDepth 100000 in
theorem open_u {H : Type} {enc : TypeId × Value → H} {W : World} : ∀ (m fuel : Nat), fuel < m → ∀ (cs : List Value) (x : DataW H × List MemPlace), DataW.trod enc Tryd.prog W 0 (fun _ => true) true fuel 38 cs = some x →
    ∃ z v0 v1 v2 v3 v4, cs = [v0, v1, v2, v3, v4] ∧ UIn W (fun b => b < W.heap.size) z v0 v1 v2 v3 v4 ∧ uw z ≤ Rows.uptoBulk x.1
  | 0, _, h => absurd h (by omega)
  | m + 1, fuel, hm => fun cs x h => by
    obtain ⟨xs, n, hn, hx, hl, hxl, hf⟩ := DataW.trod_struct Tryd.underlying38 h
    have c5 : Tryd.prog.cellsOf 38 = 5 := by kernel_rfl
    have c3 : Tryd.prog.cellsOf 3 = 1 := by kernel_rfl
    have c2 : Tryd.prog.cellsOf 2 = 1 := by kernel_rfl
    have cu : Tryd.prog.cellsOf 5 = 1 := by kernel_rfl
    have c9 : Tryd.prog.cellsOf 9 = 1 := by kernel_rfl
    have cb : Tryd.prog.cellsOf 35 = 1 := by kernel_rfl
    have cl : Tryd.prog.cellsOf 36 = 1 := by kernel_rfl
    have ck : Tryd.prog.cellsOf 26 = 1 := by kernel_rfl
    rw [c5] at hl
    match cs, hl, xs, hxl with
    | [v0, v1, v2, v3, v4], _, [y0, y1, y2, y3, y4], _ =>
      have g0 := hf 0 _ rfl
      have g1 := hf 1 _ rfl
      have g2 := hf 2 _ rfl
      have g3 := hf 3 _ rfl
      have g4 := hf 4 _ rfl
      simp [c3, c2, cb, cl, ck] at g0 g1 g2 g3 g4
      obtain ⟨k, e0, d0, hk⟩ := DataW.trod_int Tryd.underlying3 g0
      obtain ⟨nn, e1, d1, hnn⟩ := DataW.trod_int Tryd.underlying2 g1
      simp only [List.cons.injEq, and_true] at e0 e1
      subst e0; subst e1; subst d0; subst d1
      have hB : ∃ (b : List Int) (A : Option Addr) (cap : Nat), v2 = .slice A b.length cap ∧ b.length ≤ cap ∧ cap ≤ maxLen ∧ b.length + 1 ≤ Rows.uptoBulk y2.1 ∧ (∀ x, x ∈ b → 0 ≤ x ∧ x < 256) ∧
          (0 < b.length → ∃ g off, A = some ⟨g, off, none⟩ ∧ g < W.heap.size ∧ ∀ i x, b[i]? = some x → W.cell? ⟨g, off + i, none⟩ = some (.int .u8 x)) := by
        rcases ChangeShapes.open_ints Tryd.underlying35 Tryd.underlying5 cu g2 with ⟨h0, hx0⟩ | ⟨a, len, cap, zs, h1, _, hlc, hcm, hz, hx1, hcell, hwz⟩
        · simp only [List.cons.injEq, and_true] at h0
          subst hx0
          exact ⟨[], none, 0, h0, Nat.le_refl _, by unfold maxLen; omega, by simp [Rows.uptoBulk], fun s hs => by simp at hs, fun h => absurd h (by simp)⟩
        · simp only [List.cons.injEq, and_true] at h1
          simp only [if_true] at hz
          subst hx1
          have htl : (zs.take len).length = len := by rw [List.length_take]; omega
          refine ⟨zs.take len, some a, cap, by rw [htl]; exact h1, by omega, hcm, ?_, fun y hy => wf_byte (hwz y (List.mem_of_mem_take hy)), fun hp => ?_⟩
          · simp only [Rows.uptoBulk]
            rw [← bulk_lits]
            omega
          · rw [htl] at hp
            have h0 := hcell 0 (by omega)
            obtain ⟨b, off, spot⟩ := a
            have hspot : spot = none := by simpa [Addr.add] using World.cell?_spot h0
            subst hspot
            refine ⟨b, off, rfl, by have := World.block_lt_of_cell? W _ h0; simpa [Addr.add] using this, fun i u hu => ?_⟩
            rw [List.getElem?_take] at hu
            split at hu
            · have h2 := hcell i (by omega)
              rw [addr_addB] at h2
              rw [h2, List.getD_eq_getElem?_getD, hu]
              rfl
            · cases hu
      have hL : ∃ (zs : List U) (A : Option Addr) (cap : Nat) (c : Nat → Nat → Value), v3 = .slice A zs.length cap ∧ zs.length ≤ cap ∧ cap ≤ maxLen ∧ uwL zs + 1 ≤ Rows.uptoBulk y3.1 ∧
          (0 < zs.length → ∃ g off, A = some ⟨g, off, none⟩ ∧ g < W.heap.size ∧ ∀ i j, i < zs.length → j < 5 → W.cell? ⟨g, off + (5 * i + j), none⟩ = some (c i j)) ∧
          (∀ i z, zs[i]? = some z → UIn W (fun b => b < W.heap.size) z (c i 0) (c i 1) (c i 2) (c i 3) (c i 4)) := by
        rcases DataW.trod_slice Tryd.underlying36 g3 with ⟨h0, hx0⟩ | ⟨a, len, cap, elems, rest, n', hn', h1, hx1, hb, hlc, hcm, hel, hE, _, _⟩
        · simp only [List.cons.injEq, and_true] at h0
          subst hx0
          exact ⟨[], none, 0, fun _ _ => undef, h0, Nat.le_refl _, by unfold maxLen; omega, by simp [uwL, Rows.uptoBulk], fun h => absurd h (by simp), fun i z hz => by simp at hz⟩
        · simp only [List.cons.injEq, and_true] at h1
          subst hx1
          rw [c5] at hE
          have each : ∀ i, i < len → ∃ q : U × (Nat → Value), (∀ j, j < 5 → W.cell? (a.add (i * 5 + j)) = some (q.2 j)) ∧ UIn W (fun b => b < W.heap.size) q.1 (q.2 0) (q.2 1) (q.2 2) (q.2 3) (q.2 4) ∧ ∃ e, elems[i]? = some e ∧ uw q.1 ≤ Rows.uptoBulk e.1 := by
            intro i hi
            have he := hE i hi
            obtain ⟨ei, hei⟩ : ∃ ei, elems[i]? = some ei := ⟨_, List.getElem?_eq_getElem (by omega)⟩
            rw [hei] at he
            obtain ⟨cs', h1, h2⟩ := Option.bind_eq_some_iff.1 he
            obtain ⟨_, hcl, hcc⟩ := World.cells?_some h1
            obtain ⟨z, u0, u1, u2, u3, u4, rfl, hz, hzw⟩ := open_u m n' (by omega) cs' ei h2
            have hq0 := hcc 0 (by omega)
            have hq1 := hcc 1 (by omega)
            have hq2 := hcc 2 (by omega)
            have hq3 := hcc 3 (by omega)
            have hq4 := hcc 4 (by omega)
            refine ⟨(z, fun j => if j = 0 then u0 else if j = 1 then u1 else if j = 2 then u2 else if j = 3 then u3 else u4), ?_, hz, ei, hei, hzw⟩
            intro j hj
            rw [Deep.add_add] at hq0 hq1 hq2 hq3 hq4
            match j, hj with
            | 0, _ => exact hq0
            | 1, _ => exact hq1
            | 2, _ => exact hq2
            | 3, _ => exact hq3
            | 4, _ => exact hq4
          obtain ⟨q, hq⟩ := choose_lt' each
          have hzl : ((List.range len).map fun i => (q i).1).length = len := by simp
          refine ⟨(List.range len).map fun i => (q i).1, some a, cap, fun i j => (q i).2 j, by rw [hzl]; exact h1, by omega, hcm, ?_, ?_, ?_⟩
          · simp only [Rows.uptoBulk]
            have := bulk_list ((List.range len).map fun i => (q i).1) (elems.map (·.1)) (fun i z hz => by
              obtain ⟨hlt, he⟩ := List.getElem?_eq_some_iff.1 hz
              rw [hzl] at hlt
              obtain ⟨_, _, e, h1, h2⟩ := hq i hlt
              refine ⟨e.1, by rw [List.getElem?_map, h1]; rfl, ?_⟩
              rw [← he]
              simpa using h2)
            omega
          · intro hp
            rw [hzl] at hp ⊢
            have h0 := (hq 0 hp).1 0 (by omega)
            obtain ⟨b, off, spot⟩ := a
            have hspot : spot = none := by simpa [Addr.add] using World.cell?_spot h0
            subst hspot
            refine ⟨b, off, rfl, by have := World.block_lt_of_cell? W _ h0; simpa [Addr.add] using this, fun i j hi hj => ?_⟩
            have := (hq i hi).1 j hj
            rw [addr_addB] at this
            rw [Nat.mul_comm 5 i]
            exact this
          · intro i z hz
            obtain ⟨hlt, he⟩ := List.getElem?_eq_some_iff.1 hz
            rw [hzl] at hlt
            have := (hq i hlt).2.1
            rw [← he]
            simpa using this
      have hK : ∃ (ks : List ByteArray) (A : Option Addr) (cap : Nat), v4 = .slice A ks.length cap ∧ ks.length ≤ cap ∧ cap ≤ maxLen ∧ kw ks + 1 ≤ Rows.uptoBulk y4.1 ∧ (∀ s, s ∈ ks → s.size ≤ maxLen) ∧
          (0 < ks.length → ∃ g off, A = some ⟨g, off, none⟩ ∧ g < W.heap.size ∧ ∀ i s, ks[i]? = some s → W.cell? ⟨g, off + i, none⟩ = some (.string s)) := by
        rcases ChangeShapes.open_strings Tryd.underlying26 Tryd.underlying9 c9 g4 with ⟨h0, hx0⟩ | ⟨a, len, cap, ss, h1, _, hlc, hcm, hz, hx1, hcell, hsz⟩
        · simp only [List.cons.injEq, and_true] at h0
          subst hx0
          exact ⟨[], none, 0, h0, Nat.le_refl _, by unfold maxLen; omega, by simp [kw, Rows.uptoBulk], fun s hs => by simp at hs, fun h => absurd h (by simp)⟩
        · simp only [List.cons.injEq, and_true] at h1
          simp only [if_true] at hz
          subst hx1
          have htl : (ss.take len).length = len := by rw [List.length_take]; omega
          refine ⟨ss.take len, some a, cap, by rw [htl]; exact h1, by omega, hcm, ?_, fun s hs => hsz s (List.mem_of_mem_take hs), fun hp => ?_⟩
          · rw [bulk_strs (H := H)]
            simp only [Rows.uptoBulk]
            omega
          · rw [htl] at hp
            have h0 := hcell 0 (by omega)
            obtain ⟨b, off, spot⟩ := a
            have hspot : spot = none := by simpa [Addr.add] using World.cell?_spot h0
            subst hspot
            refine ⟨b, off, rfl, by have := World.block_lt_of_cell? W _ h0; simpa [Addr.add] using this, fun i u hu => ?_⟩
            rw [List.getElem?_take] at hu
            split at hu
            · have h2 := hcell i (by omega)
              rw [addr_addB] at h2
              rw [h2, List.getD_eq_getElem?_getD, hu]
              rfl
            · cases hu
      obtain ⟨b, B, capb, rfl, hb1, hb2, hwb, hb3, hb4⟩ := hB
      obtain ⟨zs, A, cap, c, rfl, hl1, hl2, hw1, hl3, hl4⟩ := hL
      obtain ⟨ks, A', cap', rfl, hk1, hk2, hw2, hk3, hk4⟩ := hK
      refine ⟨.mk k nn b zs ks, _, _, _, _, _, rfl, .mk k nn b zs ks B A A' capb cap cap' c hk hnn hb3 hk3 ⟨hb1, hb2⟩ ⟨hl1, hl2⟩ ⟨hk1, hk2⟩ hb4 hl3 hk4 hl4, ?_⟩
      subst hx
      simp only [List.map_cons, List.map_nil, Rows.uptoBulk, Rows.uptoBulkAll, uw]
      omega
set_option maxRecDepth 100000 in
/-- The argument opened. -/
theorem open_value {H : Type} {enc : TypeId × Value → H} {W : World} {base : Nat} {v : Value} {d : DataW H} {ps : List MemPlace} (hval : Value.okWide Tryd.prog W .any base 38 v)
    (h : DataW.Trod enc Tryd.prog W 0 (fun _ => true) true 38 v d ps) : ∃ z v0 v1 v2 v3 v4, v = .agg #[v0, v1, v2, v3, v4] ∧ UIn W (fun b => b < W.heap.size) z v0 v1 v2 v3 v4 ∧ uw z ≤ Rows.uptoBulk d := by
  obtain ⟨fuel, hf⟩ := h
  obtain ⟨z, v0, v1, v2, v3, v4, hcs, hz, hw⟩ := open_u (fuel + 1) fuel (by omega) _ _ hf
  obtain ⟨cs, rfl, _⟩ := WideShapes.okWide_struct Tryd.underlying38 hval
  refine ⟨z, v0, v1, v2, v3, v4, ?_, hz, hw⟩
  have : cs.toList = [v0, v1, v2, v3, v4] := by simpa [Value.cells] using hcs
  rw [← this]

mutual
def un : U → Nat
  | .mk _ _ b l ks => 1 + b.length / 50 + ks.length + unL l
def unL : List U → Nat
  | [] => 0
  | z :: r => un z + unL r
end
theorem unL_take : ∀ (l : List U) (q : Nat) (z : U), l[q]? = some z → unL (l.take (q + 1)) = unL (l.take q) + un z
  | [], q, z, h => by simp at h
  | x :: r, 0, z, h => by
    simp only [List.getElem?_cons_zero, Option.some.injEq] at h
    subst h
    simp [unL]
  | x :: r, q + 1, z, h => by
    have ih := unL_take r q z (by simpa using h)
    rw [List.take_succ_cons, List.take_succ_cons, unL, unL, ih]
    omega
theorem unL_le : ∀ (l : List U) (q : Nat), unL (l.take q) ≤ unL l
  | [], q => by simp
  | x :: r, 0 => by simp [unL]
  | x :: r, q + 1 => by have ih := unL_le r q; rw [List.take_succ_cons, unL, unL]; omega
theorem UIn.fr {w w' : World} {ok ok' : Nat → Prop} (hf : Fr w w' ok') (hk : ∀ b, ok b → ok' b) {z : U} {v0 v1 v2 v3 v4 : Value} (h : UIn w ok z v0 v1 v2 v3 v4) : UIn w' ok z v0 v1 v2 v3 v4 := by
  induction h with
  | mk k n b l ks B A A' capb cap cap' c h1 h2 h3 h4 hcapb hcap hcap' hB hL hK _ ih =>
    refine .mk k n b l ks B A A' capb cap cap' c h1 h2 h3 h4 hcapb hcap hcap' (fun h => ?_) (fun h => ?_) (fun h => ?_) ih
    · obtain ⟨g, off, e, ho, hc⟩ := hB h
      exact ⟨g, off, e, ho, fun i s hs => hf.cell (hc i s hs) (hk g ho)⟩
    · obtain ⟨g, off, e, ho, hc⟩ := hL h
      exact ⟨g, off, e, ho, fun i j hi hj => hf.cell (hc i j hi hj) (hk g ho)⟩
    · obtain ⟨g, off, e, ho, hc⟩ := hK h
      exact ⟨g, off, e, ho, fun i s hs => hf.cell (hc i s hs) (hk g ho)⟩
theorem UIn.mono {w : World} {ok ok' : Nat → Prop} (hk : ∀ b, b < w.heap.size → ok b → ok' b) {z : U} {v0 v1 v2 v3 v4 : Value} (h : UIn w ok z v0 v1 v2 v3 v4) : UIn w ok' z v0 v1 v2 v3 v4 := by
  induction h with
  | mk k n b l ks B A A' capb cap cap' c h1 h2 h3 h4 hcapb hcap hcap' hB hL hK _ ih =>
    refine .mk k n b l ks B A A' capb cap cap' c h1 h2 h3 h4 hcapb hcap hcap' (fun h => ?_) (fun h => ?_) (fun h => ?_) ih
    · obtain ⟨g, off, e, ho, hc⟩ := hB h
      exact ⟨g, off, e, hk g (World.block_lt_of_cell? w _ (hc 0 _ (List.getElem?_eq_getElem h))) ho, hc⟩
    · obtain ⟨g, off, e, ho, hc⟩ := hL h
      exact ⟨g, off, e, hk g (World.block_lt_of_cell? w _ (hc 0 0 h (by omega))) ho, hc⟩
    · obtain ⟨g, off, e, ho, hc⟩ := hK h
      exact ⟨g, off, e, hk g (World.block_lt_of_cell? w _ (hc 0 _ (List.getElem?_eq_getElem h))) ho, hc⟩
/-- How a value's parts are bounded by all that it holds. -/
theorem uwL_len : ∀ (l : List U), l.length ≤ uwL l
  | [] => by simp
  | .mk k n b l ks :: r => by have := uwL_len r; rw [uwL, uw]; simp only [List.length_cons]; omega
theorem kw_len : ∀ (ks : List ByteArray), ks.length ≤ kw ks
  | [] => by simp
  | s :: r => by have := kw_len r; rw [kw]; simp only [List.length_cons]; omega
theorem uwL_mem : ∀ {l : List U} {z : U}, z ∈ l → uw z ≤ uwL l
  | x :: r, z, h => by
    rw [uwL]
    rcases List.mem_cons.1 h with rfl | h
    · omega
    · have := uwL_mem h; omega
theorem unL_mem : ∀ {l : List U} {z : U}, z ∈ l → un z ≤ unL l
  | x :: r, z, h => by
    rw [unL]
    rcases List.mem_cons.1 h with rfl | h
    · omega
    · have := unL_mem h; omega
theorem unL_len : ∀ (l : List U), l.length ≤ unL l
  | [] => by simp
  | .mk k n b l ks :: r => by have := unL_len r; rw [unL, un]; simp only [List.length_cons]; omega
theorem uin_agg {w : World} {ok : Nat → Prop} {z : U} {v0 v1 v2 v3 v4 : Value} (h : UIn w ok z v0 v1 v2 v3 v4) : ∃ k n B n0 c0 A n1 c1 A' n2 c2, v0 = .int .i64 k ∧ v1 = .int .i64 n ∧ v2 = .slice B n0 c0 ∧ v3 = .slice A n1 c1 ∧ v4 = .slice A' n2 c2 := by
  cases h; exact ⟨_, _, _, _, _, _, _, _, _, _, _, rfl, rfl, rfl, rfl, rfl⟩
end Go.Proofs.YtpajccehkcgoaaaDoor
