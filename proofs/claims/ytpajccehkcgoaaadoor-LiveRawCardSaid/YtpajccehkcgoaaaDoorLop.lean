/-
  A schema as an argument: its nodes in memory.
-/
import Derived.Test.YtpajccehkcgoaaaDoorMbs
import Derived.Lib.SmallJoins
import Derived.ProofKit
import Derived.OpenShut
import Derived.ChangeOld
import Derived.Deep.Slices
namespace Go.Proofs.YtpajccehkcgoaaaDoor
open Go.RowKit

def wsum {α : Type} (wt : α → Nat) : List α → Nat
  | [] => 0
  | a :: r => wt a + wsum wt r
theorem wsum_list {α H : Type} (wt : α → Nat) : ∀ (zs : List α) (es : List (DataW H)), (∀ (i : Nat) (z : α), zs[i]? = some z → ∃ e, es[i]? = some e ∧ wt z ≤ Rows.uptoBulk e) → wsum wt zs ≤ Rows.uptoBulkAll es
  | [], es, _ => Nat.zero_le _
  | z :: zs, [], h => by obtain ⟨e, he, _⟩ := h 0 z rfl; simp at he
  | z :: zs, e :: es, h => by
    obtain ⟨e', he, h0⟩ := h 0 z rfl
    simp only [List.getElem?_cons_zero, Option.some.injEq] at he
    subst he
    have ih := wsum_list wt zs es (fun i z hz => by simpa using h (i + 1) z (by simpa using hz))
    rw [wsum, Rows.uptoBulkAll]
    omega
theorem open_rows {H : Type} {enc : TypeId × Value → H} {W : World} {α : Type} [Inhabited α] {t e : TypeId} {k : Nat} (hu : Tryd.prog.underlying t = some (.slice e)) (hc : Tryd.prog.cellsOf e = k) (hk : 0 < k) (one : α → (Nat → Value) → Prop) (wt : α → Nat) {fuel : Nat}
    (hone : ∀ n, fuel = n + 1 → ∀ cs x, DataW.trod enc Tryd.prog W 0 (fun _ => true) true n e cs = some x → ∃ a c, cs = (List.range k).map c ∧ one a c ∧ wt a ≤ Rows.uptoBulk x.1)
    {cs : List Value} {x : DataW H × List MemPlace} (h : DataW.trod enc Tryd.prog W 0 (fun _ => true) true fuel t cs = some x) : ∃ xs v, cs = [v] ∧ RowsAt k one W (fun b => b < W.heap.size) xs v ∧ wsum wt xs + 1 ≤ Rows.uptoBulk x.1 := by
  rcases DataW.trod_slice hu h with ⟨h0, hx0⟩ | ⟨a, len, cap, elems, rest, n', hn', h1, hx1, hb, hlc, hcm, hel, hE, _, _⟩
  · subst hx0
    exact ⟨[], _, h0, ⟨none, 0, fun _ _ => undef, rfl, Nat.le_refl _, by unfold maxLen; omega, fun h => absurd h (by simp), fun i z hz => by simp at hz⟩, by simp [wsum, Rows.uptoBulk]⟩
  · subst hx1
    rw [hc] at hE
    have each : ∀ i, i < len → ∃ q : α × (Nat → Value), (∀ j, j < k → W.cell? (a.add (i * k + j)) = some (q.2 j)) ∧ one q.1 q.2 ∧ ∃ e, elems[i]? = some e ∧ wt q.1 ≤ Rows.uptoBulk e.1 := by
      intro i hi
      have he := hE i hi
      obtain ⟨ei, hei⟩ : ∃ ei, elems[i]? = some ei := ⟨_, List.getElem?_eq_getElem (by omega)⟩
      rw [hei] at he
      obtain ⟨cs', g1, g2⟩ := Option.bind_eq_some_iff.1 he
      obtain ⟨_, hcl, hcc⟩ := World.cells?_some g1
      obtain ⟨z, c, rfl, hz, hzw⟩ := hone n' hn' cs' ei g2
      refine ⟨(z, c), fun j hj => ?_, hz, ei, hei, hzw⟩
      have := hcc j (by omega)
      rw [Deep.add_add] at this
      rw [this]
      simp [hj]
    obtain ⟨q, hq⟩ := choose_lt' each
    have hzl : ((List.range len).map fun i => (q i).1).length = len := by simp
    refine ⟨(List.range len).map fun i => (q i).1, _, h1, ⟨some a, cap, fun i j => (q i).2 j, by rw [hzl], by omega, hcm, ?_, ?_⟩, ?_⟩
    · intro hp
      rw [hzl] at hp ⊢
      have h0 := (hq 0 hp).1 0 hk
      obtain ⟨b, off, spot⟩ := a
      have hspot : spot = none := by simpa [Addr.add] using World.cell?_spot h0
      subst hspot
      refine ⟨b, off, rfl, by have := World.block_lt_of_cell? W _ h0; simpa [Addr.add] using this, fun i j hi hj => ?_⟩
      have := (hq i hi).1 j hj
      rw [addr_add] at this
      rw [Nat.mul_comm k i]
      exact this
    · intro i z hz
      obtain ⟨hlt, he⟩ := List.getElem?_eq_some_iff.1 hz
      rw [hzl] at hlt
      have := (hq i hlt).2.1
      rw [← he]
      simpa using this
    · simp only [Rows.uptoBulk]
      have := wsum_list wt ((List.range len).map fun i => (q i).1) (elems.map (·.1)) (fun i z hz => by
        obtain ⟨hlt, he⟩ := List.getElem?_eq_some_iff.1 hz
        rw [hzl] at hlt
        obtain ⟨_, _, e, h1, h2⟩ := hq i hlt
        refine ⟨e.1, by rw [List.getElem?_map, h1]; rfl, ?_⟩
        rw [← he]
        simpa using h2)
      omega
theorem rows_strs {W : World} {ok : Nat → Prop} {ss : List ByteArray} {v : Value} (h : RowsAt 1 (fun s c => c 0 = .string s ∧ s.size ≤ maxLen) W ok ss v) : StrsAt W ok ss v := by
  obtain ⟨A, cap, c, h1, h2, h3, h4, h5⟩ := h
  refine ⟨A, cap, h1, h2, h3, fun s hs => ?_, fun hp => ?_⟩
  · obtain ⟨i, hi⟩ := List.mem_iff_getElem?.1 hs
    exact (h5 i s hi).2
  · obtain ⟨g, off, e, hg, hc⟩ := h4 hp
    refine ⟨g, off, e, hg, fun i s hs => ?_⟩
    have := hc i 0 (List.getElem?_eq_some_iff.1 hs).1 (by omega)
    rw [(h5 i s hs).1] at this
    rwa [show off + (1 * i + 0) = off + i by omega] at this
theorem rows_ints {W : World} {ok : Nat → Prop} {ss : List Int} {v : Value} (h : RowsAt 1 (fun s c => c 0 = .int .i64 s ∧ (Lit.int .i64 s).wf = true) W ok ss v) : IntsAt W ok ss v := by
  obtain ⟨A, cap, c, h1, h2, h3, h4, h5⟩ := h
  refine ⟨A, cap, h1, h2, h3, fun s hs => ?_, fun hp => ?_⟩
  · obtain ⟨i, hi⟩ := List.mem_iff_getElem?.1 hs
    exact (h5 i s hi).2
  · obtain ⟨g, off, e, hg, hc⟩ := h4 hp
    refine ⟨g, off, e, hg, fun i s hs => ?_⟩
    have := hc i 0 (List.getElem?_eq_some_iff.1 hs).1 (by omega)
    rw [(h5 i s hs).1] at this
    rwa [show off + (1 * i + 0) = off + i by omega] at this
theorem open_strs {H : Type} {enc : TypeId × Value → H} {W : World} {fuel : Nat} {cs : List Value} {x : DataW H × List MemPlace} (h : DataW.trod enc Tryd.prog W 0 (fun _ => true) true fuel 26 cs = some x) : ∃ ss v, cs = [v] ∧ StrsAt W (fun b => b < W.heap.size) ss v ∧ wsum (fun s => s.size + 1) ss + 1 ≤ Rows.uptoBulk x.1 := by
  obtain ⟨ss, v, h1, h2, h3⟩ := open_rows Tryd.underlying26 (k := 1) (by kernel_rfl) (by omega) (fun s c => c 0 = .string s ∧ s.size ≤ maxLen) (fun s => s.size + 1) (fun n _ cs x hx => by
    obtain ⟨s, rfl, rfl, hs⟩ := DataW.trod_string Tryd.underlying9 hx
    exact ⟨s, fun _ => .string s, rfl, ⟨rfl, hs⟩, by simp [Rows.uptoBulk]⟩) h
  exact ⟨ss, v, h1, rows_strs h2, h3⟩
theorem open_ints64 {H : Type} {enc : TypeId × Value → H} {W : World} {fuel : Nat} {cs : List Value} {x : DataW H × List MemPlace} (h : DataW.trod enc Tryd.prog W 0 (fun _ => true) true fuel 28 cs = some x) : ∃ ss v, cs = [v] ∧ IntsAt W (fun b => b < W.heap.size) ss v ∧ wsum (fun _ => 1) ss + 1 ≤ Rows.uptoBulk x.1 := by
  obtain ⟨ss, v, h1, h2, h3⟩ := open_rows Tryd.underlying28 (k := 1) (by kernel_rfl) (by omega) (fun s c => c 0 = .int .i64 s ∧ (Lit.int .i64 s).wf = true) (fun _ => 1) (fun n _ cs x hx => by
    obtain ⟨s, rfl, rfl, hs⟩ := DataW.trod_int Tryd.underlying3 hx
    exact ⟨s, fun _ => .int .i64 s, rfl, ⟨rfl, hs⟩, by simp [Rows.uptoBulk]⟩) h
  exact ⟨ss, v, h1, rows_ints h2, h3⟩
def fdw (f : Fd) : Nat := f.dflt.size + 1
set_option maxRecDepth 100000 in
theorem open_fd {H : Type} {enc : TypeId × Value → H} {W : World} {fuel : Nat} {cs : List Value} {x : DataW H × List MemPlace} (h : DataW.trod enc Tryd.prog W 0 (fun _ => true) true fuel 60 cs = some x) : ∃ f c, cs = (List.range 5).map c ∧ FdIn W (fun b => b < W.heap.size) f c ∧ fdw f ≤ Rows.uptoBulk x.1 := by
  obtain ⟨xs, n, hn, hx, hl, hxl, hf⟩ := DataW.trod_struct Tryd.underlying60 h
  have c5 : Tryd.prog.cellsOf 60 = 5 := by kernel_rfl
  have c3 : Tryd.prog.cellsOf 3 = 1 := by kernel_rfl
  have c4 : Tryd.prog.cellsOf 4 = 1 := by kernel_rfl
  have c9 : Tryd.prog.cellsOf 9 = 1 := by kernel_rfl
  have ck : Tryd.prog.cellsOf 26 = 1 := by kernel_rfl
  rw [c5] at hl
  match cs, hl, xs, hxl with
  | [v0, v1, v2, v3, v4], _, [y0, y1, y2, y3, y4], _ =>
    have g0 := hf 0 _ rfl
    have g1 := hf 1 _ rfl
    have g2 := hf 2 _ rfl
    have g3 := hf 3 _ rfl
    have g4 := hf 4 _ rfl
    simp [c3, c4, c9, ck] at g0 g1 g2 g3 g4
    obtain ⟨s0, e0, d0, w0⟩ := DataW.trod_string Tryd.underlying9 g0
    obtain ⟨al, u1, e1, w1, b1⟩ := open_strs g1
    obtain ⟨t2, e2, d2, w2⟩ := DataW.trod_int Tryd.underlying3 g2
    obtain ⟨t3, e3, d3⟩ := DataW.trod_bool Tryd.underlying4 g3
    obtain ⟨s4, e4, d4, w4⟩ := DataW.trod_string Tryd.underlying9 g4
    simp only [List.cons.injEq, and_true] at e0 e1 e2 e3 e4
    subst e0; subst e1; subst e2; subst e3; subst e4; subst d0; subst d2; subst d3; subst d4
    refine ⟨⟨s0, al, t2, t3, s4⟩, fun j => if j = 0 then .string s0 else if j = 1 then v1 else if j = 2 then .int .i64 t2 else if j = 3 then .bool t3 else .string s4, rfl, ⟨rfl, w1, rfl, rfl, rfl, w2, w0, w4⟩, ?_⟩
    subst hx
    have : s4.data.toList.length = s4.size := by rw [Array.length_toList]; rfl
    simp only [List.map_cons, List.map_nil, Rows.uptoBulk, Rows.uptoBulkAll, fdw]
    omega
def ndw (n : Nd) : Nat := wsum fdw n.fs + wsum (fun s => s.size + 1) n.sy + wsum (fun _ => 1) n.br + 1
set_option maxRecDepth 100000 in
theorem open_nd {H : Type} {enc : TypeId × Value → H} {W : World} {fuel : Nat} {cs : List Value} {x : DataW H × List MemPlace} (h : DataW.trod enc Tryd.prog W 0 (fun _ => true) true fuel 30 cs = some x) : ∃ f c, cs = (List.range 10).map c ∧ NdIn W (fun b => b < W.heap.size) f c ∧ ndw f ≤ Rows.uptoBulk x.1 := by
  obtain ⟨xs, n, hn, hx, hl, hxl, hf⟩ := DataW.trod_struct Tryd.underlying30 h
  have c10 : Tryd.prog.cellsOf 30 = 10 := by kernel_rfl
  have c3 : Tryd.prog.cellsOf 3 = 1 := by kernel_rfl
  have c4 : Tryd.prog.cellsOf 4 = 1 := by kernel_rfl
  have c9 : Tryd.prog.cellsOf 9 = 1 := by kernel_rfl
  have ck : Tryd.prog.cellsOf 26 = 1 := by kernel_rfl
  have cf : Tryd.prog.cellsOf 27 = 1 := by kernel_rfl
  have ci : Tryd.prog.cellsOf 28 = 1 := by kernel_rfl
  rw [c10] at hl
  match cs, hl, xs, hxl with
  | [v0, v1, v2, v3, v4, v5, v6, v7, v8, v9], _, [y0, y1, y2, y3, y4, y5, y6, y7, y8, y9], _ =>
    have g0 := hf 0 _ rfl
    have g1 := hf 1 _ rfl
    have g2 := hf 2 _ rfl
    have g3 := hf 3 _ rfl
    have g4 := hf 4 _ rfl
    have g5 := hf 5 _ rfl
    have g6 := hf 6 _ rfl
    have g7 := hf 7 _ rfl
    have g8 := hf 8 _ rfl
    have g9 := hf 9 _ rfl
    simp [c3, c4, c9, ck, cf, ci] at g0 g1 g2 g3 g4 g5 g6 g7 g8 g9
    obtain ⟨t0, e0, d0, w0⟩ := DataW.trod_int Tryd.underlying3 g0
    obtain ⟨s1, e1, d1, w1⟩ := DataW.trod_string Tryd.underlying9 g1
    obtain ⟨al, u2, e2, w2, b2⟩ := open_strs g2
    obtain ⟨fs, u3, e3, w3, b3⟩ := open_rows Tryd.underlying27 (k := 5) (by kernel_rfl) (by omega) (FdIn W (fun b => b < W.heap.size)) fdw (fun n _ cs x hx => open_fd hx) g3
    obtain ⟨sy, u4, e4, w4, b4⟩ := open_strs g4
    obtain ⟨t5, e5, d5⟩ := DataW.trod_bool Tryd.underlying4 g5
    obtain ⟨s6, e6, d6, w6⟩ := DataW.trod_string Tryd.underlying9 g6
    obtain ⟨t7, e7, d7, w7⟩ := DataW.trod_int Tryd.underlying3 g7
    obtain ⟨br, u8, e8, w8, b8⟩ := open_ints64 g8
    obtain ⟨t9, e9, d9, w9⟩ := DataW.trod_int Tryd.underlying3 g9
    simp only [List.cons.injEq, and_true] at e0 e1 e2 e3 e4 e5 e6 e7 e8 e9
    subst e0; subst e1; subst e2; subst e3; subst e4; subst e5; subst e6; subst e7; subst e8; subst e9; subst d0; subst d1; subst d5; subst d6; subst d7; subst d9
    refine ⟨⟨t0, s1, al, fs, sy, t5, s6, t7, br, t9⟩, fun j => if j = 0 then .int .i64 t0 else if j = 1 then .string s1 else if j = 2 then v2 else if j = 3 then v3 else if j = 4 then v4 else if j = 5 then .bool t5 else if j = 6 then .string s6 else if j = 7 then .int .i64 t7 else if j = 8 then v8 else .int .i64 t9, rfl, ⟨rfl, rfl, w2, w3, w4, rfl, rfl, rfl, w8, rfl, w0, w7, w9, w1, w6⟩, ?_⟩
    subst hx
    simp only [List.map_cons, List.map_nil, Rows.uptoBulk, Rows.uptoBulkAll, ndw]
    omega
set_option maxRecDepth 100000 in
/-- The argument opened. -/
theorem open_schema {H : Type} {enc : TypeId × Value → H} {W : World} {base : Nat} {v : Value} {d : DataW H} {ps : List MemPlace} (hval : Value.okWide Tryd.prog W .any base 24 v)
    (h : DataW.Trod enc Tryd.prog W 0 (fun _ => true) true 24 v d ps) : ∃ ns vs, v = .agg #[vs] ∧ NdsAt W (fun b => b < W.heap.size) ns vs ∧ wsum ndw ns ≤ Rows.uptoBulk d := by
  obtain ⟨fuel, hf⟩ := h
  obtain ⟨xs, n, hn, hx, hl, hxl, hfs⟩ := DataW.trod_struct Tryd.underlying24 hf
  have c1 : Tryd.prog.cellsOf 24 = 1 := by kernel_rfl
  have c2 : Tryd.prog.cellsOf 22 = 1 := by kernel_rfl
  rw [c1] at hl
  obtain ⟨cs, rfl, _⟩ := WideShapes.okWide_struct Tryd.underlying24 hval
  have hl' : cs.toList.length = 1 := by simpa [Value.cells] using hl
  match hcs : cs.toList, hl', xs, hxl with
  | [v0], _, [y0], _ =>
    have g0 := hfs 0 _ rfl
    have hcc : (Value.agg cs).cells.toList = [v0] := by simpa [Value.cells] using hcs
    simp [hcc, c2] at g0
    obtain ⟨ns, u, e, w, b⟩ := open_rows Tryd.underlying22 (k := 10) (by kernel_rfl) (by omega) (NdIn W (fun b => b < W.heap.size)) ndw (fun n _ cs x hx => open_nd hx) g0
    simp only [List.cons.injEq, and_true] at e
    subst e
    refine ⟨ns, v0, by rw [← hcs], w, ?_⟩
    have hd := congrArg Prod.fst hx
    simp only at hd
    subst hd
    simp only [List.map_cons, List.map_nil, Rows.uptoBulk, Rows.uptoBulkAll]
    omega
end Go.Proofs.YtpajccehkcgoaaaDoor
