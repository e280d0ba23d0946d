/-
  Blocks that stay; a schema's nodes in memory; nodes, fields and schemas as arguments.
-/
import Derived.Test.YtjfmoookjgbfoaaProg
import Derived.Test.YtjfmoookjgbfoaaRows
import Derived.WalkKit
import Derived.WalkSpells
import Derived.WalkLawsBesides
import Derived.Deep.LoopGhost
import Derived.Deep.QuietTactic
import Derived.Deep.DeepCutAuto
import Derived.Deep.Quiet
import Derived.BigQuiet
import Derived.StillTail
import Derived.Lib.Hide
import Derived.Lib.Strings
import Derived.Lib.SmallJoins
import Derived.ProofKit
import Derived.OpenShut
import Derived.ChangeOld
import Derived.Deep.Slices
namespace Go.Proofs.Ytjfmoookjgbfoaa
open Go.RowKit

theorem addr_add (b off j : Nat) : (⟨b, off, none⟩ : Addr).add j = ⟨b, off + j, none⟩ := by unfold Addr.add; split <;> simp_all
theorem blk_lt {w : World} {g : Nat} {o : Obj} (h : w.heap[g]? = some o) : g < w.heap.size := by
  rcases Nat.lt_or_ge g w.heap.size with hlt | hge
  · exact hlt
  · rw [Array.getElem?_eq_none hge] at h; cases h
/-- Blocks of which ok holds are as they were. -/
structure Fr (w w' : World) (ok : Nat → Prop) : Prop where
  os : w'.os = w.os
  tape : w'.tape = w.tape
  output : w'.output = w.output
  size : w.heap.size ≤ w'.heap.size
  block : ∀ k, k < w.heap.size → ok k → w'.heap[k]? = w.heap[k]?
section
variable {w w' w'' : World} {ok ok' : Nat → Prop}
theorem Fr.refl (w : World) (ok : Nat → Prop) : Fr w w ok := ⟨rfl, rfl, rfl, Nat.le_refl _, fun _ _ _ => rfl⟩
theorem Fr.trans (h : Fr w w' ok) (k : Fr w' w'' ok) : Fr w w'' ok :=
  ⟨k.os.trans h.os, k.tape.trans h.tape, k.output.trans h.output, Nat.le_trans h.size k.size, fun i hi ho => (k.block i (by have := h.size; omega) ho).trans (h.block i hi ho)⟩
theorem Fr.mono (h : Fr w w' ok) (hk : ∀ b, b < w.heap.size → ok' b → ok b) : Fr w w' ok' := ⟨h.os, h.tape, h.output, h.size, fun i hi ho => h.block i hi (hk i hi ho)⟩
theorem Fr.cell (h : Fr w w' ok) {b o : Nat} {v : Value} (hc : w.cell? ⟨b, o, none⟩ = some v) (hb : ok b) : w'.cell? ⟨b, o, none⟩ = some v :=
  (World.cell?_of_block (h.block b (World.block_lt_of_cell? w ⟨b, o, none⟩ hc) hb)).trans hc
theorem Fr.at (h : Fr w w' ok) {b : Nat} {o : Obj} (hc : w.heap[b]? = some o) (hb : ok b) : w'.heap[b]? = some o := (h.block b (blk_lt hc) hb).trans hc
theorem Fr.drewN (h : Fr w w' ok) (n : Nat) : Fr w (w'.drewN n) ok := ⟨h.os, h.tape, h.output, h.size, h.block⟩
theorem below_fr0 {w w' : World} (h : Below w.heap.size w w') : Fr w w' (fun _ => True) := ⟨h.os, h.tape, h.output, h.size, fun k hk _ => h.block k hk⟩
theorem below_fr {w W : World} (h : Below w.heap.size w W) : Fr w W (fun k => k < w.heap.size) := ⟨h.os, h.tape, h.output, h.size, fun k _ hk => h.block k hk⟩
theorem fr_below {w w' : World} (h : Fr w w' (fun _ => True)) : Below w.heap.size w w' := ⟨h.os, h.tape, h.output, h.size, fun k hk => h.block k hk trivial⟩
end
theorem new_at {W : World} {n : Nat} (hn : W.heap.size = n) (o : Obj) : (W.alloc o).heap[n]? = some o := by subst hn; exact heap_alloc_new W o
theorem old_at {W : World} {n : Nat} {o : Obj} (o' : Obj) (h : W.heap[n]? = some o) : (W.alloc o').heap[n]? = some o := (below_fr0 ((Below.refl _ W).alloc (Nat.le_refl _) o')).at h trivial
/-- A world behind another one: what was there is there. -/
structure Aft (W : World) where
  w : World
  fr : Fr W w (fun _ => True)
instance (W : World) : Inhabited (Aft W) := ⟨⟨W, Fr.refl W _⟩⟩
theorem reg_quiet {P : Program} {l : List Oper} {Q : Exit → Act → World → Prop} {id : Nat} {a : Act} {w : World} (C : World → Prop) (hm : P.follows .mixedOrders = true) (hB : Region.lexB .any l.toArray = true) (hC : C w.drew)
    (h : wpQuiet P l.toArray C (fun a' => ∀ w', C w' → Q .normal a' w') l a) : (Code.region id l.toArray true).wp P Q a w :=
  wp_region_quiet hm hB hC (by simpa using h)
theorem reg_aft {P : Program} {l : List Oper} {Q : Exit → Act → World → Prop} {id : Nat} {a : Act} {w : World} (hm : P.follows .mixedOrders = true) (hB : Region.lexB .any l.toArray = true)
    (h : wpQuiet P l.toArray (fun w' => ∃ p : Aft w, w' = p.w) (fun a' => ∀ p : Aft w, Q .normal a' p.w) l a) : (Code.region id l.toArray true).wp P Q a w :=
  reg_quiet (fun w' => ∃ p : Aft w, w' = p.w) hm hB ⟨⟨w.drew, (Fr.refl w _).drewN 1⟩, rfl⟩ (by
    have e : (fun a' => ∀ w', (∃ p : Aft w, w' = p.w) → Q .normal a' w') = fun a' => ∀ p : Aft w, Q .normal a' p.w := by
      funext a'
      exact propext ⟨fun h p => h _ ⟨p, rfl⟩, fun h w' ⟨p, e⟩ => by rw [e]; exact h p⟩
    rw [e]
    exact h)
theorem aft_call {P : Program} {W : World} {f : FuncId} {args : Array Value} {p : Aft W} {v : Value} (h : Calls P f args p.w fun e w' => e = .returned v ∧ Fr p.w w' (fun _ => True)) : Calls P f args p.w fun e w'' => e = .returned v ∧ ∃ q : Aft W, w'' = q.w :=
  h.mono fun _ w'' ⟨he, hf⟩ => ⟨he, ⟨⟨w'', p.fr.trans hf⟩, rfl⟩⟩
theorem choose_lt' {α : Type} [Inhabited α] {m : Nat} {p : Nat → α → Prop} (h : ∀ i, i < m → ∃ q, p i q) : ∃ q : Nat → α, ∀ i, i < m → p i (q i) := by
  classical
  exact ⟨fun i => if hi : i < m then Classical.choose (h i hi) else default, fun i hi => by simp only [dif_pos hi]; exact Classical.choose_spec (h i hi)⟩

structure Fd where
  name : ByteArray
  al : List ByteArray
  ty : Int
  has : Bool
  dflt : ByteArray
structure Nd where
  kind : Int
  name : ByteArray
  al : List ByteArray
  fs : List Fd
  sy : List ByteArray
  has : Bool
  dflt : ByteArray
  items : Int
  br : List Int
  size : Int
instance : Inhabited Fd := ⟨⟨⟨#[]⟩, [], 0, false, ⟨#[]⟩⟩⟩
instance : Inhabited Nd := ⟨⟨0, ⟨#[]⟩, [], [], [], false, ⟨#[]⟩, 0, [], 0⟩⟩
/-- A slice of texts, of numbers. -/
def StrsAt (w : World) (ok : Nat → Prop) (ss : List ByteArray) (v : Value) : Prop :=
  ∃ (A : Option Addr) (cap : Nat), v = .slice A ss.length cap ∧ ss.length ≤ cap ∧ cap ≤ maxLen ∧ (∀ s, s ∈ ss → s.size ≤ maxLen) ∧ (0 < ss.length → ∃ g off, A = some ⟨g, off, none⟩ ∧ ok g ∧ ∀ i s, ss[i]? = some s → w.cell? ⟨g, off + i, none⟩ = some (.string s))
def IntsAt (w : World) (ok : Nat → Prop) (xs : List Int) (v : Value) : Prop :=
  ∃ (A : Option Addr) (cap : Nat), v = .slice A xs.length cap ∧ xs.length ≤ cap ∧ cap ≤ maxLen ∧ (∀ x, x ∈ xs → (Lit.int .i64 x).wf = true) ∧ (0 < xs.length → ∃ g off, A = some ⟨g, off, none⟩ ∧ ok g ∧ ∀ i x, xs[i]? = some x → w.cell? ⟨g, off + i, none⟩ = some (.int .i64 x))
/-- A slice of things that have k cells each. -/
def RowsAt {α : Type} (k : Nat) (one : α → (Nat → Value) → Prop) (w : World) (ok : Nat → Prop) (xs : List α) (v : Value) : Prop :=
  ∃ (A : Option Addr) (cap : Nat) (c : Nat → Nat → Value), v = .slice A xs.length cap ∧ xs.length ≤ cap ∧ cap ≤ maxLen ∧ (0 < xs.length → ∃ g off, A = some ⟨g, off, none⟩ ∧ ok g ∧ ∀ i j, i < xs.length → j < k → w.cell? ⟨g, off + (k * i + j), none⟩ = some (c i j)) ∧ ∀ i x, xs[i]? = some x → one x (c i)
structure FdIn (w : World) (ok : Nat → Prop) (f : Fd) (c : Nat → Value) : Prop where
  name : c 0 = .string f.name
  al : StrsAt w ok f.al (c 1)
  ty : c 2 = .int .i64 f.ty
  has : c 3 = .bool f.has
  dflt : c 4 = .string f.dflt
  tyw : (Lit.int .i64 f.ty).wf = true
  namel : f.name.size ≤ maxLen
  dfltl : f.dflt.size ≤ maxLen
structure NdIn (w : World) (ok : Nat → Prop) (n : Nd) (c : Nat → Value) : Prop where
  kind : c 0 = .int .i64 n.kind
  name : c 1 = .string n.name
  al : StrsAt w ok n.al (c 2)
  fs : RowsAt 5 (FdIn w ok) w ok n.fs (c 3)
  sy : StrsAt w ok n.sy (c 4)
  has : c 5 = .bool n.has
  dflt : c 6 = .string n.dflt
  items : c 7 = .int .i64 n.items
  br : IntsAt w ok n.br (c 8)
  size : c 9 = .int .i64 n.size
  kindw : (Lit.int .i64 n.kind).wf = true
  itemsw : (Lit.int .i64 n.items).wf = true
  sizew : (Lit.int .i64 n.size).wf = true
  namel : n.name.size ≤ maxLen
  dfltl : n.dflt.size ≤ maxLen
abbrev NdsAt (w : World) (ok : Nat → Prop) (ns : List Nd) (v : Value) : Prop := RowsAt 10 (NdIn w ok) w ok ns v

section
variable {w w' : World} {ok ok' : Nat → Prop}
theorem StrsAt.fr (hf : Fr w w' ok') (hk : ∀ b, ok b → ok' b) {ss : List ByteArray} {v : Value} (h : StrsAt w ok ss v) : StrsAt w' ok ss v := by
  obtain ⟨A, cap, h1, h2, h3, h4, h5⟩ := h
  exact ⟨A, cap, h1, h2, h3, h4, fun hp => by obtain ⟨g, off, e, hg, hc⟩ := h5 hp; exact ⟨g, off, e, hg, fun i s hs => hf.cell (hc i s hs) (hk g hg)⟩⟩
theorem IntsAt.fr (hf : Fr w w' ok') (hk : ∀ b, ok b → ok' b) {xs : List Int} {v : Value} (h : IntsAt w ok xs v) : IntsAt w' ok xs v := by
  obtain ⟨A, cap, h1, h2, h3, h4, h5⟩ := h
  exact ⟨A, cap, h1, h2, h3, h4, fun hp => by obtain ⟨g, off, e, hg, hc⟩ := h5 hp; exact ⟨g, off, e, hg, fun i s hs => hf.cell (hc i s hs) (hk g hg)⟩⟩
theorem RowsAt.fr {α : Type} {k : Nat} {one one' : α → (Nat → Value) → Prop} (hf : Fr w w' ok') (hk : ∀ b, ok b → ok' b) (ho : ∀ x c, one x c → one' x c) {xs : List α} {v : Value} (h : RowsAt k one w ok xs v) : RowsAt k one' w' ok xs v := by
  obtain ⟨A, cap, c, h1, h2, h3, h4, h5⟩ := h
  exact ⟨A, cap, c, h1, h2, h3, fun hp => by obtain ⟨g, off, e, hg, hc⟩ := h4 hp; exact ⟨g, off, e, hg, fun i j hi hj => hf.cell (hc i j hi hj) (hk g hg)⟩, fun i x hx => ho x _ (h5 i x hx)⟩
theorem FdIn.fr (hf : Fr w w' ok') (hk : ∀ b, ok b → ok' b) {f : Fd} {c : Nat → Value} (h : FdIn w ok f c) : FdIn w' ok f c :=
  ⟨h.name, h.al.fr hf hk, h.ty, h.has, h.dflt, h.tyw, h.namel, h.dfltl⟩
theorem NdIn.fr (hf : Fr w w' ok') (hk : ∀ b, ok b → ok' b) {n : Nd} {c : Nat → Value} (h : NdIn w ok n c) : NdIn w' ok n c :=
  ⟨h.kind, h.name, h.al.fr hf hk, h.fs.fr hf hk (fun _ _ hx => hx.fr hf hk), h.sy.fr hf hk, h.has, h.dflt, h.items, h.br.fr hf hk, h.size, h.kindw, h.itemsw, h.sizew, h.namel, h.dfltl⟩
theorem nds_fr (hf : Fr w w' ok') (hk : ∀ b, ok b → ok' b) {ns : List Nd} {v : Value} (h : NdsAt w ok ns v) : NdsAt w' ok ns v := RowsAt.fr hf hk (fun _ _ hx => hx.fr hf hk) h
end
abbrev ndv (c : Nat → Value) : Value := .agg #[c 0, c 1, c 2, c 3, c 4, c 5, c 6, c 7, c 8, c 9]
theorem cells_10 {w : World} {b : Nat} {c : Nat → Value} {e : TypeId} (h : w.heap[b]? = some (.cells #[c 0, c 1, c 2, c 3, c 4, c 5, c 6, c 7, c 8, c 9] e (0, 0))) :
    w.cell? ⟨b, 0, none⟩ = some (c 0) ∧ w.cell? ⟨b, 1, none⟩ = some (c 1) ∧ w.cell? ⟨b, 2, none⟩ = some (c 2) ∧ w.cell? ⟨b, 3, none⟩ = some (c 3) ∧ w.cell? ⟨b, 4, none⟩ = some (c 4) ∧
    w.cell? ⟨b, 5, none⟩ = some (c 5) ∧ w.cell? ⟨b, 6, none⟩ = some (c 6) ∧ w.cell? ⟨b, 7, none⟩ = some (c 7) ∧ w.cell? ⟨b, 8, none⟩ = some (c 8) ∧ w.cell? ⟨b, 9, none⟩ = some (c 9) :=
  ⟨cell_of_row w b 0 _ _ _ h, cell_of_row w b 1 _ _ _ h, cell_of_row w b 2 _ _ _ h, cell_of_row w b 3 _ _ _ h, cell_of_row w b 4 _ _ _ h, cell_of_row w b 5 _ _ _ h, cell_of_row w b 6 _ _ _ h, cell_of_row w b 7 _ _ _ h, cell_of_row w b 8 _ _ _ h, cell_of_row w b 9 _ _ _ h⟩
abbrev fdv (c : Nat → Value) : Value := .agg #[c 0, c 1, c 2, c 3, c 4]

def wsum {α : Type} (wt : α → Nat) : List α → Nat
  | [] => 0
  | a :: r => wt a + wsum wt r
theorem wsum_list {α H : Type} (wt : α → Nat) : ∀ (zs : List α) (es : List (DataW H)), (∀ (i : Nat) (z : α), zs[i]? = some z → ∃ e, es[i]? = some e ∧ wt z ≤ Rows.uptoBulk e) → wsum wt zs ≤ Rows.uptoBulkAll es
  | [], es, _ => Nat.zero_le _
  | z :: zs, [], h => by obtain ⟨e, he, _⟩ := h 0 z rfl; simp at he
  | z :: zs, e :: es, h => by
    obtain ⟨e', he, h0⟩ := h 0 z rfl
    simp only [List.getElem?_cons_zero, Option.some.injEq] at he
    subst he
    have ih := wsum_list wt zs es (fun i z hz => by simpa using h (i + 1) z (by simpa using hz))
    rw [wsum, Rows.uptoBulkAll]
    omega
theorem open_rows {H : Type} {enc : TypeId × Value → H} {W : World} {α : Type} [Inhabited α] {t e : TypeId} {k : Nat} (hu : Try.prog.underlying t = some (.slice e)) (hc : Try.prog.cellsOf e = k) (hk : 0 < k) (one : α → (Nat → Value) → Prop) (wt : α → Nat) {fuel : Nat}
    (hone : ∀ n, fuel = n + 1 → ∀ cs x, DataW.trod enc Try.prog W 0 (fun _ => true) true n e cs = some x → ∃ a c, cs = (List.range k).map c ∧ one a c ∧ wt a ≤ Rows.uptoBulk x.1)
    {cs : List Value} {x : DataW H × List MemPlace} (h : DataW.trod enc Try.prog W 0 (fun _ => true) true fuel t cs = some x) : ∃ xs v, cs = [v] ∧ RowsAt k one W (fun b => b < W.heap.size) xs v ∧ wsum wt xs + 1 ≤ Rows.uptoBulk x.1 := by
  rcases DataW.trod_slice hu h with ⟨h0, hx0⟩ | ⟨a, len, cap, elems, rest, n', hn', h1, hx1, hb, hlc, hcm, hel, hE, _, _⟩
  · subst hx0
    exact ⟨[], _, h0, ⟨none, 0, fun _ _ => undef, rfl, Nat.le_refl _, by unfold maxLen; omega, fun h => absurd h (by simp), fun i z hz => by simp at hz⟩, by simp [wsum, Rows.uptoBulk]⟩
  · subst hx1
    rw [hc] at hE
    have each : ∀ i, i < len → ∃ q : α × (Nat → Value), (∀ j, j < k → W.cell? (a.add (i * k + j)) = some (q.2 j)) ∧ one q.1 q.2 ∧ ∃ e, elems[i]? = some e ∧ wt q.1 ≤ Rows.uptoBulk e.1 := by
      intro i hi
      have he := hE i hi
      obtain ⟨ei, hei⟩ : ∃ ei, elems[i]? = some ei := ⟨_, List.getElem?_eq_getElem (by omega)⟩
      rw [hei] at he
      obtain ⟨cs', g1, g2⟩ := Option.bind_eq_some_iff.1 he
      obtain ⟨_, hcl, hcc⟩ := World.cells?_some g1
      obtain ⟨z, c, rfl, hz, hzw⟩ := hone n' hn' cs' ei g2
      refine ⟨(z, c), fun j hj => ?_, hz, ei, hei, hzw⟩
      have := hcc j (by omega)
      rw [Deep.add_add] at this
      rw [this]
      simp [hj]
    obtain ⟨q, hq⟩ := choose_lt' each
    have hzl : ((List.range len).map fun i => (q i).1).length = len := by simp
    refine ⟨(List.range len).map fun i => (q i).1, _, h1, ⟨some a, cap, fun i j => (q i).2 j, by rw [hzl], by omega, hcm, ?_, ?_⟩, ?_⟩
    · intro hp
      rw [hzl] at hp ⊢
      have h0 := (hq 0 hp).1 0 hk
      obtain ⟨b, off, spot⟩ := a
      have hspot : spot = none := by simpa [Addr.add] using World.cell?_spot h0
      subst hspot
      refine ⟨b, off, rfl, by have := World.block_lt_of_cell? W _ h0; simpa [Addr.add] using this, fun i j hi hj => ?_⟩
      have := (hq i hi).1 j hj
      rw [addr_add] at this
      rw [Nat.mul_comm k i]
      exact this
    · intro i z hz
      obtain ⟨hlt, he⟩ := List.getElem?_eq_some_iff.1 hz
      rw [hzl] at hlt
      have := (hq i hlt).2.1
      rw [← he]
      simpa using this
    · simp only [Rows.uptoBulk]
      have := wsum_list wt ((List.range len).map fun i => (q i).1) (elems.map (·.1)) (fun i z hz => by
        obtain ⟨hlt, he⟩ := List.getElem?_eq_some_iff.1 hz
        rw [hzl] at hlt
        obtain ⟨_, _, e, h1, h2⟩ := hq i hlt
        refine ⟨e.1, by rw [List.getElem?_map, h1]; rfl, ?_⟩
        rw [← he]
        simpa using h2)
      omega
theorem rows_strs {W : World} {ok : Nat → Prop} {ss : List ByteArray} {v : Value} (h : RowsAt 1 (fun s c => c 0 = .string s ∧ s.size ≤ maxLen) W ok ss v) : StrsAt W ok ss v := by
  obtain ⟨A, cap, c, h1, h2, h3, h4, h5⟩ := h
  refine ⟨A, cap, h1, h2, h3, fun s hs => ?_, fun hp => ?_⟩
  · obtain ⟨i, hi⟩ := List.mem_iff_getElem?.1 hs
    exact (h5 i s hi).2
  · obtain ⟨g, off, e, hg, hc⟩ := h4 hp
    refine ⟨g, off, e, hg, fun i s hs => ?_⟩
    have := hc i 0 (List.getElem?_eq_some_iff.1 hs).1 (by omega)
    rw [(h5 i s hs).1] at this
    rwa [show off + (1 * i + 0) = off + i by omega] at this
theorem rows_ints {W : World} {ok : Nat → Prop} {ss : List Int} {v : Value} (h : RowsAt 1 (fun s c => c 0 = .int .i64 s ∧ (Lit.int .i64 s).wf = true) W ok ss v) : IntsAt W ok ss v := by
  obtain ⟨A, cap, c, h1, h2, h3, h4, h5⟩ := h
  refine ⟨A, cap, h1, h2, h3, fun s hs => ?_, fun hp => ?_⟩
  · obtain ⟨i, hi⟩ := List.mem_iff_getElem?.1 hs
    exact (h5 i s hi).2
  · obtain ⟨g, off, e, hg, hc⟩ := h4 hp
    refine ⟨g, off, e, hg, fun i s hs => ?_⟩
    have := hc i 0 (List.getElem?_eq_some_iff.1 hs).1 (by omega)
    rw [(h5 i s hs).1] at this
    rwa [show off + (1 * i + 0) = off + i by omega] at this
theorem open_strs {H : Type} {enc : TypeId × Value → H} {W : World} {fuel : Nat} {cs : List Value} {x : DataW H × List MemPlace} (h : DataW.trod enc Try.prog W 0 (fun _ => true) true fuel 22 cs = some x) : ∃ ss v, cs = [v] ∧ StrsAt W (fun b => b < W.heap.size) ss v ∧ wsum (fun s => s.size + 1) ss + 1 ≤ Rows.uptoBulk x.1 := by
  obtain ⟨ss, v, h1, h2, h3⟩ := open_rows Try.underlying22 (k := 1) (by kernel_rfl) (by omega) (fun s c => c 0 = .string s ∧ s.size ≤ maxLen) (fun s => s.size + 1) (fun n _ cs x hx => by
    obtain ⟨s, rfl, rfl, hs⟩ := DataW.trod_string Try.underlying9 hx
    exact ⟨s, fun _ => .string s, rfl, ⟨rfl, hs⟩, by simp [Rows.uptoBulk]⟩) h
  exact ⟨ss, v, h1, rows_strs h2, h3⟩
theorem open_ints64 {H : Type} {enc : TypeId × Value → H} {W : World} {fuel : Nat} {cs : List Value} {x : DataW H × List MemPlace} (h : DataW.trod enc Try.prog W 0 (fun _ => true) true fuel 24 cs = some x) : ∃ ss v, cs = [v] ∧ IntsAt W (fun b => b < W.heap.size) ss v ∧ wsum (fun _ => 1) ss + 1 ≤ Rows.uptoBulk x.1 := by
  obtain ⟨ss, v, h1, h2, h3⟩ := open_rows Try.underlying24 (k := 1) (by kernel_rfl) (by omega) (fun s c => c 0 = .int .i64 s ∧ (Lit.int .i64 s).wf = true) (fun _ => 1) (fun n _ cs x hx => by
    obtain ⟨s, rfl, rfl, hs⟩ := DataW.trod_int Try.underlying3 hx
    exact ⟨s, fun _ => .int .i64 s, rfl, ⟨rfl, hs⟩, by simp [Rows.uptoBulk]⟩) h
  exact ⟨ss, v, h1, rows_ints h2, h3⟩
def fdw (f : Fd) : Nat := f.dflt.size + 1
set_option maxRecDepth 100000 in
theorem open_fd {H : Type} {enc : TypeId × Value → H} {W : World} {fuel : Nat} {cs : List Value} {x : DataW H × List MemPlace} (h : DataW.trod enc Try.prog W 0 (fun _ => true) true fuel 28 cs = some x) : ∃ f c, cs = (List.range 5).map c ∧ FdIn W (fun b => b < W.heap.size) f c ∧ fdw f ≤ Rows.uptoBulk x.1 := by
  obtain ⟨xs, n, hn, hx, hl, hxl, hf⟩ := DataW.trod_struct Try.underlying28 h
  have c5 : Try.prog.cellsOf 28 = 5 := by kernel_rfl
  have c3 : Try.prog.cellsOf 3 = 1 := by kernel_rfl
  have c4 : Try.prog.cellsOf 4 = 1 := by kernel_rfl
  have c9 : Try.prog.cellsOf 9 = 1 := by kernel_rfl
  have ck : Try.prog.cellsOf 22 = 1 := by kernel_rfl
  rw [c5] at hl
  match cs, hl, xs, hxl with
  | [v0, v1, v2, v3, v4], _, [y0, y1, y2, y3, y4], _ =>
    have g0 := hf 0 _ rfl
    have g1 := hf 1 _ rfl
    have g2 := hf 2 _ rfl
    have g3 := hf 3 _ rfl
    have g4 := hf 4 _ rfl
    simp [c3, c4, c9, ck] at g0 g1 g2 g3 g4
    obtain ⟨s0, e0, d0, w0⟩ := DataW.trod_string Try.underlying9 g0
    obtain ⟨al, u1, e1, w1, b1⟩ := open_strs g1
    obtain ⟨t2, e2, d2, w2⟩ := DataW.trod_int Try.underlying3 g2
    obtain ⟨t3, e3, d3⟩ := DataW.trod_bool Try.underlying4 g3
    obtain ⟨s4, e4, d4, w4⟩ := DataW.trod_string Try.underlying9 g4
    simp only [List.cons.injEq, and_true] at e0 e1 e2 e3 e4
    subst e0; subst e1; subst e2; subst e3; subst e4; subst d0; subst d2; subst d3; subst d4
    refine ⟨⟨s0, al, t2, t3, s4⟩, fun j => if j = 0 then .string s0 else if j = 1 then v1 else if j = 2 then .int .i64 t2 else if j = 3 then .bool t3 else .string s4, rfl, ⟨rfl, w1, rfl, rfl, rfl, w2, w0, w4⟩, ?_⟩
    subst hx
    have : s4.data.toList.length = s4.size := by rw [Array.length_toList]; rfl
    simp only [List.map_cons, List.map_nil, Rows.uptoBulk, Rows.uptoBulkAll, fdw]
    omega
def ndw (n : Nd) : Nat := wsum fdw n.fs + wsum (fun s => s.size + 1) n.sy + wsum (fun _ => 1) n.br + 1
set_option maxRecDepth 100000 in
theorem open_nd {H : Type} {enc : TypeId × Value → H} {W : World} {fuel : Nat} {cs : List Value} {x : DataW H × List MemPlace} (h : DataW.trod enc Try.prog W 0 (fun _ => true) true fuel 26 cs = some x) : ∃ f c, cs = (List.range 10).map c ∧ NdIn W (fun b => b < W.heap.size) f c ∧ ndw f ≤ Rows.uptoBulk x.1 := by
  obtain ⟨xs, n, hn, hx, hl, hxl, hf⟩ := DataW.trod_struct Try.underlying26 h
  have c10 : Try.prog.cellsOf 26 = 10 := by kernel_rfl
  have c3 : Try.prog.cellsOf 3 = 1 := by kernel_rfl
  have c4 : Try.prog.cellsOf 4 = 1 := by kernel_rfl
  have c9 : Try.prog.cellsOf 9 = 1 := by kernel_rfl
  have ck : Try.prog.cellsOf 22 = 1 := by kernel_rfl
  have cf : Try.prog.cellsOf 23 = 1 := by kernel_rfl
  have ci : Try.prog.cellsOf 24 = 1 := by kernel_rfl
  rw [c10] at hl
  match cs, hl, xs, hxl with
  | [v0, v1, v2, v3, v4, v5, v6, v7, v8, v9], _, [y0, y1, y2, y3, y4, y5, y6, y7, y8, y9], _ =>
    have g0 := hf 0 _ rfl
    have g1 := hf 1 _ rfl
    have g2 := hf 2 _ rfl
    have g3 := hf 3 _ rfl
    have g4 := hf 4 _ rfl
    have g5 := hf 5 _ rfl
    have g6 := hf 6 _ rfl
    have g7 := hf 7 _ rfl
    have g8 := hf 8 _ rfl
    have g9 := hf 9 _ rfl
    simp [c3, c4, c9, ck, cf, ci] at g0 g1 g2 g3 g4 g5 g6 g7 g8 g9
    obtain ⟨t0, e0, d0, w0⟩ := DataW.trod_int Try.underlying3 g0
    obtain ⟨s1, e1, d1, w1⟩ := DataW.trod_string Try.underlying9 g1
    obtain ⟨al, u2, e2, w2, b2⟩ := open_strs g2
    obtain ⟨fs, u3, e3, w3, b3⟩ := open_rows Try.underlying23 (k := 5) (by kernel_rfl) (by omega) (FdIn W (fun b => b < W.heap.size)) fdw (fun n _ cs x hx => open_fd hx) g3
    obtain ⟨sy, u4, e4, w4, b4⟩ := open_strs g4
    obtain ⟨t5, e5, d5⟩ := DataW.trod_bool Try.underlying4 g5
    obtain ⟨s6, e6, d6, w6⟩ := DataW.trod_string Try.underlying9 g6
    obtain ⟨t7, e7, d7, w7⟩ := DataW.trod_int Try.underlying3 g7
    obtain ⟨br, u8, e8, w8, b8⟩ := open_ints64 g8
    obtain ⟨t9, e9, d9, w9⟩ := DataW.trod_int Try.underlying3 g9
    simp only [List.cons.injEq, and_true] at e0 e1 e2 e3 e4 e5 e6 e7 e8 e9
    subst e0; subst e1; subst e2; subst e3; subst e4; subst e5; subst e6; subst e7; subst e8; subst e9; subst d0; subst d1; subst d5; subst d6; subst d7; subst d9
    refine ⟨⟨t0, s1, al, fs, sy, t5, s6, t7, br, t9⟩, fun j => if j = 0 then .int .i64 t0 else if j = 1 then .string s1 else if j = 2 then v2 else if j = 3 then v3 else if j = 4 then v4 else if j = 5 then .bool t5 else if j = 6 then .string s6 else if j = 7 then .int .i64 t7 else if j = 8 then v8 else .int .i64 t9, rfl, ⟨rfl, rfl, w2, w3, w4, rfl, rfl, rfl, w8, rfl, w0, w7, w9, w1, w6⟩, ?_⟩
    subst hx
    simp only [List.map_cons, List.map_nil, Rows.uptoBulk, Rows.uptoBulkAll, ndw]
    omega
set_option maxRecDepth 100000 in
/-- The argument opened. -/
theorem open_schema {H : Type} {enc : TypeId × Value → H} {W : World} {base : Nat} {v : Value} {d : DataW H} {ps : List MemPlace} (hval : Value.okWide Try.prog W .any base 35 v)
    (h : DataW.Trod enc Try.prog W 0 (fun _ => true) true 35 v d ps) : ∃ ns vs, v = .agg #[vs] ∧ NdsAt W (fun b => b < W.heap.size) ns vs ∧ wsum ndw ns ≤ Rows.uptoBulk d := by
  obtain ⟨fuel, hf⟩ := h
  obtain ⟨xs, n, hn, hx, hl, hxl, hfs⟩ := DataW.trod_struct Try.underlying35 hf
  have c1 : Try.prog.cellsOf 35 = 1 := by kernel_rfl
  have c2 : Try.prog.cellsOf 33 = 1 := by kernel_rfl
  rw [c1] at hl
  obtain ⟨cs, rfl, _⟩ := WideShapes.okWide_struct Try.underlying35 hval
  have hl' : cs.toList.length = 1 := by simpa [Value.cells] using hl
  match hcs : cs.toList, hl', xs, hxl with
  | [v0], _, [y0], _ =>
    have g0 := hfs 0 _ rfl
    have hcc : (Value.agg cs).cells.toList = [v0] := by simpa [Value.cells] using hcs
    simp [hcc, c2] at g0
    obtain ⟨ns, u, e, w, b⟩ := open_rows Try.underlying33 (k := 10) (by kernel_rfl) (by omega) (NdIn W (fun b => b < W.heap.size)) ndw (fun n _ cs x hx => open_nd hx) g0
    simp only [List.cons.injEq, and_true] at e
    subst e
    refine ⟨ns, v0, by rw [← hcs], w, ?_⟩
    have hd := congrArg Prod.fst hx
    simp only at hd
    subst hd
    simp only [List.map_cons, List.map_nil, Rows.uptoBulk, Rows.uptoBulkAll]
    omega
set_option maxRecDepth 100000 in
theorem open_node {H : Type} {enc : TypeId × Value → H} {W : World} {base : Nat} {v : Value} {d : DataW H} {ps : List MemPlace} (hval : Value.okWide Try.prog W .any base 26 v)
    (h : DataW.Trod enc Try.prog W 0 (fun _ => true) true 26 v d ps) : ∃ n c, v = ndv c ∧ NdIn W (fun b => b < W.heap.size) n c := by
  obtain ⟨fuel, hf⟩ := h
  obtain ⟨cs, rfl, _⟩ := WideShapes.okWide_struct Try.underlying26 hval
  obtain ⟨n, c, hcs, hn, _⟩ := open_nd hf
  refine ⟨n, c, ?_, hn⟩
  have hcc : (Value.agg cs).cells = cs := by simp [Value.cells]
  rw [hcc] at hcs
  have : cs = #[c 0, c 1, c 2, c 3, c 4, c 5, c 6, c 7, c 8, c 9] := by rw [← Array.toList_inj, hcs]; rfl
  rw [this]
set_option maxRecDepth 100000 in
theorem open_field {H : Type} {enc : TypeId × Value → H} {W : World} {base : Nat} {v : Value} {d : DataW H} {ps : List MemPlace} (hval : Value.okWide Try.prog W .any base 28 v)
    (h : DataW.Trod enc Try.prog W 0 (fun _ => true) true 28 v d ps) : ∃ f c, v = fdv c ∧ FdIn W (fun b => b < W.heap.size) f c := by
  obtain ⟨fuel, hf⟩ := h
  obtain ⟨cs, rfl, _⟩ := WideShapes.okWide_struct Try.underlying28 hval
  obtain ⟨n, c, hcs, hn, _⟩ := open_fd hf
  refine ⟨n, c, ?_, hn⟩
  have hcc : (Value.agg cs).cells = cs := by simp [Value.cells]
  rw [hcc] at hcs
  have : cs = #[c 0, c 1, c 2, c 3, c 4] := by rw [← Array.toList_inj, hcs]; rfl
  rw [this]
end Go.Proofs.Ytjfmoookjgbfoaa
