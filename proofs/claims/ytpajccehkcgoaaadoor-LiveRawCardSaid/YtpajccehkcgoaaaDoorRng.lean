/-
  A loop that ranges over a function which keeps a list of its own in memory, and writes into it between two rounds.
-/
import Derived.Test.YtpajccehkcgoaaaDoorRow
import Derived.Sort.LoopGhostIn
import Derived.Maps.AppendAt
import Derived.RangeFuncNested
import Derived.RangeFuncBound
import Derived.RangeFuncCalls
import Derived.RangeFuncLeaves
import Derived.Shelf.Abstract
import Derived.Shelf.RegionOpen
import Derived.OwnWalkIn
import Derived.TacticsInMore
import Derived.LoopNIn
import Derived.LoopIn
namespace Go.Proofs.YtpajccehkcgoaaaDoor
open Go.RowKit Go.Shelf

theorem blk_lt {w : World} {g : Nat} {o : Obj} (h : w.heap[g]? = some o) : g < w.heap.size := by
  rcases Nat.lt_or_ge g w.heap.size with hlt | hge
  · exact hlt
  · rw [Array.getElem?_eq_none hge] at h; cases h
/-- Blocks of which ok holds are as they were. -/
structure Fr (w w' : World) (ok : Nat → Prop) : Prop where
  os : w'.os = w.os
  tape : w'.tape = w.tape
  output : w'.output = w.output
  size : w.heap.size ≤ w'.heap.size
  block : ∀ k, k < w.heap.size → ok k → w'.heap[k]? = w.heap[k]?
section
variable {w w' w'' : World} {ok ok' : Nat → Prop}
theorem Fr.refl (w : World) (ok : Nat → Prop) : Fr w w ok := ⟨rfl, rfl, rfl, Nat.le_refl _, fun _ _ _ => rfl⟩
theorem Fr.trans (h : Fr w w' ok) (k : Fr w' w'' ok) : Fr w w'' ok :=
  ⟨k.os.trans h.os, k.tape.trans h.tape, k.output.trans h.output, Nat.le_trans h.size k.size, fun i hi ho => (k.block i (by have := h.size; omega) ho).trans (h.block i hi ho)⟩
theorem Fr.mono (h : Fr w w' ok) (hk : ∀ b, b < w.heap.size → ok' b → ok b) : Fr w w' ok' := ⟨h.os, h.tape, h.output, h.size, fun i hi ho => h.block i hi (hk i hi ho)⟩
theorem Fr.of {row : Option Nat} (h : w.grownBy w' row) (hk : ∀ b, b < w.heap.size → ok b → some b ≠ row) : Fr w w' ok := ⟨h.os, h.tape, h.output, h.size, fun i hi ho => h.block i hi (hk i hi ho)⟩
theorem Fr.grown {row : Option Nat} (h : Fr w w' ok) (hk : ∀ b, b < w.heap.size → some b ≠ row → ok b) : w.grownBy w' row := ⟨h.os, h.tape, h.output, h.size, fun i hi ho => h.block i hi (hk i hi ho)⟩
theorem Fr.cell (h : Fr w w' ok) {b o : Nat} {v : Value} (hc : w.cell? ⟨b, o, none⟩ = some v) (hb : ok b) : w'.cell? ⟨b, o, none⟩ = some v :=
  (World.cell?_of_block (h.block b (World.block_lt_of_cell? w ⟨b, o, none⟩ hc) hb)).trans hc
theorem Fr.at (h : Fr w w' ok) {b : Nat} {o : Obj} (hc : w.heap[b]? = some o) (hb : ok b) : w'.heap[b]? = some o := (h.block b (blk_lt hc) hb).trans hc
theorem Fr.drewN (h : Fr w w' ok) (n : Nat) : Fr w (w'.drewN n) ok := ⟨h.os, h.tape, h.output, h.size, h.block⟩
theorem Fr.alloc (h : Fr w w' ok) (o : Obj) : Fr w (w'.alloc o) ok := h.trans (Fr.of (World.grownBy_alloc w' o none) (fun _ _ _ => by simp))
end
/-- It abides new blocks, and stores into rows from b on. -/
def StC {β : Type} (b : Nat) (J : β → World → Prop) : Prop :=
  ∀ s A A' row, J s A → A.grownBy A' row → (∀ r, row = some r → b ≤ r ∧ ∃ o : Obj, A.heap[r]? = some o ∧ o.isCells = true) → J s A'
theorem StC.mono {β : Type} {b b' : Nat} {J : β → World → Prop} (h : StC b J) (hb : b ≤ b') : StC b' J := fun s A A' row hs hg hr => h s A A' row hs hg (fun r e => ⟨Nat.le_trans hb (hr r e).1, (hr r e).2⟩)
/-- What such a function does, called with a loop's own body. -/
def ItC {α : Type} (F : Fence) (n : Nat) (P : Program) (gf : Nat) (lb : Array Value) (encs : α → Array Value) (xs : List α) (w : World) : Prop :=
  ∀ (l : Nat) (J Jx : List α → World → Prop) (W : World), Below w.heap.size w W → l < W.heap.size → w.heap.size ≤ l → StC W.heap.size J → StC W.heap.size Jx →
    (∀ pre x rest W1, J pre W1 → xs = pre ++ x :: rest → YieldAt F (n - 1) P l (encs x) W1 fun e W' =>
      (e = .returned (.bool true) ∧ J (pre ++ [x]) W' ∧ Fr W1 W' (fun k => k ≠ l)) ∨ (e = .returned (.bool false) ∧ Jx (pre ++ [x]) W')) →
    J [] W → CallsIn F n P gf (#[.func (.yield l) #[] #[]] ++ lb) W fun e W' => (∃ v, e = .returned v) ∧ (J xs W' ∨ ∃ pre rest, xs = pre ++ rest ∧ Jx pre W')

/-- How the body of a round may be left: on, or by a return. -/
def retPost {α : Type} (l : Nat) (I Ix : List α → World → Prop) (xs : List α) (W : World) : Exit → Act → World → Prop
  | .normal, _, W' => Fr W W' (fun k => k ≠ l) ∧ W'.heap[l]? = W.heap[l]? ∧ I xs W'
  | .ret, _, W' => W'.heap[l]? = W.heap[l]? ∧ W'.heap[l - 1]? = W.heap[l - 1]? ∧ Ix xs W'
  | _, _, _ => False

theorem fr_put (W : World) (l : Nat) (o : Obj) : Fr W (W.putObj l o) (fun k => k ≠ l) := Fr.of (grownBy_putObj' W l o) (fun b _ hb e => hb (by cases e; rfl))
theorem put_same {W : World} {l : Nat} {o o' : Obj} (h : W.heap[l]? = some o) : (W.putObj l o').heap[l]? = some o' := World.putObj_heap_same (blk_lt h)
theorem put_other {W : World} {l k : Nat} {o' : Obj} (h : k ≠ l) : (W.putObj l o').heap[k]? = W.heap[k]? := World.putObj_heap_other h
theorem rows_apart {A A' : World} {row : Option Nat} {b k : Nat} {o : Obj} (hg : A.grownBy A' row) (hr : ∀ r, row = some r → b ≤ r ∧ ∃ o : Obj, A.heap[r]? = some o ∧ o.isCells = true) (h : A.heap[k]? = some o) (ho : o.isCells = false) : A'.heap[k]? = some o :=
  (hg.block k (blk_lt h) (fun e => by obtain ⟨_, o', h1, h2⟩ := hr k e.symm; rw [h] at h1; cases h1; rw [ho] at h2; cases h2)).trans h

/-- THE LOOP: its body goes on, or returns. -/
theorem range_ret {α : Type} {F : Fence} {n : Nat} {P : Program} {g : Operand} {ps : Array Tmp} {assign body : Code} {Q : Exit → Act → World → Prop} {a : Act} {w : World} (hro : F.round = none) (h1 : 1 ≤ n) {gf : Nat} {lb : Array Value}
    (hg : a.eval g = .func (.func gf) #[] lb) (hFg : F.fn gf) (eg : ∀ args w, (callFunc gf args).run P w = .ok (.enter gf args) w) {encs : α → Array Value} (hps : ∀ x, (encs x).size = ps.size) {xs : List α} (hit : ItC F (n - 1) P gf lb encs xs w)
    (I Ix : List α → World → Prop) (hI : OwnFrom w.heap.size I) (hI2 : StC (w.heap.size + 2) I) (hX : OwnFrom w.heap.size Ix) (hX2 : StC (w.heap.size + 2) Ix) (h0 : I [] w)
    (hround : ∀ pre x rest W, xs = pre ++ x :: rest → I pre W → w.heap.size + 1 < W.heap.size → assign.wpIn (F.inRound (w.heap.size + 1)) (n - 1 - 1) P
      (Exit.then (fun a1 W1 => Fr W W1 (fun _ => True) ∧ I pre W1 ∧ ∀ W2, Fr W1 W2 (fun k => k ≠ w.heap.size + 1) → (∃ o : Obj, W2.heap[w.heap.size + 1]? = some o ∧ o.isCells = false) → I pre W2 → body.wpIn (F.inRound (w.heap.size + 1)) (n - 1 - 1) P (retPost (w.heap.size + 1) I Ix (pre ++ [x]) W2) a1 W2) (fun _ _ _ => False))
      { tmps := (ps.zip (encs x)).foldl (fun t (p, v) => t.setIfInBounds p v) a.tmps, defers := [] } W)
    (hdone : ∀ W, I xs W → W.heap[w.heap.size]? = some (.deferred (some [])) → Q .normal { a with defers := { target := .collected w.heap.size, args := #[] } :: a.defers } W)
    (hstop : ∀ pre rest W, xs = pre ++ rest → Ix pre W → W.heap[w.heap.size]? = some (.deferred (some [])) → Code.ret.wpIn F n P Q { a with defers := { target := .collected w.heap.size, args := #[] } :: a.defers } W) :
    (Code.rangeFunc g ps assign body).wpIn F n P Q a w := by
  refine wpIn_rangeFunc fun fn hfn => ?_
  rw [hro]
  -- the record that the loop keeps, by its state
  let rc : LoopState → Option Code → Obj := fun st pe => .loop { state := st, pending := pe, fn, tmps := a.tmps, params := ps, assign, body, defers := w.heap.size }
  have hd1 : ((w.alloc (.deferred (some []))).alloc (rc .ready none)).heap[w.heap.size]? = some (.deferred (some [])) := (Below.heap_alloc _ _ _ (by simp)).trans (heap_alloc_new w _)
  have hr1 : ((w.alloc (.deferred (some []))).alloc (rc .ready none)).heap[w.heap.size + 1]? = some (rc .ready none) := by
    have := heap_alloc_new (w.alloc (.deferred (some []))) (rc .ready none)
    simpa using this
  have hb1 : Below w.heap.size w ((w.alloc (.deferred (some []))).alloc (rc .ready none)) := ((Below.refl _ w).alloc (Nat.le_refl _) _).alloc (by simp) _
  have hi1 : I [] ((w.alloc (.deferred (some []))).alloc (rc .ready none)) := hI.alloc _ (hI.alloc _ h0)
  refine ⟨w.heap.size + 1, [{ target := .collected w.heap.size, args := #[] }], (w.alloc (.deferred (some []))).alloc (rc .ready none), { target := .fn (.func gf) lb, args := #[.func (.yield (w.heap.size + 1)) #[] #[]] }, (w.alloc (.deferred (some []))).alloc (rc .ready none), gf, #[.func (.yield (w.heap.size + 1)) #[] #[]] ++ lb, (w.alloc (.deferred (some []))).alloc (rc .ready none), run_enterLoop_outer _ _ _ _ _, ?_, ?_, ?_, fun _ => h1, ?_⟩
  · simp only [resolve, hg]
    simp [go_sem]
  · intro f' hf'
    simp [Target.leads] at hf'
    subst hf'
    exact hFg
  · simp [invoke, go_sem, eg]
  · have hsz : ((w.alloc (.deferred (some []))).alloc (rc .ready none)).heap.size = w.heap.size + 2 := by simp
    refine (hit (w.heap.size + 1) (fun pre W => I pre W ∧ W.heap[w.heap.size + 1]? = some (rc .ready none) ∧ W.heap[w.heap.size]? = some (.deferred (some [])))
      (fun pre W => Ix pre W ∧ W.heap[w.heap.size + 1]? = some (rc .done (some .ret)) ∧ W.heap[w.heap.size]? = some (.deferred (some []))) _ hb1 (by rw [hsz]; omega) (by omega) ?_ ?_ ?_ ⟨hi1, hr1, hd1⟩).mono ?_
    · rw [hsz]
      exact fun s A A' row hs hg' hr => ⟨hI2 s A A' row hs.1 hg' hr, rows_apart hg' hr hs.2.1 rfl, rows_apart hg' hr hs.2.2 rfl⟩
    · rw [hsz]
      exact fun s A A' row hs hg' hr => ⟨hX2 s A A' row hs.1 hg' hr, rows_apart hg' hr hs.2.1 rfl, rows_apart hg' hr hs.2.2 rfl⟩
    · -- one round
      rintro pre x rest W ⟨hi, hl, hk⟩ hx
      refine ⟨fn, _, assign, body, run_yield (P := P) (args := encs x) hl (hps x), roundIn_of_wpIn hfn (wpIn_mono (hround pre x rest W hx hi (blk_lt hl)) ?_)⟩
      intro e a1 W1 hp
      cases e with
      | normal =>
        obtain ⟨hf1, hi1', hbody⟩ := hp
        have hl1 := hf1.at hl trivial
        have hk1 := hf1.at hk trivial
        refine ⟨_, run_beginRound hl1 rfl, ?_⟩
        have hl2 : (W1.putObj (w.heap.size + 1) (rc .busy none)).heap[w.heap.size + 1]? = some (rc .busy none) := put_same hl1
        have hk2 : (W1.putObj (w.heap.size + 1) (rc .busy none)).heap[w.heap.size]? = some (.deferred (some [])) := (put_other (by omega)).trans hk1
        refine wpIn_mono (hbody _ (fr_put W1 _ _) ⟨_, hl2, rfl⟩ (hI.putObj _ hi1' (by omega) hl1 rfl)) ?_
        intro e a3 W3 hp3
        cases e with
        | normal =>
          obtain ⟨hf3, hl3, hi3⟩ := hp3
          have hl3' := hl3.trans hl2
          have hk3 := hf3.at hk2 (show w.heap.size ≠ w.heap.size + 1 by omega)
          refine ⟨_, _, run_endRound (P := P) none hl3', .inl ⟨rfl, ⟨hI.putObj _ hi3 (by omega) hl3' rfl, put_same hl3', (put_other (by omega)).trans hk3⟩, ?_⟩⟩
          exact (((hf1.mono (fun _ _ _ => trivial)).trans (fr_put W1 _ _)).trans hf3).trans (fr_put W3 _ _)
        | ret =>
          obtain ⟨hl3, hk3, hi3⟩ := hp3
          have hl3' := hl3.trans hl2
          exact ⟨_, _, run_endRound (P := P) (some .ret) hl3', .inr ⟨rfl, hX.putObj _ hi3 (by omega) hl3' rfl, put_same hl3', (put_other (by omega)).trans (hk3.trans hk2)⟩⟩
        | exit id => exact hp3.elim
        | goto t => exact hp3.elim
        | panic ch => exact hp3.elim
        | outgrown => exact hp3.elim
      | ret => exact hp.elim
      | exit id => exact hp.elim
      | goto t => exact hp.elim
      | panic ch => exact hp.elim
      | outgrown => exact hp.elim
    · rintro e W2 ⟨⟨v, rfl⟩, hfin⟩
      rcases hfin with ⟨hi, hl, hk⟩ | ⟨pre, rest, hx, hi, hl, hk⟩
      · exact ⟨none, _, run_endLoop (P := P) hl (by simp), hdone _ (hI.putObj _ hi (by omega) hl rfl) ((put_other (by omega)).trans hk)⟩
      · exact ⟨some .ret, _, run_endLoop (P := P) hl (by simp), hstop pre rest _ hx (hX.putObj _ hi (by omega) hl rfl) ((put_other (by omega)).trans hk)⟩
theorem below_stc {β : Type} {n₀ B : Nat} {w₀ : World} (hn : n₀ ≤ w₀.heap.size) (hB : n₀ ≤ B) : StC B (fun (_ : β) W => Below n₀ w₀ W) :=
  fun _ _ _ _ hs hg hr => hs.grown hg (Nat.le_trans hn hs.size) (fun k e => Nat.le_trans hB (hr k e).1)
theorem below_fr {w W : World} (h : Below w.heap.size w W) : Fr w W (fun k => k < w.heap.size) := ⟨h.os, h.tape, h.output, h.size, fun k _ hk => h.block k hk⟩
end Go.Proofs.YtpajccehkcgoaaaDoor
