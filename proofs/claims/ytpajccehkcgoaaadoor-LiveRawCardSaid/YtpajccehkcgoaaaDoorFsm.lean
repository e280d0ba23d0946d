/-
  Nodes of a schema in memory.
  'inner': the node that what comes next has to fit.
  Whether a value fits a node, told part by part: the list of what is open against the plain rule.
  The list of what is open, as a row of cells.
-/
import Derived.Test.YtpajccehkcgoaaaDoorUcd
import Derived.Lib.SmallJoins
namespace Go.Proofs.YtpajccehkcgoaaaDoor
open Go.RowKit

structure Fd where
  name : ByteArray
  al : List ByteArray
  ty : Int
  has : Bool
  dflt : ByteArray
structure Nd where
  kind : Int
  name : ByteArray
  al : List ByteArray
  fs : List Fd
  sy : List ByteArray
  has : Bool
  dflt : ByteArray
  items : Int
  br : List Int
  size : Int
instance : Inhabited Fd := ⟨⟨⟨#[]⟩, [], 0, false, ⟨#[]⟩⟩⟩
instance : Inhabited Nd := ⟨⟨0, ⟨#[]⟩, [], [], [], false, ⟨#[]⟩, 0, [], 0⟩⟩
/-- A slice of texts, of numbers. -/
def StrsAt (w : World) (ok : Nat → Prop) (ss : List ByteArray) (v : Value) : Prop :=
  ∃ (A : Option Addr) (cap : Nat), v = .slice A ss.length cap ∧ ss.length ≤ cap ∧ cap ≤ maxLen ∧ (∀ s, s ∈ ss → s.size ≤ maxLen) ∧ (0 < ss.length → ∃ g off, A = some ⟨g, off, none⟩ ∧ ok g ∧ ∀ i s, ss[i]? = some s → w.cell? ⟨g, off + i, none⟩ = some (.string s))
def IntsAt (w : World) (ok : Nat → Prop) (xs : List Int) (v : Value) : Prop :=
  ∃ (A : Option Addr) (cap : Nat), v = .slice A xs.length cap ∧ xs.length ≤ cap ∧ cap ≤ maxLen ∧ (∀ x, x ∈ xs → (Lit.int .i64 x).wf = true) ∧ (0 < xs.length → ∃ g off, A = some ⟨g, off, none⟩ ∧ ok g ∧ ∀ i x, xs[i]? = some x → w.cell? ⟨g, off + i, none⟩ = some (.int .i64 x))
/-- A slice of things that have k cells each. -/
def RowsAt {α : Type} (k : Nat) (one : α → (Nat → Value) → Prop) (w : World) (ok : Nat → Prop) (xs : List α) (v : Value) : Prop :=
  ∃ (A : Option Addr) (cap : Nat) (c : Nat → Nat → Value), v = .slice A xs.length cap ∧ xs.length ≤ cap ∧ cap ≤ maxLen ∧ (0 < xs.length → ∃ g off, A = some ⟨g, off, none⟩ ∧ ok g ∧ ∀ i j, i < xs.length → j < k → w.cell? ⟨g, off + (k * i + j), none⟩ = some (c i j)) ∧ ∀ i x, xs[i]? = some x → one x (c i)
structure FdIn (w : World) (ok : Nat → Prop) (f : Fd) (c : Nat → Value) : Prop where
  name : c 0 = .string f.name
  al : StrsAt w ok f.al (c 1)
  ty : c 2 = .int .i64 f.ty
  has : c 3 = .bool f.has
  dflt : c 4 = .string f.dflt
  tyw : (Lit.int .i64 f.ty).wf = true
  namel : f.name.size ≤ maxLen
  dfltl : f.dflt.size ≤ maxLen
structure NdIn (w : World) (ok : Nat → Prop) (n : Nd) (c : Nat → Value) : Prop where
  kind : c 0 = .int .i64 n.kind
  name : c 1 = .string n.name
  al : StrsAt w ok n.al (c 2)
  fs : RowsAt 5 (FdIn w ok) w ok n.fs (c 3)
  sy : StrsAt w ok n.sy (c 4)
  has : c 5 = .bool n.has
  dflt : c 6 = .string n.dflt
  items : c 7 = .int .i64 n.items
  br : IntsAt w ok n.br (c 8)
  size : c 9 = .int .i64 n.size
  kindw : (Lit.int .i64 n.kind).wf = true
  itemsw : (Lit.int .i64 n.items).wf = true
  sizew : (Lit.int .i64 n.size).wf = true
  namel : n.name.size ≤ maxLen
  dfltl : n.dflt.size ≤ maxLen
abbrev NdsAt (w : World) (ok : Nat → Prop) (ns : List Nd) (v : Value) : Prop := RowsAt 10 (NdIn w ok) w ok ns v

section
variable {w w' : World} {ok ok' : Nat → Prop}
theorem StrsAt.fr (hf : Fr w w' ok') (hk : ∀ b, ok b → ok' b) {ss : List ByteArray} {v : Value} (h : StrsAt w ok ss v) : StrsAt w' ok ss v := by
  obtain ⟨A, cap, h1, h2, h3, h4, h5⟩ := h
  exact ⟨A, cap, h1, h2, h3, h4, fun hp => by obtain ⟨g, off, e, hg, hc⟩ := h5 hp; exact ⟨g, off, e, hg, fun i s hs => hf.cell (hc i s hs) (hk g hg)⟩⟩
theorem IntsAt.fr (hf : Fr w w' ok') (hk : ∀ b, ok b → ok' b) {xs : List Int} {v : Value} (h : IntsAt w ok xs v) : IntsAt w' ok xs v := by
  obtain ⟨A, cap, h1, h2, h3, h4, h5⟩ := h
  exact ⟨A, cap, h1, h2, h3, h4, fun hp => by obtain ⟨g, off, e, hg, hc⟩ := h5 hp; exact ⟨g, off, e, hg, fun i s hs => hf.cell (hc i s hs) (hk g hg)⟩⟩
theorem RowsAt.fr {α : Type} {k : Nat} {one one' : α → (Nat → Value) → Prop} (hf : Fr w w' ok') (hk : ∀ b, ok b → ok' b) (ho : ∀ x c, one x c → one' x c) {xs : List α} {v : Value} (h : RowsAt k one w ok xs v) : RowsAt k one' w' ok xs v := by
  obtain ⟨A, cap, c, h1, h2, h3, h4, h5⟩ := h
  exact ⟨A, cap, c, h1, h2, h3, fun hp => by obtain ⟨g, off, e, hg, hc⟩ := h4 hp; exact ⟨g, off, e, hg, fun i j hi hj => hf.cell (hc i j hi hj) (hk g hg)⟩, fun i x hx => ho x _ (h5 i x hx)⟩
theorem FdIn.fr (hf : Fr w w' ok') (hk : ∀ b, ok b → ok' b) {f : Fd} {c : Nat → Value} (h : FdIn w ok f c) : FdIn w' ok f c :=
  ⟨h.name, h.al.fr hf hk, h.ty, h.has, h.dflt, h.tyw, h.namel, h.dfltl⟩
theorem NdIn.fr (hf : Fr w w' ok') (hk : ∀ b, ok b → ok' b) {n : Nd} {c : Nat → Value} (h : NdIn w ok n c) : NdIn w' ok n c :=
  ⟨h.kind, h.name, h.al.fr hf hk, h.fs.fr hf hk (fun _ _ hx => hx.fr hf hk), h.sy.fr hf hk, h.has, h.dflt, h.items, h.br.fr hf hk, h.size, h.kindw, h.itemsw, h.sizew, h.namel, h.dfltl⟩
theorem nds_fr (hf : Fr w w' ok') (hk : ∀ b, ok b → ok' b) {ns : List Nd} {v : Value} (h : NdsAt w ok ns v) : NdsAt w' ok ns v := RowsAt.fr hf hk (fun _ _ hx => hx.fr hf hk) h
end
end Go.Proofs.YtpajccehkcgoaaaDoor

namespace Go.Proofs.YtpajccehkcgoaaaDoor
open Go.RowKit

def innerM (n : Nd) (num : Int) (nx : Nat) : Option Int :=
  if n.kind = 9 then (n.fs[nx]?).map (·.ty)
  else if n.kind = 13 then (if 0 ≤ num then n.br[num.toNat]? else none)
  else some n.items
abbrev ndv (c : Nat → Value) : Value := .agg #[c 0, c 1, c 2, c 3, c 4, c 5, c 6, c 7, c 8, c 9]
theorem cells_10 {w : World} {b : Nat} {c : Nat → Value} {e : TypeId} (h : w.heap[b]? = some (.cells #[c 0, c 1, c 2, c 3, c 4, c 5, c 6, c 7, c 8, c 9] e (0, 0))) :
    w.cell? ⟨b, 0, none⟩ = some (c 0) ∧ w.cell? ⟨b, 1, none⟩ = some (c 1) ∧ w.cell? ⟨b, 2, none⟩ = some (c 2) ∧ w.cell? ⟨b, 3, none⟩ = some (c 3) ∧ w.cell? ⟨b, 4, none⟩ = some (c 4) ∧
    w.cell? ⟨b, 5, none⟩ = some (c 5) ∧ w.cell? ⟨b, 6, none⟩ = some (c 6) ∧ w.cell? ⟨b, 7, none⟩ = some (c 7) ∧ w.cell? ⟨b, 8, none⟩ = some (c 8) ∧ w.cell? ⟨b, 9, none⟩ = some (c 9) :=
  ⟨cell_of_row w b 0 _ _ _ h, cell_of_row w b 1 _ _ _ h, cell_of_row w b 2 _ _ _ h, cell_of_row w b 3 _ _ _ h, cell_of_row w b 4 _ _ _ h, cell_of_row w b 5 _ _ _ h, cell_of_row w b 6 _ _ _ h, cell_of_row w b 7 _ _ _ h, cell_of_row w b 8 _ _ _ h, cell_of_row w b 9 _ _ _ h⟩

set_option maxRecDepth 100000 in
set_option maxHeartbeats 2000000 in
theorem inner_any (nd : Nd) (c : Nat → Value) (w : World) (ok : Nat → Prop) (hn : NdIn w ok nd c) (a num : Int) (nx : Nat) (r : Int) (hr : innerM nd num nx = some r) :
    Calls Tryd.prog 48 #[.agg #[.int .i64 a, .int .i64 num, .int .i64 nx], ndv c] w fun e w' => e = .returned (.int .i64 r) ∧ Below w.heap.size w w' := by
  obtain ⟨W0, hW0⟩ : ∃ W0, (w.alloc (.cells #[.int .i64 a, .int .i64 num, .int .i64 nx] 116)).alloc (.cells #[c 0, c 1, c 2, c 3, c 4, c 5, c 6, c 7, c 8, c 9] 30) = W0 := ⟨_, rfl⟩
  have hb0 : Below w.heap.size w W0 := by rw [← hW0]; exact ((Below.refl _ w).alloc (Nat.le_refl _) _).alloc (by simp) _
  have hA : W0.heap[w.heap.size]? = some (.cells #[.int .i64 a, .int .i64 num, .int .i64 nx] 116 (0, 0)) := by rw [← hW0]; exact old_at _ (new_at rfl _)
  have hB : W0.heap[w.heap.size + 1]? = some (.cells #[c 0, c 1, c 2, c 3, c 4, c 5, c 6, c 7, c 8, c 9] 30 (0, 0)) := by rw [← hW0]; exact new_at (by simp) _
  have p1 : W0.cell? ⟨w.heap.size, 1, none⟩ = some (.int .i64 num) := cell_of_row _ _ 1 _ _ _ hA
  have p2 : W0.cell? ⟨w.heap.size, 2, none⟩ = some (.int .i64 nx) := cell_of_row _ _ 2 _ _ _ hA
  obtain ⟨q0, _, _, q3, _, _, _, q7, q8, _⟩ := cells_10 hB
  have hn0 := hn.fr (below_fr0 hb0) (fun _ _ => trivial)
  rw [hn.kind] at q0
  rw [hn.items] at q7
  obtain ⟨Af, capf, cf, hf1, hf2, hf3, hf4, hf5⟩ := hn0.fs
  obtain ⟨Ab, capb, hb1, hb2, hb3, hb4, hb5⟩ := hn0.br
  rw [hf1] at q3
  rw [hb1] at q8
  have HF4 := Lib.hid hf4
  have HF5 := Lib.hid hf5
  have HB5 := Lib.hid hb5
  have HB0 := Lib.hid hb0
  clear hn hn0 hA hB hf4 hf5 hb5 hb0 hb4 hf1 hb1
  unfold innerM at hr
  by_cases h9 : nd.kind = 9
  · rw [if_pos h9] at hr
    rw [h9] at q0
    obtain ⟨f, hfx, rfl⟩ := Option.map_eq_some_iff.1 hr
    have hlt := (List.getElem?_eq_some_iff.1 hfx).1
    obtain ⟨g, off, rfl, _, hcf⟩ := HF4.out (by omega)
    have x2 : W0.cell? ⟨g, off + nx * 5 + 2, none⟩ = some (.int .i64 f.ty) := by
      have := hcf nx 2 hlt (by omega)
      rw [(HF5.out nx f hfx).ty] at this
      rwa [show off + (5 * nx + 2) = off + nx * 5 + 2 by omega] at this
    have hnx : (nx : Int) < (nd.fs.length : Int) := by omega
    clear hcf hfx hr h9 HF4 HF5 HB5
    generalize nd.fs.length = nf at *
    generalize f.ty = ty at *
    go_enter Tryd.func48, Tryd.ntmps48
    go_wp2
    go_ret
    exact ⟨rfl, HB0.out⟩
  · rw [if_neg h9] at hr
    by_cases h13 : nd.kind = 13
    · rw [if_pos h13] at hr
      rw [h13] at q0
      by_cases hp : 0 ≤ num
      · rw [if_pos hp] at hr
        have hlt := (List.getElem?_eq_some_iff.1 hr).1
        obtain ⟨g, off, rfl, _, hcf⟩ := HB5.out (by omega)
        obtain ⟨m, rfl⟩ : ∃ m : Nat, num = m := ⟨num.toNat, by omega⟩
        simp only [Int.toNat_natCast] at hr hlt
        have x2 : W0.cell? ⟨g, off + m, none⟩ = some (.int .i64 r) := hcf m r hr
        have hnx : (m : Int) < (nd.br.length : Int) := by omega
        clear hcf hr h13 h9 HF4 HF5 HB5
        generalize nd.br.length = nf at *
        go_enter Tryd.func48, Tryd.ntmps48
        go_wp2
        go_ret
        exact ⟨rfl, HB0.out⟩
      · rw [if_neg hp] at hr
        cases hr
    · rw [if_neg h13] at hr
      cases hr
      clear HF4 HF5 HB5
      generalize nd.kind = kd at *
      generalize nd.items = it at *
      go_enter Tryd.func48, Tryd.ntmps48
      go_wp2
      go_ret
      exact ⟨rfl, HB0.out⟩
end Go.Proofs.YtpajccehkcgoaaaDoor

namespace Go.Proofs.YtpajccehkcgoaaaDoor

def U.num : U → Int | .mk _ n _ _ _ => n
structure Ent where
  at_ : Nat
  num : Int
  nx : Nat
/-- The node of what comes next, and the list behind it. -/
def nextF (S : List Nd) (node : Int) (way : List Ent) (d : Nat) : Option (Int × List Ent) :=
  if d = 1 then some (node, way) else
    match way[d - 2]? with
    | none => none
    | some e =>
      match S[e.at_]? with
      | none => none
      | some nd =>
        match innerM nd e.num e.nx with
        | none => none
        | some a => some (a, way.set (d - 2) ⟨e.at_, e.num, e.nx + 1⟩)
def stepF (aM : Nd → U → Bool) (S : List Nd) (node : Int) (way : List Ent) (p : Nat × U) : Option (Option (List Ent)) :=
  match nextF S node way p.1 with
  | none => none
  | some (a, way1) =>
    if a < 0 then some none else
      match S[a.toNat]? with
      | none => some none
      | some nd => if aM nd p.2 = true then (if p.1 - 1 ≤ way1.length then some (some (way1.take (p.1 - 1) ++ [⟨a.toNat, p.2.num, 0⟩])) else none) else some none
def foldF (aM : Nd → U → Bool) (S : List Nd) (node : Int) : List Ent → List (Nat × U) → Option (Option (List Ent))
  | way, [] => some (some way)
  | way, p :: r =>
    match stepF aM S node way p with
    | some (some way') => foldF aM S node way' r
    | x => x
mutual
def fitsU (aM : Nd → U → Bool) (S : List Nd) : Int → U → Bool
  | a, .mk k n b l ks => if a < 0 then false else
      match S[a.toNat]? with
      | none => false
      | some nd => aM nd (.mk k n b l ks) && fitsL aM S nd n 0 l
def fitsL (aM : Nd → U → Bool) (S : List Nd) (nd : Nd) (num : Int) : Nat → List U → Bool
  | _, [] => true
  | i, x :: r => (match innerM nd num i with
      | none => false
      | some a => fitsU aM S a x) && fitsL aM S nd num (i + 1) r
end
theorem foldF_app (aM : Nd → U → Bool) (S : List Nd) (node : Int) : ∀ (a b : List (Nat × U)) (way : List Ent), foldF aM S node way (a ++ b) = match foldF aM S node way a with
    | some (some w) => foldF aM S node w b
    | x => x
  | [], b, way => rfl
  | p :: r, b, way => by
    rw [List.cons_append, foldF, foldF]
    cases hs : stepF aM S node way p with
    | none => rfl
    | some x =>
      cases x with
      | none => rfl
      | some w => exact foldF_app aM S node r b w
/-- What the rule of one node answers leaves a node for all that is within. -/
def Leaves (aM : Nd → U → Bool) (S : List Nd) : Prop := ∀ nd u, nd ∈ S → aM nd u = true → ∀ i, i < u.l.length → innerM nd u.num i ≠ none
theorem take_set_self {α : Type} (l : List α) (i : Nat) (x : α) : (l.set i x).take i = l.take i := by
  rw [List.take_set]
  rw [List.set_eq_of_length_le (by simp; omega)]
mutual
theorem fold_pu {aM : Nd → U → Bool} {S : List Nd} {node : Int} (hG : Leaves aM S) : ∀ (z : U) (d : Nat) (way : List Ent) (e : Ent) (nd : Nd) (a : Int), 2 ≤ d → way[d - 2]? = some e → S[e.at_]? = some nd → innerM nd e.num e.nx = some a →
    if fitsU aM S a z = true then ∃ way', foldF aM S node way (pu d z) = some (some way') ∧ way'[d - 2]? = some ⟨e.at_, e.num, e.nx + 1⟩ ∧ way'.take (d - 2) = way.take (d - 2) else foldF aM S node way (pu d z) = some none
  | .mk k n b l ks, d, way, e, nd, a, hd, he, hS, hi => by
    have hlt := (List.getElem?_eq_some_iff.1 he).1
    have hnext : nextF S node way d = some (a, way.set (d - 2) ⟨e.at_, e.num, e.nx + 1⟩) := by
      rw [nextF, if_neg (by omega), he]
      simp only [hS, hi]
    rw [pu, foldF, fitsU, stepF]
    simp only [hnext]
    by_cases ha : a < 0
    · simp [ha]
    · simp only [if_neg ha]
      cases hSa : S[a.toNat]? with
      | none => simp
      | some nd2 =>
        simp only
        cases hal : aM nd2 (U.mk k n b l ks) with
        | false => simp
        | true =>
          simp only [if_true, List.length_set, Bool.true_and]
          rw [if_pos (show d - 1 ≤ way.length by omega)]
          have hw : (way.set (d - 2) ⟨e.at_, e.num, e.nx + 1⟩).take (d - 1) = way.take (d - 2) ++ [⟨e.at_, e.num, e.nx + 1⟩] := by
            rw [show d - 1 = d - 2 + 1 by omega, List.take_add_one, take_set_self, List.getElem?_set_self hlt]
            rfl
          have hl1 : (way.take (d - 2)).length = d - 2 := List.length_take_of_le (by omega)
          have ih := fold_puL (node := node) hG l (d + 1) ((way.set (d - 2) ⟨e.at_, e.num, e.nx + 1⟩).take (d - 1) ++ [⟨a.toNat, n, 0⟩]) a.toNat n 0 nd2 (by omega)
            (by rw [hw]; rw [List.getElem?_append_right (by simp [hl1]; omega)]; simp [hl1]; rw [show d - 1 - (d - 2 + 1) = 0 by omega]; rfl) hSa
            (fun j hj => by have := hG nd2 (.mk k n b l ks) (List.mem_of_getElem? hSa) hal (0 + j) (by simpa [U.l] using hj); exact this)
          by_cases hf : fitsL aM S nd2 n 0 l = true
          · rw [if_pos hf] at ih ⊢
            obtain ⟨w', h1, _, h3⟩ := ih
            refine ⟨w', h1, ?_, ?_⟩
            · have h4 := congrArg (fun l : List Ent => l[d - 2]?) h3
              simp only [List.getElem?_take] at h4
              rw [if_pos (by omega), if_pos (by omega)] at h4
              rw [h4, hw, List.getElem?_append_left (by simp [hl1]), List.getElem?_append_right (by omega)]
              simp [hl1]
            · have h4 := congrArg (List.take (d - 2)) h3
              rw [List.take_take, List.take_take, show min (d - 2) (d + 1 - 1 - 1) = d - 2 by omega] at h4
              rw [h4, hw, List.append_assoc, List.take_append_of_le_length (by omega), List.take_of_length_le (by omega)]
          · rw [if_neg hf] at ih ⊢
            exact ih
theorem fold_puL {aM : Nd → U → Bool} {S : List Nd} {node : Int} (hG : Leaves aM S) : ∀ (l : List U) (d : Nat) (way : List Ent) (at_ : Nat) (num : Int) (i : Nat) (nd : Nd), 2 ≤ d → way[d - 2]? = some ⟨at_, num, i⟩ → S[at_]? = some nd → (∀ j, j < l.length → innerM nd num (i + j) ≠ none) →
    if fitsL aM S nd num i l = true then ∃ way', foldF aM S node way (puL d l) = some (some way') ∧ way'[d - 2]? = some ⟨at_, num, i + l.length⟩ ∧ way'.take (d - 1 - 1) = way.take (d - 1 - 1) else foldF aM S node way (puL d l) = some none
  | [], d, way, at_, num, i, nd, hd, he, hS, hi => by
    rw [fitsL, if_pos rfl, puL]
    exact ⟨way, rfl, he, rfl⟩
  | x :: r, d, way, at_, num, i, nd, hd, he, hS, hi => by
    obtain ⟨a, ha⟩ := Option.ne_none_iff_exists'.1 (hi 0 (by simp))
    have h1 := fold_pu (node := node) hG x d way ⟨at_, num, i⟩ nd a hd he hS ha
    rw [puL, foldF_app, fitsL]
    rw [Nat.add_zero] at ha
    simp only [ha]
    cases hf : fitsU aM S a x with
    | false =>
      rw [hf, if_neg (by simp)] at h1
      rw [h1]
      simp
    | true =>
      rw [hf, if_pos rfl] at h1
      obtain ⟨w1, e1, e2, e3⟩ := h1
      rw [e1]
      simp only [Bool.true_and]
      have h2 := fold_puL (node := node) hG r d w1 at_ num (i + 1) nd hd e2 hS (fun j hj => by have := hi (j + 1) (by simpa using hj); rwa [show i + 1 + j = i + (j + 1) by omega])
      by_cases hr : fitsL aM S nd num (i + 1) r = true
      · rw [if_pos hr] at h2 ⊢
        obtain ⟨w2, f1, f2, f3⟩ := h2
        exact ⟨w2, f1, by rw [f2]; simp; omega, by rw [f3, show d - 1 - 1 = d - 2 by omega, e3]⟩
      · rw [if_neg hr] at h2 ⊢
        exact h2
end
theorem fold_top {aM : Nd → U → Bool} {S : List Nd} {node : Int} (hG : Leaves aM S) : ∀ (z : U), if fitsU aM S node z = true then ∃ way', foldF aM S node [] (pu 1 z) = some (some way') else foldF aM S node [] (pu 1 z) = some none
  | .mk k n b l ks => by
    rw [pu, foldF, fitsU, stepF]
    simp only [nextF, if_true]
    by_cases ha : node < 0
    · simp [ha]
    · simp only [if_neg ha]
      cases hSa : S[node.toNat]? with
      | none => simp
      | some nd2 =>
        simp only
        cases hal : aM nd2 (U.mk k n b l ks) with
        | false => simp
        | true =>
          simp only [if_true, Bool.true_and]
          have ih := fold_puL (node := node) hG l 2 [⟨node.toNat, n, 0⟩] node.toNat n 0 nd2 (by omega) rfl hSa
            (fun j hj => by have := hG nd2 (.mk k n b l ks) (List.mem_of_getElem? hSa) hal (0 + j) (by simpa [U.l] using hj); exact this)
          by_cases hf : fitsL aM S nd2 n 0 l = true
          · rw [if_pos hf] at ih ⊢
            obtain ⟨w', h1, _, _⟩ := ih
            exact ⟨w', by simpa [U.num] using h1⟩
          · rw [if_neg hf] at ih ⊢
            simpa [U.num] using ih
/-- What holds behind each part. -/
theorem fold_at {aM : Nd → U → Bool} {S : List Nd} {node : Int} (hG : Leaves aM S) {z : U} {pre rest : List (Nat × U)} {x : Nat × U} {way : List Ent} (hx : pu 1 z = pre ++ x :: rest) (hf : foldF aM S node [] pre = some (some way)) :
    (∃ way', stepF aM S node way x = some (some way') ∧ foldF aM S node [] (pre ++ [x]) = some (some way')) ∨ (stepF aM S node way x = some none ∧ fitsU aM S node z = false) := by
  have ht := fold_top (node := node) hG z
  rw [hx, foldF_app, hf] at ht
  simp only [foldF] at ht
  cases hs : stepF aM S node way x with
  | none =>
    rw [hs] at ht
    split at ht
    · obtain ⟨_, h⟩ := ht; cases h
    · cases ht
  | some y =>
    cases y with
    | none =>
      refine .inr ⟨rfl, ?_⟩
      rw [hs] at ht
      split at ht
      · obtain ⟨_, h⟩ := ht; cases h
      · rename_i h; simpa using h
    | some way' => exact .inl ⟨way', rfl, by rw [foldF_app, hf]; simp only [foldF, hs]⟩
end Go.Proofs.YtpajccehkcgoaaaDoor

namespace Go.Proofs.YtpajccehkcgoaaaDoor
open Go.RowKit

def entV (e : Ent) : List Value := [.int .i64 e.at_, .int .i64 e.num, .int .i64 e.nx]
def wayV : List Ent → List Value
  | [] => []
  | e :: r => entV e ++ wayV r
theorem wayV_len : ∀ (l : List Ent), (wayV l).length = 3 * l.length
  | [] => rfl
  | e :: r => by rw [wayV, List.length_append, wayV_len r]; simp [entV]; omega
theorem wayV_app : ∀ (a b : List Ent), wayV (a ++ b) = wayV a ++ wayV b
  | [], b => rfl
  | e :: r, b => by rw [List.cons_append, wayV, wayV, wayV_app r b, List.append_assoc]
theorem wayV_get : ∀ (l : List Ent) (i : Nat) (e : Ent), l[i]? = some e → (wayV l)[3 * i]? = some (.int .i64 e.at_) ∧ (wayV l)[3 * i + 1]? = some (.int .i64 e.num) ∧ (wayV l)[3 * i + 2]? = some (.int .i64 e.nx)
  | [], i, e, h => by simp at h
  | x :: r, 0, e, h => by
    simp only [List.getElem?_cons_zero, Option.some.injEq] at h
    subst h
    exact ⟨rfl, rfl, rfl⟩
  | x :: r, i + 1, e, h => by
    have ih := wayV_get r i e (by simpa using h)
    have hl : (entV x).length = 3 := rfl
    rw [wayV]
    refine ⟨?_, ?_, ?_⟩
    · rw [List.getElem?_append_right (by omega), hl, show 3 * (i + 1) - 3 = 3 * i by omega]; exact ih.1
    · rw [List.getElem?_append_right (by omega), hl, show 3 * (i + 1) + 1 - 3 = 3 * i + 1 by omega]; exact ih.2.1
    · rw [List.getElem?_append_right (by omega), hl, show 3 * (i + 1) + 2 - 3 = 3 * i + 2 by omega]; exact ih.2.2
theorem wayV_set : ∀ (l : List Ent) (i : Nat) (e : Ent) (m : Nat), l[i]? = some e → (wayV l).set (3 * i + 2) (.int .i64 m) = wayV (l.set i ⟨e.at_, e.num, m⟩)
  | [], i, e, m, h => by simp at h
  | x :: r, 0, e, m, h => by
    simp only [List.getElem?_cons_zero, Option.some.injEq] at h
    subst h
    rfl
  | x :: r, i + 1, e, m, h => by
    have ih := wayV_set r i e m (by simpa using h)
    rw [List.set_cons_succ, wayV, wayV, ← ih, List.set_append_right _ _ (by simp [entV]; omega), show 3 * (i + 1) + 2 - (entV x).length = 3 * i + 2 by simp [entV]; omega]
theorem wayV_take : ∀ (l : List Ent) (i : Nat), (wayV l).take (3 * i) = wayV (l.take i)
  | [], i => by simp [wayV]
  | x :: r, 0 => by simp [wayV]
  | x :: r, i + 1 => by
    rw [List.take_succ_cons, wayV, wayV, ← wayV_take r i, show 3 * (i + 1) = (entV x).length + 3 * i by simp [entV]; omega, List.take_length_add_append]
/-- One cell of a row another one. -/
theorem own_setj {w : World} {b g n cap size j : Nat} {e : TypeId} {y : Value} {xs : List Value} (h : w.ownsRow b e size (.slice (some ⟨g, 0, none⟩) n cap) n xs) : (w.setCell ⟨g, j, none⟩ y).ownsRow b e size (.slice (some ⟨g, 0, none⟩) n cap) n (xs.set j y) := by
  obtain ⟨h1, h2⟩ := h
  refine ⟨by simpa using h1, ?_⟩
  rcases h2 with ⟨h2, _⟩ | ⟨g', cap', cur, e1, hb, hg, hn, hm, hs, ht⟩
  · cases h2
  · cases e1
    refine .inr ⟨g, cap, cur.setIfInBounds j y, rfl, hb, ?_, hn, hm, by simpa using hs, ?_⟩
    · rw [heap_setCell_same w g j _ e y hg]
    · rw [Array.toList_setIfInBounds, List.take_set, ht]
/-- A row cut short. -/
theorem own_cut {w : World} {b g n cap size m : Nat} {e : TypeId} {xs : List Value} (hm : m ≤ n) (h : w.ownsRow b e size (.slice (some ⟨g, 0, none⟩) n cap) n xs) : w.ownsRow b e size (.slice (some ⟨g, 0, none⟩) m cap) m (xs.take (m * size)) := by
  obtain ⟨h1, h2⟩ := h
  have hle : m * size ≤ n * size := Nat.mul_le_mul_right _ hm
  refine ⟨by rw [List.length_take]; omega, ?_⟩
  rcases h2 with ⟨h2, _⟩ | ⟨g', cap', cur, e1, hb, hg, hn, hm2, hs, ht⟩
  · cases h2
  · cases e1
    exact .inr ⟨g, cap, cur, rfl, hb, hg, by omega, hm2, hs, by rw [← ht, List.take_take, Nat.min_eq_left hle]⟩
theorem step_bnd {aM : Nd → U → Bool} {S : List Nd} {node : Int} {way way' : List Ent} {p : Nat × U} {k : Nat} (h : stepF aM S node way p = some (some way')) (hk : ∀ e, e ∈ way → e.nx ≤ k) : way'.length ≤ way.length + 1 ∧ ∀ e, e ∈ way' → e.nx ≤ k + 1 := by
  rw [stepF] at h
  cases hn : nextF S node way p.1 with
  | none => rw [hn] at h; simp at h
  | some y =>
    obtain ⟨a, way1⟩ := y
    have hw1 : way1.length = way.length ∧ ∀ e, e ∈ way1 → e.nx ≤ k + 1 := by
      rw [nextF] at hn
      by_cases hd : p.1 = 1
      · rw [if_pos hd] at hn
        cases hn
        exact ⟨rfl, fun e he => Nat.le_succ_of_le (hk e he)⟩
      · rw [if_neg hd] at hn
        cases he : way[p.1 - 2]? with
        | none => rw [he] at hn; simp at hn
        | some e0 =>
          simp only [he] at hn
          cases hS : S[e0.at_]? with
          | none => rw [hS] at hn; simp at hn
          | some nd =>
            simp only [hS] at hn
            cases hi : innerM nd e0.num e0.nx with
            | none => rw [hi] at hn; simp at hn
            | some b =>
              simp only [hi, Option.some.injEq, Prod.mk.injEq] at hn
              obtain ⟨_, rfl⟩ := hn
              refine ⟨by simp, fun e he2 => ?_⟩
              rcases List.mem_or_eq_of_mem_set he2 with h1 | rfl
              · exact Nat.le_succ_of_le (hk e h1)
              · exact Nat.succ_le_succ (hk e0 (List.mem_of_getElem? he))
    simp only [hn] at h
    by_cases ha : a < 0
    · simp [ha] at h
    · rw [if_neg ha] at h
      cases hS : S[a.toNat]? with
      | none => rw [hS] at h; simp at h
      | some nd =>
        simp only [hS] at h
        by_cases hM : aM nd p.2 = true
        · rw [if_pos hM] at h
          by_cases hl : p.1 - 1 ≤ way1.length
          · rw [if_pos hl] at h
            cases h
            refine ⟨by simp; omega, fun e he => ?_⟩
            rcases List.mem_append.1 he with h1 | h1
            · exact hw1.2 e (List.mem_of_mem_take h1)
            · simp only [List.mem_singleton] at h1
              subst h1
              exact Nat.zero_le _
          · rw [if_neg hl] at h; cases h
        · rw [if_neg hM] at h; cases h
theorem fold_bnd {aM : Nd → U → Bool} {S : List Nd} {node : Int} : ∀ (l : List (Nat × U)) (way way' : List Ent) (k : Nat), foldF aM S node way l = some (some way') → (∀ e, e ∈ way → e.nx ≤ k) → way'.length ≤ way.length + l.length ∧ ∀ e, e ∈ way' → e.nx ≤ k + l.length
  | [], way, way', k, h, hk => by cases h; exact ⟨Nat.le_refl _, hk⟩
  | p :: r, way, way', k, h, hk => by
    rw [foldF] at h
    cases hs : stepF aM S node way p with
    | none => rw [hs] at h; cases h
    | some y =>
      cases y with
      | none => rw [hs] at h; cases h
      | some w1 =>
        rw [hs] at h
        obtain ⟨h1, h2⟩ := step_bnd hs hk
        obtain ⟨h3, h4⟩ := fold_bnd r w1 way' (k + 1) h h2
        simp only [List.length_cons]
        exact ⟨by omega, fun e he => by have := h4 e he; omega⟩
end Go.Proofs.YtpajccehkcgoaaaDoor
