/-
  The parser's 'nest': what holds in its loop, and how the appends keep it.
  The parser's 'nest': arrays and objects.
  The parser's 'nest', of an object.
  Plain facts on the model: what is left is not longer; numbers as the program and as the document read them.
  The parser's 'value', and 'json.Parse'.
-/
import Derived.Test.YtfboecnhakihnaaGreatDoorJKey
import Derived.RangeFuncBox
namespace Go.Proofs.YtfboecnhakihnaaGreatDoor.js
open Go.RowKit

theorem addr_add (b off j : Nat) : (⟨b, off, none⟩ : Addr).add j = ⟨b, off + j, none⟩ := by unfold Addr.add; split <;> simp_all
def cellsJ (c : Nat → Nat → Value) : Nat → List Value
  | 0 => []
  | n + 1 => cellsJ c n ++ [c n 0, c n 1, c n 2, c n 3]
theorem cellsJ_len (c : Nat → Nat → Value) : ∀ n, (cellsJ c n).length = n * 4
  | 0 => rfl
  | n + 1 => by rw [cellsJ, List.length_append, cellsJ_len c n]; simp; omega
theorem cellsJ_get (c : Nat → Nat → Value) : ∀ n i j, i < n → j < 4 → (cellsJ c n)[4 * i + j]? = some (c i j)
  | n + 1, i, j, hi, hj => by
    rw [cellsJ]
    by_cases h : i < n
    · rw [List.getElem?_append_left (by rw [cellsJ_len]; omega)]
      exact cellsJ_get c n i j h hj
    · obtain rfl : i = n := by omega
      rw [List.getElem?_append_right (by rw [cellsJ_len]; omega), cellsJ_len]
      match j, hj with
      | 0, _ => rw [show 4 * i + 0 - i * 4 = 0 by omega]; rfl
      | 1, _ => rw [show 4 * i + 1 - i * 4 = 1 by omega]; rfl
      | 2, _ => rw [show 4 * i + 2 - i * 4 = 2 by omega]; rfl
      | 3, _ => rw [show 4 * i + 3 - i * 4 = 3 by omega]; rfl
theorem cellsJ_congr {c d : Nat → Nat → Value} : ∀ n, (∀ i j, i < n → c i j = d i j) → cellsJ c n = cellsJ d n
  | 0, _ => rfl
  | n + 1, h => by rw [cellsJ, cellsJ, cellsJ_congr n (fun i j hi => h i j (by omega)), h n 0 (by omega), h n 1 (by omega), h n 2 (by omega), h n 3 (by omega)]

def okE (B : Nat) (vL vK : Value) (g : Nat) : Prop := B ≤ g ∧ some g ≠ vL.ownBlock ∧ some g ≠ vK.ownBlock
/-- What lies in memory while an array or an object is read. -/
structure NSt (w wr : World) (p o B : Nat) (kind : Int) (ks : List ByteArray) (l : List J) (vL vK : Value) (c : Nat → Nat → Value) : Prop where
  frame : w.grownBy wr (some p)
  res : wr.heap[w.heap.size]? = some (.cells zcells 37 (0, 0))
  out : wr.heap[o]? = some (.cells #[.int .i64 kind, .string ⟨#[]⟩, vL, vK] 37 (0, 0))
  rowL : wr.ownsRow B 37 4 vL l.length (cellsJ c l.length)
  rowK : wr.ownsRow B 9 1 vK ks.length (ks.map Value.string)
  apart : vL.ownBlock = none ∨ vL.ownBlock ≠ vK.ownBlock
  els : ∀ i t, l[i]? = some t → JIn wr (okE B vL vK) t (c i 0) (c i 1) (c i 2) (c i 3)
  size : B ≤ wr.heap.size
section
variable {w wr w1 : World} {p o b B : Nat} {kind : Int} {ks : List ByteArray} {l : List J} {vL vK : Value} {c : Nat → Nat → Value}
theorem ownsRow_fr {base size n : Nat} {e : TypeId} {v : Value} {xs : List Value} {ok : Nat → Prop} (h : wr.ownsRow base e size v n xs) (hf : Fr wr w1 ok) (hk : ∀ g, v.ownBlock = some g → ok g) : w1.ownsRow base e size v n xs := by
  refine ⟨h.1, ?_⟩
  rcases h.2 with h0 | ⟨g, cap, cur, rfl, hb, hg, hr⟩
  · exact .inl h0
  · exact .inr ⟨g, cap, cur, rfl, hb, hf.at hg (hk g rfl), hr⟩
theorem NSt.fr (h : NSt w wr p o B kind ks l vL vK c) (hf : Fr wr w1 (fun g => g ≠ p ∧ g ≠ b)) (hp : p < w.heap.size) (ho : w.heap.size < o) (hb : o < b) (hB : b < B) : NSt w w1 p o B kind ks l vL vK c where
  frame := (((Fr.of h.frame (ok := fun g => g ≠ p ∧ g < w.heap.size) (fun g _ hg e => hg.1 (by cases e; rfl)))).trans (hf.mono (fun g _ hg => ⟨hg.1, by omega⟩))).grown (fun g hg hn => ⟨fun e => hn (by rw [e]), hg⟩)
  res := hf.at h.res ⟨by omega, by omega⟩
  out := hf.at h.out ⟨by omega, by omega⟩
  rowL := ownsRow_fr h.rowL hf (fun g e => by have := (h.rowL.lt g e).1; exact ⟨by omega, by omega⟩)
  rowK := ownsRow_fr h.rowK hf (fun g e => by have := (h.rowK.lt g e).1; exact ⟨by omega, by omega⟩)
  apart := h.apart
  els := fun i t ht => (h.els i t ht).fr hf (fun g hg => by have := hg.1; exact ⟨by omega, by omega⟩)
  size := Nat.le_trans h.size hf.size
theorem NSt.alloc (h : NSt w wr p o B kind ks l vL vK c) (x : Obj) (hp : p < w.heap.size) (ho : w.heap.size < o) (hB : o + 1 < B) : NSt w (wr.alloc x) p o B kind ks l vL vK c :=
  h.fr (b := o + 1) (Fr.of (World.grownBy_alloc wr x none) (fun _ _ _ => by simp)) hp ho (by omega) hB
theorem NSt.drewN (h : NSt w wr p o B kind ks l vL vK c) (n : Nat) : NSt w (wr.drewN n) p o B kind ks l vL vK c :=
  ⟨gdrewN h.frame n, h.res, h.out, h.rowL, h.rowK, h.apart, fun i t ht => (h.els i t ht).fr ((Fr.refl wr (fun _ => True)).drewN n) (fun _ _ => trivial), h.size⟩
theorem NSt.olt (h : NSt w wr p o B kind ks l vL vK c) : o < wr.heap.size := blk_lt h.out

/-- A key more: the append onto out.Keys, and its store. -/
theorem NSt.key (h : NSt w wr p o B kind ks l vL vK c) (ho : w.heap.size < o) (hB : o < B) {k : ByteArray} {vK' : Value}
    (hown : w1.ownsRow B 9 1 vK' (ks.length + 1) (ks.map Value.string ++ [.string k])) (hg : wr.grownBy w1 vK.ownBlock) (hn : vK'.ownBlock = vK.ownBlock ∨ vK'.ownBlock = some wr.heap.size) :
    NSt w (w1.setCell ⟨o, 3, none⟩ vK') p o B kind (ks ++ [k]) l vL vK' c := by
  have hKlt := fun g e => (h.rowK.lt g e)
  have hf1 : Fr wr w1 (fun g => some g ≠ vK.ownBlock) := Fr.of hg (fun _ _ h => h)
  have hf2 : Fr w1 (w1.setCell ⟨o, 3, none⟩ vK') (fun g => g ≠ o) := Fr.of (gset w1 o 3 vK') (fun g _ hg e => hg (by cases e; rfl))
  have hfa : Fr wr (w1.setCell ⟨o, 3, none⟩ vK') (fun g => some g ≠ vK.ownBlock ∧ g ≠ o) := (hf1.mono (fun _ _ h => h.1)).trans (hf2.mono (fun _ _ h => h.2))
  have hout1 : w1.heap[o]? = some (.cells #[.int .i64 kind, .string ⟨#[]⟩, vL, vK] 37 (0, 0)) := hf1.at h.out (fun e => by have := (hKlt o e.symm).1; omega)
  have hLK : ∀ g, vL.ownBlock = some g → some g ≠ vK.ownBlock := fun g e e' => by
    rcases h.apart with hn | hn
    · rw [hn] at e; cases e
    · exact hn (e.trans e')
  refine ⟨?_, ?_, ?_, ?_, ?_, ?_, ?_, ?_⟩
  · exact ((Fr.of h.frame (ok := fun g => g ≠ p ∧ g < w.heap.size) (fun g _ hg e => hg.1 (by cases e; rfl))).trans (hfa.mono (fun g _ hg => ⟨fun e => by have := (hKlt g e.symm).1; omega, by omega⟩))).grown (fun g hg hn => ⟨fun e => hn (by rw [e]), hg⟩)
  · exact hfa.at h.res ⟨fun e => by have := (hKlt _ e.symm).1; omega, by omega⟩
  · rw [heap_setCell_same w1 o 3 _ 37 _ hout1]; rfl
  · exact ownsRow_fr h.rowL hfa (fun g e => ⟨hLK g e, by have := (h.rowL.lt g e).1; omega⟩)
  · have := ownsRow_fr hown hf2 (fun g e => by have := (hown.lt g e).1; omega)
    simpa using this
  · rcases h.apart with h0 | h0
    · exact .inl h0
    · rcases hn with e | e
      · exact .inr (by rw [e]; exact h0)
      · refine .inr (fun e' => ?_)
        rw [e] at e'
        have := (h.rowL.lt _ e').2
        omega
  · intro i t ht
    have h1 := (h.els i t ht).mono (ok' := fun g => okE B vL vK g ∧ some g ≠ vK'.ownBlock) (fun g hlt hg => ⟨hg, fun e => by
      rcases hn with e' | e'
      · rw [e'] at e; exact hg.2.2 e
      · rw [e'] at e; cases e; omega⟩)
    exact (h1.fr hfa (fun g hg => ⟨hg.1.2.2, by have := hg.1.1; omega⟩)).mono (fun g _ hg => ⟨hg.1.1, hg.1.2.1, hg.2⟩)
  · exact Nat.le_trans h.size hfa.size
/-- A value more: the append onto out.L, and its store. -/
theorem NSt.elem (h : NSt w wr p o B kind ks l vL vK c) (ho : w.heap.size < o) (hB : o < B) {t : J} {v0 v1 v2 v3 vL' : Value}
    (hown : w1.ownsRow B 37 4 vL' (l.length + 1) (cellsJ c l.length ++ [v0, v1, v2, v3])) (hg : wr.grownBy w1 vL.ownBlock) (hn : vL'.ownBlock = vL.ownBlock ∨ vL'.ownBlock = some wr.heap.size)
    (hv : JIn wr (okE B vL vK) t v0 v1 v2 v3) :
    ∃ c', NSt w (w1.setCell ⟨o, 2, none⟩ vL') p o B kind ks (l ++ [t]) vL' vK c' := by
  have hLlt := fun g e => (h.rowL.lt g e)
  have hf1 : Fr wr w1 (fun g => some g ≠ vL.ownBlock) := Fr.of hg (fun _ _ h => h)
  have hf2 : Fr w1 (w1.setCell ⟨o, 2, none⟩ vL') (fun g => g ≠ o) := Fr.of (gset w1 o 2 vL') (fun g _ hg e => hg (by cases e; rfl))
  have hfa : Fr wr (w1.setCell ⟨o, 2, none⟩ vL') (fun g => some g ≠ vL.ownBlock ∧ g ≠ o) := (hf1.mono (fun _ _ h => h.1)).trans (hf2.mono (fun _ _ h => h.2))
  have hout1 : w1.heap[o]? = some (.cells #[.int .i64 kind, .string ⟨#[]⟩, vL, vK] 37 (0, 0)) := hf1.at h.out (fun e => by have := (hLlt o e.symm).1; omega)
  have hLK : ∀ g, vK.ownBlock = some g → some g ≠ vL.ownBlock := fun g e e' => by
    rcases h.apart with hn | hn
    · rw [hn] at e'; cases e'
    · exact hn (e'.symm.trans e.symm)
  let c' : Nat → Nat → Value := fun i j => if i = l.length then [v0, v1, v2, v3].getD j undef else c i j
  have hc' : cellsJ c' (l.length + 1) = cellsJ c l.length ++ [v0, v1, v2, v3] := by
    rw [cellsJ, cellsJ_congr (d := c) l.length (fun i j hi => by simp [c', show i ≠ l.length by omega])]
    simp [c']
  have keep : ∀ {t' : J} {u0 u1 u2 u3 : Value}, JIn wr (okE B vL vK) t' u0 u1 u2 u3 → JIn (w1.setCell ⟨o, 2, none⟩ vL') (okE B vL' vK) t' u0 u1 u2 u3 := fun hj => by
    have h1 := hj.mono (ok' := fun g => okE B vL vK g ∧ some g ≠ vL'.ownBlock) (fun g hlt hg => ⟨hg, fun e => by
      rcases hn with e' | e'
      · rw [e'] at e; exact hg.2.1 e
      · rw [e'] at e; cases e; omega⟩)
    exact (h1.fr hfa (fun g hg => ⟨hg.1.2.1, by have := hg.1.1; omega⟩)).mono (fun g _ hg => ⟨hg.1.1, hg.2, hg.1.2.2⟩)
  refine ⟨c', ?_, ?_, ?_, ?_, ?_, ?_, ?_, ?_⟩
  · exact ((Fr.of h.frame (ok := fun g => g ≠ p ∧ g < w.heap.size) (fun g _ hg e => hg.1 (by cases e; rfl))).trans (hfa.mono (fun g _ hg => ⟨fun e => by have := (hLlt g e.symm).1; omega, by omega⟩))).grown (fun g hg hn => ⟨fun e => hn (by rw [e]), hg⟩)
  · exact hfa.at h.res ⟨fun e => by have := (hLlt _ e.symm).1; omega, by omega⟩
  · rw [heap_setCell_same w1 o 2 _ 37 _ hout1]; rfl
  · have := ownsRow_fr hown hf2 (fun g e => by have := (hown.lt g e).1; omega)
    rw [List.length_append]
    show World.ownsRow _ B 37 4 vL' (l.length + 1) (cellsJ c' (l.length + 1))
    rw [hc']
    exact this
  · exact ownsRow_fr h.rowK hfa (fun g e => ⟨hLK g e, by have := (h.rowK.lt g e).1; omega⟩)
  · rcases hn with e | e
    · rw [e]; exact h.apart
    · refine .inr (fun e' => ?_)
      rw [e] at e'
      have := (h.rowK.lt _ e'.symm).2
      omega
  · intro i t' ht
    by_cases hi : i < l.length
    · rw [List.getElem?_append_left hi] at ht
      have := keep (h.els i t' ht)
      simpa [c', show i ≠ l.length by omega] using this
    · obtain rfl : i = l.length := by
        have := (List.getElem?_eq_some_iff.1 ht).1
        simp at this; omega
      rw [List.getElem?_concat_length] at ht
      cases ht
      have := keep hv
      simpa [c'] using this
  · exact Nat.le_trans h.size hfa.size
theorem own_open {base e size n : Nat} {v : Value} {xs : List Value} (h : wr.ownsRow base e size v n xs) (hs : 0 < size) :
    ∃ A cap, v = .slice A n cap ∧ n ≤ cap ∧ cap ≤ maxLen ∧ (0 < n → ∃ g, A = some ⟨g, 0, none⟩ ∧ base ≤ g ∧ ∀ j u, xs[j]? = some u → wr.cell? ⟨g, j, none⟩ = some u) := by
  have hc := @World.ownsRow.cells wr base e size v n xs h
  rcases h.2 with ⟨rfl, h0⟩ | ⟨g, cap, cur, rfl, hb, hg, hn, hm, _, _⟩
  · subst h0
    exact ⟨none, 0, rfl, Nat.le_refl _, by unfold maxLen; omega, fun h => by omega⟩
  · refine ⟨_, cap, rfl, hn, hm, fun _ => ⟨g, rfl, hb, fun j u hu => ?_⟩⟩
    have := hc (g := g) rfl j u hu
    rw [addr_add, Nat.zero_add] at this
    exact this
/-- At the end: the value that 'out' is. -/
theorem NSt.value (h : NSt w wr p o B kind ks l vL vK c) {k : Nat} (hk : kind = k) : JIn wr (fun g => B ≤ g) (.mk k ⟨#[]⟩ l ks) (.int .i64 kind) (.string ⟨#[]⟩) vL vK := by
  subst hk
  have hE : ∀ i t', l[i]? = some t' → JIn wr (fun g => B ≤ g) t' (c i 0) (c i 1) (c i 2) (c i 3) := fun i t' ht => (h.els i t' ht).mono (fun g _ hg => hg.1)
  obtain ⟨A, cap, rfl, a1, a2, a3⟩ := own_open h.rowL (by omega)
  obtain ⟨A', cap', rfl, b1, b2, b3⟩ := own_open h.rowK (by omega)
  refine .mk k _ l ks A A' cap cap' c ⟨a1, a2⟩ ⟨b1, b2⟩ (fun hp => ?_) (fun hp => ?_) hE
  · obtain ⟨g, e, hb, hc⟩ := a3 hp
    exact ⟨g, 0, e, hb, fun i j hi hj => by rw [Nat.zero_add]; exact hc _ _ (cellsJ_get c _ i j hi hj)⟩
  · obtain ⟨g, e, hb, hc⟩ := b3 hp
    exact ⟨g, 0, e, hb, fun i s hs => by rw [Nat.zero_add]; exact hc _ _ (by rw [List.getElem?_map, hs]; rfl)⟩
end
end Go.Proofs.YtfboecnhakihnaaGreatDoor.js

namespace Go.Proofs.YtfboecnhakihnaaGreatDoor.js
open Go.RowKit

/-- What 'nest' answers. -/
def NestPost (w : World) (p : Nat) (s : ByteArray) (M : Res) (e : Ending) (w' : World) : Prop :=
  match M with
  | .ok (v, r) => ∃ v0 v1 v2 v3, e = .returned (.tuple #[.agg #[v0, v1, v2, v3], .int .i64 0]) ∧ JIn w' (fun b => w.heap.size ≤ b) v v0 v1 v2 v3 ∧ Step w p s r w'
  | .error er => e = .returned (.tuple #[zero26, .int .i64 er]) ∧ ∃ ys, Step w p s ys w'
/-- What 'value' answers: of a number that begins with 0 and goes on, its 0. -/
def ValPost (w : World) (p : Nat) (s : ByteArray) (M : Res) (e : Ending) (w' : World) : Prop :=
  match M with
  | .ok (v, r) => ∃ v0 v1 v2 v3, e = .returned (.tuple #[.agg #[v0, v1, v2, v3], .int .i64 0]) ∧ JIn w' (fun b => w.heap.size ≤ b) v v0 v1 v2 v3 ∧ Step w p s r w'
  | .error er => (e = .returned (.tuple #[zero26, .int .i64 er]) ∧ (er = 4 ∨ er = 5 ∨ er = 7) ∧ ∃ ys, Step w p s ys w') ∨ (er = 4 ∧ ∃ t d r, e = .returned (.tuple #[leaf 4 t, .int .i64 0]) ∧ isDig d = true ∧ Step w p s (d :: r) w')

set_option maxHeartbeats 400000 in
theorem nest_limit (p : Nat) (s : ByteArray) (xs : Bs) (kind fin d : Int) (hd : 64 ≤ d) (w : World) (h : Par w p s xs) :
    Calls Tryz.prog 128 #[.pointer (some ⟨p, 0, none⟩), .int .i64 kind, .int .u8 fin, .int .i64 d] w (NestPost w p s (.error 5)) := by
  go_enter Tryz.func128, Tryz.ntmps128
  go_wp2
  go_step3
  go_wp2
  refine bodyPost_ret (v := .tuple #[zero26, .int .i64 5]) (by simp [results, Tryz.results128, go_sem]) rfl ?_
  exact ⟨rfl, xs, (Step.refl h).alloc _⟩

theorem Tryz.info37 : (Tryz.prog.info? 37).map (fun i => (i.zero, i.size, i.bytes)) = some (some (.agg #[.int .i64 0, .string ⟨#[]⟩, .slice none 0 0, .slice none 0 0]), 4, 72) := by kernel_rfl
theorem Tryz.info9 : (Tryz.prog.info? 9).map (fun i => (i.zero, i.size, i.bytes)) = some (some (.string ⟨#[]⟩), 1, 16) := by kernel_rfl

/-- What holds at the head of the loop. -/
def NRel (sub : Bs → Res) (obj : Bool) (R : Res) (w : World) (p : Nat) (s : ByteArray) (o b B : Nat) (kind : Int) (g : Nat) (wr : World) : Prop :=
  ∃ (f : Nat) (ks : List ByteArray) (l : List J) (ys : Bs) (vL vK : Value) (c : Nat → Nat → Value), ys.length = g ∧ ys.length < f ∧ loopM sub obj f ks l ys = R ∧ Par wr p s ys ∧ Seen wr b ks.length ks ∧
    l.length + ys.length ≤ 30000 ∧ ks.length + ys.length ≤ 30000 ∧ NSt w wr p o B kind ks l vL vK c

theorem manyM_fin {sub : Bs → Res} {obj : Bool} {r t : Bs} {c : UInt8} (h : white r = c :: t) (hc : c.toNat = finOf obj) : manyM sub obj r = .ok (.mk (kindOf obj) ByteArray.empty [] [], t) := by
  unfold manyM; rw [h]; simp only [if_pos hc]
theorem manyM_loop {sub : Bs → Res} {obj : Bool} {r : Bs} (h : ∀ c t, white r = c :: t → c.toNat ≠ finOf obj) : manyM sub obj r = loopM sub obj ((white r).length + 1) [] [] (white r) := by
  unfold manyM
  cases hw : white r with
  | nil => rfl
  | cons c t => simp only [if_neg (h c t hw)]
theorem NSt.start {w w1 : World} {p o : Nat} {kind : Int} (hf : w.grownBy w1 (some p)) (hres : w1.heap[w.heap.size]? = some (.cells zcells 37 (0, 0))) (hout : w1.heap[o]? = some (.cells #[.int .i64 kind, .string ⟨#[]⟩, .slice none 0 0, .slice none 0 0] 37 (0, 0))) :
    NSt w w1 p o w1.heap.size kind [] [] (.slice none 0 0) (.slice none 0 0) (fun _ _ => undef) :=
  ⟨hf, hres, hout, World.ownsRow_nil _ _ _ _, World.ownsRow_nil _ _ _ _, .inl rfl, (fun i t h => by simp at h), Nat.le_refl _⟩
theorem JIn.forms {w : World} {ok : Nat → Prop} {t : J} {v0 v1 v2 v3 : Value} (h : JIn w ok t v0 v1 v2 v3) : ∃ (k : Nat) (t : ByteArray) (A A' : Option Addr) (n cap n' cap' : Nat), v0 = .int .i64 k ∧ v1 = .string t ∧ v2 = .slice A n cap ∧ v3 = .slice A' n' cap' := by
  cases h with
  | mk k t l ks A A' cap cap' c => exact ⟨k, t, A, A', l.length, cap, ks.length, cap', rfl, rfl, rfl, rfl⟩
theorem cells4_new (w : World) (a b c d : Value) (j : Nat) (u : Value) (h : [a, b, c, d][j]? = some u) : (w.alloc (.cells #[a, b, c, d] 37)).cell? ((⟨w.heap.size, 0, none⟩ : Addr).add j) = some u := by
  rw [addr_add, Nat.zero_add, cell_of_row _ w.heap.size j #[a, b, c, d] 37 (0, 0) (heap_alloc_new w _)]
  simpa using h
/-- A value of the call's own, behind what 'nest' has: apart from its rows. -/
theorem JIn.fresh {w wr w2 : World} {p o B : Nat} {kind : Int} {ks : List ByteArray} {l : List J} {vL vK : Value} {c : Nat → Nat → Value} (hn : NSt w wr p o B kind ks l vL vK c) {t : J} {v0 v1 v2 v3 : Value} (h : JIn w2 (fun b => wr.heap.size ≤ b) t v0 v1 v2 v3) : JIn w2 (okE B vL vK) t v0 v1 v2 v3 :=
  h.mono (fun g _ hg => ⟨Nat.le_trans hn.size hg, fun e => by have := (hn.rowL.lt g e.symm).2; omega, fun e => by have := (hn.rowK.lt g e.symm).2; omega⟩)
theorem NSt.out5 {w wr w1 : World} {p o B : Nat} {kind : Int} {ks : List ByteArray} {l : List J} {vL vK : Value} {c : Nat → Nat → Value} (h : NSt w wr p o B kind ks l vL vK c) (hg : wr.grownBy w1 vL.ownBlock) (hB : o < B) :
    w1.heap[o]? = some (.cells #[.int .i64 kind, .string ⟨#[]⟩, vL, vK] 37 (0, 0)) := (hg.block o h.olt (fun e => by have := (h.rowL.lt o e.symm).1; omega)).trans h.out
theorem NSt.out6 {w wr w1 : World} {p o B : Nat} {kind : Int} {ks : List ByteArray} {l : List J} {vL vK : Value} {c : Nat → Nat → Value} (h : NSt w wr p o B kind ks l vL vK c) (hg : wr.grownBy w1 vK.ownBlock) (hB : o < B) :
    w1.heap[o]? = some (.cells #[.int .i64 kind, .string ⟨#[]⟩, vL, vK] 37 (0, 0)) := (hg.block o h.olt (fun e => by have := (h.rowK.lt o e.symm).1; omega)).trans h.out
theorem Step.set4 {w w' : World} {p b : Nat} {s : ByteArray} {ys : Bs} {a0 a1 a2 a3 : Value} (h : Step w p s ys w') (hb : w.heap.size ≤ b) (hp : p < w.heap.size) :
    Step w p s ys ((((w'.setCell ⟨b, 0, none⟩ a0).setCell ⟨b, 1, none⟩ a1).setCell ⟨b, 2, none⟩ a2).setCell ⟨b, 3, none⟩ a3) := (((h.setNew hb hp).setNew hb hp).setNew hb hp).setNew hb hp
theorem JIn.set4 {w' : World} {b : Nat} {ok : Nat → Prop} {a0 a1 a2 a3 : Value} {t : J} {v0 v1 v2 v3 : Value} (h : JIn w' ok t v0 v1 v2 v3) (hb : ∀ g, ok g → g ≠ b) :
    JIn ((((w'.setCell ⟨b, 0, none⟩ a0).setCell ⟨b, 1, none⟩ a1).setCell ⟨b, 2, none⟩ a2).setCell ⟨b, 3, none⟩ a3) ok t v0 v1 v2 v3 := by
  have key : ∀ (W : World) (j : Nat) (a : Value), Fr W (W.setCell ⟨b, j, none⟩ a) (fun g => g ≠ b) := fun W j a => Fr.of (gset W b j a) (fun g _ hg e => hg (by cases e; rfl))
  exact h.fr (ok' := fun g => g ≠ b) ((((key w' 0 a0).trans (key _ 1 a1)).trans (key _ 2 a2)).trans (key _ 3 a3)) hb
/-- The cells of the result's block and of 'out'. -/
theorem NSt.cells {w wr : World} {p o B : Nat} {kind : Int} {ks : List ByteArray} {l : List J} {vL vK : Value} {c : Nat → Nat → Value} (h : NSt w wr p o B kind ks l vL vK c) :
    (wr.cell? ⟨w.heap.size, 0, none⟩ = some (.int .i64 0) ∧ wr.cell? ⟨w.heap.size, 1, none⟩ = some (.string ⟨#[]⟩) ∧ wr.cell? ⟨w.heap.size, 2, none⟩ = some (.slice none 0 0) ∧ wr.cell? ⟨w.heap.size, 3, none⟩ = some (.slice none 0 0)) ∧
    (wr.frozen? ⟨w.heap.size, 0, none⟩ = false ∧ wr.frozen? ⟨w.heap.size, 1, none⟩ = false ∧ wr.frozen? ⟨w.heap.size, 2, none⟩ = false ∧ wr.frozen? ⟨w.heap.size, 3, none⟩ = false) ∧
    (wr.cell? ⟨o, 0, none⟩ = some (.int .i64 kind) ∧ wr.cell? ⟨o, 1, none⟩ = some (.string ⟨#[]⟩) ∧ wr.cell? ⟨o, 2, none⟩ = some vL ∧ wr.cell? ⟨o, 3, none⟩ = some vK) :=
  ⟨⟨by rw [cell_of_row _ _ _ _ _ _ h.res]; rfl, by rw [cell_of_row _ _ _ _ _ _ h.res]; rfl, by rw [cell_of_row _ _ _ _ _ _ h.res]; rfl, by rw [cell_of_row _ _ _ _ _ _ h.res]; rfl⟩,
   ⟨frozen_of_row wr _ 0 _ 37 h.res, frozen_of_row wr _ 1 _ 37 h.res, frozen_of_row wr _ 2 _ 37 h.res, frozen_of_row wr _ 3 _ 37 h.res⟩,
   ⟨by rw [cell_of_row _ _ _ _ _ _ h.out]; rfl, by rw [cell_of_row _ _ _ _ _ _ h.out]; rfl, by rw [cell_of_row _ _ _ _ _ _ h.out]; rfl, by rw [cell_of_row _ _ _ _ _ _ h.out]; rfl⟩⟩
section
variable {sub : Bs → Res} {obj : Bool} {f er : Nat} {ks ks' : List ByteArray} {l : List J} {xs ys zs q : Bs} {v : J} {c : UInt8}
theorem headM_arr : headM false ks xs = .ok (ks, xs) := by simp [headM]
theorem loopM_head (h : headM obj ks xs = .error er) : loopM sub obj (f + 1) ks l xs = .error er := by simp only [loopM, h]
theorem loopM_err (h : headM obj ks xs = .ok (ks', ys)) (hs : sub ys = .error er) : loopM sub obj (f + 1) ks l xs = .error er := by simp only [loopM, h, hs]
theorem loopM_nil (h : headM obj ks xs = .ok (ks', ys)) (hs : sub ys = .ok (v, zs)) (hw : white zs = []) : loopM sub obj (f + 1) ks l xs = .error 4 := by simp only [loopM, h, hs, hw]
theorem loopM_cons (h : headM obj ks xs = .ok (ks', ys)) (hs : sub ys = .ok (v, zs)) (hw : white zs = c :: q) :
    loopM sub obj (f + 1) ks l xs = if c.toNat = 44 then loopM sub obj f ks' (l ++ [v]) q else if c.toNat = finOf obj then .ok (.mk (kindOf obj) ByteArray.empty (l ++ [v]) ks', q) else .error 4 := by
  simp only [loopM, h, hs, hw]
end
/-- A value was read, as the model reads it; or a number's 0, ahead of a digit. -/
def Got (m : Res) (v : J) (z : Bs) : Prop := m = .ok (v, z) ∨ (m = .error 4 ∧ ∃ d r, z = d :: r ∧ isDig d = true)
theorem ValPost.split {w : World} {p : Nat} {s : ByteArray} {m : Res} {e : Ending} {w' : World} (h : ValPost w p s m e w') :
    (∃ v z v0 v1 v2 v3, e = .returned (.tuple #[.agg #[v0, v1, v2, v3], .int .i64 0]) ∧ Got m v z ∧ JIn w' (fun b => w.heap.size ≤ b) v v0 v1 v2 v3 ∧ Step w p s z w') ∨
    (∃ (er : Nat) (zs : Bs), e = .returned (.tuple #[zero26, .int .i64 er]) ∧ m = .error er ∧ (er = 4 ∨ er = 5 ∨ er = 7) ∧ Step w p s zs w') := by
  cases m with
  | ok vz =>
    obtain ⟨v, z⟩ := vz
    obtain ⟨v0, v1, v2, v3, he, hj, hs⟩ := h
    exact .inl ⟨v, z, v0, v1, v2, v3, he, .inl rfl, hj, hs⟩
  | error er =>
    rcases h with ⟨he, her, ys, hs⟩ | ⟨rfl, t, d, r, he, hd, hs⟩
    · exact .inr ⟨er, ys, he, rfl, her, hs⟩
    · exact .inl ⟨.mk 4 t [] [], d :: r, _, _, _, _, he, .inr ⟨rfl, d, r, rfl, hd⟩, JIn.leaf _ _ 4 t, hs⟩
theorem dig_white {d : UInt8} (h : isDig d = true) : isWhite d = false ∧ d.toNat ≠ 44 ∧ d.toNat ≠ 93 ∧ d.toNat ≠ 125 := by
  have := of_decide_eq_true h
  exact ⟨isWhite_no (by omega), by omega, by omega, by omega⟩
theorem got_facts {sub : Bs → Res} {obj : Bool} {f : Nat} {ks ks' : List ByteArray} {l : List J} {xs ys z ws : Bs} {v : J} {M : Res} (hM : loopM sub obj (f + 1) ks l xs = M) (hh : headM obj ks xs = .ok (ks', ys)) (hl : ∀ ys v zs, sub ys = .ok (v, zs) → zs.length ≤ ys.length) (hg : Got (sub ys) v z) (hw : white z = ws) :
    (ws = [] → M = .error 4) ∧ (∀ c q, ws = c :: q → c.toNat = 44 → M = loopM sub obj f ks' (l ++ [v]) q ∧ q.length < ys.length) ∧
    (∀ c q, ws = c :: q → c.toNat = finOf obj → M = .ok (.mk (kindOf obj) ByteArray.empty (l ++ [v]) ks', q)) ∧ (∀ c q, ws = c :: q → c.toNat ≠ 44 → c.toNat ≠ finOf obj → M = .error 4) := by
  subst hw
  rw [← hM]
  rcases hg with hs | ⟨hs, d, r, rfl, hd⟩
  · have hzl := hl _ _ _ hs
    have hwl := white_le z
    refine ⟨fun e => loopM_nil hh hs e, fun c q e h44 => ?_, fun c q e hc => ?_, fun c q e h1 h2 => ?_⟩
    · rw [e] at hwl
      simp only [List.length_cons] at hwl
      exact ⟨by rw [loopM_cons hh hs e, if_pos h44], by omega⟩
    · have hne : c.toNat ≠ 44 := by rw [hc]; cases obj <;> decide
      rw [loopM_cons hh hs e, if_neg hne, if_pos hc]
    · rw [loopM_cons hh hs e, if_neg h1, if_neg h2]
  · obtain ⟨hw, h1, h2, h3⟩ := dig_white hd
    rw [white_cons_no hw]
    have he := loopM_err (f := f) (l := l) hh hs
    refine ⟨(fun e => by cases e), (fun c q e h44 => by cases e; exact absurd h44 h1), fun c q e hc => ?_, fun c q e _ _ => he⟩
    cases e
    cases obj
    · exact absurd hc h2
    · exact absurd hc h3
set_option maxHeartbeats 2000000 in
set_option maxRecDepth 100000 in
theorem nest_arr (p : Nat) (s : ByteArray) (x : UInt8) (r : Bs) (d : Nat) (hd : d < 64) (sub : Bs → Res) (w : World) (h : Par w p s (x :: r)) (hG : Gl w) (hp4 : 4 ≤ p)
    (hsub : ∀ w1 ys, Par w1 p s ys → Gl w1 → Calls Tryz.prog 110 #[.pointer (some ⟨p, 0, none⟩), .int .i64 ((d : Int) + 1)] w1 (ValPost w1 p s (sub ys)))
    (hlen : ∀ ys v zs, sub ys = .ok (v, zs) → zs.length ≤ ys.length) :
    Calls Tryz.prog 128 #[.pointer (some ⟨p, 0, none⟩), .int .i64 6, .int .u8 93, .int .i64 d] w (NestPost w p s (manyM sub false r)) := by
  obtain ⟨k, c0, c1, f0, f1, ha, hs, _⟩ := h.parts
  have hplt := h.lt
  have hk := ha.lt
  have hrl : r.length ≤ 30000 := by have := ha.len; simp at this; omega
  have hst1 : Step w p s r (((w.setCell ⟨p, 1, none⟩ (.int .i64 ((k : Int) + 1))).alloc (.cells zcells 37)).alloc (.cells #[.int .i64 6, .string ⟨#[]⟩, .slice none 0 0, .slice none 0 0] 37)) := (((Step.refl h).set ha.tail).alloc _).alloc _
  have hres1 : (((w.setCell ⟨p, 1, none⟩ (.int .i64 ((k : Int) + 1))).alloc (.cells zcells 37)).alloc (.cells #[.int .i64 6, .string ⟨#[]⟩, .slice none 0 0, .slice none 0 0] 37)).heap[w.heap.size]? = some (.cells zcells 37 (0, 0)) := by
    rw [Below.heap_alloc _ _ _ (by simp)]
    have := heap_alloc_new (w.setCell ⟨p, 1, none⟩ (.int .i64 ((k : Int) + 1))) (.cells zcells 37 (0, 0))
    simpa using this
  have hout1 : (((w.setCell ⟨p, 1, none⟩ (.int .i64 ((k : Int) + 1))).alloc (.cells zcells 37)).alloc (.cells #[.int .i64 6, .string ⟨#[]⟩, .slice none 0 0, .slice none 0 0] 37)).heap[w.heap.size + 1]? = some (.cells #[.int .i64 6, .string ⟨#[]⟩, .slice none 0 0, .slice none 0 0] 37 (0, 0)) := by
    have := heap_alloc_new ((w.setCell ⟨p, 1, none⟩ (.int .i64 ((k : Int) + 1))).alloc (.cells zcells 37)) (.cells #[.int .i64 6, .string ⟨#[]⟩, .slice none 0 0, .slice none 0 0] 37 (0, 0))
    simpa using this
  have hsg : ∀ w1, Par w1 p s r → _ := fun w1 hp => sign_any p s r w1 hp
  have HS := Lib.hid hsg
  have HSub := Lib.hid hsub
  have HLen := Lib.hid hlen
  have hmm := @run_makeMap Tryz.prog
  clear hsg hsub hlen ha
  have hd64 : (d : Int) < 64 := by omega
  have hwl := white_le r
  have hfin : ∀ c t, white r = c :: t → c.toNat = 93 → manyM sub false r = .ok (.mk 6 ByteArray.empty [] [], t) := fun c t a b => manyM_fin (obj := false) a b
  have hloop : (∀ c t, white r = c :: t → c.toNat ≠ 93) → manyM sub false r = loopM sub false ((white r).length + 1) [] [] (white r) := fun a => manyM_loop (obj := false) a
  generalize white r = ys at *
  generalize manyM sub false r = M at *
  have HFin := Lib.hid hfin
  have HLoop := Lib.hid hloop
  clear hfin hloop
  go_enter Tryz.func128, Tryz.ntmps128
  go_wp2
  go_step3
  go_wp2_with fail
  generalize ((w.setCell ⟨p, 1, none⟩ (.int .i64 ((k : Int) + 1))).alloc (.cells zcells 37)).alloc (.cells #[.int .i64 6, .string ⟨#[]⟩, .slice none 0 0, .slice none 0 0] 37) = W1 at *
  refine (HS.out W1 hst1.1).mono ?_
  rintro e w1 ⟨rfl, hst2⟩
  have hres2 := hst2.fr.at hres1 (show w.heap.size ≠ p by omega)
  have hout2 := hst2.fr.at hout1 (show w.heap.size + 1 ≠ p by omega)
  have hst3 := hst1.of hst2
  clear hres1 hout1 hst1 hst2 HS
  obtain ⟨k2, c02, c12, f02, f12, ha2, _, _⟩ := hst3.1.parts
  have q0 : w1.cell? ⟨w.heap.size, 0, none⟩ = some (.int .i64 0) := by rw [cell_of_row _ _ _ _ _ _ hres2]; rfl
  have q1 : w1.cell? ⟨w.heap.size, 1, none⟩ = some (.string ⟨#[]⟩) := by rw [cell_of_row _ _ _ _ _ _ hres2]; rfl
  have q2 : w1.cell? ⟨w.heap.size, 2, none⟩ = some (.slice none 0 0) := by rw [cell_of_row _ _ _ _ _ _ hres2]; rfl
  have q3 : w1.cell? ⟨w.heap.size, 3, none⟩ = some (.slice none 0 0) := by rw [cell_of_row _ _ _ _ _ _ hres2]; rfl
  have y0 := frozen_of_row w1 w.heap.size 0 _ 37 hres2
  have y1 := frozen_of_row w1 w.heap.size 1 _ 37 hres2
  have y2 := frozen_of_row w1 w.heap.size 2 _ 37 hres2
  have y3 := frozen_of_row w1 w.heap.size 3 _ 37 hres2
  have u0 : w1.cell? ⟨w.heap.size + 1, 0, none⟩ = some (.int .i64 6) := by rw [cell_of_row _ _ _ _ _ _ hout2]; rfl
  have u1 : w1.cell? ⟨w.heap.size + 1, 1, none⟩ = some (.string ⟨#[]⟩) := by rw [cell_of_row _ _ _ _ _ _ hout2]; rfl
  have u2 : w1.cell? ⟨w.heap.size + 1, 2, none⟩ = some (.slice none 0 0) := by rw [cell_of_row _ _ _ _ _ _ hout2]; rfl
  have u3 : w1.cell? ⟨w.heap.size + 1, 3, none⟩ = some (.slice none 0 0) := by rw [cell_of_row _ _ _ _ _ _ hout2]; rfl
  by_cases hend : ∃ c t, ys = c :: t ∧ c.toNat = 93
  · obtain ⟨c, t, rfl, hc⟩ := hend
    have hM := HFin.out c t rfl hc
    have HM := Lib.hid hM
    have hc1 : ((c.toNat : Int) == 93) = true := by simp only [beq_iff_eq]; omega
    have hst4 := hst3.set ha2.tail
    have hlt2 := ha2.lt
    clear hM HFin HLoop HSub HLen hc
    go_wp2
    refine bodyPost_ret (v := .tuple #[leaf 6 ⟨#[]⟩, .int .i64 0]) (by simp [results, Tryz.results128, go_sem, q0, q1, q2, q3]) rfl ?_
    rw [HM.out]
    exact ⟨_, _, _, _, rfl, JIn.leaf _ _ 6 _, (((hst4.setNew (Nat.le_refl _) hplt).setNew (Nat.le_refl _) hplt).setNew (Nat.le_refl _) hplt).setNew (Nat.le_refl _) hplt⟩
  · have hne : ∀ c t, ys = c :: t → c.toNat ≠ 93 := fun c t e hc => hend ⟨c, t, e, hc⟩
    have hM := HLoop.out hne
    have hc1 : ((((List.head? ys).getD 0).toNat : Int) == 93) = false := by
      simp only [beq_eq_false_iff_ne, ne_eq]
      cases ys with
      | nil => decide
      | cons c t => have := hne c t rfl; simp; omega
    have HM := Lib.hid hM
    clear hM HFin HLoop hne hend
    have hsz1 : w.heap.size + 1 < w1.heap.size := blk_lt hout2
    have hns : NSt w (w1.alloc (.map #[] 0)) p (w.heap.size + 1) (w1.heap.size + 1) 6 [] [] (.slice none 0 0) (.slice none 0 0) (fun _ _ => undef) := by
      have := NSt.start (hst3.alloc (.map #[] 0)).2 ((Below.heap_alloc w1 _ _ (blk_lt hres2)).trans hres2) ((Below.heap_alloc w1 _ _ (blk_lt hout2)).trans hout2)
      simpa using this
    have hrel0 : NRel sub false M w p s (w.heap.size + 1) w1.heap.size (w1.heap.size + 1) 6 ys.length (w1.alloc (.map #[] 0)) :=
      ⟨ys.length + 1, [], [], ys, _, _, _, rfl, by omega, HM.out.symm, (hst3.alloc _).1, Seen.made w1, by simp; omega, by simp; omega, hns⟩
    clear q0 q1 q2 q3 y0 y1 y2 y3 u0 u1 u2 u3 c02 c12 f02 f12 ha2 c0 c1 f0 f1 hns HM hst3 hres2 hout2
    go_wp2
    go_step3
    go_wp2
    go_loopg [] ys.length (fun g wr => NRel sub false M w p s (w.heap.size + 1) w1.heap.size (w1.heap.size + 1) 6 g wr)
    case atStart => exact hrel0
    case round =>
      obtain ⟨f, ks, l, zs, vL, vK, c, hg, hf, hR, hpar, hseen, hb1, hb2, hn⟩ := hrel
      obtain ⟨f, rfl⟩ : ∃ f', f = f' + 1 := ⟨f - 1, by omega⟩
      clear hrel0
      have HG := Lib.hid hg
      have hGl := hG.kept hn.frame (fun k e => by cases e; exact hp4)
      have hcall := (HSub.out wr zs hpar hGl).mono fun e w' hv => hv.split
      have HR := Lib.hid hR
      have HSe := Lib.hid hseen
      clear hg hR hseen
      go_wp2_with fail
      refine hcall.mono ?_
      rintro e w2 (⟨v, z, v0, v1, v2, v3, rfl, hgot, hj, hst⟩ | ⟨er, zs', rfl, hsv, her, hst⟩)
      · have HV := Lib.hid hgot
        clear hgot hcall
        have hj2 := hj.fresh hn
        obtain ⟨kk, tt, A, A', n1, cap1, n2, cap2, rfl, rfl, rfl, rfl⟩ := hj.forms
        have hn2 := hn.fr (b := w1.heap.size) (hst.fr.mono (fun _ _ h => h.1)) hplt (by omega) (by omega) (by omega)
        have u2 : w2.cell? ⟨w.heap.size + 1, 2, none⟩ = some vL := by rw [cell_of_row _ _ _ _ _ _ hn2.out]; rfl
        have y2 := frozen_of_row w2 (w.heap.size + 1) 2 _ 37 hn2.out
        have holt := hn2.olt
        obtain ⟨A3, cap3, rfl, _, _, _⟩ := own_open hn2.rowL (by omega)
        have hns := ((hn2.alloc (.cells #[.int .i64 kk, .string tt, .slice A n1 cap1, .slice A' n2 cap2] 37) hplt (by omega) (by omega)).alloc (.cells #[.int .i64 kk, .string tt, .slice A n1 cap1, .slice A' n2 cap2] 37) hplt (by omega) (by omega))
        obtain ⟨i0, hi, hz0, hz1, hz2⟩ := info_parts Tryz.info37
        go_wp2_with (at_builtin; refine wpList_append_own_at _ rfl _ _ 35 rfl (w1.heap.size + 1) 37 i0 _ 4 72 Tryz.underlying35 hi hz0 hz1 hz2 rfl (by decide) _ l.length (cellsJ c l.length) rfl hns.rowL ⟨w2.heap.size + 1, 0, none⟩ 1 1 [.int .i64 kk, .string tt, .slice A n1 cap1, .slice A' n2 cap2] rfl rfl (by have := cells4_new (w2.alloc (.cells #[.int .i64 kk, .string tt, .slice A n1 cap1, .slice A' n2 cap2] 37)) (.int .i64 kk) (.string tt) (.slice A n1 cap1) (.slice A' n2 cap2); simpa using this) (by simp [Value.oneCell']) (by unfold maxLen; omega) (by omega) hns.size ?_; intro v' w5 hown' hgrow _ hblk; obtain ⟨g', cap', rfl⟩ := ownsRow_succ hown'; obtain ⟨c', hns6⟩ := hns.elem (by omega) (by omega) hown' hgrow hblk ((hj2.fr ((Fr.refl w2 (fun _ => True)).alloc _) (fun _ _ => trivial)).fr ((Fr.refl _ (fun _ => True)).alloc _) (fun _ _ => trivial)); have hout5 := hns.out5 hgrow (by omega); have u5 : w5.cell? ⟨w.heap.size + 1, 2, none⟩ = some (.slice A3 l.length cap3) := (by rw [cell_of_row _ _ _ _ _ _ hout5]; rfl); have y5 := frozen_of_row w5 (w.heap.size + 1) 2 _ 37 hout5)
        have hf6 : Fr w2 (w5.setCell ⟨w.heap.size + 1, 2, none⟩ (.slice (some ⟨g', 0, none⟩) (l.length + 1) cap')) (fun g => g < w1.heap.size + 1 ∧ g ≠ w.heap.size + 1) :=
          ((((Fr.refl w2 _).alloc _).alloc _).trans (Fr.of hgrow (fun b _ hb e => by have := (hns.rowL.lt b e.symm).1; omega))).trans (Fr.of (gset w5 (w.heap.size + 1) 2 _) (fun b _ hb e => hb.2 (by cases e; rfl)))
        have hpar6 : Par (w5.setCell ⟨w.heap.size + 1, 2, none⟩ (.slice (some ⟨g', 0, none⟩) (l.length + 1) cap')) p s z := by
          obtain ⟨k6, hh6, hr6⟩ := hst.1
          exact ⟨k6, hf6.at hh6 ⟨by omega, by omega⟩, hr6⟩
        have hseen6 := (HSe.out.fr hst.fr (by omega)).fr hf6 ⟨by omega, by omega⟩
        clear hown' hgrow hblk hout5 u5 y5 hns u2 y2 hn2 hj hj2 hst hf6 hn holt hpar
        generalize w5.setCell ⟨w.heap.size + 1, 2, none⟩ (.slice (some ⟨g', 0, none⟩) (l.length + 1) cap') = W6 at *
        have htk := take_any p s z W6 hpar6
        obtain ⟨hnil, hc44, hcfin, hcels⟩ := got_facts (ws := white z) HR.out headM_arr HLen.out HV.out rfl
        have hfacts := Lib.hid (And.intro hnil (And.intro hc44 (And.intro hcfin hcels)))
        clear hnil hc44 hcfin hcels HR
        generalize white z = ws at *
        refine htk.mono ?_
        rintro e w7 ⟨rfl, hst7⟩
        have hns7 := hns6.fr (b := w1.heap.size) (hst7.fr.mono (fun _ _ h => h.1)) hplt (by omega) (by omega) (by omega)
        have hseen7 := hseen6.fr hst7.fr (show w1.heap.size ≠ p by omega)
        have hstep7 : Step w p s ws.tail w7 := ⟨hst7.1, hns7.frame⟩
        obtain ⟨⟨q0, q1, q2, q3⟩, ⟨y0, y1, y2, y3⟩, ⟨u0, u1, u2, u3⟩⟩ := hns7.cells
        obtain ⟨AK, capK, rfl, _, _, _⟩ := own_open hns7.rowK (by omega)
        clear hns6 hseen6 hpar6 htk HSe
        obtain ⟨hnil, hc44, hcfin, hcels⟩ := hfacts.out
        clear hfacts
        cases ws with
        | nil =>
          have HM := Lib.hid (hnil rfl)
          clear hnil hc44 hcfin hcels
          go_wp2
          refine bodyPost_ret (v := .tuple #[zero26, .int .i64 4]) (by simp [results, Tryz.results128, go_sem, q0, q1, q2, q3]) rfl ?_
          rw [HM.out]
          exact ⟨rfl, _, hstep7.set4 (Nat.le_refl _) hplt⟩
        | cons c q =>
          by_cases h44 : c.toNat = 44
          · have b44 : ((c.toNat : Int) == 44) = true := by simp only [beq_iff_eq]; omega
            obtain ⟨hM, hql⟩ := hc44 c q rfl h44
            have HM := Lib.hid hM
            clear hM hnil hc44 hcfin hcels h44
            go_wp2
            go_roundg q.length
            case measure => have := HG.out; omega
            case rel => exact ⟨f, ks, l ++ [v], q, _, _, c', rfl, by omega, HM.out.symm, hst7.1, hseen7, by simp; omega, by omega, hns7⟩
          · have b44 : ((c.toNat : Int) == 44) = false := by simp only [beq_eq_false_iff_ne, ne_eq]; omega
            by_cases h93 : c.toNat = 93
            · have b93 : ((c.toNat : Int) == 93) = true := by simp only [beq_iff_eq]; omega
              have HM := Lib.hid (hcfin c q rfl h93)
              clear hnil hc44 hcfin hcels h44 h93
              have hjv := hns7.value (k := 6) rfl
              go_wp2
              rw [Exit.noGoto_ret]
              refine bodyPost_ret (v := .tuple #[.agg #[.int .i64 6, .string ⟨#[]⟩, .slice (some ⟨g', 0, none⟩) (l.length + 1) cap', .slice AK ks.length capK], .int .i64 0]) (by simp [results, Tryz.results128, go_sem, q0, q1, q2, q3]) rfl ?_
              rw [HM.out]
              exact ⟨_, _, _, _, rfl, (hjv.set4 (fun g hg => by omega)).mono (fun g _ hg => by omega), hstep7.set4 (Nat.le_refl _) hplt⟩
            · have b93 : ((c.toNat : Int) == 93) = false := by simp only [beq_eq_false_iff_ne, ne_eq]; omega
              have HM := Lib.hid (hcels c q rfl h44 h93)
              clear hnil hc44 hcfin hcels h44 h93
              go_wp2
              refine bodyPost_ret (v := .tuple #[zero26, .int .i64 4]) (by simp [results, Tryz.results128, go_sem, q0, q1, q2, q3]) rfl ?_
              rw [HM.out]
              exact ⟨rfl, _, hstep7.set4 (Nat.le_refl _) hplt⟩
      · have HM := Lib.hid (HR.out.symm.trans (loopM_err (f := f) (ks := ks) (l := l) headM_arr hsv))
        have hn2 := hn.fr (b := w1.heap.size) (hst.fr.mono (fun _ _ h => h.1)) hplt (by omega) (by omega) (by omega)
        have hstep2 : Step w p s zs' w2 := ⟨hst.1, hn2.frame⟩
        obtain ⟨⟨q0, q1, q2, q3⟩, ⟨y0, y1, y2, y3⟩, _⟩ := hn2.cells
        have her' : ((er : Int) == 0) = false := by simp only [beq_eq_false_iff_ne, ne_eq]; omega
        have her2 : ((er : Int) != 0) = true := by simp only [bne, her']; rfl
        have hrlt := blk_lt hn2.res
        clear her hcall hn hpar HR hsv
        go_wp2
        rw [Exit.noGoto_ret]
        refine bodyPost_ret (v := .tuple #[zero26, .int .i64 er]) (by simp [results, Tryz.results128, go_sem, q0, q1, q2, q3, hrlt]) rfl ?_
        rw [HM.out]
        exact ⟨rfl, _, (hstep2.set4 (Nat.le_refl _) hplt).alloc _⟩
end Go.Proofs.YtfboecnhakihnaaGreatDoor.js

namespace Go.Proofs.YtfboecnhakihnaaGreatDoor.js
open Go.RowKit

theorem keyM_err {ks : List ByteArray} {xs : Bs} {er : Nat} (h : keyM ks xs = .error er) : er = 4 ∨ er = 7 := by
  unfold keyM at h
  repeat' split at h
  all_goals first | (cases h; omega) | cases h
theorem keyM_len {ks : List ByteArray} {xs r : Bs} {k : ByteArray} (h : keyM ks xs = .ok (k, r)) : r.length < xs.length := by
  unfold keyM at h
  have h1 := white_le xs
  cases hx : white xs with
  | nil => rw [hx] at h; cases h
  | cons c t =>
    rw [hx] at h h1
    simp only [List.length_cons] at h1
    simp only at h
    split at h
    · cases hq : qstr t with
      | none => rw [hq] at h; cases h
      | some tr =>
        obtain ⟨t', r'⟩ := tr
        have h2 := qstr_len hq
        have h3 := white_le r'
        rw [hq] at h
        simp only at h
        split at h
        · cases h
        · cases hw : white r' with
          | nil => rw [hw] at h; cases h
          | cons c' r'' =>
            rw [hw] at h h3
            simp only [List.length_cons] at h3
            simp only at h
            split at h
            · cases h; omega
            · cases h
    · cases h
theorem headM_err {ks : List ByteArray} {xs : Bs} {er : Nat} (h : keyM ks xs = .error er) : headM true ks xs = .error er := by simp [headM, h]
theorem headM_ok {ks : List ByteArray} {xs r : Bs} {k : ByteArray} (h : keyM ks xs = .ok (k, r)) : headM true ks xs = .ok (ks ++ [k], r) := by simp [headM, h]
set_option maxHeartbeats 2000000 in
set_option maxRecDepth 100000 in
theorem nest_obj (p : Nat) (s : ByteArray) (x : UInt8) (r : Bs) (d : Nat) (hd : d < 64) (sub : Bs → Res) (w : World) (h : Par w p s (x :: r)) (hG : Gl w) (hp4 : 4 ≤ p)
    (hsub : ∀ w1 ys, Par w1 p s ys → Gl w1 → Calls Tryz.prog 110 #[.pointer (some ⟨p, 0, none⟩), .int .i64 ((d : Int) + 1)] w1 (ValPost w1 p s (sub ys)))
    (hlen : ∀ ys v zs, sub ys = .ok (v, zs) → zs.length ≤ ys.length) :
    Calls Tryz.prog 128 #[.pointer (some ⟨p, 0, none⟩), .int .i64 7, .int .u8 125, .int .i64 d] w (NestPost w p s (manyM sub true r)) := by
  obtain ⟨k, c0, c1, f0, f1, ha, hs, _⟩ := h.parts
  have hplt := h.lt
  have hk := ha.lt
  have hrl : r.length ≤ 30000 := by have := ha.len; simp at this; omega
  have hst1 : Step w p s r (((w.setCell ⟨p, 1, none⟩ (.int .i64 ((k : Int) + 1))).alloc (.cells zcells 37)).alloc (.cells #[.int .i64 7, .string ⟨#[]⟩, .slice none 0 0, .slice none 0 0] 37)) := (((Step.refl h).set ha.tail).alloc _).alloc _
  have hres1 : (((w.setCell ⟨p, 1, none⟩ (.int .i64 ((k : Int) + 1))).alloc (.cells zcells 37)).alloc (.cells #[.int .i64 7, .string ⟨#[]⟩, .slice none 0 0, .slice none 0 0] 37)).heap[w.heap.size]? = some (.cells zcells 37 (0, 0)) := by
    rw [Below.heap_alloc _ _ _ (by simp)]
    have := heap_alloc_new (w.setCell ⟨p, 1, none⟩ (.int .i64 ((k : Int) + 1))) (.cells zcells 37 (0, 0))
    simpa using this
  have hout1 : (((w.setCell ⟨p, 1, none⟩ (.int .i64 ((k : Int) + 1))).alloc (.cells zcells 37)).alloc (.cells #[.int .i64 7, .string ⟨#[]⟩, .slice none 0 0, .slice none 0 0] 37)).heap[w.heap.size + 1]? = some (.cells #[.int .i64 7, .string ⟨#[]⟩, .slice none 0 0, .slice none 0 0] 37 (0, 0)) := by
    have := heap_alloc_new ((w.setCell ⟨p, 1, none⟩ (.int .i64 ((k : Int) + 1))).alloc (.cells zcells 37)) (.cells #[.int .i64 7, .string ⟨#[]⟩, .slice none 0 0, .slice none 0 0] 37 (0, 0))
    simpa using this
  have hsg : ∀ w1, Par w1 p s r → _ := fun w1 hp => sign_any p s r w1 hp
  have HS := Lib.hid hsg
  have HSub := Lib.hid hsub
  have HLen := Lib.hid hlen
  have hmm := @run_makeMap Tryz.prog
  clear hsg hsub hlen ha
  have hd64 : (d : Int) < 64 := by omega
  have hwl := white_le r
  have hfin : ∀ c t, white r = c :: t → c.toNat = 125 → manyM sub true r = .ok (.mk 7 ByteArray.empty [] [], t) := fun c t a b => manyM_fin (obj := true) a b
  have hloop : (∀ c t, white r = c :: t → c.toNat ≠ 125) → manyM sub true r = loopM sub true ((white r).length + 1) [] [] (white r) := fun a => manyM_loop (obj := true) a
  generalize white r = ys at *
  generalize manyM sub true r = M at *
  have HFin := Lib.hid hfin
  have HLoop := Lib.hid hloop
  clear hfin hloop
  go_enter Tryz.func128, Tryz.ntmps128
  go_wp2
  go_step3
  go_wp2_with fail
  generalize ((w.setCell ⟨p, 1, none⟩ (.int .i64 ((k : Int) + 1))).alloc (.cells zcells 37)).alloc (.cells #[.int .i64 7, .string ⟨#[]⟩, .slice none 0 0, .slice none 0 0] 37) = W1 at *
  refine (HS.out W1 hst1.1).mono ?_
  rintro e w1 ⟨rfl, hst2⟩
  have hres2 := hst2.fr.at hres1 (show w.heap.size ≠ p by omega)
  have hout2 := hst2.fr.at hout1 (show w.heap.size + 1 ≠ p by omega)
  have hst3 := hst1.of hst2
  clear hres1 hout1 hst1 hst2 HS
  obtain ⟨k2, c02, c12, f02, f12, ha2, _, _⟩ := hst3.1.parts
  have q0 : w1.cell? ⟨w.heap.size, 0, none⟩ = some (.int .i64 0) := by rw [cell_of_row _ _ _ _ _ _ hres2]; rfl
  have q1 : w1.cell? ⟨w.heap.size, 1, none⟩ = some (.string ⟨#[]⟩) := by rw [cell_of_row _ _ _ _ _ _ hres2]; rfl
  have q2 : w1.cell? ⟨w.heap.size, 2, none⟩ = some (.slice none 0 0) := by rw [cell_of_row _ _ _ _ _ _ hres2]; rfl
  have q3 : w1.cell? ⟨w.heap.size, 3, none⟩ = some (.slice none 0 0) := by rw [cell_of_row _ _ _ _ _ _ hres2]; rfl
  have y0 := frozen_of_row w1 w.heap.size 0 _ 37 hres2
  have y1 := frozen_of_row w1 w.heap.size 1 _ 37 hres2
  have y2 := frozen_of_row w1 w.heap.size 2 _ 37 hres2
  have y3 := frozen_of_row w1 w.heap.size 3 _ 37 hres2
  have u0 : w1.cell? ⟨w.heap.size + 1, 0, none⟩ = some (.int .i64 7) := by rw [cell_of_row _ _ _ _ _ _ hout2]; rfl
  have u1 : w1.cell? ⟨w.heap.size + 1, 1, none⟩ = some (.string ⟨#[]⟩) := by rw [cell_of_row _ _ _ _ _ _ hout2]; rfl
  have u2 : w1.cell? ⟨w.heap.size + 1, 2, none⟩ = some (.slice none 0 0) := by rw [cell_of_row _ _ _ _ _ _ hout2]; rfl
  have u3 : w1.cell? ⟨w.heap.size + 1, 3, none⟩ = some (.slice none 0 0) := by rw [cell_of_row _ _ _ _ _ _ hout2]; rfl
  by_cases hend : ∃ c t, ys = c :: t ∧ c.toNat = 125
  · obtain ⟨c, t, rfl, hc⟩ := hend
    have hM := HFin.out c t rfl hc
    have HM := Lib.hid hM
    have hc1 : ((c.toNat : Int) == 125) = true := by simp only [beq_iff_eq]; omega
    have hst4 := hst3.set ha2.tail
    have hlt2 := ha2.lt
    clear hM HFin HLoop HSub HLen hc
    go_wp2
    refine bodyPost_ret (v := .tuple #[leaf 7 ⟨#[]⟩, .int .i64 0]) (by simp [results, Tryz.results128, go_sem, q0, q1, q2, q3]) rfl ?_
    rw [HM.out]
    exact ⟨_, _, _, _, rfl, JIn.leaf _ _ 7 _, (((hst4.setNew (Nat.le_refl _) hplt).setNew (Nat.le_refl _) hplt).setNew (Nat.le_refl _) hplt).setNew (Nat.le_refl _) hplt⟩
  · have hne : ∀ c t, ys = c :: t → c.toNat ≠ 125 := fun c t e hc => hend ⟨c, t, e, hc⟩
    have hM := HLoop.out hne
    have hc1 : ((((List.head? ys).getD 0).toNat : Int) == 125) = false := by
      simp only [beq_eq_false_iff_ne, ne_eq]
      cases ys with
      | nil => decide
      | cons c t => have := hne c t rfl; simp; omega
    have HM := Lib.hid hM
    clear hM HFin HLoop hne hend
    have hsz1 : w.heap.size + 1 < w1.heap.size := blk_lt hout2
    have hns : NSt w (w1.alloc (.map #[] 0)) p (w.heap.size + 1) (w1.heap.size + 1) 7 [] [] (.slice none 0 0) (.slice none 0 0) (fun _ _ => undef) := by
      have := NSt.start (hst3.alloc (.map #[] 0)).2 ((Below.heap_alloc w1 _ _ (blk_lt hres2)).trans hres2) ((Below.heap_alloc w1 _ _ (blk_lt hout2)).trans hout2)
      simpa using this
    have hrel0 : NRel sub true M w p s (w.heap.size + 1) w1.heap.size (w1.heap.size + 1) 7 ys.length (w1.alloc (.map #[] 0)) :=
      ⟨ys.length + 1, [], [], ys, _, _, _, rfl, by omega, HM.out.symm, (hst3.alloc _).1, Seen.made w1, by simp; omega, by simp; omega, hns⟩
    clear q0 q1 q2 q3 y0 y1 y2 y3 u0 u1 u2 u3 c02 c12 f02 f12 ha2 c0 c1 f0 f1 hns HM hst3 hres2 hout2
    go_wp2
    go_step3
    go_wp2
    go_loopg [] ys.length (fun g wr => NRel sub true M w p s (w.heap.size + 1) w1.heap.size (w1.heap.size + 1) 7 g wr)
    case atStart => exact hrel0
    case round =>
      obtain ⟨f, ks, l, zs, vL, vK, c, hg, hf, hR, hpar, hseen, hb1, hb2, hn⟩ := hrel
      obtain ⟨f, rfl⟩ : ∃ f', f = f' + 1 := ⟨f - 1, by omega⟩
      clear hrel0
      have HG := Lib.hid hg
      have hGl := hG.kept hn.frame (fun k e => by cases e; exact hp4)
      have hkc := key_any p s zs w1.heap.size ks.length ks wr hpar hGl hp4 hseen (by omega) (by omega)
      have hke := fun er => keyM_err (ks := ks) (xs := zs) (er := er)
      have hkl := fun k r => keyM_len (ks := ks) (xs := zs) (k := k) (r := r)
      have hhe := fun er => headM_err (ks := ks) (xs := zs) (er := er)
      have hho := fun k r => headM_ok (ks := ks) (xs := zs) (k := k) (r := r)
      have HR := Lib.hid hR
      clear hg hR hseen
      generalize keyM ks zs = mk at *
      cases mk with
      | error er =>
        have her := hke er rfl
        have HM := Lib.hid (HR.out.symm.trans (loopM_head (sub := sub) (f := f) (l := l) (hhe er rfl)))
        clear hke hkl hhe hho HR
        go_wp2_with fail
        refine hkc.mono ?_
        rintro e w2 ⟨hfr, zs', rfl, hpar2⟩
        have hn2 := hn.fr hfr hplt (by omega) (by omega) (by omega)
        have hstep2 : Step w p s zs' w2 := ⟨hpar2, hn2.frame⟩
        obtain ⟨⟨q0, q1, q2, q3⟩, ⟨y0, y1, y2, y3⟩, _⟩ := hn2.cells
        have her' : ((er : Int) == 0) = false := by simp only [beq_eq_false_iff_ne, ne_eq]; omega
        have her2 : ((er : Int) != 0) = true := by simp only [bne, her']; rfl
        have hrlt := blk_lt hn2.res
        clear her hkc hn hpar
        go_wp2
        rw [Exit.noGoto_ret]
        refine bodyPost_ret (v := .tuple #[zero26, .int .i64 er]) (by simp [results, Tryz.results128, go_sem, q0, q1, q2, q3, hrlt]) rfl ?_
        rw [HM.out]
        exact ⟨rfl, _, hstep2.set4 (Nat.le_refl _) hplt⟩
      | ok kr =>
      obtain ⟨kk0, ys1⟩ := kr
      have hyl := hkl kk0 ys1 rfl
      have HH := Lib.hid (hho kk0 ys1 rfl)
      clear hke hkl hhe hho
      go_wp2_with fail
      refine hkc.mono ?_
      rintro e wk ⟨hfrk, rfl, hpark, hseenk, hksz⟩
      have hnk := hn.fr hfrk hplt (by omega) (by omega) (by omega)
      have uk : wk.cell? ⟨w.heap.size + 1, 3, none⟩ = some vK := by rw [cell_of_row _ _ _ _ _ _ hnk.out]; rfl
      have yk := frozen_of_row wk (w.heap.size + 1) 3 _ 37 hnk.out
      have holtk := hnk.olt
      obtain ⟨AK0, capK0, rfl, _, _, _⟩ := own_open hnk.rowK (by omega)
      have hnsk := hnk.alloc (.cells #[.string kk0] 9) hplt (by omega) (by omega)
      obtain ⟨i9, hi9, hz90, hz91, hz92⟩ := info_parts Tryz.info9
      clear hkc hn hpar hfrk
      go_wp2_with (at_builtin; refine wpList_append_own_at _ rfl _ _ 27 rfl (w1.heap.size + 1) 9 i9 _ 1 16 Tryz.underlying27 hi9 hz90 hz91 hz92 rfl (by decide) _ ks.length (ks.map Value.string) rfl hnsk.rowK ⟨wk.heap.size, 0, none⟩ 1 1 [.string kk0] rfl rfl (cell_one_new _ _ _) (by simp [Value.oneCell']) (by unfold maxLen; omega) (by omega) hnsk.size ?_; intro vk' wk5 hownk hgrowk _ hblkk; obtain ⟨gk', capk', rfl⟩ := ownsRow_succ hownk; have hnsk6 := hnsk.key (by omega) (by omega) hownk hgrowk hblkk; have houtk5 := hnsk.out6 hgrowk (by omega); have uk5 : wk5.cell? ⟨w.heap.size + 1, 3, none⟩ = some (.slice AK0 ks.length capK0) := (by rw [cell_of_row _ _ _ _ _ _ houtk5]; rfl); have yk5 := frozen_of_row wk5 (w.heap.size + 1) 3 _ 37 houtk5)
      have hfk6 : Fr wk (wk5.setCell ⟨w.heap.size + 1, 3, none⟩ (.slice (some ⟨gk', 0, none⟩) (ks.length + 1) capk')) (fun g => g < w1.heap.size + 1 ∧ g ≠ w.heap.size + 1) :=
        (((Fr.refl wk _).alloc _).trans (Fr.of hgrowk (fun b _ hb e => by have := (hnsk.rowK.lt b e.symm).1; omega))).trans (Fr.of (gset wk5 (w.heap.size + 1) 3 _) (fun b _ hb e => hb.2 (by cases e; rfl)))
      have hpark6 : Par (wk5.setCell ⟨w.heap.size + 1, 3, none⟩ (.slice (some ⟨gk', 0, none⟩) (ks.length + 1) capk')) p s ys1 := by
        obtain ⟨k6, hh6, hr6⟩ := hpark
        exact ⟨k6, hfk6.at hh6 ⟨by omega, by omega⟩, hr6⟩
      have hseenk6 := hseenk.fr hfk6 ⟨by omega, by omega⟩
      have hksl : (ks ++ [kk0]).length = ks.length + 1 := by simp
      clear hownk hgrowk hblkk houtk5 uk5 yk5 hnsk uk yk hnk hfk6 holtk hpark hseenk
      generalize wk5.setCell ⟨w.heap.size + 1, 3, none⟩ (.slice (some ⟨gk', 0, none⟩) (ks.length + 1) capk') = WK at *
      have hGl2 := hG.kept hnsk6.frame (fun k e => by cases e; exact hp4)
      have hcall := (HSub.out WK ys1 hpark6 hGl2).mono fun e w' hv => hv.split
      rw [← hksl] at hseenk6
      have HSe := Lib.hid hseenk6
      have hb2' : (ks ++ [kk0]).length + ys1.length ≤ 30000 + 1 := by rw [hksl]; omega
      have hn := hnsk6
      clear hnsk6
      clear hseenk6
      refine hcall.mono ?_
      rintro e w2 (⟨v, z, v0, v1, v2, v3, rfl, hgot, hj, hst⟩ | ⟨er, zs', rfl, hsv, her, hst⟩)
      · have HV := Lib.hid hgot
        clear hgot hcall
        have hj2 := hj.fresh hn
        obtain ⟨kk, tt, A, A', n1, cap1, n2, cap2, rfl, rfl, rfl, rfl⟩ := hj.forms
        have hn2 := hn.fr (b := w1.heap.size) (hst.fr.mono (fun _ _ h => h.1)) hplt (by omega) (by omega) (by omega)
        have u2 : w2.cell? ⟨w.heap.size + 1, 2, none⟩ = some vL := by rw [cell_of_row _ _ _ _ _ _ hn2.out]; rfl
        have y2 := frozen_of_row w2 (w.heap.size + 1) 2 _ 37 hn2.out
        have holt := hn2.olt
        obtain ⟨A3, cap3, rfl, _, _, _⟩ := own_open hn2.rowL (by omega)
        have hns := ((hn2.alloc (.cells #[.int .i64 kk, .string tt, .slice A n1 cap1, .slice A' n2 cap2] 37) hplt (by omega) (by omega)).alloc (.cells #[.int .i64 kk, .string tt, .slice A n1 cap1, .slice A' n2 cap2] 37) hplt (by omega) (by omega))
        obtain ⟨i0, hi, hz0, hz1, hz2⟩ := info_parts Tryz.info37
        go_wp2_with (at_builtin; refine wpList_append_own_at _ rfl _ _ 35 rfl (w1.heap.size + 1) 37 i0 _ 4 72 Tryz.underlying35 hi hz0 hz1 hz2 rfl (by decide) _ l.length (cellsJ c l.length) rfl hns.rowL ⟨w2.heap.size + 1, 0, none⟩ 1 1 [.int .i64 kk, .string tt, .slice A n1 cap1, .slice A' n2 cap2] rfl rfl (by have := cells4_new (w2.alloc (.cells #[.int .i64 kk, .string tt, .slice A n1 cap1, .slice A' n2 cap2] 37)) (.int .i64 kk) (.string tt) (.slice A n1 cap1) (.slice A' n2 cap2); simpa using this) (by simp [Value.oneCell']) (by unfold maxLen; omega) (by omega) hns.size ?_; intro v' w5 hown' hgrow _ hblk; obtain ⟨g', cap', rfl⟩ := ownsRow_succ hown'; obtain ⟨c', hns6⟩ := hns.elem (by omega) (by omega) hown' hgrow hblk ((hj2.fr ((Fr.refl w2 (fun _ => True)).alloc _) (fun _ _ => trivial)).fr ((Fr.refl _ (fun _ => True)).alloc _) (fun _ _ => trivial)); have hout5 := hns.out5 hgrow (by omega); have u5 : w5.cell? ⟨w.heap.size + 1, 2, none⟩ = some (.slice A3 l.length cap3) := (by rw [cell_of_row _ _ _ _ _ _ hout5]; rfl); have y5 := frozen_of_row w5 (w.heap.size + 1) 2 _ 37 hout5)
        have hf6 : Fr w2 (w5.setCell ⟨w.heap.size + 1, 2, none⟩ (.slice (some ⟨g', 0, none⟩) (l.length + 1) cap')) (fun g => g < w1.heap.size + 1 ∧ g ≠ w.heap.size + 1) :=
          ((((Fr.refl w2 _).alloc _).alloc _).trans (Fr.of hgrow (fun b _ hb e => by have := (hns.rowL.lt b e.symm).1; omega))).trans (Fr.of (gset w5 (w.heap.size + 1) 2 _) (fun b _ hb e => hb.2 (by cases e; rfl)))
        have hpar6 : Par (w5.setCell ⟨w.heap.size + 1, 2, none⟩ (.slice (some ⟨g', 0, none⟩) (l.length + 1) cap')) p s z := by
          obtain ⟨k6, hh6, hr6⟩ := hst.1
          exact ⟨k6, hf6.at hh6 ⟨by omega, by omega⟩, hr6⟩
        have hseen6 := (HSe.out.fr hst.fr (by omega)).fr hf6 ⟨by omega, by omega⟩
        clear hown' hgrow hblk hout5 u5 y5 hns u2 y2 hn2 hj hj2 hst hf6 hn holt hpark6
        generalize w5.setCell ⟨w.heap.size + 1, 2, none⟩ (.slice (some ⟨g', 0, none⟩) (l.length + 1) cap') = W6 at *
        have htk := take_any p s z W6 hpar6
        obtain ⟨hnil, hc44, hcfin, hcels⟩ := got_facts (ws := white z) HR.out HH.out HLen.out HV.out rfl
        have hfacts := Lib.hid (And.intro hnil (And.intro hc44 (And.intro hcfin hcels)))
        clear hnil hc44 hcfin hcels HR
        generalize white z = ws at *
        refine htk.mono ?_
        rintro e w7 ⟨rfl, hst7⟩
        have hns7 := hns6.fr (b := w1.heap.size) (hst7.fr.mono (fun _ _ h => h.1)) hplt (by omega) (by omega) (by omega)
        have hseen7 := hseen6.fr hst7.fr (show w1.heap.size ≠ p by omega)
        have hstep7 : Step w p s ws.tail w7 := ⟨hst7.1, hns7.frame⟩
        obtain ⟨⟨q0, q1, q2, q3⟩, ⟨y0, y1, y2, y3⟩, ⟨u0, u1, u2, u3⟩⟩ := hns7.cells
        clear hns6 hseen6 hpar6 htk HSe
        obtain ⟨hnil, hc44, hcfin, hcels⟩ := hfacts.out
        clear hfacts
        cases ws with
        | nil =>
          have HM := Lib.hid (hnil rfl)
          clear hnil hc44 hcfin hcels
          go_wp2
          refine bodyPost_ret (v := .tuple #[zero26, .int .i64 4]) (by simp [results, Tryz.results128, go_sem, q0, q1, q2, q3]) rfl ?_
          rw [HM.out]
          exact ⟨rfl, _, hstep7.set4 (Nat.le_refl _) hplt⟩
        | cons c q =>
          by_cases h44 : c.toNat = 44
          · have b44 : ((c.toNat : Int) == 44) = true := by simp only [beq_iff_eq]; omega
            obtain ⟨hM, hql⟩ := hc44 c q rfl h44
            have HM := Lib.hid hM
            clear hM hnil hc44 hcfin hcels h44
            go_wp2
            go_roundg q.length
            case measure => have := HG.out; omega
            case rel => exact ⟨f, ks ++ [kk0], l ++ [v], q, _, _, c', rfl, by omega, HM.out.symm, hst7.1, hseen7, by simp; omega, by rw [hksl]; omega, hns7⟩
          · have b44 : ((c.toNat : Int) == 44) = false := by simp only [beq_eq_false_iff_ne, ne_eq]; omega
            by_cases h125 : c.toNat = 125
            · have b125 : ((c.toNat : Int) == 125) = true := by simp only [beq_iff_eq]; omega
              have HM := Lib.hid (hcfin c q rfl h125)
              clear hnil hc44 hcfin hcels h44 h125
              have hjv := hns7.value (k := 7) rfl
              go_wp2
              rw [Exit.noGoto_ret]
              refine bodyPost_ret (v := .tuple #[.agg #[.int .i64 7, .string ⟨#[]⟩, .slice (some ⟨g', 0, none⟩) (l.length + 1) cap', .slice (some ⟨gk', 0, none⟩) (ks.length + 1) capk'], .int .i64 0]) (by simp [results, Tryz.results128, go_sem, q0, q1, q2, q3]) rfl ?_
              rw [HM.out]
              exact ⟨_, _, _, _, rfl, (hjv.set4 (fun g hg => by omega)).mono (fun g _ hg => by omega), hstep7.set4 (Nat.le_refl _) hplt⟩
            · have b125 : ((c.toNat : Int) == 125) = false := by simp only [beq_eq_false_iff_ne, ne_eq]; omega
              have HM := Lib.hid (hcels c q rfl h44 h125)
              clear hnil hc44 hcfin hcels h44 h125
              go_wp2
              refine bodyPost_ret (v := .tuple #[zero26, .int .i64 4]) (by simp [results, Tryz.results128, go_sem, q0, q1, q2, q3]) rfl ?_
              rw [HM.out]
              exact ⟨rfl, _, hstep7.set4 (Nat.le_refl _) hplt⟩
      · have HM := Lib.hid (HR.out.symm.trans (loopM_err (sub := sub) (f := f) (l := l) HH.out hsv))
        have hn2 := hn.fr (b := w1.heap.size) (hst.fr.mono (fun _ _ h => h.1)) hplt (by omega) (by omega) (by omega)
        have hstep2 : Step w p s zs' w2 := ⟨hst.1, hn2.frame⟩
        obtain ⟨⟨q0, q1, q2, q3⟩, ⟨y0, y1, y2, y3⟩, _⟩ := hn2.cells
        have her' : ((er : Int) == 0) = false := by simp only [beq_eq_false_iff_ne, ne_eq]; omega
        have her2 : ((er : Int) != 0) = true := by simp only [bne, her']; rfl
        have hrlt := blk_lt hn2.res
        clear her hcall hn HR hsv
        go_wp2
        rw [Exit.noGoto_ret]
        refine bodyPost_ret (v := .tuple #[zero26, .int .i64 er]) (by simp [results, Tryz.results128, go_sem, q0, q1, q2, q3, hrlt]) rfl ?_
        rw [HM.out]
        exact ⟨rfl, _, (hstep2.set4 (Nat.le_refl _) hplt).alloc _⟩
end Go.Proofs.YtfboecnhakihnaaGreatDoor.js

namespace Go.Proofs.YtfboecnhakihnaaGreatDoor.js
open Go.RowKit

def Shorter (f : Bs → Res) : Prop := ∀ ys v zs, f ys = .ok (v, zs) → zs.length ≤ ys.length
theorem headM_len {obj : Bool} {ks ks' : List ByteArray} {xs ys : Bs} (h : headM obj ks xs = .ok (ks', ys)) : ys.length ≤ xs.length := by
  cases obj with
  | false => rw [headM_arr] at h; cases h; exact Nat.le_refl _
  | true =>
    cases hk : keyM ks xs with
    | error e => rw [headM_err hk] at h; cases h
    | ok kr =>
      obtain ⟨k, r⟩ := kr
      rw [headM_ok hk] at h
      cases h
      exact Nat.le_of_lt (keyM_len hk)
theorem loopM_len {sub : Bs → Res} (hs : Shorter sub) {obj : Bool} : ∀ (f : Nat) (ks : List ByteArray) (l : List J) (xs : Bs) (v : J) (zs : Bs), loopM sub obj f ks l xs = .ok (v, zs) → zs.length ≤ xs.length
  | 0, _, _, _, _, _, h => by cases h
  | f + 1, ks, l, xs, v, zs, h => by
    cases hh : headM obj ks xs with
    | error e => rw [loopM_head hh] at h; cases h
    | ok ky =>
      obtain ⟨ks', ys⟩ := ky
      have h1 := headM_len hh
      cases hv : sub ys with
      | error e => rw [loopM_err hh hv] at h; cases h
      | ok vz =>
        obtain ⟨u, z⟩ := vz
        have h2 := hs _ _ _ hv
        have h3 := white_le z
        cases hw : white z with
        | nil => rw [loopM_nil hh hv hw] at h; cases h
        | cons c q =>
          rw [hw] at h3
          simp only [List.length_cons] at h3
          rw [loopM_cons hh hv hw] at h
          split at h
          · have := loopM_len hs f _ _ _ _ _ h; omega
          · split at h
            · cases h; omega
            · cases h
theorem manyM_len {sub : Bs → Res} (hs : Shorter sub) {obj : Bool} {xs zs : Bs} {v : J} (h : manyM sub obj xs = .ok (v, zs)) : zs.length ≤ xs.length := by
  have h1 := white_le xs
  by_cases he : ∃ c t, white xs = c :: t ∧ c.toNat = finOf obj
  · obtain ⟨c, t, hw, hc⟩ := he
    rw [manyM_fin hw hc] at h
    rw [hw] at h1
    simp only [List.length_cons] at h1
    cases h; omega
  · rw [manyM_loop (fun c t hw hc => he ⟨c, t, hw, hc⟩)] at h
    have := loopM_len hs _ _ _ _ _ _ h
    omega
theorem numM_len {xs t r : Bs} (h : numM xs = some (t, r)) : r.length ≤ xs.length := by
  unfold numM at h
  split at h
  · cases h
  · cases h; simp
theorem plainM_len {xs zs : Bs} {v : J} (h : plainM xs = .ok (v, zs)) : zs.length ≤ xs.length := by
  unfold plainM at h
  split at h
  · cases h; simp
  · split at h
    · cases h; simp
    · split at h
      · cases h; simp
      · cases hn : numM xs with
        | none => rw [hn] at h; cases h
        | some tr =>
          obtain ⟨t, r⟩ := tr
          rw [hn] at h
          cases h
          exact numM_len hn
theorem valM_len {sub : Option (Bs → Res)} (hs : ∀ f, sub = some f → Shorter f) : Shorter (valM sub) := by
  intro xs v zs h
  unfold valM at h
  have h1 := white_le xs
  cases hw : white xs with
  | nil => rw [hw] at h; cases h
  | cons c r =>
    rw [hw] at h h1
    simp only [List.length_cons] at h1
    simp only at h
    split at h
    · cases sub with
      | none => cases h
      | some f => have := manyM_len (hs f rfl) h; omega
    · split at h
      · cases sub with
        | none => cases h
        | some f => have := manyM_len (hs f rfl) h; omega
      · split at h
        · cases hq : qstr r with
          | none => rw [hq] at h; cases h
          | some tr =>
            obtain ⟨t, r'⟩ := tr
            rw [hq] at h
            cases h
            have := qstr_len hq
            omega
        · have := plainM_len h
          simp only [List.length_cons] at this
          omega
theorem lev_len : ∀ n, Shorter (lev n)
  | 0 => valM_len (fun f h => by cases h)
  | n + 1 => valM_len (fun f h => by cases h; exact lev_len n)

-- numbers
theorem num_none {xs : Bs} (h : numN xs = 0) : numM xs = none := by
  unfold numN at h
  split at h
  · omega
  · split at h
    · rename_i h1; unfold numM; rw [if_pos (by omega)]
    · omega
theorem digs_head {xs : Bs} {c : UInt8} (h : xs.head? = some c) (hc : isDig c = true) : 1 ≤ digs xs := by
  cases xs with
  | nil => cases h
  | cons d r => cases h; rw [digs_yes hc]; omega
theorem digs_two {xs : Bs} (h : 1 < digs xs) : ∃ c r, xs.drop 1 = c :: r ∧ isDig c = true := by
  cases xs with
  | nil => simp [digs] at h
  | cons d r =>
    cases hd : isDig d with
    | false => rw [digs_no hd] at h; omega
    | true =>
      rw [digs_yes hd] at h
      cases r with
      | nil => simp [digs] at h
      | cons e t =>
        cases he : isDig e with
        | false => rw [digs_no he] at h; omega
        | true => exact ⟨e, t, rfl, he⟩
/-- Of a number that the program takes. -/
theorem num_some {xs : Bs} (h : 0 < numN xs) : numN xs ≤ xs.length ∧ (numM xs = some (numT (xs.take (numN xs)), xs.drop (numN xs)) ∨ (numM xs = none ∧ ∃ d r, xs.drop (numN xs) = d :: r ∧ isDig d = true)) := by
  have hl := (neg_le xs).2
  have hdl := digs_le (xs.drop (neg xs))
  rw [List.length_drop] at hdl
  by_cases h0 : (xs.drop (neg xs)).head? = some 48
  · have hn : numN xs = neg xs + 1 := numN_zero h0
    have h1 := digs_head h0 (by decide)
    rw [hn]
    refine ⟨by omega, ?_⟩
    by_cases h2 : 1 < digs (xs.drop (neg xs))
    · refine .inr ⟨by unfold numM; rw [if_pos (.inr (.inr ⟨h2, h0⟩))], ?_⟩
      obtain ⟨c, r, hc, hd⟩ := digs_two h2
      exact ⟨c, r, by rw [← List.drop_drop]; exact hc, hd⟩
    · have h3 : digs (xs.drop (neg xs)) = 1 := by omega
      refine .inl ?_
      unfold numM
      rw [if_neg (by omega), h3]
      rfl
  · have hd : 1 ≤ digs (xs.drop (neg xs)) ∧ digs (xs.drop (neg xs)) ≤ 19 := by
      unfold numN at h
      rw [if_neg h0] at h
      split at h <;> omega
    have hn : numN xs = neg xs + digs (xs.drop (neg xs)) := by unfold numN; rw [if_neg h0, if_neg (by omega)]
    rw [hn]
    refine ⟨by omega, .inl ?_⟩
    unfold numM
    rw [if_neg (by intro hc; rcases hc with hc | hc | ⟨_, hc⟩; omega; omega; exact h0 hc)]
    rfl
theorem num_word {xs : Bs} (h : 0 < numN xs) : wordNull.isPrefixOf xs = false ∧ wordFalse.isPrefixOf xs = false ∧ wordTrue.isPrefixOf xs = false := by
  cases xs with
  | nil => simp [numN, neg, digs] at h
  | cons c r =>
    have key : ∀ x : UInt8, x.toNat = 110 ∨ x.toNat = 102 ∨ x.toNat = 116 → c ≠ x := by
      intro x hx e
      subst e
      have hneg : neg (c :: r) = 0 := by
        unfold neg; rw [if_neg]; intro e; cases e; simp at hx
      unfold numN at h
      rw [hneg] at h
      simp only [List.drop_zero, List.head?_cons] at h
      have hc48 : some c ≠ some (48 : UInt8) := by intro e; cases e; simp at hx
      have hdg : isDig c = false := isDig_no (by omega)
      rw [if_neg hc48, digs_no hdg] at h
      simp at h
    have k1 := key 110 (by decide)
    have k2 := key 102 (by decide)
    have k3 := key 116 (by decide)
    simp [wordNull, wordFalse, wordTrue, List.isPrefixOf, Ne.symm k1, Ne.symm k2, Ne.symm k3]
/-- What the program's number or word comes to. -/
theorem plain_num {xs : Bs} (h : 0 < numN xs) : plainM xs = .ok (.mk 4 (str (numT (xs.take (numN xs)))) [] [], xs.drop (numN xs)) ∨ (plainM xs = .error 4 ∧ ∃ d r, xs.drop (numN xs) = d :: r ∧ isDig d = true) := by
  obtain ⟨w1, w2, w3⟩ := num_word h
  obtain ⟨_, h1 | ⟨h1, h2⟩⟩ := num_some h
  · left; simp [plainM, w1, w2, w3, h1]
  · right; exact ⟨by simp [plainM, w1, w2, w3, h1], h2⟩
theorem plain_word {xs : Bs} (h : numN xs = 0) : plainM xs = if wordNull.isPrefixOf xs then .ok (.mk 1 ByteArray.empty [] [], xs.drop 4) else if wordFalse.isPrefixOf xs then .ok (.mk 2 ByteArray.empty [] [], xs.drop 5)
    else if wordTrue.isPrefixOf xs then .ok (.mk 3 ByteArray.empty [] [], xs.drop 4) else .error 4 := by
  unfold plainM
  rw [num_none h]
end Go.Proofs.YtfboecnhakihnaaGreatDoor.js

namespace Go.Proofs.YtfboecnhakihnaaGreatDoor.js
open Go.RowKit

/-- What 'nest' is to answer at a bracket. -/
def NestIs (w : World) (p : Nat) (s : ByteArray) (kind fin : Int) (d : Nat) (x : UInt8) (r : Bs) (M : Res) : Prop :=
  ∀ w1, Step w p s (x :: r) w1 → Calls Tryz.prog 128 #[.pointer (some ⟨p, 0, none⟩), .int .i64 kind, .int .u8 fin, .int .i64 d] w1 (NestPost w1 p s M)

theorem Step.res {w w' : World} {p : Nat} {s : ByteArray} {ys : Bs} {o : Obj} (h : Step (w.alloc o) p s ys w') (hp : p < w.heap.size) : w'.heap[w.heap.size]? = some o :=
  h.fr.at (heap_alloc_new w o) (by omega)

theorem res_cells {w' : World} {b : Nat} (h : w'.heap[b]? = some (.cells zcells 37 (0, 0))) : w'.cell? ⟨b, 0, none⟩ = some (.int .i64 0) ∧ w'.cell? ⟨b, 1, none⟩ = some (.string ⟨#[]⟩) ∧ w'.cell? ⟨b, 2, none⟩ = some (.slice none 0 0) ∧ w'.cell? ⟨b, 3, none⟩ = some (.slice none 0 0) ∧
    w'.frozen? ⟨b, 0, none⟩ = false ∧ w'.frozen? ⟨b, 1, none⟩ = false ∧ w'.frozen? ⟨b, 2, none⟩ = false ∧ w'.frozen? ⟨b, 3, none⟩ = false :=
  ⟨by rw [cell_of_row _ _ _ _ _ _ h]; rfl, by rw [cell_of_row _ _ _ _ _ _ h]; rfl, by rw [cell_of_row _ _ _ _ _ _ h]; rfl, by rw [cell_of_row _ _ _ _ _ _ h]; rfl,
   frozen_of_row w' b 0 _ 37 h, frozen_of_row w' b 1 _ 37 h, frozen_of_row w' b 2 _ 37 h, frozen_of_row w' b 3 _ 37 h⟩
set_option maxHeartbeats 2000000 in
set_option maxRecDepth 100000 in
theorem value_arr (p : Nat) (s : ByteArray) (xs : Bs) (d : Nat) (x : UInt8) (r : Bs) (M : Res) (hw : white xs = x :: r) (hx : x.toNat = 91) (w : World) (h : Par w p s xs)
    (hN : NestIs w p s 6 93 d x r M) : Calls Tryz.prog 110 #[.pointer (some ⟨p, 0, none⟩), .int .i64 d] w (NestPost w p s M) := by
  have hplt := h.lt
  have hsg := sign_any p s xs (w.alloc (.cells zcells 37)) ((Step.refl h).alloc _).1
  rw [hw] at hsg
  have HN := Lib.hid hN
  clear hN hw
  have bx : ((x.toNat : Int) == 91) = true := by simp only [beq_iff_eq]; omega
  clear hx
  cases M with
  | error er =>
    go_enter Tryz.func110, Tryz.ntmps110
    go_wp2_with fail
    refine hsg.mono ?_
    rintro e w1 ⟨rfl, hst1⟩
    have hst := ((Step.refl h).alloc (.cells zcells 37)).of hst1
    go_wp2_with fail
    refine (HN.out w1 hst).mono ?_
    rintro e w2 ⟨rfl, ys, hst2⟩
    have hres := hst2.fr.at (hst1.res hplt) (show w.heap.size ≠ p by omega)
    obtain ⟨q0, q1, q2, q3, y0, y1, y2, y3⟩ := res_cells hres
    have hst3 := hst.of hst2
    clear hsg HN
    go_wp2
    refine bodyPost_ret (v := .tuple #[zero26, .int .i64 er]) (by simp [results, Tryz.results110, go_sem, q0, q1, q2, q3]) rfl ?_
    exact ⟨rfl, ys, hst3.set4 (Nat.le_refl _) hplt⟩
  | ok vr =>
    obtain ⟨v, t⟩ := vr
    go_enter Tryz.func110, Tryz.ntmps110
    go_wp2_with fail
    refine hsg.mono ?_
    rintro e w1 ⟨rfl, hst1⟩
    have hst := ((Step.refl h).alloc (.cells zcells 37)).of hst1
    go_wp2_with fail
    refine (HN.out w1 hst).mono ?_
    rintro e w2 ⟨v0, v1, v2, v3, rfl, hj, hst2⟩
    have hres1 := hst1.res hplt
    have hres := hst2.fr.at hres1 (show w.heap.size ≠ p by omega)
    have hsz := blk_lt hres1
    obtain ⟨q0, q1, q2, q3, y0, y1, y2, y3⟩ := res_cells hres
    have hst3 := hst.of hst2
    obtain ⟨kk, tt, A, A', n1, cap1, n2, cap2, rfl, rfl, rfl, rfl⟩ := hj.forms
    clear hsg HN
    go_wp2
    refine bodyPost_ret (v := .tuple #[.agg #[.int .i64 kk, .string tt, .slice A n1 cap1, .slice A' n2 cap2], .int .i64 0]) (by simp [results, Tryz.results110, go_sem, q0, q1, q2, q3]) rfl ?_
    exact ⟨_, _, _, _, rfl, (hj.set4 (fun g hg => by omega)).mono (fun g _ hg => by omega), hst3.set4 (Nat.le_refl _) hplt⟩
set_option maxHeartbeats 2000000 in
set_option maxRecDepth 100000 in
theorem value_obj (p : Nat) (s : ByteArray) (xs : Bs) (d : Nat) (x : UInt8) (r : Bs) (M : Res) (hw : white xs = x :: r) (hx : x.toNat = 123) (w : World) (h : Par w p s xs)
    (hN : NestIs w p s 7 125 d x r M) : Calls Tryz.prog 110 #[.pointer (some ⟨p, 0, none⟩), .int .i64 d] w (NestPost w p s M) := by
  have hplt := h.lt
  have hsg := sign_any p s xs (w.alloc (.cells zcells 37)) ((Step.refl h).alloc _).1
  rw [hw] at hsg
  have HN := Lib.hid hN
  clear hN hw
  have b91 : ((x.toNat : Int) == 91) = false := by simp only [beq_eq_false_iff_ne, ne_eq]; omega
  have bx : ((x.toNat : Int) == 123) = true := by simp only [beq_iff_eq]; omega
  clear hx
  cases M with
  | error er =>
    go_enter Tryz.func110, Tryz.ntmps110
    go_wp2_with fail
    refine hsg.mono ?_
    rintro e w1 ⟨rfl, hst1⟩
    have hst := ((Step.refl h).alloc (.cells zcells 37)).of hst1
    go_wp2_with fail
    refine (HN.out w1 hst).mono ?_
    rintro e w2 ⟨rfl, ys, hst2⟩
    have hres := hst2.fr.at (hst1.res hplt) (show w.heap.size ≠ p by omega)
    obtain ⟨q0, q1, q2, q3, y0, y1, y2, y3⟩ := res_cells hres
    have hst3 := hst.of hst2
    clear hsg HN
    go_wp2
    refine bodyPost_ret (v := .tuple #[zero26, .int .i64 er]) (by simp [results, Tryz.results110, go_sem, q0, q1, q2, q3]) rfl ?_
    exact ⟨rfl, ys, hst3.set4 (Nat.le_refl _) hplt⟩
  | ok vr =>
    obtain ⟨v, t⟩ := vr
    go_enter Tryz.func110, Tryz.ntmps110
    go_wp2_with fail
    refine hsg.mono ?_
    rintro e w1 ⟨rfl, hst1⟩
    have hst := ((Step.refl h).alloc (.cells zcells 37)).of hst1
    go_wp2_with fail
    refine (HN.out w1 hst).mono ?_
    rintro e w2 ⟨v0, v1, v2, v3, rfl, hj, hst2⟩
    have hres1 := hst1.res hplt
    have hres := hst2.fr.at hres1 (show w.heap.size ≠ p by omega)
    have hsz := blk_lt hres1
    obtain ⟨q0, q1, q2, q3, y0, y1, y2, y3⟩ := res_cells hres
    have hst3 := hst.of hst2
    obtain ⟨kk, tt, A, A', n1, cap1, n2, cap2, rfl, rfl, rfl, rfl⟩ := hj.forms
    clear hsg HN
    go_wp2
    refine bodyPost_ret (v := .tuple #[.agg #[.int .i64 kk, .string tt, .slice A n1 cap1, .slice A' n2 cap2], .int .i64 0]) (by simp [results, Tryz.results110, go_sem, q0, q1, q2, q3]) rfl ?_
    exact ⟨_, _, _, _, rfl, (hj.set4 (fun g hg => by omega)).mono (fun g _ hg => by omega), hst3.set4 (Nat.le_refl _) hplt⟩

set_option maxHeartbeats 2000000 in
set_option maxRecDepth 100000 in
/-- 'value' at a string. -/
theorem value_str (p : Nat) (s : ByteArray) (xs : Bs) (d : Nat) (x : UInt8) (r : Bs) (hw : white xs = x :: r) (hx : x.toNat = 34) (w : World) (h : Par w p s xs) (hG : Gl w) (hp4 : 4 ≤ p) :
    Calls Tryz.prog 110 #[.pointer (some ⟨p, 0, none⟩), .int .i64 d] w (NestPost w p s (match qstr r with | none => .error 4 | some (t, r') => .ok (.mk 5 (str t) [] [], r'))) := by
  have hplt := h.lt
  have hsg := sign_any p s xs (w.alloc (.cells zcells 37)) ((Step.refl h).alloc _).1
  rw [hw] at hsg
  have hq : ∀ w1, Step w p s (x :: r) w1 → Calls Tryz.prog 129 #[.pointer (some ⟨p, 0, none⟩)] w1 (QuoPost w1 p s (qstr r)) := fun w1 hst => quoted_any p s x r w1 hst.1 (hG.step hp4 hst) hp4
  have b91 : ((x.toNat : Int) == 91) = false := by simp only [beq_eq_false_iff_ne, ne_eq]; omega
  have b123 : ((x.toNat : Int) == 123) = false := by simp only [beq_eq_false_iff_ne, ne_eq]; omega
  have bx : ((x.toNat : Int) == 34) = true := by simp only [beq_iff_eq]; omega
  clear hx hw
  generalize qstr r = o at *
  have HQ := Lib.hid hq
  clear hq
  cases o with
  | none =>
    go_enter Tryz.func110, Tryz.ntmps110
    go_wp2_with fail
    refine hsg.mono ?_
    rintro e w1 ⟨rfl, hst1⟩
    have hst := ((Step.refl h).alloc (.cells zcells 37)).of hst1
    go_wp2_with fail
    refine (HQ.out w1 hst).mono ?_
    rintro e w2 ⟨rfl, ys, hst2⟩
    have hres := hst2.fr.at (hst1.res hplt) (show w.heap.size ≠ p by omega)
    obtain ⟨q0, q1, q2, q3, y0, y1, y2, y3⟩ := res_cells hres
    have hst3 := hst.of hst2
    clear hsg HQ
    go_wp2
    refine bodyPost_ret (v := .tuple #[zero26, .int .i64 4]) (by simp [results, Tryz.results110, go_sem, q0, q1, q2, q3]) rfl ?_
    exact ⟨rfl, ys, hst3.set4 (Nat.le_refl _) hplt⟩
  | some tr =>
    obtain ⟨t, r'⟩ := tr
    have hq2 : ∀ w1, Step w p s (x :: r) w1 → Calls Tryz.prog 129 #[.pointer (some ⟨p, 0, none⟩)] w1 fun e w' => e = .returned (.tuple #[.string (str t), .int .i64 0]) ∧ Step w1 p s r' w' := HQ.out
    simp only
    generalize str t = T at *
    clear HQ
    have HQ := Lib.hid hq2
    clear hq2
    go_enter Tryz.func110, Tryz.ntmps110
    go_wp2_with fail
    refine hsg.mono ?_
    rintro e w1 ⟨rfl, hst1⟩
    have hst := ((Step.refl h).alloc (.cells zcells 37)).of hst1
    go_wp2_with fail
    refine (HQ.out w1 hst).mono ?_
    rintro e w2 ⟨rfl, hst2⟩
    have hres := hst2.fr.at (hst1.res hplt) (show w.heap.size ≠ p by omega)
    obtain ⟨q0, q1, q2, q3, y0, y1, y2, y3⟩ := res_cells hres
    have hst3 := hst.of hst2
    clear hsg HQ
    go_wp2
    refine bodyPost_ret (v := .tuple #[leaf 5 T, .int .i64 0]) (by simp [results, Tryz.results110, go_sem, q0, q1, q2, q3]) rfl ?_
    exact ⟨_, _, _, _, rfl, JIn.leaf _ _ 5 T, hst3.set4 (Nat.le_refl _) hplt⟩
set_option maxHeartbeats 2000000 in
set_option maxRecDepth 100000 in
/-- 'value' at anything else. -/
theorem value_plain (p : Nat) (s : ByteArray) (xs : Bs) (d : Nat) (ys : Bs) (hw : white xs = ys) (hx : ((ys.head?.getD 0).toNat : Int) ≠ 91 ∧ ((ys.head?.getD 0).toNat : Int) ≠ 123 ∧ ((ys.head?.getD 0).toNat : Int) ≠ 34) (w : World) (h : Par w p s xs) (hG : Gl w) (hp4 : 4 ≤ p) :
    Calls Tryz.prog 110 #[.pointer (some ⟨p, 0, none⟩), .int .i64 d] w (ValPost w p s (plainM ys)) := by
  have hplt := h.lt
  have hsg := sign_any p s xs (w.alloc (.cells zcells 37)) ((Step.refl h).alloc _).1
  rw [hw] at hsg
  have hnum := fun t w1 hs => numeral_any t w1 hs
  have b91 : (((ys.head?.getD 0).toNat : Int) == 91) = false := by simp only [beq_eq_false_iff_ne, ne_eq]; omega
  have b123 : (((ys.head?.getD 0).toNat : Int) == 123) = false := by simp only [beq_eq_false_iff_ne, ne_eq]; omega
  have bx : (((ys.head?.getD 0).toNat : Int) == 34) = false := by simp only [beq_eq_false_iff_ne, ne_eq]; omega
  clear hx hw
  go_enter Tryz.func110, Tryz.ntmps110
  go_wp2_with fail
  refine hsg.mono ?_
  rintro e w1 ⟨rfl, hst1⟩
  have hst := ((Step.refl h).alloc (.cells zcells 37)).of hst1
  have hres := hst1.res hplt
  obtain ⟨k, c0, c1, f0, f1, ha, hs, _⟩ := hst.1.parts
  have hk := ha.le
  have hrest := ha.rest
  have hncall : ∀ n, Calls Tryz.prog 86 #[.string (s.extract k s.size)] (w1.drewN n) fun e w' => e = .returned (.int .i64 (numN ys)) ∧ w' = w1.drewN n := fun n => by
    have := numeral_any (s.extract k s.size) (w1.drewN n) (by rw [size_len, hrest]; have := ha.len; omega)
    rw [hrest] at this
    exact this.mono fun e w' ⟨a, b⟩ => ⟨a, b.symm⟩
  have hpn := plain_num (xs := ys)
  have hpw := plain_word (xs := ys)
  have hns := num_some (xs := ys)
  have HC := Lib.hid hncall
  generalize numN ys = n at *
  clear hncall hrest hsg hnum ha
  go_wp2
  go_quiet ((go_at_call 86; exact quiet_same (HC.out) _))
  generalize hW : w1.drewN nq = w2
  have hst2 : Step w p s ys w2 := by rw [← hW]; exact hst.drewN _
  have hres2 : w2.heap[w.heap.size]? = some (.cells zcells 37 (0, 0)) := by rw [← hW]; exact hres
  have hG2 := hG.step hp4 hst2
  have HPN := Lib.hid hpn
  have HPW := Lib.hid hpw
  have HNS := Lib.hid hns
  clear hW hst hst1 hres c0 c1 f0 f1 hk HC hpn hpw hns
  by_cases hn : 0 < n
  · have hle := (HNS.out hn).1
    have hni : (0 : Int) < (n : Int) := by omega
    have hnl : n ≤ 30000 := by
      obtain ⟨k, _, _, _, _, ha, hs, _⟩ := hst2.1.parts
      have := ha.len
      omega
    have hcall := number_any p s ys n hle w2 hst2.1
    rcases HPN.out hn with hp | ⟨hp, dd, rr, hdr, hdd⟩
    · have HP := Lib.hid hp
      clear hp HPN HPW HNS
      generalize str (numT (ys.take n)) = T at *
      go_wp2_with fail
      refine hcall.mono ?_
      rintro e w3 ⟨rfl, hst3⟩
      have hres3 := hst3.fr.at hres2 (show w.heap.size ≠ p by omega)
      obtain ⟨q0, q1, q2, q3, y0, y1, y2, y3⟩ := res_cells hres3
      have hst4 := hst2.of hst3
      clear hcall
      go_wp2
      refine bodyPost_ret (v := .tuple #[leaf 4 T, .int .i64 0]) (by simp [results, Tryz.results110, go_sem, q0, q1, q2, q3]) rfl ?_
      rw [HP.out]
      exact ⟨_, _, _, _, rfl, JIn.leaf _ _ 4 T, hst4.set4 (Nat.le_refl _) hplt⟩
    · have HP := Lib.hid hp
      rw [hdr] at hcall
      clear hp HPN HPW HNS hdr
      generalize str (numT (ys.take n)) = T at *
      go_wp2_with fail
      refine hcall.mono ?_
      rintro e w3 ⟨rfl, hst3⟩
      have hres3 := hst3.fr.at hres2 (show w.heap.size ≠ p by omega)
      obtain ⟨q0, q1, q2, q3, y0, y1, y2, y3⟩ := res_cells hres3
      have hst4 := hst2.of hst3
      have HD := Lib.hid hdd
      clear hcall hdd
      go_wp2
      refine bodyPost_ret (v := .tuple #[leaf 4 T, .int .i64 0]) (by simp [results, Tryz.results110, go_sem, q0, q1, q2, q3]) rfl ?_
      rw [HP.out]
      exact .inr ⟨rfl, T, dd, rr, rfl, HD.out, hst4.set4 (Nat.le_refl _) hplt⟩
  · obtain rfl : n = 0 := by omega
    have hword := word_any p s ys w2 hst2.1 hG2
    have hw := HPW.out rfl
    unfold WordPost at hword
    clear HPN HPW HNS hn
    have hfin : ∀ (kk : Nat) (m : Nat) w3, Step w2 p s (ys.drop m) w3 → w3.heap[w.heap.size]? = some (.cells zcells 37 (0, 0)) := fun kk m w3 hst3 => hst3.fr.at hres2 (show w.heap.size ≠ p by omega)
    by_cases h1 : wordNull.isPrefixOf ys = true
    · simp only [if_pos h1] at hword hw
      have HP := Lib.hid hw
      clear hw h1 hfin
      go_wp2_with fail
      refine hword.mono ?_
      rintro e w3 ⟨rfl, hst3⟩
      have hres3 := hst3.fr.at hres2 (show w.heap.size ≠ p by omega)
      obtain ⟨q0, q1, q2, q3, y0, y1, y2, y3⟩ := res_cells hres3
      have hst4 := hst2.of hst3
      clear hword
      go_wp2
      refine bodyPost_ret (v := .tuple #[leaf 1 ⟨#[]⟩, .int .i64 0]) (by simp [results, Tryz.results110, go_sem, q0, q1, q2, q3]) rfl ?_
      rw [HP.out]
      exact ⟨_, _, _, _, rfl, JIn.leaf _ _ 1 _, hst4.set4 (Nat.le_refl _) hplt⟩
    · simp only [if_neg h1] at hword hw
      by_cases h2 : wordFalse.isPrefixOf ys = true
      · simp only [if_pos h2] at hword hw
        have HP := Lib.hid hw
        clear hw h1 h2 hfin
        go_wp2_with fail
        refine hword.mono ?_
        rintro e w3 ⟨rfl, hst3⟩
        have hres3 := hst3.fr.at hres2 (show w.heap.size ≠ p by omega)
        obtain ⟨q0, q1, q2, q3, y0, y1, y2, y3⟩ := res_cells hres3
        have hst4 := hst2.of hst3
        clear hword
        go_wp2
        refine bodyPost_ret (v := .tuple #[leaf 2 ⟨#[]⟩, .int .i64 0]) (by simp [results, Tryz.results110, go_sem, q0, q1, q2, q3]) rfl ?_
        rw [HP.out]
        exact ⟨_, _, _, _, rfl, JIn.leaf _ _ 2 _, hst4.set4 (Nat.le_refl _) hplt⟩
      · simp only [if_neg h2] at hword hw
        by_cases h3 : wordTrue.isPrefixOf ys = true
        · simp only [if_pos h3] at hword hw
          have HP := Lib.hid hw
          clear hw h1 h2 h3 hfin
          go_wp2_with fail
          refine hword.mono ?_
          rintro e w3 ⟨rfl, hst3⟩
          have hres3 := hst3.fr.at hres2 (show w.heap.size ≠ p by omega)
          obtain ⟨q0, q1, q2, q3, y0, y1, y2, y3⟩ := res_cells hres3
          have hst4 := hst2.of hst3
          clear hword
          go_wp2
          refine bodyPost_ret (v := .tuple #[leaf 3 ⟨#[]⟩, .int .i64 0]) (by simp [results, Tryz.results110, go_sem, q0, q1, q2, q3]) rfl ?_
          rw [HP.out]
          exact ⟨_, _, _, _, rfl, JIn.leaf _ _ 3 _, hst4.set4 (Nat.le_refl _) hplt⟩
        · simp only [if_neg h3] at hword hw
          have HP := Lib.hid hw
          clear hw h1 h2 h3 hfin
          go_wp2_with fail
          refine hword.mono ?_
          rintro e w3 ⟨rfl, hst3⟩
          have hres3 := hst3.fr.at hres2 (show w.heap.size ≠ p by omega)
          obtain ⟨q0, q1, q2, q3, y0, y1, y2, y3⟩ := res_cells hres3
          have hst4 := hst2.of hst3
          clear hword
          go_wp2
          refine bodyPost_ret (v := .tuple #[zero26, .int .i64 4]) (by simp [results, Tryz.results110, go_sem, q0, q1, q2, q3]) rfl ?_
          rw [HP.out]
          exact .inl ⟨rfl, .inl rfl, _, hst4.set4 (Nat.le_refl _) hplt⟩

-- which faults there are
theorem loopM_er {sub : Bs → Res} (hs : ∀ ys er, sub ys = .error er → er = 4 ∨ er = 5 ∨ er = 7) {obj : Bool} : ∀ (f : Nat) (ks : List ByteArray) (l : List J) (xs : Bs) (er : Nat), loopM sub obj f ks l xs = .error er → er = 4 ∨ er = 5 ∨ er = 7
  | 0, _, _, _, _, h => by cases h; omega
  | f + 1, ks, l, xs, er, h => by
    cases hh : headM obj ks xs with
    | error e =>
      rw [loopM_head hh] at h
      cases h
      cases obj with
      | false => rw [headM_arr] at hh; cases hh
      | true =>
        cases hk : keyM ks xs with
        | error e => rw [headM_err hk] at hh; cases hh; have := keyM_err hk; omega
        | ok kr => obtain ⟨k, r⟩ := kr; rw [headM_ok hk] at hh; cases hh
    | ok ky =>
      obtain ⟨ks', ys⟩ := ky
      cases hv : sub ys with
      | error e => rw [loopM_err hh hv] at h; cases h; exact hs _ _ hv
      | ok vz =>
        obtain ⟨u, z⟩ := vz
        cases hw : white z with
        | nil => rw [loopM_nil hh hv hw] at h; cases h; omega
        | cons c q =>
          rw [loopM_cons hh hv hw] at h
          split at h
          · exact loopM_er hs f _ _ _ _ h
          · split at h
            · cases h
            · cases h; omega
theorem manyM_er {sub : Bs → Res} (hs : ∀ ys er, sub ys = .error er → er = 4 ∨ er = 5 ∨ er = 7) {obj : Bool} {xs : Bs} {er : Nat} (h : manyM sub obj xs = .error er) : er = 4 ∨ er = 5 ∨ er = 7 := by
  by_cases he : ∃ c t, white xs = c :: t ∧ c.toNat = finOf obj
  · obtain ⟨c, t, hw, hc⟩ := he
    rw [manyM_fin hw hc] at h; cases h
  · rw [manyM_loop (fun c t hw hc => he ⟨c, t, hw, hc⟩)] at h
    exact loopM_er hs _ _ _ _ _ h
theorem valM_er {sub : Option (Bs → Res)} (hs : ∀ f, sub = some f → ∀ ys er, f ys = .error er → er = 4 ∨ er = 5 ∨ er = 7) (xs : Bs) (er : Nat) (h : valM sub xs = .error er) : er = 4 ∨ er = 5 ∨ er = 7 := by
  unfold valM at h
  cases hw : white xs with
  | nil => rw [hw] at h; cases h; omega
  | cons c r =>
    rw [hw] at h
    simp only at h
    split at h
    · cases sub with
      | none => cases h; omega
      | some f => exact manyM_er (hs f rfl) h
    · split at h
      · cases sub with
        | none => cases h; omega
        | some f => exact manyM_er (hs f rfl) h
      · split at h
        · cases hq : qstr r with
          | none => rw [hq] at h; cases h; omega
          | some tr => obtain ⟨t, r'⟩ := tr; rw [hq] at h; cases h
        · unfold plainM at h
          repeat' split at h
          all_goals first | (cases h; omega) | cases h
theorem lev_er : ∀ n ys er, lev n ys = .error er → er = 4 ∨ er = 5 ∨ er = 7
  | 0 => valM_er (fun f h => by cases h)
  | n + 1 => valM_er (fun f h => by cases h; exact lev_er n)
theorem NestPost.val {w : World} {p : Nat} {s : ByteArray} {M : Res} {e : Ending} {w' : World} (h : NestPost w p s M e w') (hM : ∀ er, M = .error er → er = 4 ∨ er = 5 ∨ er = 7) : ValPost w p s M e w' := by
  cases M with
  | ok vr => exact h
  | error er => exact .inl ⟨h.1, hM er rfl, h.2⟩

/-- 'value', with so many levels left. -/
theorem value_any (p : Nat) (s : ByteArray) (hp4 : 4 ≤ p) : ∀ (n d : Nat), d + n = 64 → ∀ (xs : Bs) (w : World), Par w p s xs → Gl w → Calls Tryz.prog 110 #[.pointer (some ⟨p, 0, none⟩), .int .i64 d] w (ValPost w p s (lev n xs)) := by
  intro n
  induction n with
  | zero =>
    intro d hd xs w h hG
    show Calls _ _ _ _ (ValPost w p s (valM none xs))
    have her := fun er => valM_er (sub := none) (fun f h => by cases h) xs er
    unfold valM at her ⊢
    cases hw : white xs with
    | nil => exact value_plain p s xs d [] hw (by decide) w h hG hp4
    | cons c r =>
      rw [hw] at her
      simp only at her ⊢
      by_cases h1 : c.toNat = 91
      · simp only [if_pos h1] at her ⊢
        exact (value_arr p s xs d c r (.error 5) hw h1 w h (fun w1 hst => nest_limit p s _ _ _ _ (by omega) w1 hst.1)).mono fun e w' hp => hp.val her
      · simp only [if_neg h1] at her ⊢
        by_cases h2 : c.toNat = 123
        · simp only [if_pos h2] at her ⊢
          exact (value_obj p s xs d c r (.error 5) hw h2 w h (fun w1 hst => nest_limit p s _ _ _ _ (by omega) w1 hst.1)).mono fun e w' hp => hp.val her
        · simp only [if_neg h2] at her ⊢
          by_cases h3 : c.toNat = 34
          · simp only [if_pos h3] at her ⊢
            exact (value_str p s xs d c r hw h3 w h hG hp4).mono fun e w' hp => hp.val her
          · simp only [if_neg h3]
            exact value_plain p s xs d (c :: r) hw (by simp; omega) w h hG hp4
  | succ n ih =>
    intro d hd xs w h hG
    show Calls _ _ _ _ (ValPost w p s (valM (some (lev n)) xs))
    have her := fun er => lev_er (n + 1) xs er
    change ∀ er, valM (some (lev n)) xs = .error er → _ at her
    have hsub : ∀ w1 ys, Par w1 p s ys → Gl w1 → Calls Tryz.prog 110 #[.pointer (some ⟨p, 0, none⟩), .int .i64 ((d : Int) + 1)] w1 (ValPost w1 p s (lev n ys)) := fun w1 ys a b => by
      have := ih (d + 1) (by omega) ys w1 a b
      simpa using this
    unfold valM at her ⊢
    cases hw : white xs with
    | nil => exact value_plain p s xs d [] hw (by decide) w h hG hp4
    | cons c r =>
      rw [hw] at her
      simp only at her ⊢
      by_cases h1 : c.toNat = 91
      · simp only [if_pos h1] at her ⊢
        exact (value_arr p s xs d c r _ hw h1 w h (fun w1 hst => nest_arr p s c r d (by omega) (lev n) w1 hst.1 (hG.step hp4 hst) hp4 hsub (lev_len n))).mono fun e w' hp => hp.val her
      · simp only [if_neg h1] at her ⊢
        by_cases h2 : c.toNat = 123
        · simp only [if_pos h2] at her ⊢
          exact (value_obj p s xs d c r _ hw h2 w h (fun w1 hst => nest_obj p s c r d (by omega) (lev n) w1 hst.1 (hG.step hp4 hst) hp4 hsub (lev_len n))).mono fun e w' hp => hp.val her
        · simp only [if_neg h2] at her ⊢
          by_cases h3 : c.toNat = 34
          · simp only [if_pos h3] at her ⊢
            exact (value_str p s xs d c r hw h3 w h hG hp4).mono fun e w' hp => hp.val her
          · simp only [if_neg h3]
            exact value_plain p s xs d (c :: r) hw (by simp; omega) w h hG hp4
end Go.Proofs.YtfboecnhakihnaaGreatDoor.js
