/-
  The parser's 'nest': what holds in its loop, and how the appends keep it.
-/
import Derived.Test.YtcamaloekanelaaDoorKey
namespace Go.Proofs.YtcamaloekanelaaDoor
open Go.RowKit

theorem addr_add (b off j : Nat) : (⟨b, off, none⟩ : Addr).add j = ⟨b, off + j, none⟩ := by unfold Addr.add; split <;> simp_all
def cellsJ (c : Nat → Nat → Value) : Nat → List Value
  | 0 => []
  | n + 1 => cellsJ c n ++ [c n 0, c n 1, c n 2, c n 3]
theorem cellsJ_len (c : Nat → Nat → Value) : ∀ n, (cellsJ c n).length = n * 4
  | 0 => rfl
  | n + 1 => by rw [cellsJ, List.length_append, cellsJ_len c n]; simp; omega
theorem cellsJ_get (c : Nat → Nat → Value) : ∀ n i j, i < n → j < 4 → (cellsJ c n)[4 * i + j]? = some (c i j)
  | n + 1, i, j, hi, hj => by
    rw [cellsJ]
    by_cases h : i < n
    · rw [List.getElem?_append_left (by rw [cellsJ_len]; omega)]
      exact cellsJ_get c n i j h hj
    · obtain rfl : i = n := by omega
      rw [List.getElem?_append_right (by rw [cellsJ_len]; omega), cellsJ_len]
      match j, hj with
      | 0, _ => rw [show 4 * i + 0 - i * 4 = 0 by omega]; rfl
      | 1, _ => rw [show 4 * i + 1 - i * 4 = 1 by omega]; rfl
      | 2, _ => rw [show 4 * i + 2 - i * 4 = 2 by omega]; rfl
      | 3, _ => rw [show 4 * i + 3 - i * 4 = 3 by omega]; rfl
theorem cellsJ_congr {c d : Nat → Nat → Value} : ∀ n, (∀ i j, i < n → c i j = d i j) → cellsJ c n = cellsJ d n
  | 0, _ => rfl
  | n + 1, h => by rw [cellsJ, cellsJ, cellsJ_congr n (fun i j hi => h i j (by omega)), h n 0 (by omega), h n 1 (by omega), h n 2 (by omega), h n 3 (by omega)]

def okE (B : Nat) (vL vK : Value) (g : Nat) : Prop := B ≤ g ∧ some g ≠ vL.ownBlock ∧ some g ≠ vK.ownBlock
/-- What lies in memory while an array or an object is read. -/
structure NSt (w wr : World) (p o B : Nat) (kind : Int) (ks : List ByteArray) (l : List J) (vL vK : Value) (c : Nat → Nat → Value) : Prop where
  frame : w.grownBy wr (some p)
  res : wr.heap[w.heap.size]? = some (.cells zcells 26 (0, 0))
  out : wr.heap[o]? = some (.cells #[.int .i64 kind, .string ⟨#[]⟩, vL, vK] 26 (0, 0))
  rowL : wr.ownsRow B 26 4 vL l.length (cellsJ c l.length)
  rowK : wr.ownsRow B 9 1 vK ks.length (ks.map Value.string)
  apart : vL.ownBlock = none ∨ vL.ownBlock ≠ vK.ownBlock
  els : ∀ i t, l[i]? = some t → JIn wr (okE B vL vK) t (c i 0) (c i 1) (c i 2) (c i 3)
  size : B ≤ wr.heap.size
section
variable {w wr w1 : World} {p o b B : Nat} {kind : Int} {ks : List ByteArray} {l : List J} {vL vK : Value} {c : Nat → Nat → Value}
theorem ownsRow_fr {base size n : Nat} {e : TypeId} {v : Value} {xs : List Value} {ok : Nat → Prop} (h : wr.ownsRow base e size v n xs) (hf : Fr wr w1 ok) (hk : ∀ g, v.ownBlock = some g → ok g) : w1.ownsRow base e size v n xs := by
  refine ⟨h.1, ?_⟩
  rcases h.2 with h0 | ⟨g, cap, cur, rfl, hb, hg, hr⟩
  · exact .inl h0
  · exact .inr ⟨g, cap, cur, rfl, hb, hf.at hg (hk g rfl), hr⟩
theorem NSt.fr (h : NSt w wr p o B kind ks l vL vK c) (hf : Fr wr w1 (fun g => g ≠ p ∧ g ≠ b)) (hp : p < w.heap.size) (ho : w.heap.size < o) (hb : o < b) (hB : b < B) : NSt w w1 p o B kind ks l vL vK c where
  frame := (((Fr.of h.frame (ok := fun g => g ≠ p ∧ g < w.heap.size) (fun g _ hg e => hg.1 (by cases e; rfl)))).trans (hf.mono (fun g _ hg => ⟨hg.1, by omega⟩))).grown (fun g hg hn => ⟨fun e => hn (by rw [e]), hg⟩)
  res := hf.at h.res ⟨by omega, by omega⟩
  out := hf.at h.out ⟨by omega, by omega⟩
  rowL := ownsRow_fr h.rowL hf (fun g e => by have := (h.rowL.lt g e).1; exact ⟨by omega, by omega⟩)
  rowK := ownsRow_fr h.rowK hf (fun g e => by have := (h.rowK.lt g e).1; exact ⟨by omega, by omega⟩)
  apart := h.apart
  els := fun i t ht => (h.els i t ht).fr hf (fun g hg => by have := hg.1; exact ⟨by omega, by omega⟩)
  size := Nat.le_trans h.size hf.size
theorem NSt.alloc (h : NSt w wr p o B kind ks l vL vK c) (x : Obj) (hp : p < w.heap.size) (ho : w.heap.size < o) (hB : o + 1 < B) : NSt w (wr.alloc x) p o B kind ks l vL vK c :=
  h.fr (b := o + 1) (Fr.of (World.grownBy_alloc wr x none) (fun _ _ _ => by simp)) hp ho (by omega) hB
theorem NSt.drewN (h : NSt w wr p o B kind ks l vL vK c) (n : Nat) : NSt w (wr.drewN n) p o B kind ks l vL vK c :=
  ⟨gdrewN h.frame n, h.res, h.out, h.rowL, h.rowK, h.apart, fun i t ht => (h.els i t ht).fr ((Fr.refl wr (fun _ => True)).drewN n) (fun _ _ => trivial), h.size⟩
theorem NSt.olt (h : NSt w wr p o B kind ks l vL vK c) : o < wr.heap.size := blk_lt h.out

/-- A key more: the append onto out.Keys, and its store. -/
theorem NSt.key (h : NSt w wr p o B kind ks l vL vK c) (ho : w.heap.size < o) (hB : o < B) {k : ByteArray} {vK' : Value}
    (hown : w1.ownsRow B 9 1 vK' (ks.length + 1) (ks.map Value.string ++ [.string k])) (hg : wr.grownBy w1 vK.ownBlock) (hn : vK'.ownBlock = vK.ownBlock ∨ vK'.ownBlock = some wr.heap.size) :
    NSt w (w1.setCell ⟨o, 3, none⟩ vK') p o B kind (ks ++ [k]) l vL vK' c := by
  have hKlt := fun g e => (h.rowK.lt g e)
  have hf1 : Fr wr w1 (fun g => some g ≠ vK.ownBlock) := Fr.of hg (fun _ _ h => h)
  have hf2 : Fr w1 (w1.setCell ⟨o, 3, none⟩ vK') (fun g => g ≠ o) := Fr.of (gset w1 o 3 vK') (fun g _ hg e => hg (by cases e; rfl))
  have hfa : Fr wr (w1.setCell ⟨o, 3, none⟩ vK') (fun g => some g ≠ vK.ownBlock ∧ g ≠ o) := (hf1.mono (fun _ _ h => h.1)).trans (hf2.mono (fun _ _ h => h.2))
  have hout1 : w1.heap[o]? = some (.cells #[.int .i64 kind, .string ⟨#[]⟩, vL, vK] 26 (0, 0)) := hf1.at h.out (fun e => by have := (hKlt o e.symm).1; omega)
  have hLK : ∀ g, vL.ownBlock = some g → some g ≠ vK.ownBlock := fun g e e' => by
    rcases h.apart with hn | hn
    · rw [hn] at e; cases e
    · exact hn (e.trans e')
  refine ⟨?_, ?_, ?_, ?_, ?_, ?_, ?_, ?_⟩
  · exact ((Fr.of h.frame (ok := fun g => g ≠ p ∧ g < w.heap.size) (fun g _ hg e => hg.1 (by cases e; rfl))).trans (hfa.mono (fun g _ hg => ⟨fun e => by have := (hKlt g e.symm).1; omega, by omega⟩))).grown (fun g hg hn => ⟨fun e => hn (by rw [e]), hg⟩)
  · exact hfa.at h.res ⟨fun e => by have := (hKlt _ e.symm).1; omega, by omega⟩
  · rw [heap_setCell_same w1 o 3 _ 26 _ hout1]; rfl
  · exact ownsRow_fr h.rowL hfa (fun g e => ⟨hLK g e, by have := (h.rowL.lt g e).1; omega⟩)
  · have := ownsRow_fr hown hf2 (fun g e => by have := (hown.lt g e).1; omega)
    simpa using this
  · rcases h.apart with h0 | h0
    · exact .inl h0
    · rcases hn with e | e
      · exact .inr (by rw [e]; exact h0)
      · refine .inr (fun e' => ?_)
        rw [e] at e'
        have := (h.rowL.lt _ e').2
        omega
  · intro i t ht
    have h1 := (h.els i t ht).mono (ok' := fun g => okE B vL vK g ∧ some g ≠ vK'.ownBlock) (fun g hlt hg => ⟨hg, fun e => by
      rcases hn with e' | e'
      · rw [e'] at e; exact hg.2.2 e
      · rw [e'] at e; cases e; omega⟩)
    exact (h1.fr hfa (fun g hg => ⟨hg.1.2.2, by have := hg.1.1; omega⟩)).mono (fun g _ hg => ⟨hg.1.1, hg.1.2.1, hg.2⟩)
  · exact Nat.le_trans h.size hfa.size
/-- A value more: the append onto out.L, and its store. -/
theorem NSt.elem (h : NSt w wr p o B kind ks l vL vK c) (ho : w.heap.size < o) (hB : o < B) {t : J} {v0 v1 v2 v3 vL' : Value}
    (hown : w1.ownsRow B 26 4 vL' (l.length + 1) (cellsJ c l.length ++ [v0, v1, v2, v3])) (hg : wr.grownBy w1 vL.ownBlock) (hn : vL'.ownBlock = vL.ownBlock ∨ vL'.ownBlock = some wr.heap.size)
    (hv : JIn wr (okE B vL vK) t v0 v1 v2 v3) :
    ∃ c', NSt w (w1.setCell ⟨o, 2, none⟩ vL') p o B kind ks (l ++ [t]) vL' vK c' := by
  have hLlt := fun g e => (h.rowL.lt g e)
  have hf1 : Fr wr w1 (fun g => some g ≠ vL.ownBlock) := Fr.of hg (fun _ _ h => h)
  have hf2 : Fr w1 (w1.setCell ⟨o, 2, none⟩ vL') (fun g => g ≠ o) := Fr.of (gset w1 o 2 vL') (fun g _ hg e => hg (by cases e; rfl))
  have hfa : Fr wr (w1.setCell ⟨o, 2, none⟩ vL') (fun g => some g ≠ vL.ownBlock ∧ g ≠ o) := (hf1.mono (fun _ _ h => h.1)).trans (hf2.mono (fun _ _ h => h.2))
  have hout1 : w1.heap[o]? = some (.cells #[.int .i64 kind, .string ⟨#[]⟩, vL, vK] 26 (0, 0)) := hf1.at h.out (fun e => by have := (hLlt o e.symm).1; omega)
  have hLK : ∀ g, vK.ownBlock = some g → some g ≠ vL.ownBlock := fun g e e' => by
    rcases h.apart with hn | hn
    · rw [hn] at e'; cases e'
    · exact hn (e'.symm.trans e.symm)
  let c' : Nat → Nat → Value := fun i j => if i = l.length then [v0, v1, v2, v3].getD j undef else c i j
  have hc' : cellsJ c' (l.length + 1) = cellsJ c l.length ++ [v0, v1, v2, v3] := by
    rw [cellsJ, cellsJ_congr (d := c) l.length (fun i j hi => by simp [c', show i ≠ l.length by omega])]
    simp [c']
  have keep : ∀ {t' : J} {u0 u1 u2 u3 : Value}, JIn wr (okE B vL vK) t' u0 u1 u2 u3 → JIn (w1.setCell ⟨o, 2, none⟩ vL') (okE B vL' vK) t' u0 u1 u2 u3 := fun hj => by
    have h1 := hj.mono (ok' := fun g => okE B vL vK g ∧ some g ≠ vL'.ownBlock) (fun g hlt hg => ⟨hg, fun e => by
      rcases hn with e' | e'
      · rw [e'] at e; exact hg.2.1 e
      · rw [e'] at e; cases e; omega⟩)
    exact (h1.fr hfa (fun g hg => ⟨hg.1.2.1, by have := hg.1.1; omega⟩)).mono (fun g _ hg => ⟨hg.1.1, hg.2, hg.1.2.2⟩)
  refine ⟨c', ?_, ?_, ?_, ?_, ?_, ?_, ?_, ?_⟩
  · exact ((Fr.of h.frame (ok := fun g => g ≠ p ∧ g < w.heap.size) (fun g _ hg e => hg.1 (by cases e; rfl))).trans (hfa.mono (fun g _ hg => ⟨fun e => by have := (hLlt g e.symm).1; omega, by omega⟩))).grown (fun g hg hn => ⟨fun e => hn (by rw [e]), hg⟩)
  · exact hfa.at h.res ⟨fun e => by have := (hLlt _ e.symm).1; omega, by omega⟩
  · rw [heap_setCell_same w1 o 2 _ 26 _ hout1]; rfl
  · have := ownsRow_fr hown hf2 (fun g e => by have := (hown.lt g e).1; omega)
    rw [List.length_append]
    show World.ownsRow _ B 26 4 vL' (l.length + 1) (cellsJ c' (l.length + 1))
    rw [hc']
    exact this
  · exact ownsRow_fr h.rowK hfa (fun g e => ⟨hLK g e, by have := (h.rowK.lt g e).1; omega⟩)
  · rcases hn with e | e
    · rw [e]; exact h.apart
    · refine .inr (fun e' => ?_)
      rw [e] at e'
      have := (h.rowK.lt _ e'.symm).2
      omega
  · intro i t' ht
    by_cases hi : i < l.length
    · rw [List.getElem?_append_left hi] at ht
      have := keep (h.els i t' ht)
      simpa [c', show i ≠ l.length by omega] using this
    · obtain rfl : i = l.length := by
        have := (List.getElem?_eq_some_iff.1 ht).1
        simp at this; omega
      rw [List.getElem?_concat_length] at ht
      cases ht
      have := keep hv
      simpa [c'] using this
  · exact Nat.le_trans h.size hfa.size
theorem own_open {base e size n : Nat} {v : Value} {xs : List Value} (h : wr.ownsRow base e size v n xs) (hs : 0 < size) :
    ∃ A cap, v = .slice A n cap ∧ n ≤ cap ∧ cap ≤ maxLen ∧ (0 < n → ∃ g, A = some ⟨g, 0, none⟩ ∧ base ≤ g ∧ ∀ j u, xs[j]? = some u → wr.cell? ⟨g, j, none⟩ = some u) := by
  have hc := @World.ownsRow.cells wr base e size v n xs h
  rcases h.2 with ⟨rfl, h0⟩ | ⟨g, cap, cur, rfl, hb, hg, hn, hm, _, _⟩
  · subst h0
    exact ⟨none, 0, rfl, Nat.le_refl _, by unfold maxLen; omega, fun h => by omega⟩
  · refine ⟨_, cap, rfl, hn, hm, fun _ => ⟨g, rfl, hb, fun j u hu => ?_⟩⟩
    have := hc (g := g) rfl j u hu
    rw [addr_add, Nat.zero_add] at this
    exact this
/-- At the end: the value that 'out' is. -/
theorem NSt.value (h : NSt w wr p o B kind ks l vL vK c) {k : Nat} (hk : kind = k) : JIn wr (fun g => B ≤ g) (.mk k ⟨#[]⟩ l ks) (.int .i64 kind) (.string ⟨#[]⟩) vL vK := by
  subst hk
  have hE : ∀ i t', l[i]? = some t' → JIn wr (fun g => B ≤ g) t' (c i 0) (c i 1) (c i 2) (c i 3) := fun i t' ht => (h.els i t' ht).mono (fun g _ hg => hg.1)
  obtain ⟨A, cap, rfl, a1, a2, a3⟩ := own_open h.rowL (by omega)
  obtain ⟨A', cap', rfl, b1, b2, b3⟩ := own_open h.rowK (by omega)
  refine .mk k _ l ks A A' cap cap' c ⟨a1, a2⟩ ⟨b1, b2⟩ (fun hp => ?_) (fun hp => ?_) hE
  · obtain ⟨g, e, hb, hc⟩ := a3 hp
    exact ⟨g, 0, e, hb, fun i j hi hj => by rw [Nat.zero_add]; exact hc _ _ (cellsJ_get c _ i j hi hj)⟩
  · obtain ⟨g, e, hb, hc⟩ := b3 hp
    exact ⟨g, 0, e, hb, fun i s hs => by rw [Nat.zero_add]; exact hc _ _ (by rw [List.getElem?_map, hs]; rfl)⟩
end
end Go.Proofs.YtcamaloekanelaaDoor
