/-
  The reference's 'right' of every value.
  The reference's 'right' of a value that is neither an array nor an object.
  The reference's 'right' of an array.
  The reference's 'right' of an object.
  The reference's 'right', 'Right' of every value; 'Print' of a right one that has nothing within it.
-/
import Derived.Test.YtjcnjaebmndeiaaDoorBig
import Derived.Test.YtjcnjaebmndeiaaDoorRfq
import Derived.Test.YtjcnjaebmndeiaaDoorShelfV
import Derived.Deep.RegionHeld3
import Derived.Deep.DeepCutAuto
import Derived.Test.YtjcnjaebmndeiaaDoorQtr
namespace Go.Proofs.YtjcnjaebmndeiaaDoor
open Go.RowKit

end Go.Proofs.YtjcnjaebmndeiaaDoor

namespace Go.Proofs.YtjcnjaebmndeiaaDoor
open Go.RowKit

theorem rgt_leaf {d : Nat} {k : Int} {t : ByteArray} {l : List Z} {ks : List ByteArray} (h6 : k ≠ 6) (h7 : k ≠ 7) : Rgt d (.mk k t l ks) ↔ (LeafP k t ∧ l.length = 0 ∧ ks.length = 0) := by
  rw [Rgt, List.length_eq_zero_iff, List.length_eq_zero_iff]
  constructor
  · rintro (h | h)
    · exact h
    · rcases h.1.2.2 with h | h
      · exact absurd h.1 h6
      · exact absurd h.1 h7
  · exact Or.inl
theorem leafP_word {k : Int} {t : ByteArray} (hk : k = 1 ∨ k = 2 ∨ k = 3) : LeafP k t ↔ t = ⟨#[]⟩ := by
  constructor
  · rintro (h | h | h)
    · exact h.2
    · omega
    · omega
  · exact fun h => .inl ⟨hk, h⟩
theorem leafP_num {t : ByteArray} : LeafP 4 t ↔ NumT t := by
  constructor
  · rintro (h | h | h)
    · omega
    · exact h.2
    · omega
  · exact fun h => .inr (.inl ⟨rfl, h⟩)
theorem leafP_str {t : ByteArray} : LeafP 5 t ↔ Lib.validD t.data.toList = true := by
  constructor
  · rintro (h | h | h)
    · omega
    · omega
    · exact h.2
  · exact fun h => .inr (.inr ⟨rfl, h⟩)
theorem leafP_none {k : Int} {t : ByteArray} (h1 : k ≠ 1) (h2 : k ≠ 2) (h3 : k ≠ 3) (h4 : k ≠ 4) (h5 : k ≠ 5) : ¬ LeafP k t := by
  rintro (h | h | h) <;> omega
theorem empty_beq {t : ByteArray} (h : t ≠ ⟨#[]⟩) : t.toList.isEmpty = false ∧ (t.toList == []) = false := by
  have : t.toList ≠ [] := fun e => h (ba_ext (by rw [← Lib.toList_data, e]))
  refine ⟨?_, ?_⟩
  · cases hh : t.toList with
    | nil => exact absurd hh this
    | cons => rfl
  · simpa using this
/-- A Bool that tells whether R. -/
def BoolPost (w : World) (R : Prop) (e : Ending) (w' : World) : Prop := ∃ b : Bool, e = .returned (.bool b) ∧ (b = true ↔ R) ∧ Below w.heap.size w w'
theorem bp_true {w w' : World} {R : Prop} {e : Ending} (he : e = .returned (.bool true)) (hb : Below w.heap.size w w') (h : R) : BoolPost w R e w' := ⟨true, he, ⟨fun _ => h, fun _ => rfl⟩, hb⟩
theorem bp_false {w w' : World} {R : Prop} {e : Ending} (he : e = .returned (.bool false)) (hb : Below w.heap.size w w') (h : ¬ R) : BoolPost w R e w' := ⟨false, he, ⟨fun h => (by cases h), fun h' => absurd h' h⟩, hb⟩
set_option maxHeartbeats 2000000 in
set_option maxRecDepth 100000 in
theorem right_leaf (d : Nat) (k : Int) (t : ByteArray) (l : List Z) (ks : List ByteArray) (h6 : k ≠ 6) (h7 : k ≠ 7) (ht : t.size ≤ 1060000) (A A' : Option Addr) (cap cap' : Nat) (w : World) (hG : Gl w) :
    Calls Tryd.prog 45 #[.agg #[.int .i64 k, .string t, .slice A l.length cap, .slice A' ks.length cap'], .int .i64 d] w (BoolPost w (Rgt d (.mk k t l ks))) := by
  have hiff := rgt_leaf (d := d) (t := t) (l := l) (ks := ks) h6 h7
  generalize Rgt d (.mk k t l ks) = R at *
  generalize l.length = n at *
  generalize ks.length = m at *
  have HIF := Lib.hid hiff
  have hB0 := heap_alloc_new w (.cells #[.int .i64 k, .string t, .slice A n cap, .slice A' m cap'] 26 (0, 0))
  have hb0 : Below w.heap.size w (w.alloc (.cells #[.int .i64 k, .string t, .slice A n cap, .slice A' m cap'] 26)) := (Below.refl _ _).alloc (Nat.le_refl _) _
  have hG0 := hG.below hb0
  obtain ⟨p0, p1, p2, p3⟩ := cells_4 hB0
  clear hiff
  by_cases hw : k = 1 ∨ k = 2 ∨ k = 3
  · have HL := Lib.hid (leafP_word (t := t) hw)
    clear hB0 hG0
    by_cases he : t = ⟨#[]⟩
    · have HE := Lib.hid he
      subst he
      rcases hw with rfl | rfl | rfl
      all_goals
        by_cases hn : n = 0
        · subst hn
          by_cases hm : m = 0
          · subst hm
            go_enter Tryd.func45, Tryd.ntmps45
            go_wp2
            go_ret
            exact bp_true rfl hb0 (HIF.out.2 ⟨HL.out.2 (by first | rfl | trivial), (by first | rfl | trivial), (by first | rfl | trivial)⟩)
          · have hmi : ((m : Int) == 0) = false := by simp only [beq_eq_false_iff_ne, ne_eq]; omega
            go_enter Tryd.func45, Tryd.ntmps45
            go_wp2
            go_ret
            exact bp_false rfl hb0 (fun h => absurd (HIF.out.1 h).2.2 hm)
        · have hni : ((n : Int) == 0) = false := by simp only [beq_eq_false_iff_ne, ne_eq]; omega
          go_enter Tryd.func45, Tryd.ntmps45
          go_wp2
          go_ret
          exact bp_false rfl hb0 (fun h => absurd (HIF.out.1 h).2.1 hn)
    · obtain ⟨e1, e2⟩ := empty_beq he
      have HE := Lib.hid he
      clear he
      rcases hw with rfl | rfl | rfl
      all_goals
        go_enter Tryd.func45, Tryd.ntmps45
        go_wp2
        go_ret
        exact bp_false rfl hb0 (fun h => absurd (HL.out.1 (HIF.out.1 h).1) HE.out)
  · have k1 : (k == 1) = false := by simp only [beq_eq_false_iff_ne, ne_eq]; omega
    have k2 : (k == 2) = false := by simp only [beq_eq_false_iff_ne, ne_eq]; omega
    have k3 : (k == 3) = false := by simp only [beq_eq_false_iff_ne, ne_eq]; omega
    by_cases h4 : k = 4
    · subst h4
      have hnum := big.ref_numeral t ht (w.alloc (.cells #[.int .i64 4, .string t, .slice A n cap, .slice A' m cap'] 26))
      clear hw h6 h7
      go_enter Tryd.func45, Tryd.ntmps45
      go_wp2_with fail
      generalize (w.alloc (.cells #[.int .i64 4, .string t, .slice A n cap, .slice A' m cap'] 26)) = W0 at *
      refine hnum.mono ?_
      rintro e w1 ⟨b, rfl, hb, hb1⟩
      have hB1 := (below_fr0 hb1).at hB0 trivial
      have hb2 : Below w.heap.size w w1 := hb0.trans (hb1.mono hb0.size)
      obtain ⟨q0, q1, q2, q3⟩ := cells_4 hB1
      have HBi := Lib.hid hb
      clear hB0 hB1 p0 p1 p2 p3 hb hnum hb1
      cases b with
      | false =>
        go_wp2
        go_ret
        exact bp_false rfl hb2 (fun h => by have := HBi.out.2 (leafP_num.1 (HIF.out.1 h).1); cases this)
      | true =>
        by_cases hn : n = 0
        · subst hn
          by_cases hm : m = 0
          · subst hm
            go_wp2
            go_ret
            exact bp_true rfl hb2 (HIF.out.2 ⟨leafP_num.2 (HBi.out.1 (by first | rfl | trivial)), (by first | rfl | trivial), (by first | rfl | trivial)⟩)
          · have hmi : ((m : Int) == 0) = false := by simp only [beq_eq_false_iff_ne, ne_eq]; omega
            go_wp2
            go_ret
            exact bp_false rfl hb2 (fun h => absurd (HIF.out.1 h).2.2 hm)
        · have hni : ((n : Int) == 0) = false := by simp only [beq_eq_false_iff_ne, ne_eq]; omega
          go_wp2
          go_ret
          exact bp_false rfl hb2 (fun h => absurd (HIF.out.1 h).2.1 hn)
    · have k4 : (k == 4) = false := by simp only [beq_eq_false_iff_ne, ne_eq]; omega
      by_cases h5 : k = 5
      · subst h5
        have hva := Tryd.utf8_ValidString t (w.alloc (.cells #[.int .i64 5, .string t, .slice A n cap, .slice A' m cap'] 26)) (by omega) hG0.u8
        have hlv : LeafP 5 t ↔ Lib.validD t.data.toList = true := leafP_str
        generalize Lib.validD t.data.toList = b at *
        have HBi := Lib.hid hlv
        clear hw h6 h7 hlv
        go_enter Tryd.func45, Tryd.ntmps45
        go_wp2_with fail
        generalize (w.alloc (.cells #[.int .i64 5, .string t, .slice A n cap, .slice A' m cap'] 26)) = W0 at *
        refine hva.mono ?_
        rintro e w1 ⟨rfl, hb1⟩
        have hB1 := (below_fr0 hb1).at hB0 trivial
        have hb2 : Below w.heap.size w w1 := hb0.trans (hb1.mono hb0.size)
        obtain ⟨q0, q1, q2, q3⟩ := cells_4 hB1
        clear hB0 hB1 p0 p1 p2 p3 hva hb1 hG0
        cases b with
        | false =>
          go_wp2
          go_ret
          exact bp_false rfl hb2 (fun h => by have := HBi.out.1 (HIF.out.1 h).1; cases this)
        | true =>
          by_cases hn : n = 0
          · subst hn
            by_cases hm : m = 0
            · subst hm
              go_wp2
              go_ret
              exact bp_true rfl hb2 (HIF.out.2 ⟨HBi.out.2 (by first | rfl | trivial), (by first | rfl | trivial), (by first | rfl | trivial)⟩)
            · have hmi : ((m : Int) == 0) = false := by simp only [beq_eq_false_iff_ne, ne_eq]; omega
              go_wp2
              go_ret
              exact bp_false rfl hb2 (fun h => absurd (HIF.out.1 h).2.2 hm)
          · have hni : ((n : Int) == 0) = false := by simp only [beq_eq_false_iff_ne, ne_eq]; omega
            go_wp2
            go_ret
            exact bp_false rfl hb2 (fun h => absurd (HIF.out.1 h).2.1 hn)
      · have k5 : (k == 5) = false := by simp only [beq_eq_false_iff_ne, ne_eq]; omega
        have k6 : (k == 6) = false := by simp only [beq_eq_false_iff_ne, ne_eq]; omega
        have k7 : (k == 7) = false := by simp only [beq_eq_false_iff_ne, ne_eq]; omega
        have hno : ¬ LeafP k t := leafP_none (by omega) (by omega) (by omega) h4 h5
        have HNO := Lib.hid hno
        clear hw h6 h7 hno hG0 hB0 h4 h5
        go_enter Tryd.func45, Tryd.ntmps45
        go_wp2
        go_ret
        exact bp_false rfl hb0 (fun h => absurd (HIF.out.1 h).1 HNO.out)
end Go.Proofs.YtjcnjaebmndeiaaDoor

namespace Go.Proofs.YtjcnjaebmndeiaaDoor
open Go.RowKit

theorem fr_drew {w w' : World} {ok : Nat → Prop} (h : Fr w w' ok) : Fr w w'.drew ok := h.drewN 1
/-- 'right' tells of that value, at that depth, in whatever world. -/
def RtC (d : Nat) (z : Z) : Prop := ∀ (w : World) (v0 v1 v2 v3 : Value), ZIn w (fun b => b < w.heap.size) z v0 v1 v2 v3 → Gl w → Calls Tryd.prog 45 #[.agg #[v0, v1, v2, v3], .int .i64 d] w (BoolPost w (Rgt d z))
theorem rgt_nest {d : Nat} {k : Int} {t : ByteArray} {l : List Z} {ks : List ByteArray} (hk : k = 6 ∨ k = 7) : Rgt d (.mk k t l ks) ↔ (NestP k t l.length ks d ∧ RgtL (d + 1) l) := by
  rw [Rgt]
  constructor
  · rintro (h | h)
    · rcases h.1 with ⟨h | h | h, _⟩ | ⟨h, _⟩ | ⟨h, _⟩ <;> omega
    · exact h
  · exact Or.inr
theorem take_all {p : Z → Prop} {l : List Z} {q : Nat} {z : Z} (hz : l[q]? = some z) (h : ∀ x, x ∈ l.take q → p x) (hp : p z) : ∀ x, x ∈ l.take (q + 1) → p x := by
  intro x hx
  rw [List.take_add_one, hz] at hx
  rcases List.mem_append.1 hx with hx | hx
  · exact h x hx
  · simp at hx; rw [hx]; exact hp
theorem elc4 {w : World} {g off q n : Nat} {c : Nat → Nat → Value} (hc : ∀ i j, i < n → j < 4 → w.cell? ⟨g, off + (4 * i + j), none⟩ = some (c i j)) (hq : q < n) :
    w.cell? ⟨g, off + q * 4, none⟩ = some (c q 0) ∧ w.cell? ⟨g, off + q * 4 + 1, none⟩ = some (c q 1) ∧ w.cell? ⟨g, off + q * 4 + 2, none⟩ = some (c q 2) ∧ w.cell? ⟨g, off + q * 4 + 3, none⟩ = some (c q 3) := by
  refine ⟨?_, ?_, ?_, ?_⟩
  · have := hc q 0 hq (by omega); rwa [show off + (4 * q + 0) = off + q * 4 by omega] at this
  · have := hc q 1 hq (by omega); rwa [show off + (4 * q + 1) = off + q * 4 + 1 by omega] at this
  · have := hc q 2 hq (by omega); rwa [show off + (4 * q + 2) = off + q * 4 + 2 by omega] at this
  · have := hc q 3 hq (by omega); rwa [show off + (4 * q + 3) = off + q * 4 + 3 by omega] at this
set_option maxHeartbeats 2000000 in
set_option maxRecDepth 100000 in
theorem right_arr (d : Nat) (hd : d ≤ 64) (t : ByteArray) (l : List Z) (ks : List ByteArray) (hs : d < 64 → ∀ x, x ∈ l → RtC (d + 1) x) (hln : l.length ≤ 1048576) (A A' : Option Addr) (cap cap' : Nat) (c : Nat → Nat → Value) (w : World) (hG : Gl w)
    (hL : 0 < l.length → ∃ g off, A = some ⟨g, off, none⟩ ∧ g < w.heap.size ∧ ∀ i j, i < l.length → j < 4 → w.cell? ⟨g, off + (4 * i + j), none⟩ = some (c i j))
    (hE : ∀ i z, l[i]? = some z → ZIn w (fun b => b < w.heap.size) z (c i 0) (c i 1) (c i 2) (c i 3)) :
    Calls Tryd.prog 45 #[.agg #[.int .i64 6, .string t, .slice A l.length cap, .slice A' ks.length cap'], .int .i64 d] w (BoolPost w (Rgt d (.mk 6 t l ks))) := by
  have hiff := rgt_nest (d := d) (t := t) (l := l) (ks := ks) (k := 6) (.inl rfl)
  have hnp : NestP 6 t l.length ks d ↔ (t = ⟨#[]⟩ ∧ d < 64 ∧ ks.length = 0) := by
    unfold NestP
    rw [List.length_eq_zero_iff]
    constructor
    · rintro ⟨h1, h2, h | h⟩
      · exact ⟨h1, h2, h.2⟩
      · exact absurd h.1 (by decide)
    · rintro ⟨h1, h2, h3⟩
      exact ⟨h1, h2, .inl ⟨rfl, h3⟩⟩
  rw [hnp] at hiff
  generalize Rgt d (.mk 6 t l ks) = R at *
  generalize hm : ks.length = m at *
  generalize hn : l.length = n at *
  have HIF := Lib.hid hiff
  have HN := Lib.hid hn
  have hB0 := heap_alloc_new w (.cells #[.int .i64 6, .string t, .slice A n cap, .slice A' m cap'] 26 (0, 0))
  have hb0 : Below w.heap.size w (w.alloc (.cells #[.int .i64 6, .string t, .slice A n cap, .slice A' m cap'] 26)) := (Below.refl _ _).alloc (Nat.le_refl _) _
  obtain ⟨p0, p1, p2, p3⟩ := cells_4 hB0
  have HG := Lib.hid hG
  have HL := Lib.hid hL
  have HE := Lib.hid hE
  have HS := Lib.hid hs
  clear hiff hnp hm hn hG hL hE hs
  by_cases he : t = ⟨#[]⟩
  · subst he
    by_cases hm0 : m = 0
    · subst hm0
      by_cases hd4 : d < 64
      · have hdi : (d : Int) < 64 := by omega
        have HS := Lib.hid (HS.out hd4)
        have HB0 := Lib.hid hB0
        clear hB0
        go_enter Tryd.func45, Tryd.ntmps45
        go_wp2
        clear p0 p1 p2 p3
        generalize (w.alloc (.cells #[.int .i64 6, .string ⟨#[]⟩, .slice A n cap, .slice A' 0 cap'] 26)) = W0 at *
        go_loopg [5] n (fun g i wr => ∃ q : Nat, q + g = n ∧ i = .int .i64 q ∧ (∀ x, x ∈ l.take q → Rgt (d + 1) x) ∧ wr.heap[w.heap.size]? = some (.cells #[.int .i64 6, .string ⟨#[]⟩, .slice A n cap, .slice A' 0 cap'] 26 (0, 0)) ∧ Below w.heap.size w wr)
        case atStart => exact ⟨0, by omega, rfl, fun x hx => by simp at hx, HB0.out, hb0⟩
        case round =>
          obtain ⟨q, hqg, rfl, hall, hbx, hbw⟩ := hrel
          obtain ⟨p0, p1, p2, p3⟩ := cells_4 hbx
          have HALL := Lib.hid hall
          have HBX := Lib.hid hbx
          clear hall hbx
          by_cases hq : q < n
          · obtain ⟨x, hx⟩ : ∃ x, l[q]? = some x := ⟨_, List.getElem?_eq_getElem (by have := HN.out; omega)⟩
            obtain ⟨g, off, rfl, hgw, hc⟩ := HL.out (by omega)
            have hqi : (q : Int) < (n : Int) := by omega
            have hq0 : (0 : Int) ≤ (q : Int) := by omega
            have hdw : IntKind.i64.wrap ((d : Int) + 1) = (d : Int) + 1 := IntWalk.i64_in _ (by omega)
            obtain ⟨y0, y1, y2, y3⟩ := elc4 hc hq
            have hf := below_fr hbw
            have x0 := hf.cell y0 hgw
            have x1 := hf.cell y1 hgw
            have x2 := hf.cell y2 hgw
            have x3 := hf.cell y3 hgw
            have hcall := HS.out x (List.mem_of_getElem? hx)
            have hzx := HE.out q x hx
            have hzr : ∀ W, Below w.heap.size w W → Calls Tryd.prog 45 #[.agg #[c q 0, c q 1, c q 2, c q 3], .int .i64 ((d : Int) + 1)] W (BoolPost W (Rgt (d + 1) x)) := fun W hW => by
              have := hcall W _ _ _ _ ((hzx.fr (below_fr hW) (fun _ h => h)).mono (fun b _ hb => Nat.lt_of_lt_of_le hb hW.size)) (HG.out.below hW)
              exact this
            have HX := Lib.hid hx
            have HZR := Lib.hid hzr
            obtain ⟨g', hg'⟩ : ∃ g', gk = g' + 1 := ⟨gk - 1, by omega⟩
            subst hg'
            clear hc hx y0 y1 y2 y3 hf hcall hzx hzr
            generalize c q 0 = a0 at *
            generalize c q 1 = a1 at *
            generalize c q 2 = a2 at *
            generalize c q 3 = a3 at *
            have hbd : Below w.heap.size w wr.drew := ⟨hbw.os, hbw.tape, hbw.output, hbw.size, hbw.block⟩
            go_upto_region 17 with fail
            refine wp_region_noPanic ?_
            refine wp_region_held_drew (S := (fun w' => w'.cell? ⟨w.heap.size, 0, none⟩ = some (.int .i64 6) ∧ w'.cell? ⟨w.heap.size, 2, none⟩ = some (.slice (some ⟨g, off, none⟩) n cap) ∧ w'.cell? ⟨w.heap.size, 3, none⟩ = some (.slice A' 0 cap') ∧ w'.cell? ⟨g, off + q * 4, none⟩ = some a0 ∧ w'.cell? ⟨g, off + q * 4 + 1, none⟩ = some a1 ∧ w'.cell? ⟨g, off + q * 4 + 2, none⟩ = some a2 ∧ w'.cell? ⟨g, off + q * 4 + 3, none⟩ = some a3)) (by kernel_rfl) ⟨p0, p2, p3, x0, x1, x2, x3⟩ (fun hHeld => ?_)
            refine wpAnyH_take (i := 0) (v := ?_) rfl (by kernel_rfl) (by kernel_rfl) (by kernel_rfl) (fun _ _ _ h => h) (Or.inl ⟨by rfl, ?_⟩) (by assumption) ?_
            rotate_left
            · (intro w hSw; (try dsimp only at hSw); go_simp; try with_reducible rfl)
            simp only [Act.put, List.getElem_toArray, List.getElem_cons_zero, List.setIfInBounds_toArray, List.set_cons_zero, List.set_cons_succ]
            refine wpAnyH_take (i := 1) (v := ?_) rfl (by kernel_rfl) (by kernel_rfl) (by kernel_rfl) (fun _ _ _ h => h) (Or.inl ⟨by rfl, ?_⟩) (by assumption) ?_
            rotate_left
            · (intro w hSw; (try dsimp only at hSw); go_simp; try with_reducible rfl)
            simp only [Act.put, List.getElem_toArray, List.getElem_cons_succ, List.getElem_cons_zero, List.setIfInBounds_toArray, List.set_cons_zero, List.set_cons_succ]
            refine wpAnyH_take (i := 2) (v := ?_) rfl (by kernel_rfl) (by kernel_rfl) (by kernel_rfl) (fun _ _ _ h => h) (Or.inl ⟨by rfl, ?_⟩) (by assumption) ?_
            rotate_left
            · (intro w hSw; (try dsimp only at hSw); go_simp; try with_reducible rfl)
            simp only [Act.put, List.getElem_toArray, List.getElem_cons_succ, List.getElem_cons_zero, List.setIfInBounds_toArray, List.set_cons_zero, List.set_cons_succ]
            refine wpAnyH_take (i := 3) (v := ?_) rfl (by kernel_rfl) (by kernel_rfl) (by kernel_rfl) (fun _ _ _ h => h) (Or.inl ⟨by rfl, ?_⟩) (by assumption) ?_
            rotate_left
            · (intro w hSw; (try dsimp only at hSw); go_simp; try with_reducible rfl)
            simp only [Act.put, List.getElem_toArray, List.getElem_cons_succ, List.getElem_cons_zero, List.setIfInBounds_toArray, List.set_cons_zero, List.set_cons_succ]
            refine wpAnyH_take (i := 4) (v := undef) rfl (by kernel_rfl) (by kernel_rfl) (by kernel_rfl) (fun _ _ _ h => h) (Or.inr ⟨by simp [Region.wanted, yielded, undef], rfl⟩) (by assumption) ?_
            simp only [Act.put, List.getElem_toArray, List.getElem_cons_succ, List.getElem_cons_zero, List.setIfInBounds_toArray, List.set_cons_zero, List.set_cons_succ]
            refine wpAnyH_take (i := 5) (v := undef) rfl (by kernel_rfl) (by kernel_rfl) (by kernel_rfl) (fun _ _ _ h => h) (Or.inr ⟨by simp [Region.wanted, yielded, undef], rfl⟩) (by assumption) ?_
            simp only [Act.put, List.getElem_toArray, List.getElem_cons_succ, List.getElem_cons_zero, List.setIfInBounds_toArray, List.set_cons_zero, List.set_cons_succ]
            refine wpAnyH_take (i := 6) (v := undef) rfl (by kernel_rfl) (by kernel_rfl) (by kernel_rfl) (fun _ _ _ h => h) (Or.inr ⟨by simp [Region.wanted, yielded, undef], rfl⟩) (by assumption) ?_
            simp only [Act.put, List.getElem_toArray, List.getElem_cons_succ, List.getElem_cons_zero, List.setIfInBounds_toArray, List.set_cons_zero, List.set_cons_succ]
            refine wpAnyH_take (i := 7) (v := undef) rfl (by kernel_rfl) (by kernel_rfl) (by kernel_rfl) (fun _ _ _ h => h) (Or.inr ⟨by simp [Region.wanted, yielded, undef], rfl⟩) (by assumption) ?_
            simp only [Act.put, List.getElem_toArray, List.getElem_cons_succ, List.getElem_cons_zero, List.setIfInBounds_toArray, List.set_cons_zero, List.set_cons_succ]
            refine wpAnyH_take (i := 8) (v := undef) rfl (by kernel_rfl) (by kernel_rfl) (by kernel_rfl) (fun _ _ _ h => h) (Or.inr ⟨by simp [Region.wanted, yielded, undef], rfl⟩) (by assumption) ?_
            simp only [Act.put, List.getElem_toArray, List.getElem_cons_succ, List.getElem_cons_zero, List.setIfInBounds_toArray, List.set_cons_zero, List.set_cons_succ]
            refine wpAnyH_take (i := 9) (v := undef) rfl (by kernel_rfl) (by kernel_rfl) (by kernel_rfl) (fun _ _ _ h => h) (Or.inr ⟨by simp [Region.wanted, yielded, undef], rfl⟩) (by assumption) ?_
            simp only [Act.put, List.getElem_toArray, List.getElem_cons_succ, List.getElem_cons_zero, List.setIfInBounds_toArray, List.set_cons_zero, List.set_cons_succ]
            refine wpAnyH_take (i := 10) (v := undef) rfl (by kernel_rfl) (by kernel_rfl) (by kernel_rfl) (fun _ _ _ h => h) (Or.inr ⟨by simp [Region.wanted, yielded, undef], rfl⟩) (by assumption) ?_
            simp only [Act.put, List.getElem_toArray, List.getElem_cons_succ, List.getElem_cons_zero, List.setIfInBounds_toArray, List.set_cons_zero, List.set_cons_succ]
            refine wpAnyH_take (i := 11) (v := undef) rfl (by kernel_rfl) (by kernel_rfl) (by kernel_rfl) (fun _ _ _ h => h) (Or.inr ⟨by simp [Region.wanted, yielded, undef], rfl⟩) (by assumption) ?_
            simp only [Act.put, List.getElem_toArray, List.getElem_cons_succ, List.getElem_cons_zero, List.setIfInBounds_toArray, List.set_cons_zero, List.set_cons_succ]
            refine wpAnyH_take (i := 12) (v := undef) rfl (by kernel_rfl) (by kernel_rfl) (by kernel_rfl) (fun _ _ _ h => h) (Or.inr ⟨by simp [Region.wanted, yielded, undef], rfl⟩) (by assumption) ?_
            simp only [Act.put, List.getElem_toArray, List.getElem_cons_succ, List.getElem_cons_zero, List.setIfInBounds_toArray, List.set_cons_zero, List.set_cons_succ]
            refine wpAnyH_take (i := 13) (v := undef) rfl (by kernel_rfl) (by kernel_rfl) (by kernel_rfl) (fun _ _ _ h => h) (Or.inr ⟨by simp [Region.wanted, yielded, undef], rfl⟩) (by assumption) ?_
            simp only [Act.put, List.getElem_toArray, List.getElem_cons_succ, List.getElem_cons_zero, List.setIfInBounds_toArray, List.set_cons_zero, List.set_cons_succ]
            refine wpAnyH_take (i := 14) (v := undef) rfl (by kernel_rfl) (by kernel_rfl) (by kernel_rfl) (fun _ _ _ h => h) (Or.inr ⟨by simp [Region.wanted, yielded, undef], rfl⟩) (by assumption) ?_
            simp only [Act.put, List.getElem_toArray, List.getElem_cons_succ, List.getElem_cons_zero, List.setIfInBounds_toArray, List.set_cons_zero, List.set_cons_succ]
            refine wpAnyH_take (i := 15) (v := undef) rfl (by kernel_rfl) (by kernel_rfl) (by kernel_rfl) (fun _ _ _ h => h) (Or.inr ⟨by simp [Region.wanted, yielded, undef], rfl⟩) (by assumption) ?_
            simp only [Act.put, List.getElem_toArray, List.getElem_cons_succ, List.getElem_cons_zero, List.setIfInBounds_toArray, List.set_cons_zero, List.set_cons_succ]
            refine wpAnyH_take (i := 16) (v := undef) rfl (by kernel_rfl) (by kernel_rfl) (by kernel_rfl) (fun _ _ _ h => h) (Or.inr ⟨by simp [Region.wanted, yielded, undef], rfl⟩) (by assumption) ?_
            simp only [Act.put, List.getElem_toArray, List.getElem_cons_succ, List.getElem_cons_zero, List.setIfInBounds_toArray, List.set_cons_zero, List.set_cons_succ]
            refine wpAnyH_take (i := 17) (v := undef) rfl (by kernel_rfl) (by kernel_rfl) (by kernel_rfl) (fun _ _ _ h => h) (Or.inr ⟨by simp [Region.wanted, yielded, undef], rfl⟩) (by assumption) ?_
            simp only [Act.put, List.getElem_toArray, List.getElem_cons_succ, List.getElem_cons_zero, List.setIfInBounds_toArray, List.set_cons_zero, List.set_cons_succ]
            refine wpAnyH_take (i := 18) (v := undef) rfl (by kernel_rfl) (by kernel_rfl) (by kernel_rfl) (fun _ _ _ h => h) (Or.inr ⟨by simp [Region.wanted, yielded, undef], rfl⟩) (by assumption) ?_
            simp only [Act.put, List.getElem_toArray, List.getElem_cons_succ, List.getElem_cons_zero, List.setIfInBounds_toArray, List.set_cons_zero, List.set_cons_succ]
            refine wpAnyH_take (i := 19) (v := undef) rfl (by kernel_rfl) (by kernel_rfl) (by kernel_rfl) (fun _ _ _ h => h) (Or.inr ⟨by simp [Region.wanted, yielded, undef], rfl⟩) (by assumption) ?_
            simp only [Act.put, List.getElem_toArray, List.getElem_cons_succ, List.getElem_cons_zero, List.setIfInBounds_toArray, List.set_cons_zero, List.set_cons_succ]
            refine wpAnyH_take (i := 20) (v := undef) rfl (by kernel_rfl) (by kernel_rfl) (by kernel_rfl) (fun _ _ _ h => h) (Or.inr ⟨by simp [Region.wanted, yielded, undef], rfl⟩) (by assumption) ?_
            simp only [Act.put, List.getElem_toArray, List.getElem_cons_succ, List.getElem_cons_zero, List.setIfInBounds_toArray, List.set_cons_zero, List.set_cons_succ]
            refine wpAnyH_take (i := 21) (v := undef) rfl (by kernel_rfl) (by kernel_rfl) (by kernel_rfl) (fun _ _ _ h => h) (Or.inr ⟨by simp [Region.wanted, yielded, undef], rfl⟩) (by assumption) ?_
            simp only [Act.put, List.getElem_toArray, List.getElem_cons_succ, List.getElem_cons_zero, List.setIfInBounds_toArray, List.set_cons_zero, List.set_cons_succ]
            refine wpAnyH_take (i := 22) (v := undef) rfl (by kernel_rfl) (by kernel_rfl) (by kernel_rfl) (fun _ _ _ h => h) (Or.inr ⟨by simp [Region.wanted, yielded, undef], rfl⟩) (by assumption) ?_
            simp only [Act.put, List.getElem_toArray, List.getElem_cons_succ, List.getElem_cons_zero, List.setIfInBounds_toArray, List.set_cons_zero, List.set_cons_succ]
            refine wpAnyH_take (i := 23) (v := ?_) rfl (by kernel_rfl) (by kernel_rfl) (by kernel_rfl) (fun _ _ _ h => h) (Or.inl ⟨by rfl, ?_⟩) (by assumption) ?_
            rotate_left
            · (intro w hSw; (try dsimp only at hSw); go_simp; try with_reducible rfl)
            simp only [Act.put, List.getElem_toArray, List.getElem_cons_succ, List.getElem_cons_zero, List.setIfInBounds_toArray, List.set_cons_zero, List.set_cons_succ]
            refine wpAnyH_take (i := 24) (v := ?_) rfl (by kernel_rfl) (by kernel_rfl) (by kernel_rfl) (fun _ _ _ h => h) (Or.inl ⟨by rfl, ?_⟩) (by assumption) ?_
            rotate_left
            · (intro w hSw; (try dsimp only at hSw); go_simp; try with_reducible rfl)
            simp only [Act.put, List.getElem_toArray, List.getElem_cons_succ, List.getElem_cons_zero, List.setIfInBounds_toArray, List.set_cons_zero, List.set_cons_succ]
            refine wpAnyH_take (i := 25) (v := ?_) rfl (by kernel_rfl) (by kernel_rfl) (by kernel_rfl) (fun _ _ _ h => h) (Or.inl ⟨by simp [Region.wanted, yielded], ?_⟩) (by assumption) ?_
            rotate_left
            · (intro w hSw; (try dsimp only at hSw); go_simp; try with_reducible rfl)
            simp only [Act.put, List.getElem_toArray, List.getElem_cons_succ, List.getElem_cons_zero, List.setIfInBounds_toArray, List.set_cons_zero, List.set_cons_succ]
            refine wpAnyH_take (i := 26) (v := ?_) rfl (by kernel_rfl) (by kernel_rfl) (by kernel_rfl) (fun _ _ _ h => h) (Or.inl ⟨by simp [Region.wanted, yielded], ?_⟩) (by assumption) ?_
            rotate_left
            · (intro w hSw; (try dsimp only at hSw); go_simp; try with_reducible rfl)
            simp only [Act.put, List.getElem_toArray, List.getElem_cons_succ, List.getElem_cons_zero, List.setIfInBounds_toArray, List.set_cons_zero, List.set_cons_succ]
            refine wpAnyH_take (i := 27) (v := ?_) rfl (by kernel_rfl) (by kernel_rfl) (by kernel_rfl) (fun _ _ _ h => h) (Or.inl ⟨by simp [Region.wanted, yielded], ?_⟩) (by assumption) ?_
            rotate_left
            · (intro w hSw; (try dsimp only at hSw); go_simp; try with_reducible rfl)
            simp only [Act.put, List.getElem_toArray, List.getElem_cons_succ, List.getElem_cons_zero, List.setIfInBounds_toArray, List.set_cons_zero, List.set_cons_succ]
            refine wpAnyH_take (i := 28) (v := ?_) rfl (by kernel_rfl) (by kernel_rfl) (by kernel_rfl) (fun _ _ _ h => h) (Or.inl ⟨by simp [Region.wanted, yielded], ?_⟩) (by assumption) ?_
            rotate_left
            · (intro w hSw; (try dsimp only at hSw); go_simp; try with_reducible rfl)
            simp only [Act.put, List.getElem_toArray, List.getElem_cons_succ, List.getElem_cons_zero, List.setIfInBounds_toArray, List.set_cons_zero, List.set_cons_succ]
            refine wpAnyH_take (i := 29) (v := ?_) rfl (by kernel_rfl) (by kernel_rfl) (by kernel_rfl) (fun _ _ _ h => h) (Or.inl ⟨by simp [Region.wanted, yielded], ?_⟩) (by assumption) ?_
            rotate_left
            · (intro w hSw; (try dsimp only at hSw); go_simp; try with_reducible rfl)
            simp only [Act.put, List.getElem_toArray, List.getElem_cons_succ, List.getElem_cons_zero, List.setIfInBounds_toArray, List.set_cons_zero, List.set_cons_succ]
            refine wpAnyH_take (i := 30) (v := ?_) rfl (by kernel_rfl) (by kernel_rfl) (by kernel_rfl) (fun _ _ _ h => h) (Or.inl ⟨by simp [Region.wanted, yielded], ?_⟩) (by assumption) ?_
            rotate_left
            · (intro w hSw; (try dsimp only at hSw); go_simp; try with_reducible rfl)
            simp only [Act.put, List.getElem_toArray, List.getElem_cons_succ, List.getElem_cons_zero, List.setIfInBounds_toArray, List.set_cons_zero, List.set_cons_succ]
            refine wpAnyH_take (i := 31) (v := ?_) rfl (by kernel_rfl) (by kernel_rfl) (by kernel_rfl) (fun _ _ _ h => h) (Or.inl ⟨by simp [Region.wanted, yielded], ?_⟩) (by assumption) ?_
            rotate_left
            · (intro w hSw; (try dsimp only at hSw); go_simp; try with_reducible rfl)
            simp only [Act.put, List.getElem_toArray, List.getElem_cons_succ, List.getElem_cons_zero, List.setIfInBounds_toArray, List.set_cons_zero, List.set_cons_succ]
            refine wpAnyH_ready (rs := [32]) (by kernel_rfl) (by simp) ?_
            refine AllReadyH.cons rfl (fun K hK => ?_) AllReadyH.nil
            go_simp
            refine Calls.mono (HZR.out wr.drew hbd) ?_
            rintro e w3 ⟨b, rfl, hbi, hb3⟩
            have hf3 : Fr wr w3 (fun _ => True) := (fr_drew (Fr.refl wr _)).trans (below_fr0 hb3)
            have hbx3 := hf3.at HBX.out trivial
            have hbw3 : Below w.heap.size w w3 := hbd.trans (hb3.mono hbd.size)
            have HBI := Lib.hid hbi
            refine hK.out _ _ ⟨hf3.cell p0 trivial, hf3.cell p2 trivial, hf3.cell p3 trivial, hf3.cell x0 trivial, hf3.cell x1 trivial, hf3.cell x2 trivial, hf3.cell x3 trivial⟩ (fun hHeld => ?_)
            clear hK K hbi
            try simp only [Act.put, List.getElem_toArray, List.getElem_cons_succ, List.getElem_cons_zero, List.setIfInBounds_toArray, List.set_cons_zero, List.set_cons_succ]
            cases b
            · skip
              refine wpAnyH_take (i := 33) (v := ?_) rfl (by kernel_rfl) (by kernel_rfl) (by kernel_rfl) (fun _ _ _ h => h) (Or.inl ⟨by simp [Region.wanted, yielded], ?_⟩) (by assumption) ?_
              rotate_left
              · (intro w hSw; (try dsimp only at hSw); go_simp; try with_reducible rfl)
              simp only [Act.put, List.getElem_toArray, List.getElem_cons_succ, List.getElem_cons_zero, List.setIfInBounds_toArray, List.set_cons_zero, List.set_cons_succ]
              refine wpAnyH_take (i := 34) (v := ?_) rfl (by kernel_rfl) (by kernel_rfl) (by kernel_rfl) (fun _ _ _ h => h) (Or.inl ⟨by rfl, ?_⟩) (by assumption) ?_
              rotate_left
              · (intro w hSw; (try dsimp only at hSw); go_simp; try with_reducible rfl)
              simp only [Act.put, List.getElem_toArray, List.getElem_cons_succ, List.getElem_cons_zero, List.setIfInBounds_toArray, List.set_cons_zero, List.set_cons_succ]
              refine wpAnyH_done (by kernel_rfl) ?_ _
              refine NoPanic.normal ?_
              clear p0 p1 p2 p3 x0 x1 x2 x3
              go_wp2
              go_ret
              exact bp_false rfl hbw3 (fun h => by have := HBI.out.2 (RgtL_mem (HIF.out.1 h).2 x (List.mem_of_getElem? HX.out)); cases this)
            · skip
              refine wpAnyH_take (i := 33) (v := ?_) rfl (by kernel_rfl) (by kernel_rfl) (by kernel_rfl) (fun _ _ _ h => h) (Or.inl ⟨by simp [Region.wanted, yielded], ?_⟩) (by assumption) ?_
              rotate_left
              · (intro w hSw; (try dsimp only at hSw); go_simp; try with_reducible rfl)
              simp only [Act.put, List.getElem_toArray, List.getElem_cons_succ, List.getElem_cons_zero, List.setIfInBounds_toArray, List.set_cons_zero, List.set_cons_succ]
              refine wpAnyH_take (i := 34) (v := ?_) rfl (by kernel_rfl) (by kernel_rfl) (by kernel_rfl) (fun _ _ _ h => h) (Or.inl ⟨by rfl, ?_⟩) (by assumption) ?_
              rotate_left
              · (intro w hSw; (try dsimp only at hSw); go_simp; try with_reducible rfl)
              simp only [Act.put, List.getElem_toArray, List.getElem_cons_succ, List.getElem_cons_zero, List.setIfInBounds_toArray, List.set_cons_zero, List.set_cons_succ]
              refine wpAnyH_done (by kernel_rfl) ?_ _
              refine NoPanic.normal ?_
              clear p0 p1 p2 p3 x0 x1 x2 x3
              obtain ⟨q0, q1, q2, q3⟩ := cells_4 hbx3
              go_wp2
              go_roundg g'
              case measure => omega
              case rel => exact ⟨q + 1, by omega, by go_num, take_all HX.out HALL.out (HBI.out.1 (by first | rfl | trivial)), hbx3, hbw3⟩
          · have hqn : q = n := by omega
            have htk : l.take q = l := List.take_of_length_le (by have := HN.out; omega)
            go_wp2
            go_ret
            exact bp_true rfl hbw (HIF.out.2 ⟨⟨(by first | rfl | trivial), hd4, (by first | rfl | trivial)⟩, RgtL_of (fun z hz => HALL.out z (by rw [htk]; exact hz))⟩)
      · have hdi : ¬ ((d : Int) < 64) := by omega
        have hdi2 : (64 : Int) ≤ (d : Int) := by omega
        clear hB0
        go_enter Tryd.func45, Tryd.ntmps45
        go_wp2
        go_ret
        exact bp_false rfl hb0 (fun h => absurd (HIF.out.1 h).1.2.1 hd4)
    · have hmi : (0 : Int) < (m : Int) := by omega
      clear hB0
      go_enter Tryd.func45, Tryd.ntmps45
      go_wp2
      go_ret
      exact bp_false rfl hb0 (fun h => absurd (HIF.out.1 h).1.2.2 hm0)
  · obtain ⟨e1, e2⟩ := empty_beq he
    have e3 : (t.toList != []) = true := by simp [bne, e2]
    have HE0 := Lib.hid he
    clear hB0 he
    go_enter Tryd.func45, Tryd.ntmps45
    go_wp2
    go_ret
    exact bp_false rfl hb0 (fun h => absurd (HIF.out.1 h).1.1 HE0.out)
end Go.Proofs.YtjcnjaebmndeiaaDoor

namespace Go.Proofs.YtjcnjaebmndeiaaDoor
open Go.RowKit

theorem nodup_next {ks : List ByteArray} {q : Nat} {s : ByteArray} (hs : ks[q]? = some s) (h : (ks.take q).Nodup) (hn : inB (ks.take q) s = false) : (ks.take (q + 1)).Nodup := by
  have hn' : s ∉ ks.take q := fun hm => by
    have := any_true hm
    unfold inB at hn
    rw [hn] at this
    cases this
  rw [List.take_add_one, hs, List.nodup_append]
  refine ⟨h, by simp, fun a ha b hb e => ?_⟩
  simp at hb
  subst hb; subst e
  exact hn' ha
theorem not_nodup {ks : List ByteArray} {q : Nat} {s : ByteArray} (hs : ks[q]? = some s) (hn : inB (ks.take q) s = true) : ¬ ks.Nodup := by
  intro h
  have hm : s ∈ ks.take q := by
    unfold inB at hn
    rw [List.any_eq_true] at hn
    obtain ⟨x, hx, he⟩ := hn
    simp only [decide_eq_true_eq] at he
    rw [← he]; exact hx
  obtain ⟨hlt, he⟩ := List.getElem?_eq_some_iff.1 hs
  rw [← List.take_append_drop q ks, List.nodup_append] at h
  refine h.2.2 s hm s ?_ rfl
  rw [List.drop_eq_getElem_cons hlt, he]
  exact List.mem_cons_self ..
theorem valid_next {ks : List ByteArray} {q : Nat} {s : ByteArray} (hs : ks[q]? = some s) (h : ∀ x, x ∈ ks.take q → Lib.validD x.data.toList = true) (hv : Lib.validD s.data.toList = true) : ∀ x, x ∈ ks.take (q + 1) → Lib.validD x.data.toList = true := by
  intro x hx
  rw [List.take_add_one, hs] at hx
  rcases List.mem_append.1 hx with hx | hx
  · exact h x hx
  · simp at hx; rw [hx]; exact hv
set_option maxHeartbeats 4000000 in
set_option maxRecDepth 100000 in
theorem right_obj (d : Nat) (hd : d ≤ 64) (t : ByteArray) (l : List Z) (ks : List ByteArray) (hs : d < 64 → ∀ x, x ∈ l → RtC (d + 1) x) (hln : l.length ≤ 1000000) (hkm : ∀ s, s ∈ ks → s.size ≤ maxLen) (A A' : Option Addr) (cap cap' : Nat) (c : Nat → Nat → Value) (w : World) (hG : Gl w)
    (hcap' : ks.length ≤ cap' ∧ cap' ≤ maxLen)
    (hL : 0 < l.length → ∃ g off, A = some ⟨g, off, none⟩ ∧ g < w.heap.size ∧ ∀ i j, i < l.length → j < 4 → w.cell? ⟨g, off + (4 * i + j), none⟩ = some (c i j))
    (hK : 0 < ks.length → ∃ g off, A' = some ⟨g, off, none⟩ ∧ g < w.heap.size ∧ ∀ i s, ks[i]? = some s → w.cell? ⟨g, off + i, none⟩ = some (.string s))
    (hE : ∀ i z, l[i]? = some z → ZIn w (fun b => b < w.heap.size) z (c i 0) (c i 1) (c i 2) (c i 3)) :
    Calls Tryd.prog 45 #[.agg #[.int .i64 7, .string t, .slice A l.length cap, .slice A' ks.length cap'], .int .i64 d] w (BoolPost w (Rgt d (.mk 7 t l ks))) := by
  have hiff := rgt_nest (d := d) (t := t) (l := l) (ks := ks) (k := 7) (.inr rfl)
  have hnp : NestP 7 t l.length ks d ↔ (t = ⟨#[]⟩ ∧ d < 64 ∧ ks.length = l.length ∧ (∀ s, s ∈ ks → Lib.validD s.data.toList = true) ∧ ks.Nodup) := by
    unfold NestP
    constructor
    · rintro ⟨h1, h2, h | h⟩
      · exact absurd h.1 (by decide)
      · exact ⟨h1, h2, h.2⟩
    · rintro ⟨h1, h2, h3⟩
      exact ⟨h1, h2, .inr ⟨rfl, h3⟩⟩
  rw [hnp] at hiff
  generalize Rgt d (.mk 7 t l ks) = R at *
  generalize hm : ks.length = m at *
  generalize hn : l.length = n at *
  have HIF := Lib.hid hiff
  have HN := Lib.hid hn
  have HM := Lib.hid hm
  have hB0 := heap_alloc_new w (.cells #[.int .i64 7, .string t, .slice A n cap, .slice A' m cap'] 26 (0, 0))
  have hb0 : Below w.heap.size w (w.alloc (.cells #[.int .i64 7, .string t, .slice A n cap, .slice A' m cap'] 26)) := (Below.refl _ _).alloc (Nat.le_refl _) _
  obtain ⟨p0, p1, p2, p3⟩ := cells_4 hB0
  have HG := Lib.hid hG
  have HL := Lib.hid hL
  have HK := Lib.hid hK
  have HE := Lib.hid hE
  have HS := Lib.hid hs
  have HKM := Lib.hid hkm
  clear hiff hnp hm hn hG hL hE hs hK hkm
  by_cases he : t = ⟨#[]⟩
  · subst he
    by_cases hm0 : m = n
    · subst hm0
      by_cases hd4 : d < 64
      · have hdi : (d : Int) < 64 := by omega
        have HS := Lib.hid (HS.out hd4)
        have HB0 := Lib.hid hB0
        clear hB0
        go_enter Tryd.func45, Tryd.ntmps45
        go_wp2
        clear p0 p1 p2 p3
        generalize (w.alloc (.cells #[.int .i64 7, .string ⟨#[]⟩, .slice A m cap, .slice A' m cap'] 26)) = W0 at *
        go_loopg [5] m (fun g i wr => ∃ q : Nat, q + g = m ∧ i = .int .i64 q ∧ ((∀ x, x ∈ l.take q → Rgt (d + 1) x) ∧ (∀ x, x ∈ ks.take q → Lib.validD x.data.toList = true) ∧ (ks.take q).Nodup) ∧ wr.heap[w.heap.size]? = some (.cells #[.int .i64 7, .string ⟨#[]⟩, .slice A m cap, .slice A' m cap'] 26 (0, 0)) ∧ Below w.heap.size w wr)
        case atStart => exact ⟨0, by omega, rfl, ⟨fun x hx => by simp at hx, fun x hx => by simp at hx, by simp⟩, HB0.out, hb0⟩
        case round =>
          obtain ⟨q, hqg, rfl, hall, hbx, hbw⟩ := hrel
          obtain ⟨p0, p1, p2, p3⟩ := cells_4 hbx
          have HALL := Lib.hid hall
          have HBX := Lib.hid hbx
          clear hall hbx
          by_cases hq : q < m
          · obtain ⟨x, hx⟩ : ∃ x, l[q]? = some x := ⟨_, List.getElem?_eq_getElem (by have := HN.out; omega)⟩
            obtain ⟨s, hsk⟩ : ∃ s, ks[q]? = some s := ⟨_, List.getElem?_eq_getElem (by have := HM.out; omega)⟩
            obtain ⟨g, off, rfl, hgw, hc⟩ := HL.out (by omega)
            obtain ⟨kg, ko, rfl, hkw, hkc⟩ := HK.out (by omega)
            have hqi : (q : Int) < (m : Int) := by omega
            have hq0 : (0 : Int) ≤ (q : Int) := by omega
            have hqc : (q : Int) ≤ (cap' : Int) := by omega
            have hdw : IntKind.i64.wrap ((d : Int) + 1) = (d : Int) + 1 := IntWalk.i64_in _ (by omega)
            obtain ⟨y0, y1, y2, y3⟩ := elc4 hc hq
            have hf := below_fr hbw
            have x0 := hf.cell y0 hgw
            have x1 := hf.cell y1 hgw
            have x2 := hf.cell y2 hgw
            have x3 := hf.cell y3 hgw
            have k0 := hf.cell (hkc q s hsk) hkw
            have hcall := HS.out x (List.mem_of_getElem? hx)
            have hzx := HE.out q x hx
            have hzr : ∀ W, Below w.heap.size w W → Calls Tryd.prog 45 #[.agg #[c q 0, c q 1, c q 2, c q 3], .int .i64 ((d : Int) + 1)] W (BoolPost W (Rgt (d + 1) x)) := fun W hW => by
              have := hcall W _ _ _ _ ((hzx.fr (below_fr hW) (fun _ h => h)).mono (fun b _ hb => Nat.lt_of_lt_of_le hb hW.size)) (HG.out.below hW)
              exact this
            have hva : ∀ W, Below w.heap.size w W → Calls Tryd.prog 29 #[.string s] W fun e w' => e = .returned (.bool (Lib.validD s.data.toList)) ∧ Below W.heap.size W w' := fun W hW =>
              Tryd.utf8_ValidString s W (by have := HKM.out s (List.mem_of_getElem? hsk); unfold maxLen at this; omega) (HG.out.below hW).u8
            have hin : ∀ W, Below w.heap.size w W → Calls Tryd.prog 32 #[.slice (some ⟨kg, ko, none⟩) q cap', .string s] W fun e w' => e = .returned (.bool (inB (ks.take q) s)) ∧ w' = W := fun W hW => by
              have htl : (ks.take q).length = q := by rw [List.length_take, HM.out]; omega
              have := in_any (some ⟨kg, ko, none⟩) (ks.take q) cap' s W (by omega) (fun _ => ⟨kg, ko, rfl, fun i y hy => by
                rw [List.getElem?_take] at hy
                split at hy
                · exact (below_fr hW).cell (hkc i y hy) hkw
                · cases hy⟩)
              rw [htl] at this
              exact this
            have HX := Lib.hid hx
            have HSK := Lib.hid hsk
            have HZR := Lib.hid hzr
            have HVA := Lib.hid hva
            have HIN := Lib.hid hin
            have HVE := Lib.hid (show Lib.validD s.data.toList = Lib.validD s.data.toList from rfl)
            obtain ⟨g', hg'⟩ : ∃ g', gk = g' + 1 := ⟨gk - 1, by omega⟩
            subst hg'
            clear hc hx y0 y1 y2 y3 hf hcall hzx hzr hva hin hkc hsk
            generalize c q 0 = a0 at *
            generalize c q 1 = a1 at *
            generalize c q 2 = a2 at *
            generalize c q 3 = a3 at *
            have hbd : Below w.heap.size w wr.drew := ⟨hbw.os, hbw.tape, hbw.output, hbw.size, hbw.block⟩
            cases hvv : Lib.validD s.data.toList
            · have HVV := Lib.hid hvv
              have hcv := HVA.out wr.drew hbd
              rw [hvv] at hcv
              clear hvv
              go_upto_region 17 with fail
              refine wp_region_noPanic ?_
              refine wp_region_held_drew (S := (fun w' => w'.cell? ⟨w.heap.size, 0, none⟩ = some (.int .i64 7) ∧ w'.cell? ⟨w.heap.size, 2, none⟩ = some (.slice (some ⟨g, off, none⟩) m cap) ∧ w'.cell? ⟨w.heap.size, 3, none⟩ = some (.slice (some ⟨kg, ko, none⟩) m cap') ∧ w'.cell? ⟨g, off + q * 4, none⟩ = some a0 ∧ w'.cell? ⟨g, off + q * 4 + 1, none⟩ = some a1 ∧ w'.cell? ⟨g, off + q * 4 + 2, none⟩ = some a2 ∧ w'.cell? ⟨g, off + q * 4 + 3, none⟩ = some a3 ∧ w'.cell? ⟨kg, ko + q, none⟩ = some (.string s))) (by kernel_rfl) ⟨p0, p2, p3, x0, x1, x2, x3, k0⟩ (fun hHeld => ?_)
              refine wpAnyH_take (i := 0) (v := ?_) rfl (by kernel_rfl) (by kernel_rfl) (by kernel_rfl) (fun _ _ _ h => h) (Or.inl ⟨by rfl, ?_⟩) (by assumption) ?_
              rotate_left
              · (intro w hSw; (try dsimp only at hSw); go_simp; try with_reducible rfl)
              simp only [Act.put, List.getElem_toArray, List.getElem_cons_zero, List.setIfInBounds_toArray, List.set_cons_zero, List.set_cons_succ]
              refine wpAnyH_take (i := 1) (v := ?_) rfl (by kernel_rfl) (by kernel_rfl) (by kernel_rfl) (fun _ _ _ h => h) (Or.inl ⟨by rfl, ?_⟩) (by assumption) ?_
              rotate_left
              · (intro w hSw; (try dsimp only at hSw); go_simp; try with_reducible rfl)
              simp only [Act.put, List.getElem_toArray, List.getElem_cons_succ, List.getElem_cons_zero, List.setIfInBounds_toArray, List.set_cons_zero, List.set_cons_succ]
              refine wpAnyH_take (i := 2) (v := ?_) rfl (by kernel_rfl) (by kernel_rfl) (by kernel_rfl) (fun _ _ _ h => h) (Or.inl ⟨by rfl, ?_⟩) (by assumption) ?_
              rotate_left
              · (intro w hSw; (try dsimp only at hSw); go_simp; try with_reducible rfl)
              simp only [Act.put, List.getElem_toArray, List.getElem_cons_succ, List.getElem_cons_zero, List.setIfInBounds_toArray, List.set_cons_zero, List.set_cons_succ]
              refine wpAnyH_take (i := 3) (v := ?_) rfl (by kernel_rfl) (by kernel_rfl) (by kernel_rfl) (fun _ _ _ h => h) (Or.inl ⟨by rfl, ?_⟩) (by assumption) ?_
              rotate_left
              · (intro w hSw; (try dsimp only at hSw); go_simp; try with_reducible rfl)
              simp only [Act.put, List.getElem_toArray, List.getElem_cons_succ, List.getElem_cons_zero, List.setIfInBounds_toArray, List.set_cons_zero, List.set_cons_succ]
              refine wpAnyH_take (i := 4) (v := ?_) rfl (by kernel_rfl) (by kernel_rfl) (by kernel_rfl) (fun _ _ _ h => h) (Or.inl ⟨by simp [Region.wanted, yielded], ?_⟩) (by assumption) ?_
              rotate_left
              · (intro w hSw; (try dsimp only at hSw); go_simp; try with_reducible rfl)
              simp only [Act.put, List.getElem_toArray, List.getElem_cons_succ, List.getElem_cons_zero, List.setIfInBounds_toArray, List.set_cons_zero, List.set_cons_succ]
              refine wpAnyH_take (i := 5) (v := ?_) rfl (by kernel_rfl) (by kernel_rfl) (by kernel_rfl) (fun _ _ _ h => h) (Or.inl ⟨by simp [Region.wanted, yielded], ?_⟩) (by assumption) ?_
              rotate_left
              · (intro w hSw; (try dsimp only at hSw); go_simp; try with_reducible rfl)
              simp only [Act.put, List.getElem_toArray, List.getElem_cons_succ, List.getElem_cons_zero, List.setIfInBounds_toArray, List.set_cons_zero, List.set_cons_succ]
              refine wpAnyH_take (i := 6) (v := ?_) rfl (by kernel_rfl) (by kernel_rfl) (by kernel_rfl) (fun _ _ _ h => h) (Or.inl ⟨by simp [Region.wanted, yielded], ?_⟩) (by assumption) ?_
              rotate_left
              · (intro w hSw; (try dsimp only at hSw); go_simp; try with_reducible rfl)
              simp only [Act.put, List.getElem_toArray, List.getElem_cons_succ, List.getElem_cons_zero, List.setIfInBounds_toArray, List.set_cons_zero, List.set_cons_succ]
              refine wpAnyH_take (i := 7) (v := ?_) rfl (by kernel_rfl) (by kernel_rfl) (by kernel_rfl) (fun _ _ _ h => h) (Or.inl ⟨by simp [Region.wanted, yielded], ?_⟩) (by assumption) ?_
              rotate_left
              · (intro w hSw; (try dsimp only at hSw); go_simp; try with_reducible rfl)
              simp only [Act.put, List.getElem_toArray, List.getElem_cons_succ, List.getElem_cons_zero, List.setIfInBounds_toArray, List.set_cons_zero, List.set_cons_succ]
              refine wpAnyH_take (i := 8) (v := ?_) rfl (by kernel_rfl) (by kernel_rfl) (by kernel_rfl) (fun _ _ _ h => h) (Or.inl ⟨by simp [Region.wanted, yielded], ?_⟩) (by assumption) ?_
              rotate_left
              · (intro w hSw; (try dsimp only at hSw); go_simp; try with_reducible rfl)
              simp only [Act.put, List.getElem_toArray, List.getElem_cons_succ, List.getElem_cons_zero, List.setIfInBounds_toArray, List.set_cons_zero, List.set_cons_succ]
              refine wpAnyH_ready (rs := [9]) (by kernel_rfl) (by simp) ?_
              refine AllReadyH.cons rfl (fun K hK => ?_) AllReadyH.nil
              go_simp
              refine Calls.mono hcv ?_
              rintro e w3 ⟨rfl, hb3⟩
              have hf3 : Fr wr w3 (fun _ => True) := (fr_drew (Fr.refl wr _)).trans (below_fr0 hb3)
              have hbx3 := hf3.at HBX.out trivial
              have hbw3 : Below w.heap.size w w3 := hbd.trans (hb3.mono hbd.size)
              refine hK.out _ _ ⟨hf3.cell p0 trivial, hf3.cell p2 trivial, hf3.cell p3 trivial, hf3.cell x0 trivial, hf3.cell x1 trivial, hf3.cell x2 trivial, hf3.cell x3 trivial, hf3.cell k0 trivial⟩ (fun hHeld => ?_)
              clear hK K
              try simp only [Act.put, List.getElem_toArray, List.getElem_cons_succ, List.getElem_cons_zero, List.setIfInBounds_toArray, List.set_cons_zero, List.set_cons_succ]
              refine wpAnyH_take (i := 10) (v := ?_) rfl (by kernel_rfl) (by kernel_rfl) (by kernel_rfl) (fun _ _ _ h => h) (Or.inl ⟨by simp [Region.wanted, yielded], ?_⟩) (by assumption) ?_
              rotate_left
              · (intro w hSw; (try dsimp only at hSw); go_simp; try with_reducible rfl)
              simp only [Act.put, List.getElem_toArray, List.getElem_cons_succ, List.getElem_cons_zero, List.setIfInBounds_toArray, List.set_cons_zero, List.set_cons_succ]
              refine wpAnyH_take (i := 11) (v := ?_) rfl (by kernel_rfl) (by kernel_rfl) (by kernel_rfl) (fun _ _ _ h => h) (Or.inl ⟨by simp [Region.wanted, yielded], ?_⟩) (by assumption) ?_
              rotate_left
              · (intro w hSw; (try dsimp only at hSw); go_simp; try with_reducible rfl)
              simp only [Act.put, List.getElem_toArray, List.getElem_cons_succ, List.getElem_cons_zero, List.setIfInBounds_toArray, List.set_cons_zero, List.set_cons_succ]
              refine wpAnyH_take (i := 12) (v := undef) rfl (by kernel_rfl) (by kernel_rfl) (by kernel_rfl) (fun _ _ _ h => h) (Or.inr ⟨by simp [Region.wanted, yielded, undef], rfl⟩) (by assumption) ?_
              simp only [Act.put, List.getElem_toArray, List.getElem_cons_succ, List.getElem_cons_zero, List.setIfInBounds_toArray, List.set_cons_zero, List.set_cons_succ]
              refine wpAnyH_take (i := 13) (v := undef) rfl (by kernel_rfl) (by kernel_rfl) (by kernel_rfl) (fun _ _ _ h => h) (Or.inr ⟨by simp [Region.wanted, yielded, undef], rfl⟩) (by assumption) ?_
              simp only [Act.put, List.getElem_toArray, List.getElem_cons_succ, List.getElem_cons_zero, List.setIfInBounds_toArray, List.set_cons_zero, List.set_cons_succ]
              refine wpAnyH_take (i := 14) (v := undef) rfl (by kernel_rfl) (by kernel_rfl) (by kernel_rfl) (fun _ _ _ h => h) (Or.inr ⟨by simp [Region.wanted, yielded, undef], rfl⟩) (by assumption) ?_
              simp only [Act.put, List.getElem_toArray, List.getElem_cons_succ, List.getElem_cons_zero, List.setIfInBounds_toArray, List.set_cons_zero, List.set_cons_succ]
              refine wpAnyH_take (i := 15) (v := undef) rfl (by kernel_rfl) (by kernel_rfl) (by kernel_rfl) (fun _ _ _ h => h) (Or.inr ⟨by simp [Region.wanted, yielded, undef], rfl⟩) (by assumption) ?_
              simp only [Act.put, List.getElem_toArray, List.getElem_cons_succ, List.getElem_cons_zero, List.setIfInBounds_toArray, List.set_cons_zero, List.set_cons_succ]
              refine wpAnyH_take (i := 16) (v := undef) rfl (by kernel_rfl) (by kernel_rfl) (by kernel_rfl) (fun _ _ _ h => h) (Or.inr ⟨by simp [Region.wanted, yielded, undef], rfl⟩) (by assumption) ?_
              simp only [Act.put, List.getElem_toArray, List.getElem_cons_succ, List.getElem_cons_zero, List.setIfInBounds_toArray, List.set_cons_zero, List.set_cons_succ]
              refine wpAnyH_take (i := 17) (v := undef) rfl (by kernel_rfl) (by kernel_rfl) (by kernel_rfl) (fun _ _ _ h => h) (Or.inr ⟨by simp [Region.wanted, yielded, undef], rfl⟩) (by assumption) ?_
              simp only [Act.put, List.getElem_toArray, List.getElem_cons_succ, List.getElem_cons_zero, List.setIfInBounds_toArray, List.set_cons_zero, List.set_cons_succ]
              refine wpAnyH_take (i := 18) (v := undef) rfl (by kernel_rfl) (by kernel_rfl) (by kernel_rfl) (fun _ _ _ h => h) (Or.inr ⟨by simp [Region.wanted, yielded, undef], rfl⟩) (by assumption) ?_
              simp only [Act.put, List.getElem_toArray, List.getElem_cons_succ, List.getElem_cons_zero, List.setIfInBounds_toArray, List.set_cons_zero, List.set_cons_succ]
              refine wpAnyH_take (i := 19) (v := undef) rfl (by kernel_rfl) (by kernel_rfl) (by kernel_rfl) (fun _ _ _ h => h) (Or.inr ⟨by simp [Region.wanted, yielded, undef], rfl⟩) (by assumption) ?_
              simp only [Act.put, List.getElem_toArray, List.getElem_cons_succ, List.getElem_cons_zero, List.setIfInBounds_toArray, List.set_cons_zero, List.set_cons_succ]
              refine wpAnyH_take (i := 20) (v := undef) rfl (by kernel_rfl) (by kernel_rfl) (by kernel_rfl) (fun _ _ _ h => h) (Or.inr ⟨by simp [Region.wanted, yielded, undef], rfl⟩) (by assumption) ?_
              simp only [Act.put, List.getElem_toArray, List.getElem_cons_succ, List.getElem_cons_zero, List.setIfInBounds_toArray, List.set_cons_zero, List.set_cons_succ]
              refine wpAnyH_take (i := 21) (v := undef) rfl (by kernel_rfl) (by kernel_rfl) (by kernel_rfl) (fun _ _ _ h => h) (Or.inr ⟨by simp [Region.wanted, yielded, undef], rfl⟩) (by assumption) ?_
              simp only [Act.put, List.getElem_toArray, List.getElem_cons_succ, List.getElem_cons_zero, List.setIfInBounds_toArray, List.set_cons_zero, List.set_cons_succ]
              refine wpAnyH_take (i := 22) (v := ?_) rfl (by kernel_rfl) (by kernel_rfl) (by kernel_rfl) (fun _ _ _ h => h) (Or.inl ⟨by simp [Region.wanted, yielded], ?_⟩) (by assumption) ?_
              rotate_left
              · (intro w hSw; (try dsimp only at hSw); go_simp; try with_reducible rfl)
              simp only [Act.put, List.getElem_toArray, List.getElem_cons_succ, List.getElem_cons_zero, List.setIfInBounds_toArray, List.set_cons_zero, List.set_cons_succ]
              refine wpAnyH_take (i := 23) (v := ?_) rfl (by kernel_rfl) (by kernel_rfl) (by kernel_rfl) (fun _ _ _ h => h) (Or.inl ⟨by rfl, ?_⟩) (by assumption) ?_
              rotate_left
              · (intro w hSw; (try dsimp only at hSw); go_simp; try with_reducible rfl)
              simp only [Act.put, List.getElem_toArray, List.getElem_cons_succ, List.getElem_cons_zero, List.setIfInBounds_toArray, List.set_cons_zero, List.set_cons_succ]
              refine wpAnyH_take (i := 24) (v := ?_) rfl (by kernel_rfl) (by kernel_rfl) (by kernel_rfl) (fun _ _ _ h => h) (Or.inl ⟨by rfl, ?_⟩) (by assumption) ?_
              rotate_left
              · (intro w hSw; (try dsimp only at hSw); go_simp; try with_reducible rfl)
              simp only [Act.put, List.getElem_toArray, List.getElem_cons_succ, List.getElem_cons_zero, List.setIfInBounds_toArray, List.set_cons_zero, List.set_cons_succ]
              refine wpAnyH_take (i := 25) (v := undef) rfl (by kernel_rfl) (by kernel_rfl) (by kernel_rfl) (fun _ _ _ h => h) (Or.inr ⟨by simp [Region.wanted, yielded, undef], rfl⟩) (by assumption) ?_
              simp only [Act.put, List.getElem_toArray, List.getElem_cons_succ, List.getElem_cons_zero, List.setIfInBounds_toArray, List.set_cons_zero, List.set_cons_succ]
              refine wpAnyH_take (i := 26) (v := undef) rfl (by kernel_rfl) (by kernel_rfl) (by kernel_rfl) (fun _ _ _ h => h) (Or.inr ⟨by simp [Region.wanted, yielded, undef], rfl⟩) (by assumption) ?_
              simp only [Act.put, List.getElem_toArray, List.getElem_cons_succ, List.getElem_cons_zero, List.setIfInBounds_toArray, List.set_cons_zero, List.set_cons_succ]
              refine wpAnyH_take (i := 27) (v := undef) rfl (by kernel_rfl) (by kernel_rfl) (by kernel_rfl) (fun _ _ _ h => h) (Or.inr ⟨by simp [Region.wanted, yielded, undef], rfl⟩) (by assumption) ?_
              simp only [Act.put, List.getElem_toArray, List.getElem_cons_succ, List.getElem_cons_zero, List.setIfInBounds_toArray, List.set_cons_zero, List.set_cons_succ]
              refine wpAnyH_take (i := 28) (v := undef) rfl (by kernel_rfl) (by kernel_rfl) (by kernel_rfl) (fun _ _ _ h => h) (Or.inr ⟨by simp [Region.wanted, yielded, undef], rfl⟩) (by assumption) ?_
              simp only [Act.put, List.getElem_toArray, List.getElem_cons_succ, List.getElem_cons_zero, List.setIfInBounds_toArray, List.set_cons_zero, List.set_cons_succ]
              refine wpAnyH_take (i := 29) (v := undef) rfl (by kernel_rfl) (by kernel_rfl) (by kernel_rfl) (fun _ _ _ h => h) (Or.inr ⟨by simp [Region.wanted, yielded, undef], rfl⟩) (by assumption) ?_
              simp only [Act.put, List.getElem_toArray, List.getElem_cons_succ, List.getElem_cons_zero, List.setIfInBounds_toArray, List.set_cons_zero, List.set_cons_succ]
              refine wpAnyH_take (i := 30) (v := undef) rfl (by kernel_rfl) (by kernel_rfl) (by kernel_rfl) (fun _ _ _ h => h) (Or.inr ⟨by simp [Region.wanted, yielded, undef], rfl⟩) (by assumption) ?_
              simp only [Act.put, List.getElem_toArray, List.getElem_cons_succ, List.getElem_cons_zero, List.setIfInBounds_toArray, List.set_cons_zero, List.set_cons_succ]
              refine wpAnyH_take (i := 31) (v := undef) rfl (by kernel_rfl) (by kernel_rfl) (by kernel_rfl) (fun _ _ _ h => h) (Or.inr ⟨by simp [Region.wanted, yielded, undef], rfl⟩) (by assumption) ?_
              simp only [Act.put, List.getElem_toArray, List.getElem_cons_succ, List.getElem_cons_zero, List.setIfInBounds_toArray, List.set_cons_zero, List.set_cons_succ]
              refine wpAnyH_take (i := 32) (v := undef) rfl (by kernel_rfl) (by kernel_rfl) (by kernel_rfl) (fun _ _ _ h => h) (Or.inr ⟨by simp [Region.wanted, yielded, undef], rfl⟩) (by assumption) ?_
              simp only [Act.put, List.getElem_toArray, List.getElem_cons_succ, List.getElem_cons_zero, List.setIfInBounds_toArray, List.set_cons_zero, List.set_cons_succ]
              refine wpAnyH_take (i := 33) (v := undef) rfl (by kernel_rfl) (by kernel_rfl) (by kernel_rfl) (fun _ _ _ h => h) (Or.inr ⟨by simp [Region.wanted, yielded, undef], rfl⟩) (by assumption) ?_
              simp only [Act.put, List.getElem_toArray, List.getElem_cons_succ, List.getElem_cons_zero, List.setIfInBounds_toArray, List.set_cons_zero, List.set_cons_succ]
              refine wpAnyH_take (i := 34) (v := ?_) rfl (by kernel_rfl) (by kernel_rfl) (by kernel_rfl) (fun _ _ _ h => h) (Or.inl ⟨by rfl, ?_⟩) (by assumption) ?_
              rotate_left
              · (intro w hSw; (try dsimp only at hSw); go_simp; try with_reducible rfl)
              simp only [Act.put, List.getElem_toArray, List.getElem_cons_succ, List.getElem_cons_zero, List.setIfInBounds_toArray, List.set_cons_zero, List.set_cons_succ]
              refine wpAnyH_done (by kernel_rfl) ?_ _
              refine NoPanic.normal ?_
              clear p0 p1 p2 p3 x0 x1 x2 x3 k0
              go_wp2
              go_ret
              exact bp_false rfl hbw3 (fun h => by have := (HIF.out.1 h).1.2.2.2.1 s (List.mem_of_getElem? HSK.out); rw [HVV.out] at this; cases this)
            · have HVV := Lib.hid hvv
              have hcv := HVA.out wr.drew hbd
              rw [hvv] at hcv
              clear hvv
              cases hii : inB (ks.take q) s
              · have HII := Lib.hid hii
                have hci := fun W hW => HIN.out W hW
                rw [hii] at hci
                clear hii
                go_upto_region 17 with fail
                refine wp_region_noPanic ?_
                refine wp_region_held_drew (S := (fun w' => w'.cell? ⟨w.heap.size, 0, none⟩ = some (.int .i64 7) ∧ w'.cell? ⟨w.heap.size, 2, none⟩ = some (.slice (some ⟨g, off, none⟩) m cap) ∧ w'.cell? ⟨w.heap.size, 3, none⟩ = some (.slice (some ⟨kg, ko, none⟩) m cap') ∧ w'.cell? ⟨g, off + q * 4, none⟩ = some a0 ∧ w'.cell? ⟨g, off + q * 4 + 1, none⟩ = some a1 ∧ w'.cell? ⟨g, off + q * 4 + 2, none⟩ = some a2 ∧ w'.cell? ⟨g, off + q * 4 + 3, none⟩ = some a3 ∧ w'.cell? ⟨kg, ko + q, none⟩ = some (.string s))) (by kernel_rfl) ⟨p0, p2, p3, x0, x1, x2, x3, k0⟩ (fun hHeld => ?_)
                refine wpAnyH_take (i := 0) (v := ?_) rfl (by kernel_rfl) (by kernel_rfl) (by kernel_rfl) (fun _ _ _ h => h) (Or.inl ⟨by rfl, ?_⟩) (by assumption) ?_
                rotate_left
                · (intro w hSw; (try dsimp only at hSw); go_simp; try with_reducible rfl)
                simp only [Act.put, List.getElem_toArray, List.getElem_cons_zero, List.setIfInBounds_toArray, List.set_cons_zero, List.set_cons_succ]
                refine wpAnyH_take (i := 1) (v := ?_) rfl (by kernel_rfl) (by kernel_rfl) (by kernel_rfl) (fun _ _ _ h => h) (Or.inl ⟨by rfl, ?_⟩) (by assumption) ?_
                rotate_left
                · (intro w hSw; (try dsimp only at hSw); go_simp; try with_reducible rfl)
                simp only [Act.put, List.getElem_toArray, List.getElem_cons_succ, List.getElem_cons_zero, List.setIfInBounds_toArray, List.set_cons_zero, List.set_cons_succ]
                refine wpAnyH_take (i := 2) (v := ?_) rfl (by kernel_rfl) (by kernel_rfl) (by kernel_rfl) (fun _ _ _ h => h) (Or.inl ⟨by rfl, ?_⟩) (by assumption) ?_
                rotate_left
                · (intro w hSw; (try dsimp only at hSw); go_simp; try with_reducible rfl)
                simp only [Act.put, List.getElem_toArray, List.getElem_cons_succ, List.getElem_cons_zero, List.setIfInBounds_toArray, List.set_cons_zero, List.set_cons_succ]
                refine wpAnyH_take (i := 3) (v := ?_) rfl (by kernel_rfl) (by kernel_rfl) (by kernel_rfl) (fun _ _ _ h => h) (Or.inl ⟨by rfl, ?_⟩) (by assumption) ?_
                rotate_left
                · (intro w hSw; (try dsimp only at hSw); go_simp; try with_reducible rfl)
                simp only [Act.put, List.getElem_toArray, List.getElem_cons_succ, List.getElem_cons_zero, List.setIfInBounds_toArray, List.set_cons_zero, List.set_cons_succ]
                refine wpAnyH_take (i := 4) (v := ?_) rfl (by kernel_rfl) (by kernel_rfl) (by kernel_rfl) (fun _ _ _ h => h) (Or.inl ⟨by simp [Region.wanted, yielded], ?_⟩) (by assumption) ?_
                rotate_left
                · (intro w hSw; (try dsimp only at hSw); go_simp; try with_reducible rfl)
                simp only [Act.put, List.getElem_toArray, List.getElem_cons_succ, List.getElem_cons_zero, List.setIfInBounds_toArray, List.set_cons_zero, List.set_cons_succ]
                refine wpAnyH_take (i := 5) (v := ?_) rfl (by kernel_rfl) (by kernel_rfl) (by kernel_rfl) (fun _ _ _ h => h) (Or.inl ⟨by simp [Region.wanted, yielded], ?_⟩) (by assumption) ?_
                rotate_left
                · (intro w hSw; (try dsimp only at hSw); go_simp; try with_reducible rfl)
                simp only [Act.put, List.getElem_toArray, List.getElem_cons_succ, List.getElem_cons_zero, List.setIfInBounds_toArray, List.set_cons_zero, List.set_cons_succ]
                refine wpAnyH_take (i := 6) (v := ?_) rfl (by kernel_rfl) (by kernel_rfl) (by kernel_rfl) (fun _ _ _ h => h) (Or.inl ⟨by simp [Region.wanted, yielded], ?_⟩) (by assumption) ?_
                rotate_left
                · (intro w hSw; (try dsimp only at hSw); go_simp; try with_reducible rfl)
                simp only [Act.put, List.getElem_toArray, List.getElem_cons_succ, List.getElem_cons_zero, List.setIfInBounds_toArray, List.set_cons_zero, List.set_cons_succ]
                refine wpAnyH_take (i := 7) (v := ?_) rfl (by kernel_rfl) (by kernel_rfl) (by kernel_rfl) (fun _ _ _ h => h) (Or.inl ⟨by simp [Region.wanted, yielded], ?_⟩) (by assumption) ?_
                rotate_left
                · (intro w hSw; (try dsimp only at hSw); go_simp; try with_reducible rfl)
                simp only [Act.put, List.getElem_toArray, List.getElem_cons_succ, List.getElem_cons_zero, List.setIfInBounds_toArray, List.set_cons_zero, List.set_cons_succ]
                refine wpAnyH_take (i := 8) (v := ?_) rfl (by kernel_rfl) (by kernel_rfl) (by kernel_rfl) (fun _ _ _ h => h) (Or.inl ⟨by simp [Region.wanted, yielded], ?_⟩) (by assumption) ?_
                rotate_left
                · (intro w hSw; (try dsimp only at hSw); go_simp; try with_reducible rfl)
                simp only [Act.put, List.getElem_toArray, List.getElem_cons_succ, List.getElem_cons_zero, List.setIfInBounds_toArray, List.set_cons_zero, List.set_cons_succ]
                refine wpAnyH_ready (rs := [9]) (by kernel_rfl) (by simp) ?_
                refine AllReadyH.cons rfl (fun K hK => ?_) AllReadyH.nil
                go_simp
                refine Calls.mono hcv ?_
                rintro e w3 ⟨rfl, hb3⟩
                have hf3 : Fr wr w3 (fun _ => True) := (fr_drew (Fr.refl wr _)).trans (below_fr0 hb3)
                have hbx3 := hf3.at HBX.out trivial
                have hbw3 : Below w.heap.size w w3 := hbd.trans (hb3.mono hbd.size)
                refine hK.out _ _ ⟨hf3.cell p0 trivial, hf3.cell p2 trivial, hf3.cell p3 trivial, hf3.cell x0 trivial, hf3.cell x1 trivial, hf3.cell x2 trivial, hf3.cell x3 trivial, hf3.cell k0 trivial⟩ (fun hHeld => ?_)
                clear hK K
                try simp only [Act.put, List.getElem_toArray, List.getElem_cons_succ, List.getElem_cons_zero, List.setIfInBounds_toArray, List.set_cons_zero, List.set_cons_succ]
                refine wpAnyH_take (i := 10) (v := ?_) rfl (by kernel_rfl) (by kernel_rfl) (by kernel_rfl) (fun _ _ _ h => h) (Or.inl ⟨by simp [Region.wanted, yielded], ?_⟩) (by assumption) ?_
                rotate_left
                · (intro w hSw; (try dsimp only at hSw); go_simp; try with_reducible rfl)
                simp only [Act.put, List.getElem_toArray, List.getElem_cons_succ, List.getElem_cons_zero, List.setIfInBounds_toArray, List.set_cons_zero, List.set_cons_succ]
                refine wpAnyH_take (i := 11) (v := ?_) rfl (by kernel_rfl) (by kernel_rfl) (by kernel_rfl) (fun _ _ _ h => h) (Or.inl ⟨by simp [Region.wanted, yielded], ?_⟩) (by assumption) ?_
                rotate_left
                · (intro w hSw; (try dsimp only at hSw); go_simp; try with_reducible rfl)
                simp only [Act.put, List.getElem_toArray, List.getElem_cons_succ, List.getElem_cons_zero, List.setIfInBounds_toArray, List.set_cons_zero, List.set_cons_succ]
                refine wpAnyH_take (i := 12) (v := ?_) rfl (by kernel_rfl) (by kernel_rfl) (by kernel_rfl) (fun _ _ _ h => h) (Or.inl ⟨by simp [Region.wanted, yielded], ?_⟩) (by assumption) ?_
                rotate_left
                · (intro w hSw; (try dsimp only at hSw); go_simp; try with_reducible rfl)
                simp only [Act.put, List.getElem_toArray, List.getElem_cons_succ, List.getElem_cons_zero, List.setIfInBounds_toArray, List.set_cons_zero, List.set_cons_succ]
                refine wpAnyH_take (i := 13) (v := ?_) rfl (by kernel_rfl) (by kernel_rfl) (by kernel_rfl) (fun _ _ _ h => h) (Or.inl ⟨by simp [Region.wanted, yielded], ?_⟩) (by assumption) ?_
                rotate_left
                · (intro w hSw; (try dsimp only at hSw); go_simp; try with_reducible rfl)
                simp only [Act.put, List.getElem_toArray, List.getElem_cons_succ, List.getElem_cons_zero, List.setIfInBounds_toArray, List.set_cons_zero, List.set_cons_succ]
                refine wpAnyH_take (i := 14) (v := ?_) rfl (by kernel_rfl) (by kernel_rfl) (by kernel_rfl) (fun _ _ _ h => h) (Or.inl ⟨by simp [Region.wanted, yielded], ?_⟩) (by assumption) ?_
                rotate_left
                · (intro w hSw; (try dsimp only at hSw); go_simp; try with_reducible rfl)
                simp only [Act.put, List.getElem_toArray, List.getElem_cons_succ, List.getElem_cons_zero, List.setIfInBounds_toArray, List.set_cons_zero, List.set_cons_succ]
                refine wpAnyH_take (i := 15) (v := ?_) rfl (by kernel_rfl) (by kernel_rfl) (by kernel_rfl) (fun _ _ _ h => h) (Or.inl ⟨by simp [Region.wanted, yielded], ?_⟩) (by assumption) ?_
                rotate_left
                · (intro w hSw; (try dsimp only at hSw); go_simp; try with_reducible rfl)
                simp only [Act.put, List.getElem_toArray, List.getElem_cons_succ, List.getElem_cons_zero, List.setIfInBounds_toArray, List.set_cons_zero, List.set_cons_succ]
                refine wpAnyH_take (i := 16) (v := ?_) rfl (by kernel_rfl) (by kernel_rfl) (by kernel_rfl) (fun _ _ _ h => h) (Or.inl ⟨by simp [Region.wanted, yielded], ?_⟩) (by assumption) ?_
                rotate_left
                · (intro w hSw; (try dsimp only at hSw); go_simp; try with_reducible rfl)
                simp only [Act.put, List.getElem_toArray, List.getElem_cons_succ, List.getElem_cons_zero, List.setIfInBounds_toArray, List.set_cons_zero, List.set_cons_succ]
                refine wpAnyH_take (i := 17) (v := ?_) rfl (by kernel_rfl) (by kernel_rfl) (by kernel_rfl) (fun _ _ _ h => h) (Or.inl ⟨by simp [Region.wanted, yielded], ?_⟩) (by assumption) ?_
                rotate_left
                · (intro w hSw; (try dsimp only at hSw); go_simp; try with_reducible rfl)
                simp only [Act.put, List.getElem_toArray, List.getElem_cons_succ, List.getElem_cons_zero, List.setIfInBounds_toArray, List.set_cons_zero, List.set_cons_succ]
                refine wpAnyH_take (i := 18) (v := ?_) rfl (by kernel_rfl) (by kernel_rfl) (by kernel_rfl) (fun _ _ _ h => h) (Or.inl ⟨by simp [Region.wanted, yielded], ?_⟩) (by assumption) ?_
                rotate_left
                · (intro w hSw; (try dsimp only at hSw); go_simp; try with_reducible rfl)
                simp only [Act.put, List.getElem_toArray, List.getElem_cons_succ, List.getElem_cons_zero, List.setIfInBounds_toArray, List.set_cons_zero, List.set_cons_succ]
                refine wpAnyH_take (i := 19) (v := ?_) rfl (by kernel_rfl) (by kernel_rfl) (by kernel_rfl) (fun _ _ _ h => h) (Or.inl ⟨by simp [Region.wanted, yielded], ?_⟩) (by assumption) ?_
                rotate_left
                · (intro w hSw; (try dsimp only at hSw); go_simp; try with_reducible rfl)
                simp only [Act.put, List.getElem_toArray, List.getElem_cons_succ, List.getElem_cons_zero, List.setIfInBounds_toArray, List.set_cons_zero, List.set_cons_succ]
                refine wpAnyH_take (i := 20) (v := ?_) rfl (by kernel_rfl) (by kernel_rfl) (by kernel_rfl) (fun _ _ _ h => h) (Or.inl ⟨by simp [Region.wanted, yielded], ?_⟩) (by assumption) ?_
                rotate_left
                · (intro w hSw; (try dsimp only at hSw); go_simp; try with_reducible rfl)
                simp only [Act.put, List.getElem_toArray, List.getElem_cons_succ, List.getElem_cons_zero, List.setIfInBounds_toArray, List.set_cons_zero, List.set_cons_succ]
                refine wpAnyH_ready (rs := [21]) (by kernel_rfl) (by simp) ?_
                refine AllReadyH.cons rfl (fun K hK => ?_) AllReadyH.nil
                go_simp
                refine Calls.mono (hci w3 hbw3) ?_
                rintro e w4 ⟨rfl, rfl⟩
                refine hK.out _ _ ⟨hf3.cell p0 trivial, hf3.cell p2 trivial, hf3.cell p3 trivial, hf3.cell x0 trivial, hf3.cell x1 trivial, hf3.cell x2 trivial, hf3.cell x3 trivial, hf3.cell k0 trivial⟩ (fun hHeld => ?_)
                clear hK K
                try simp only [Act.put, List.getElem_toArray, List.getElem_cons_succ, List.getElem_cons_zero, List.setIfInBounds_toArray, List.set_cons_zero, List.set_cons_succ]
                refine wpAnyH_take (i := 22) (v := ?_) rfl (by kernel_rfl) (by kernel_rfl) (by kernel_rfl) (fun _ _ _ h => h) (Or.inl ⟨by simp [Region.wanted, yielded], ?_⟩) (by assumption) ?_
                rotate_left
                · (intro w hSw; (try dsimp only at hSw); go_simp; try with_reducible rfl)
                simp only [Act.put, List.getElem_toArray, List.getElem_cons_succ, List.getElem_cons_zero, List.setIfInBounds_toArray, List.set_cons_zero, List.set_cons_succ]
                refine wpAnyH_take (i := 23) (v := ?_) rfl (by kernel_rfl) (by kernel_rfl) (by kernel_rfl) (fun _ _ _ h => h) (Or.inl ⟨by rfl, ?_⟩) (by assumption) ?_
                rotate_left
                · (intro w hSw; (try dsimp only at hSw); go_simp; try with_reducible rfl)
                simp only [Act.put, List.getElem_toArray, List.getElem_cons_succ, List.getElem_cons_zero, List.setIfInBounds_toArray, List.set_cons_zero, List.set_cons_succ]
                refine wpAnyH_take (i := 24) (v := ?_) rfl (by kernel_rfl) (by kernel_rfl) (by kernel_rfl) (fun _ _ _ h => h) (Or.inl ⟨by rfl, ?_⟩) (by assumption) ?_
                rotate_left
                · (intro w hSw; (try dsimp only at hSw); go_simp; try with_reducible rfl)
                simp only [Act.put, List.getElem_toArray, List.getElem_cons_succ, List.getElem_cons_zero, List.setIfInBounds_toArray, List.set_cons_zero, List.set_cons_succ]
                refine wpAnyH_take (i := 25) (v := ?_) rfl (by kernel_rfl) (by kernel_rfl) (by kernel_rfl) (fun _ _ _ h => h) (Or.inl ⟨by simp [Region.wanted, yielded], ?_⟩) (by assumption) ?_
                rotate_left
                · (intro w hSw; (try dsimp only at hSw); go_simp; try with_reducible rfl)
                simp only [Act.put, List.getElem_toArray, List.getElem_cons_succ, List.getElem_cons_zero, List.setIfInBounds_toArray, List.set_cons_zero, List.set_cons_succ]
                refine wpAnyH_take (i := 26) (v := ?_) rfl (by kernel_rfl) (by kernel_rfl) (by kernel_rfl) (fun _ _ _ h => h) (Or.inl ⟨by simp [Region.wanted, yielded], ?_⟩) (by assumption) ?_
                rotate_left
                · (intro w hSw; (try dsimp only at hSw); go_simp; try with_reducible rfl)
                simp only [Act.put, List.getElem_toArray, List.getElem_cons_succ, List.getElem_cons_zero, List.setIfInBounds_toArray, List.set_cons_zero, List.set_cons_succ]
                refine wpAnyH_take (i := 27) (v := ?_) rfl (by kernel_rfl) (by kernel_rfl) (by kernel_rfl) (fun _ _ _ h => h) (Or.inl ⟨by simp [Region.wanted, yielded], ?_⟩) (by assumption) ?_
                rotate_left
                · (intro w hSw; (try dsimp only at hSw); go_simp; try with_reducible rfl)
                simp only [Act.put, List.getElem_toArray, List.getElem_cons_succ, List.getElem_cons_zero, List.setIfInBounds_toArray, List.set_cons_zero, List.set_cons_succ]
                refine wpAnyH_take (i := 28) (v := ?_) rfl (by kernel_rfl) (by kernel_rfl) (by kernel_rfl) (fun _ _ _ h => h) (Or.inl ⟨by simp [Region.wanted, yielded], ?_⟩) (by assumption) ?_
                rotate_left
                · (intro w hSw; (try dsimp only at hSw); go_simp; try with_reducible rfl)
                simp only [Act.put, List.getElem_toArray, List.getElem_cons_succ, List.getElem_cons_zero, List.setIfInBounds_toArray, List.set_cons_zero, List.set_cons_succ]
                refine wpAnyH_take (i := 29) (v := ?_) rfl (by kernel_rfl) (by kernel_rfl) (by kernel_rfl) (fun _ _ _ h => h) (Or.inl ⟨by simp [Region.wanted, yielded], ?_⟩) (by assumption) ?_
                rotate_left
                · (intro w hSw; (try dsimp only at hSw); go_simp; try with_reducible rfl)
                simp only [Act.put, List.getElem_toArray, List.getElem_cons_succ, List.getElem_cons_zero, List.setIfInBounds_toArray, List.set_cons_zero, List.set_cons_succ]
                refine wpAnyH_take (i := 30) (v := ?_) rfl (by kernel_rfl) (by kernel_rfl) (by kernel_rfl) (fun _ _ _ h => h) (Or.inl ⟨by simp [Region.wanted, yielded], ?_⟩) (by assumption) ?_
                rotate_left
                · (intro w hSw; (try dsimp only at hSw); go_simp; try with_reducible rfl)
                simp only [Act.put, List.getElem_toArray, List.getElem_cons_succ, List.getElem_cons_zero, List.setIfInBounds_toArray, List.set_cons_zero, List.set_cons_succ]
                refine wpAnyH_take (i := 31) (v := ?_) rfl (by kernel_rfl) (by kernel_rfl) (by kernel_rfl) (fun _ _ _ h => h) (Or.inl ⟨by simp [Region.wanted, yielded], ?_⟩) (by assumption) ?_
                rotate_left
                · (intro w hSw; (try dsimp only at hSw); go_simp; try with_reducible rfl)
                simp only [Act.put, List.getElem_toArray, List.getElem_cons_succ, List.getElem_cons_zero, List.setIfInBounds_toArray, List.set_cons_zero, List.set_cons_succ]
                refine wpAnyH_ready (rs := [32]) (by kernel_rfl) (by simp) ?_
                refine AllReadyH.cons rfl (fun K hK => ?_) AllReadyH.nil
                go_simp
                refine Calls.mono (HZR.out w4 hbw3) ?_
                rintro e w5 ⟨b, rfl, hbi, hb5⟩
                have hf5 : Fr wr w5 (fun _ => True) := hf3.trans (below_fr0 hb5)
                have hbx5 := hf5.at HBX.out trivial
                have hbw5 : Below w.heap.size w w5 := hbw3.trans (hb5.mono hbw3.size)
                have HBI := Lib.hid hbi
                refine hK.out _ _ ⟨hf5.cell p0 trivial, hf5.cell p2 trivial, hf5.cell p3 trivial, hf5.cell x0 trivial, hf5.cell x1 trivial, hf5.cell x2 trivial, hf5.cell x3 trivial, hf5.cell k0 trivial⟩ (fun hHeld => ?_)
                clear hK K hbi
                try simp only [Act.put, List.getElem_toArray, List.getElem_cons_succ, List.getElem_cons_zero, List.setIfInBounds_toArray, List.set_cons_zero, List.set_cons_succ]
                cases b
                · skip
                  refine wpAnyH_take (i := 33) (v := ?_) rfl (by kernel_rfl) (by kernel_rfl) (by kernel_rfl) (fun _ _ _ h => h) (Or.inl ⟨by simp [Region.wanted, yielded], ?_⟩) (by assumption) ?_
                  rotate_left
                  · (intro w hSw; (try dsimp only at hSw); go_simp; try with_reducible rfl)
                  simp only [Act.put, List.getElem_toArray, List.getElem_cons_succ, List.getElem_cons_zero, List.setIfInBounds_toArray, List.set_cons_zero, List.set_cons_succ]
                  refine wpAnyH_take (i := 34) (v := ?_) rfl (by kernel_rfl) (by kernel_rfl) (by kernel_rfl) (fun _ _ _ h => h) (Or.inl ⟨by rfl, ?_⟩) (by assumption) ?_
                  rotate_left
                  · (intro w hSw; (try dsimp only at hSw); go_simp; try with_reducible rfl)
                  simp only [Act.put, List.getElem_toArray, List.getElem_cons_succ, List.getElem_cons_zero, List.setIfInBounds_toArray, List.set_cons_zero, List.set_cons_succ]
                  refine wpAnyH_done (by kernel_rfl) ?_ _
                  refine NoPanic.normal ?_
                  clear p0 p1 p2 p3 x0 x1 x2 x3 k0
                  go_wp2
                  go_ret
                  exact bp_false rfl hbw5 (fun h => by have := HBI.out.2 (RgtL_mem (HIF.out.1 h).2 x (List.mem_of_getElem? HX.out)); cases this)
                · skip
                  refine wpAnyH_take (i := 33) (v := ?_) rfl (by kernel_rfl) (by kernel_rfl) (by kernel_rfl) (fun _ _ _ h => h) (Or.inl ⟨by simp [Region.wanted, yielded], ?_⟩) (by assumption) ?_
                  rotate_left
                  · (intro w hSw; (try dsimp only at hSw); go_simp; try with_reducible rfl)
                  simp only [Act.put, List.getElem_toArray, List.getElem_cons_succ, List.getElem_cons_zero, List.setIfInBounds_toArray, List.set_cons_zero, List.set_cons_succ]
                  refine wpAnyH_take (i := 34) (v := ?_) rfl (by kernel_rfl) (by kernel_rfl) (by kernel_rfl) (fun _ _ _ h => h) (Or.inl ⟨by rfl, ?_⟩) (by assumption) ?_
                  rotate_left
                  · (intro w hSw; (try dsimp only at hSw); go_simp; try with_reducible rfl)
                  simp only [Act.put, List.getElem_toArray, List.getElem_cons_succ, List.getElem_cons_zero, List.setIfInBounds_toArray, List.set_cons_zero, List.set_cons_succ]
                  refine wpAnyH_done (by kernel_rfl) ?_ _
                  refine NoPanic.normal ?_
                  clear p0 p1 p2 p3 x0 x1 x2 x3 k0
                  obtain ⟨q0, q1, q2, q3⟩ := cells_4 hbx5
                  go_wp2
                  go_roundg g'
                  case measure => omega
                  case rel => exact ⟨q + 1, by omega, by go_num, ⟨take_all HX.out HALL.out.1 (HBI.out.1 (by first | rfl | trivial)), valid_next HSK.out HALL.out.2.1 HVV.out, nodup_next HSK.out HALL.out.2.2 HII.out⟩, hbx5, hbw5⟩
              · have HII := Lib.hid hii
                have hci := fun W hW => HIN.out W hW
                rw [hii] at hci
                clear hii
                go_upto_region 17 with fail
                refine wp_region_noPanic ?_
                refine wp_region_held_drew (S := (fun w' => w'.cell? ⟨w.heap.size, 0, none⟩ = some (.int .i64 7) ∧ w'.cell? ⟨w.heap.size, 2, none⟩ = some (.slice (some ⟨g, off, none⟩) m cap) ∧ w'.cell? ⟨w.heap.size, 3, none⟩ = some (.slice (some ⟨kg, ko, none⟩) m cap') ∧ w'.cell? ⟨g, off + q * 4, none⟩ = some a0 ∧ w'.cell? ⟨g, off + q * 4 + 1, none⟩ = some a1 ∧ w'.cell? ⟨g, off + q * 4 + 2, none⟩ = some a2 ∧ w'.cell? ⟨g, off + q * 4 + 3, none⟩ = some a3 ∧ w'.cell? ⟨kg, ko + q, none⟩ = some (.string s))) (by kernel_rfl) ⟨p0, p2, p3, x0, x1, x2, x3, k0⟩ (fun hHeld => ?_)
                refine wpAnyH_take (i := 0) (v := ?_) rfl (by kernel_rfl) (by kernel_rfl) (by kernel_rfl) (fun _ _ _ h => h) (Or.inl ⟨by rfl, ?_⟩) (by assumption) ?_
                rotate_left
                · (intro w hSw; (try dsimp only at hSw); go_simp; try with_reducible rfl)
                simp only [Act.put, List.getElem_toArray, List.getElem_cons_zero, List.setIfInBounds_toArray, List.set_cons_zero, List.set_cons_succ]
                refine wpAnyH_take (i := 1) (v := ?_) rfl (by kernel_rfl) (by kernel_rfl) (by kernel_rfl) (fun _ _ _ h => h) (Or.inl ⟨by rfl, ?_⟩) (by assumption) ?_
                rotate_left
                · (intro w hSw; (try dsimp only at hSw); go_simp; try with_reducible rfl)
                simp only [Act.put, List.getElem_toArray, List.getElem_cons_succ, List.getElem_cons_zero, List.setIfInBounds_toArray, List.set_cons_zero, List.set_cons_succ]
                refine wpAnyH_take (i := 2) (v := ?_) rfl (by kernel_rfl) (by kernel_rfl) (by kernel_rfl) (fun _ _ _ h => h) (Or.inl ⟨by rfl, ?_⟩) (by assumption) ?_
                rotate_left
                · (intro w hSw; (try dsimp only at hSw); go_simp; try with_reducible rfl)
                simp only [Act.put, List.getElem_toArray, List.getElem_cons_succ, List.getElem_cons_zero, List.setIfInBounds_toArray, List.set_cons_zero, List.set_cons_succ]
                refine wpAnyH_take (i := 3) (v := ?_) rfl (by kernel_rfl) (by kernel_rfl) (by kernel_rfl) (fun _ _ _ h => h) (Or.inl ⟨by rfl, ?_⟩) (by assumption) ?_
                rotate_left
                · (intro w hSw; (try dsimp only at hSw); go_simp; try with_reducible rfl)
                simp only [Act.put, List.getElem_toArray, List.getElem_cons_succ, List.getElem_cons_zero, List.setIfInBounds_toArray, List.set_cons_zero, List.set_cons_succ]
                refine wpAnyH_take (i := 4) (v := ?_) rfl (by kernel_rfl) (by kernel_rfl) (by kernel_rfl) (fun _ _ _ h => h) (Or.inl ⟨by simp [Region.wanted, yielded], ?_⟩) (by assumption) ?_
                rotate_left
                · (intro w hSw; (try dsimp only at hSw); go_simp; try with_reducible rfl)
                simp only [Act.put, List.getElem_toArray, List.getElem_cons_succ, List.getElem_cons_zero, List.setIfInBounds_toArray, List.set_cons_zero, List.set_cons_succ]
                refine wpAnyH_take (i := 5) (v := ?_) rfl (by kernel_rfl) (by kernel_rfl) (by kernel_rfl) (fun _ _ _ h => h) (Or.inl ⟨by simp [Region.wanted, yielded], ?_⟩) (by assumption) ?_
                rotate_left
                · (intro w hSw; (try dsimp only at hSw); go_simp; try with_reducible rfl)
                simp only [Act.put, List.getElem_toArray, List.getElem_cons_succ, List.getElem_cons_zero, List.setIfInBounds_toArray, List.set_cons_zero, List.set_cons_succ]
                refine wpAnyH_take (i := 6) (v := ?_) rfl (by kernel_rfl) (by kernel_rfl) (by kernel_rfl) (fun _ _ _ h => h) (Or.inl ⟨by simp [Region.wanted, yielded], ?_⟩) (by assumption) ?_
                rotate_left
                · (intro w hSw; (try dsimp only at hSw); go_simp; try with_reducible rfl)
                simp only [Act.put, List.getElem_toArray, List.getElem_cons_succ, List.getElem_cons_zero, List.setIfInBounds_toArray, List.set_cons_zero, List.set_cons_succ]
                refine wpAnyH_take (i := 7) (v := ?_) rfl (by kernel_rfl) (by kernel_rfl) (by kernel_rfl) (fun _ _ _ h => h) (Or.inl ⟨by simp [Region.wanted, yielded], ?_⟩) (by assumption) ?_
                rotate_left
                · (intro w hSw; (try dsimp only at hSw); go_simp; try with_reducible rfl)
                simp only [Act.put, List.getElem_toArray, List.getElem_cons_succ, List.getElem_cons_zero, List.setIfInBounds_toArray, List.set_cons_zero, List.set_cons_succ]
                refine wpAnyH_take (i := 8) (v := ?_) rfl (by kernel_rfl) (by kernel_rfl) (by kernel_rfl) (fun _ _ _ h => h) (Or.inl ⟨by simp [Region.wanted, yielded], ?_⟩) (by assumption) ?_
                rotate_left
                · (intro w hSw; (try dsimp only at hSw); go_simp; try with_reducible rfl)
                simp only [Act.put, List.getElem_toArray, List.getElem_cons_succ, List.getElem_cons_zero, List.setIfInBounds_toArray, List.set_cons_zero, List.set_cons_succ]
                refine wpAnyH_ready (rs := [9]) (by kernel_rfl) (by simp) ?_
                refine AllReadyH.cons rfl (fun K hK => ?_) AllReadyH.nil
                go_simp
                refine Calls.mono hcv ?_
                rintro e w3 ⟨rfl, hb3⟩
                have hf3 : Fr wr w3 (fun _ => True) := (fr_drew (Fr.refl wr _)).trans (below_fr0 hb3)
                have hbx3 := hf3.at HBX.out trivial
                have hbw3 : Below w.heap.size w w3 := hbd.trans (hb3.mono hbd.size)
                refine hK.out _ _ ⟨hf3.cell p0 trivial, hf3.cell p2 trivial, hf3.cell p3 trivial, hf3.cell x0 trivial, hf3.cell x1 trivial, hf3.cell x2 trivial, hf3.cell x3 trivial, hf3.cell k0 trivial⟩ (fun hHeld => ?_)
                clear hK K
                try simp only [Act.put, List.getElem_toArray, List.getElem_cons_succ, List.getElem_cons_zero, List.setIfInBounds_toArray, List.set_cons_zero, List.set_cons_succ]
                refine wpAnyH_take (i := 10) (v := ?_) rfl (by kernel_rfl) (by kernel_rfl) (by kernel_rfl) (fun _ _ _ h => h) (Or.inl ⟨by simp [Region.wanted, yielded], ?_⟩) (by assumption) ?_
                rotate_left
                · (intro w hSw; (try dsimp only at hSw); go_simp; try with_reducible rfl)
                simp only [Act.put, List.getElem_toArray, List.getElem_cons_succ, List.getElem_cons_zero, List.setIfInBounds_toArray, List.set_cons_zero, List.set_cons_succ]
                refine wpAnyH_take (i := 11) (v := ?_) rfl (by kernel_rfl) (by kernel_rfl) (by kernel_rfl) (fun _ _ _ h => h) (Or.inl ⟨by simp [Region.wanted, yielded], ?_⟩) (by assumption) ?_
                rotate_left
                · (intro w hSw; (try dsimp only at hSw); go_simp; try with_reducible rfl)
                simp only [Act.put, List.getElem_toArray, List.getElem_cons_succ, List.getElem_cons_zero, List.setIfInBounds_toArray, List.set_cons_zero, List.set_cons_succ]
                refine wpAnyH_take (i := 12) (v := ?_) rfl (by kernel_rfl) (by kernel_rfl) (by kernel_rfl) (fun _ _ _ h => h) (Or.inl ⟨by simp [Region.wanted, yielded], ?_⟩) (by assumption) ?_
                rotate_left
                · (intro w hSw; (try dsimp only at hSw); go_simp; try with_reducible rfl)
                simp only [Act.put, List.getElem_toArray, List.getElem_cons_succ, List.getElem_cons_zero, List.setIfInBounds_toArray, List.set_cons_zero, List.set_cons_succ]
                refine wpAnyH_take (i := 13) (v := ?_) rfl (by kernel_rfl) (by kernel_rfl) (by kernel_rfl) (fun _ _ _ h => h) (Or.inl ⟨by simp [Region.wanted, yielded], ?_⟩) (by assumption) ?_
                rotate_left
                · (intro w hSw; (try dsimp only at hSw); go_simp; try with_reducible rfl)
                simp only [Act.put, List.getElem_toArray, List.getElem_cons_succ, List.getElem_cons_zero, List.setIfInBounds_toArray, List.set_cons_zero, List.set_cons_succ]
                refine wpAnyH_take (i := 14) (v := ?_) rfl (by kernel_rfl) (by kernel_rfl) (by kernel_rfl) (fun _ _ _ h => h) (Or.inl ⟨by simp [Region.wanted, yielded], ?_⟩) (by assumption) ?_
                rotate_left
                · (intro w hSw; (try dsimp only at hSw); go_simp; try with_reducible rfl)
                simp only [Act.put, List.getElem_toArray, List.getElem_cons_succ, List.getElem_cons_zero, List.setIfInBounds_toArray, List.set_cons_zero, List.set_cons_succ]
                refine wpAnyH_take (i := 15) (v := ?_) rfl (by kernel_rfl) (by kernel_rfl) (by kernel_rfl) (fun _ _ _ h => h) (Or.inl ⟨by simp [Region.wanted, yielded], ?_⟩) (by assumption) ?_
                rotate_left
                · (intro w hSw; (try dsimp only at hSw); go_simp; try with_reducible rfl)
                simp only [Act.put, List.getElem_toArray, List.getElem_cons_succ, List.getElem_cons_zero, List.setIfInBounds_toArray, List.set_cons_zero, List.set_cons_succ]
                refine wpAnyH_take (i := 16) (v := ?_) rfl (by kernel_rfl) (by kernel_rfl) (by kernel_rfl) (fun _ _ _ h => h) (Or.inl ⟨by simp [Region.wanted, yielded], ?_⟩) (by assumption) ?_
                rotate_left
                · (intro w hSw; (try dsimp only at hSw); go_simp; try with_reducible rfl)
                simp only [Act.put, List.getElem_toArray, List.getElem_cons_succ, List.getElem_cons_zero, List.setIfInBounds_toArray, List.set_cons_zero, List.set_cons_succ]
                refine wpAnyH_take (i := 17) (v := ?_) rfl (by kernel_rfl) (by kernel_rfl) (by kernel_rfl) (fun _ _ _ h => h) (Or.inl ⟨by simp [Region.wanted, yielded], ?_⟩) (by assumption) ?_
                rotate_left
                · (intro w hSw; (try dsimp only at hSw); go_simp; try with_reducible rfl)
                simp only [Act.put, List.getElem_toArray, List.getElem_cons_succ, List.getElem_cons_zero, List.setIfInBounds_toArray, List.set_cons_zero, List.set_cons_succ]
                refine wpAnyH_take (i := 18) (v := ?_) rfl (by kernel_rfl) (by kernel_rfl) (by kernel_rfl) (fun _ _ _ h => h) (Or.inl ⟨by simp [Region.wanted, yielded], ?_⟩) (by assumption) ?_
                rotate_left
                · (intro w hSw; (try dsimp only at hSw); go_simp; try with_reducible rfl)
                simp only [Act.put, List.getElem_toArray, List.getElem_cons_succ, List.getElem_cons_zero, List.setIfInBounds_toArray, List.set_cons_zero, List.set_cons_succ]
                refine wpAnyH_take (i := 19) (v := ?_) rfl (by kernel_rfl) (by kernel_rfl) (by kernel_rfl) (fun _ _ _ h => h) (Or.inl ⟨by simp [Region.wanted, yielded], ?_⟩) (by assumption) ?_
                rotate_left
                · (intro w hSw; (try dsimp only at hSw); go_simp; try with_reducible rfl)
                simp only [Act.put, List.getElem_toArray, List.getElem_cons_succ, List.getElem_cons_zero, List.setIfInBounds_toArray, List.set_cons_zero, List.set_cons_succ]
                refine wpAnyH_take (i := 20) (v := ?_) rfl (by kernel_rfl) (by kernel_rfl) (by kernel_rfl) (fun _ _ _ h => h) (Or.inl ⟨by simp [Region.wanted, yielded], ?_⟩) (by assumption) ?_
                rotate_left
                · (intro w hSw; (try dsimp only at hSw); go_simp; try with_reducible rfl)
                simp only [Act.put, List.getElem_toArray, List.getElem_cons_succ, List.getElem_cons_zero, List.setIfInBounds_toArray, List.set_cons_zero, List.set_cons_succ]
                refine wpAnyH_ready (rs := [21]) (by kernel_rfl) (by simp) ?_
                refine AllReadyH.cons rfl (fun K hK => ?_) AllReadyH.nil
                go_simp
                refine Calls.mono (hci w3 hbw3) ?_
                rintro e w4 ⟨rfl, rfl⟩
                refine hK.out _ _ ⟨hf3.cell p0 trivial, hf3.cell p2 trivial, hf3.cell p3 trivial, hf3.cell x0 trivial, hf3.cell x1 trivial, hf3.cell x2 trivial, hf3.cell x3 trivial, hf3.cell k0 trivial⟩ (fun hHeld => ?_)
                clear hK K
                try simp only [Act.put, List.getElem_toArray, List.getElem_cons_succ, List.getElem_cons_zero, List.setIfInBounds_toArray, List.set_cons_zero, List.set_cons_succ]
                refine wpAnyH_take (i := 22) (v := ?_) rfl (by kernel_rfl) (by kernel_rfl) (by kernel_rfl) (fun _ _ _ h => h) (Or.inl ⟨by simp [Region.wanted, yielded], ?_⟩) (by assumption) ?_
                rotate_left
                · (intro w hSw; (try dsimp only at hSw); go_simp; try with_reducible rfl)
                simp only [Act.put, List.getElem_toArray, List.getElem_cons_succ, List.getElem_cons_zero, List.setIfInBounds_toArray, List.set_cons_zero, List.set_cons_succ]
                refine wpAnyH_take (i := 23) (v := ?_) rfl (by kernel_rfl) (by kernel_rfl) (by kernel_rfl) (fun _ _ _ h => h) (Or.inl ⟨by rfl, ?_⟩) (by assumption) ?_
                rotate_left
                · (intro w hSw; (try dsimp only at hSw); go_simp; try with_reducible rfl)
                simp only [Act.put, List.getElem_toArray, List.getElem_cons_succ, List.getElem_cons_zero, List.setIfInBounds_toArray, List.set_cons_zero, List.set_cons_succ]
                refine wpAnyH_take (i := 24) (v := ?_) rfl (by kernel_rfl) (by kernel_rfl) (by kernel_rfl) (fun _ _ _ h => h) (Or.inl ⟨by rfl, ?_⟩) (by assumption) ?_
                rotate_left
                · (intro w hSw; (try dsimp only at hSw); go_simp; try with_reducible rfl)
                simp only [Act.put, List.getElem_toArray, List.getElem_cons_succ, List.getElem_cons_zero, List.setIfInBounds_toArray, List.set_cons_zero, List.set_cons_succ]
                refine wpAnyH_take (i := 25) (v := undef) rfl (by kernel_rfl) (by kernel_rfl) (by kernel_rfl) (fun _ _ _ h => h) (Or.inr ⟨by simp [Region.wanted, yielded, undef], rfl⟩) (by assumption) ?_
                simp only [Act.put, List.getElem_toArray, List.getElem_cons_succ, List.getElem_cons_zero, List.setIfInBounds_toArray, List.set_cons_zero, List.set_cons_succ]
                refine wpAnyH_take (i := 26) (v := undef) rfl (by kernel_rfl) (by kernel_rfl) (by kernel_rfl) (fun _ _ _ h => h) (Or.inr ⟨by simp [Region.wanted, yielded, undef], rfl⟩) (by assumption) ?_
                simp only [Act.put, List.getElem_toArray, List.getElem_cons_succ, List.getElem_cons_zero, List.setIfInBounds_toArray, List.set_cons_zero, List.set_cons_succ]
                refine wpAnyH_take (i := 27) (v := undef) rfl (by kernel_rfl) (by kernel_rfl) (by kernel_rfl) (fun _ _ _ h => h) (Or.inr ⟨by simp [Region.wanted, yielded, undef], rfl⟩) (by assumption) ?_
                simp only [Act.put, List.getElem_toArray, List.getElem_cons_succ, List.getElem_cons_zero, List.setIfInBounds_toArray, List.set_cons_zero, List.set_cons_succ]
                refine wpAnyH_take (i := 28) (v := undef) rfl (by kernel_rfl) (by kernel_rfl) (by kernel_rfl) (fun _ _ _ h => h) (Or.inr ⟨by simp [Region.wanted, yielded, undef], rfl⟩) (by assumption) ?_
                simp only [Act.put, List.getElem_toArray, List.getElem_cons_succ, List.getElem_cons_zero, List.setIfInBounds_toArray, List.set_cons_zero, List.set_cons_succ]
                refine wpAnyH_take (i := 29) (v := undef) rfl (by kernel_rfl) (by kernel_rfl) (by kernel_rfl) (fun _ _ _ h => h) (Or.inr ⟨by simp [Region.wanted, yielded, undef], rfl⟩) (by assumption) ?_
                simp only [Act.put, List.getElem_toArray, List.getElem_cons_succ, List.getElem_cons_zero, List.setIfInBounds_toArray, List.set_cons_zero, List.set_cons_succ]
                refine wpAnyH_take (i := 30) (v := undef) rfl (by kernel_rfl) (by kernel_rfl) (by kernel_rfl) (fun _ _ _ h => h) (Or.inr ⟨by simp [Region.wanted, yielded, undef], rfl⟩) (by assumption) ?_
                simp only [Act.put, List.getElem_toArray, List.getElem_cons_succ, List.getElem_cons_zero, List.setIfInBounds_toArray, List.set_cons_zero, List.set_cons_succ]
                refine wpAnyH_take (i := 31) (v := undef) rfl (by kernel_rfl) (by kernel_rfl) (by kernel_rfl) (fun _ _ _ h => h) (Or.inr ⟨by simp [Region.wanted, yielded, undef], rfl⟩) (by assumption) ?_
                simp only [Act.put, List.getElem_toArray, List.getElem_cons_succ, List.getElem_cons_zero, List.setIfInBounds_toArray, List.set_cons_zero, List.set_cons_succ]
                refine wpAnyH_take (i := 32) (v := undef) rfl (by kernel_rfl) (by kernel_rfl) (by kernel_rfl) (fun _ _ _ h => h) (Or.inr ⟨by simp [Region.wanted, yielded, undef], rfl⟩) (by assumption) ?_
                simp only [Act.put, List.getElem_toArray, List.getElem_cons_succ, List.getElem_cons_zero, List.setIfInBounds_toArray, List.set_cons_zero, List.set_cons_succ]
                refine wpAnyH_take (i := 33) (v := undef) rfl (by kernel_rfl) (by kernel_rfl) (by kernel_rfl) (fun _ _ _ h => h) (Or.inr ⟨by simp [Region.wanted, yielded, undef], rfl⟩) (by assumption) ?_
                simp only [Act.put, List.getElem_toArray, List.getElem_cons_succ, List.getElem_cons_zero, List.setIfInBounds_toArray, List.set_cons_zero, List.set_cons_succ]
                refine wpAnyH_take (i := 34) (v := ?_) rfl (by kernel_rfl) (by kernel_rfl) (by kernel_rfl) (fun _ _ _ h => h) (Or.inl ⟨by rfl, ?_⟩) (by assumption) ?_
                rotate_left
                · (intro w hSw; (try dsimp only at hSw); go_simp; try with_reducible rfl)
                simp only [Act.put, List.getElem_toArray, List.getElem_cons_succ, List.getElem_cons_zero, List.setIfInBounds_toArray, List.set_cons_zero, List.set_cons_succ]
                refine wpAnyH_done (by kernel_rfl) ?_ _
                refine NoPanic.normal ?_
                clear p0 p1 p2 p3 x0 x1 x2 x3 k0
                go_wp2
                go_ret
                exact bp_false rfl hbw3 (fun h => not_nodup HSK.out HII.out (HIF.out.1 h).1.2.2.2.2)
          · have hqn : q = m := by omega
            have htk : l.take q = l := List.take_of_length_le (by have := HN.out; omega)
            have htk2 : ks.take q = ks := List.take_of_length_le (by have := HM.out; omega)
            go_wp2
            go_ret
            exact bp_true rfl hbw (HIF.out.2 ⟨⟨(by first | rfl | trivial), hd4, (by first | rfl | trivial), fun s hs => HALL.out.2.1 s (by rw [htk2]; exact hs), by rw [← htk2]; exact HALL.out.2.2⟩, RgtL_of (fun z hz => HALL.out.1 z (by rw [htk]; exact hz))⟩)
      · have hdi : ¬ ((d : Int) < 64) := by omega
        have hdi2 : (64 : Int) ≤ (d : Int) := by omega
        clear hB0
        go_enter Tryd.func45, Tryd.ntmps45
        go_wp2
        go_ret
        exact bp_false rfl hb0 (fun h => absurd (HIF.out.1 h).1.2.1 hd4)
    · have hmi : ((m : Int) == (n : Int)) = false := by simp only [beq_eq_false_iff_ne, ne_eq]; omega
      have hmi2 : ((m : Int) != (n : Int)) = true := by simp only [bne, hmi]; rfl
      clear hB0
      go_enter Tryd.func45, Tryd.ntmps45
      go_wp2
      go_ret
      exact bp_false rfl hb0 (fun h => absurd (HIF.out.1 h).1.2.2.1 hm0)
  · obtain ⟨e1, e2⟩ := empty_beq he
    have e3 : (t.toList != []) = true := by simp [bne, e2]
    have HE0 := Lib.hid he
    clear hB0 he
    go_enter Tryd.func45, Tryd.ntmps45
    go_wp2
    go_ret
    exact bp_false rfl hb0 (fun h => absurd (HIF.out.1 h).1.1 HE0.out)
end Go.Proofs.YtjcnjaebmndeiaaDoor

namespace Go.Proofs.YtjcnjaebmndeiaaDoor
open Go.RowKit

theorem right_json : ∀ (n : Nat) (z : Z), SizeOf.sizeOf z < n → zn z ≤ 21000 → zw z ≤ 1048576 → ∀ d, d ≤ 64 → RtC d z
  | 0, _, h => by omega
  | n + 1, .mk k t l ks, hsz => fun hz hzw d hd w v0 v1 v2 v3 h hG => by
    have hll := zwL_len l
    rw [zn] at hz
    rw [zw] at hzw
    have hlz : ∀ x, x ∈ l → zn x ≤ 21000 ∧ zw x ≤ 1048576 ∧ SizeOf.sizeOf x < n := fun x hx => by
      have h1 := zwL_mem hx
      have h2 : zn x ≤ znL l := by
        obtain ⟨i, hi⟩ := List.getElem?_of_mem hx
        have := znL_take l i x hi
        have := znL_le l (i + 1)
        omega
      have h3 := List.sizeOf_lt_of_mem hx
      simp only [Z.mk.sizeOf_spec] at hsz
      exact ⟨by omega, by omega, by omega⟩
    have hln : l.length ≤ 21000 := by
      have : l.length ≤ znL l := by
        clear hlz hll hz hzw h hsz
        induction l with
        | nil => simp
        | cons a b ih =>
          have : 1 ≤ zn a := by cases a; rw [zn]; omega
          rw [znL]; simp only [List.length_cons]; omega
      omega
    have hts : t.size ≤ 1060000 := by omega
    cases h with
    | mk _ _ _ _ A A' cap cap' c h1 h2 h3 hcap hcap' hL hK hE =>
      by_cases h6 : k = 6
      · subst h6
        exact right_arr d hd t l ks (fun hd4 x hx => right_json n x (hlz x hx).2.2 (hlz x hx).1 (hlz x hx).2.1 (d + 1) (by omega)) (by omega) A A' cap cap' c w hG hL hE
      · by_cases h7 : k = 7
        · subst h7
          exact right_obj d hd t l ks (fun hd4 x hx => right_json n x (hlz x hx).2.2 (hlz x hx).1 (hlz x hx).2.1 (d + 1) (by omega)) (by omega) h3 A A' cap cap' c w hG hcap' hL hK hE
        · exact right_leaf d k t l ks h6 h7 hts A A' cap cap' w hG
set_option maxHeartbeats 1000000 in
set_option maxRecDepth 100000 in
/-- 'Right' of the reference. -/
theorem rright_any (z : Z) (hz : zn z ≤ 21000) (hzw : zw z ≤ 1048576) (w : World) (hG : Gl w) (v0 v1 v2 v3 : Value) (h : ZIn w (fun b => b < w.heap.size) z v0 v1 v2 v3) :
    Calls Tryd.prog 19 #[.agg #[v0, v1, v2, v3]] w (BoolPost w (Rgt 0 z)) := by
  obtain ⟨k, t, A, n1, c1, A', n2, c2, rfl, rfl, rfl, rfl⟩ := zin_agg h
  have hb0 : Below w.heap.size w (w.alloc (.cells #[.int .i64 k, .string t, .slice A n1 c1, .slice A' n2 c2] 26)) := (Below.refl _ _).alloc (Nat.le_refl _) _
  have hB0 := heap_alloc_new w (.cells #[.int .i64 k, .string t, .slice A n1 c1, .slice A' n2 c2] 26 (0, 0))
  have hr := right_json (SizeOf.sizeOf z + 1) z (by omega) hz hzw 0 (by omega) _ _ _ _ _ ((h.fr (below_fr hb0) (fun _ h => h)).mono (fun b _ hb => Nat.lt_of_lt_of_le hb hb0.size)) (hG.below hb0)
  obtain ⟨p0, p1, p2, p3⟩ := cells_4 hB0
  generalize Rgt 0 z = R at *
  go_enter Tryd.func19, Tryd.ntmps19
  go_wp2_with fail
  generalize (w.alloc (.cells #[.int .i64 k, .string t, .slice A n1 c1, .slice A' n2 c2] 26)) = W0 at *
  refine hr.mono ?_
  rintro e w1 ⟨b, rfl, hbi, hb1⟩
  have HBI := Lib.hid hbi
  clear hbi
  go_wp2
  go_ret
  exact ⟨b, rfl, HBI.out, hb0.trans (hb1.mono hb0.size)⟩
set_option maxHeartbeats 1000000 in
set_option maxRecDepth 100000 in
/-- 'print' of a value that has nothing within it. -/
theorem print_leaf (k : Int) (t : ByteArray) (hl : LeafP k t) (ht : t.size ≤ 1060000) (A A' : Option Addr) (c1 c2 : Nat) (w : World) :
    Calls Tryd.prog 47 #[.agg #[.int .i64 k, .string t, .slice A 0 c1, .slice A' 0 c2]] w fun e w' => e = .returned (.string (str (leafTx k t))) ∧ Below w.heap.size w w' := by
  have hB0 := heap_alloc_new w (.cells #[.int .i64 k, .string t, .slice A 0 c1, .slice A' 0 c2] 26 (0, 0))
  have hb0 : Below w.heap.size w (w.alloc (.cells #[.int .i64 k, .string t, .slice A 0 c1, .slice A' 0 c2] 26)) := (Below.refl _ _).alloc (Nat.le_refl _) _
  obtain ⟨p0, p1, p2, p3⟩ := cells_4 hB0
  rcases hl with ⟨hk, rfl⟩ | ⟨rfl, _⟩ | ⟨rfl, _⟩
  · rcases hk with rfl | rfl | rfl
    all_goals
      go_enter Tryd.func47, Tryd.ntmps47
      go_wp2
      go_ret
      exact ⟨rfl, hb0⟩
  · have hid : str (leafTx 4 t) = t := str_id t
    rw [hid]
    go_enter Tryd.func47, Tryd.ntmps47
    go_wp2
    go_ret
    exact ⟨rfl, hb0⟩
  · have hq : leafTx 5 t = 34 :: (quoL t.data.toList ++ [34]) := rfl
    rw [hq]
    have hqc := quote_big t (w.alloc (.cells #[.int .i64 5, .string t, .slice A 0 c1, .slice A' 0 c2] 26)) (by omega)
    go_enter Tryd.func47, Tryd.ntmps47
    go_wp2_with fail
    generalize (w.alloc (.cells #[.int .i64 5, .string t, .slice A 0 c1, .slice A' 0 c2] 26)) = W0 at *
    refine hqc.mono ?_
    rintro e w1 ⟨rfl, n, rfl⟩
    go_wp2
    go_ret
    exact ⟨rfl, ⟨hb0.os, hb0.tape, hb0.output, hb0.size, hb0.block⟩⟩
set_option maxHeartbeats 1000000 in
set_option maxRecDepth 100000 in
/-- 'Print' of a right one that has nothing within it. -/
theorem rprint_leaf (k : Int) (t : ByteArray) (hl : LeafP k t) (ht : t.size ≤ 20000) (A A' : Option Addr) (c1 c2 : Nat) (w : World) (hG : Gl w) :
    Calls Tryd.prog 21 #[.agg #[.int .i64 k, .string t, .slice A 0 c1, .slice A' 0 c2]] w fun e w' => e = .returned (.string (str (leafTx k t))) ∧ Below w.heap.size w w' := by
  have hB0 := heap_alloc_new w (.cells #[.int .i64 k, .string t, .slice A 0 c1, .slice A' 0 c2] 26 (0, 0))
  have hb0 : Below w.heap.size w (w.alloc (.cells #[.int .i64 k, .string t, .slice A 0 c1, .slice A' 0 c2] 26)) := (Below.refl _ _).alloc (Nat.le_refl _) _
  obtain ⟨p0, p1, p2, p3⟩ := cells_4 hB0
  have h6 : k ≠ 6 := by rcases hl with ⟨h | h | h, _⟩ | ⟨h, _⟩ | ⟨h, _⟩ <;> omega
  have h7 : k ≠ 7 := by rcases hl with ⟨h | h | h, _⟩ | ⟨h, _⟩ | ⟨h, _⟩ <;> omega
  have hrl := right_leaf 0 k t [] [] h6 h7 (by omega) A A' c1 c2
  have hyes : Rgt 0 (.mk k t [] []) := (rgt_leaf h6 h7).2 ⟨hl, rfl, rfl⟩
  have hr : Calls Tryd.prog 19 #[.agg #[.int .i64 k, .string t, .slice A 0 c1, .slice A' 0 c2]] (w.alloc (.cells #[.int .i64 k, .string t, .slice A 0 c1, .slice A' 0 c2] 26)) fun e w' => e = .returned (.bool true) ∧ Below (w.alloc (.cells #[.int .i64 k, .string t, .slice A 0 c1, .slice A' 0 c2] 26)).heap.size (w.alloc (.cells #[.int .i64 k, .string t, .slice A 0 c1, .slice A' 0 c2] 26)) w' := by
    have hG1 := hG.below hb0
    generalize (w.alloc (.cells #[.int .i64 k, .string t, .slice A 0 c1, .slice A' 0 c2] 26)) = W at *
    have hB1 := heap_alloc_new W (.cells #[.int .i64 k, .string t, .slice A 0 c1, .slice A' 0 c2] 26 (0, 0))
    have hb1 : Below W.heap.size W (W.alloc (.cells #[.int .i64 k, .string t, .slice A 0 c1, .slice A' 0 c2] 26)) := (Below.refl _ _).alloc (Nat.le_refl _) _
    obtain ⟨q0, q1, q2, q3⟩ := cells_4 hB1
    have hrw := hrl _ (hG1.below hb1)
    have HY := Lib.hid hyes
    generalize Rgt 0 (.mk k t [] []) = R at *
    clear hyes hrl p0 p1 p2 p3 hB0 hl h6 h7
    go_enter Tryd.func19, Tryd.ntmps19
    go_wp2_with fail
    generalize (W.alloc (.cells #[.int .i64 k, .string t, .slice A 0 c1, .slice A' 0 c2] 26)) = W1 at *
    refine hrw.mono ?_
    rintro e w1 ⟨b, rfl, hbi, hb2⟩
    obtain rfl : b = true := hbi.2 HY.out
    clear hbi
    go_wp2
    go_ret
    exact ⟨rfl, hb1.trans (hb2.mono hb1.size)⟩
  have hpl := fun W => print_leaf k t hl (by omega) A A' c1 c2 W
  have HPL := Lib.hid hpl
  generalize leafTx k t = X at *
  clear hrl hyes hl h6 h7 hpl
  go_enter Tryd.func21, Tryd.ntmps21
  go_wp2_with fail
  generalize (w.alloc (.cells #[.int .i64 k, .string t, .slice A 0 c1, .slice A' 0 c2] 26)) = W0 at *
  refine hr.mono ?_
  rintro e w1 ⟨rfl, hb1⟩
  have hB1 := (below_fr0 hb1).at hB0 trivial
  obtain ⟨q0, q1, q2, q3⟩ := cells_4 hB1
  have hb2 : Below w.heap.size w w1 := hb0.trans (hb1.mono hb0.size)
  clear hr hB0 hB1 p0 p1 p2 p3 hb1
  go_wp2_with fail
  refine (HPL.out w1).mono ?_
  rintro e w2 ⟨rfl, hb3⟩
  go_wp2
  go_ret
  exact ⟨rfl, hb2.trans (hb3.mono hb2.size)⟩
end Go.Proofs.YtjcnjaebmndeiaaDoor
