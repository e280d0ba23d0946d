/-
  The program's 'rightKeys' of every row of texts.
  The program's 'rightAlone' of every value.
  A value of any kind with the cells of all within it, in the order in which they are told; the iterator over it.
  The program's 'Right' of every value.
  'Right' of every small value.
-/
import Derived.Test.YtjcnjaebmndeiaaDoorZbb
import Derived.Test.YtjcnjaebmndeiaaDoorKey
import Derived.Test.YtjcnjaebmndeiaaDoorAlone
import Derived.Test.YtjcnjaebmndeiaaDoorZaa
import Derived.Test.YtjcnjaebmndeiaaDoorRight
import Derived.Test.YtjcnjaebmndeiaaDoorZcc
namespace Go.Proofs.YtjcnjaebmndeiaaDoor
open Go.RowKit

def KeysOk (ks : List ByteArray) : Prop := (∀ s, s ∈ ks → Lib.validD s.data.toList = true) ∧ ks.Nodup
theorem seen_put {w' : World} {b n : Nat} {ks : List ByteArray} {T : ByteArray} {D : DataW Unit} (hown : w'.ownsMap Tryd.prog 9 (unitElem (H := Unit)) b (n + 1) (D.put (.string T.data.toList) (.agg []))) (hmap : Maps.IsMap D)
    (hhas : ∀ s : ByteArray, Maps.has D (.string s.data.toList) = ks.any (fun k => decide (k = s))) : Seen w' b (n + 1) (ks ++ [T]) := by
  refine ⟨_, hown, hmap.put _ _, fun s' => ?_⟩
  rw [List.any_append]
  by_cases e : T = s'
  · subst e
    rw [Maps.has_put_same (k := Lit.string T.data.toList) hmap trivial]
    simp
  · rw [Maps.has_put_other (fun e' => e (by injection e' with e'; exact (ba_ext e'.symm))) _, hhas s']
    simp [e]
theorem makeHint (W : World) (n : Nat) : (Instr.makeMap 102 (some (.int .i64 (n : Int)))).run Tryd.prog W = .ok (.map (some W.heap.size)) (W.alloc (.map #[] 0)) := by
  simp [Instr.makeMap, run_underlying Tryd.underlying102, asInt, asIntOf, Result.andThen]
set_option maxHeartbeats 4000000 in
set_option maxRecDepth 100000 in
theorem rightKeys_any (A : Option Addr) (ks : List ByteArray) (cap : Nat) (w : World) (hG : Gl w) (hb : ks.length ≤ 1000000) (hkm : ∀ s, s ∈ ks → s.size ≤ maxLen) (hsl : SlS w A ks) :
    Calls Tryd.prog 69 #[.slice A ks.length cap] w (BoolPost w (KeysOk ks)) := by
  have hmm := fun W n => makeHint W n
  have hS0 := Seen.made w
  have hb0 : Below w.heap.size w (w.alloc (.map #[] 0)) := (Below.refl _ _).alloc (Nat.le_refl _) _
  have HG := Lib.hid hG
  have HSL := Lib.hid hsl
  have HKM := Lib.hid hkm
  generalize hn : ks.length = n at *
  have HN := Lib.hid hn
  clear hG hsl hkm hn
  go_enter Tryd.func69, Tryd.ntmps69
  go_wp2
  generalize w.alloc (.map #[] 0) = W0 at *
  have HS0 := Lib.hid hS0
  clear hS0
  go_loopg [13] n (fun g i wr => ∃ q : Nat, q + g = n ∧ i = .int .i64 q ∧ KeysOk (ks.take q) ∧ Seen wr w.heap.size q (ks.take q) ∧ Below w.heap.size w wr)
  case atStart => exact ⟨0, by omega, rfl, ⟨fun s hs => by simp at hs, by simp⟩, by rw [List.take_zero]; exact HS0.out, hb0⟩
  case round =>
    obtain ⟨q, hqg, rfl, hok, hseen, hbw⟩ := hrel
    have HOK := Lib.hid hok
    clear hok
    by_cases hq : q < n
    · obtain ⟨s, hs⟩ : ∃ s, ks[q]? = some s := ⟨_, List.getElem?_eq_getElem (by have := HN.out; omega)⟩
      obtain ⟨g, off, rfl, hc⟩ := HSL.out (by have := HN.out; omega)
      have hqi : (q : Int) < (n : Int) := by omega
      have hq0 : (0 : Int) ≤ (q : Int) := by omega
      have hx := (below_fr hbw).cell (hc q s hs) (World.block_lt_of_cell? w _ (hc q s hs))
      have hsz : s.size ≤ maxLen := HKM.out s (List.mem_of_getElem? hs)
      have hkey := WideMaps.keyOf_string_mk (P := Tryd.prog) (k := 9) Tryd.underlying9 hsz
      have hnm : q < maxLen := by unfold maxLen; omega
      obtain ⟨D, hown, hmap, hhas⟩ := hseen
      have hva : ∀ W, Below w.heap.size w W → Calls Tryd.prog 29 #[.string s] W fun e w' => e = .returned (.bool (Lib.validD s.data.toList)) ∧ Below W.heap.size W w' := fun W hW =>
        Tryd.utf8_ValidString s W (by unfold maxLen at hsz; omega) (HG.out.below hW).u8
      have HVA := Lib.hid hva
      have HS := Lib.hid hs
      have HMAP := Lib.hid hmap
      obtain ⟨g', hg'⟩ : ∃ g', gk = g' + 1 := ⟨gk - 1, by omega⟩
      subst hg'
      clear hc hs hva hmap hmm
      cases hii : inB (ks.take q) s with
      | true =>
        have hT : Maps.has D (.string s.data.toList) = true := (hhas s).trans hii
        have HII := Lib.hid hii
        clear hhas hii
        go_wp2_with (at_lookup; refine wpList_lookup_own_unit _ rfl _ _ 102 rfl 9 115 (Maps.string_keyed Tryd.underlying9) Tryd.underlying102 (Tryd.zero115 _) w.heap.size q D rfl hown _ _ rfl hkey ?_; rw [hT])
        go_ret
        exact bp_false rfl (hbw.alloc hbw.size _) (fun h => not_nodup HS.out HII.out h.2)
      | false =>
        have hT : Maps.has D (.string s.data.toList) = false := (hhas s).trans hii
        have HII := Lib.hid hii
        have HH := Lib.hid hhas
        clear hhas hii
        cases hvv : Lib.validD s.data.toList with
        | false =>
          have hcv := HVA.out _ (hbw.alloc (o := .cells #[] 115) hbw.size)
          rw [hvv] at hcv
          have HVV := Lib.hid hvv
          clear hvv
          go_wp2_with (first
            | (at_lookup; refine wpList_lookup_own_unit _ rfl _ _ 102 rfl 9 115 (Maps.string_keyed Tryd.underlying9) Tryd.underlying102 (Tryd.zero115 _) w.heap.size q D rfl hown _ _ rfl hkey ?_; rw [hT])
            | fail)
          refine hcv.mono ?_
          rintro e w3 ⟨rfl, hb3⟩
          have hbA : Below w.heap.size w (wr.alloc (.cells #[] 115)) := hbw.alloc hbw.size _
          go_wp2
          go_ret
          exact bp_false rfl (hbA.trans (hb3.mono hbA.size)) (fun h => by have := h.1 s (List.mem_of_getElem? HS.out); rw [HVV.out] at this; cases this)
        | true =>
          have hcv := HVA.out _ (hbw.alloc (o := .cells #[] 115) hbw.size)
          rw [hvv] at hcv
          have HVV := Lib.hid hvv
          clear hvv
          go_wp2_with (first
            | (at_lookup; refine wpList_lookup_own_unit _ rfl _ _ 102 rfl 9 115 (Maps.string_keyed Tryd.underlying9) Tryd.underlying102 (Tryd.zero115 _) w.heap.size q D rfl hown _ _ rfl hkey ?_; rw [hT])
            | fail)
          refine hcv.mono ?_
          rintro e w3 ⟨rfl, hb3⟩
          have hbA : Below w.heap.size w (wr.alloc (.cells #[] 115)) := hbw.alloc hbw.size _
          have hb4 : Below w.heap.size w w3 := hbA.trans (hb3.mono hbA.size)
          have hfA : Fr wr w3 (fun _ => True) := ((Fr.refl wr (fun _ => True)).alloc (.cells #[] 115)).trans (below_fr0 hb3)
          have hseen3 : Seen w3 w.heap.size q (ks.take q) := Seen.fr ⟨D, hown, HMAP.out, HH.out⟩ hfA trivial
          clear hown hT hcv HMAP HH
          obtain ⟨D3, hown3, hmap3, hhas3⟩ := hseen3
          have HM3 := Lib.hid hmap3
          have HH3 := Lib.hid hhas3
          clear hmap3 hhas3
          go_wp2_with (first
            | (at_mapUpdate; refine wpList_mapUpdate_own _ rfl _ _ _ 102 rfl 9 115 (Maps.string_keyed Tryd.underlying9) Tryd.underlying102 (unitElem (H := Unit)) w.heap.size q D3 rfl hown3 hnm _ _ _ rfl rfl hkey _ [] unitElem_mk ?_; intro w5 hown5 hgrow5)
            | fail)
          have hseen5 : Seen w5 w.heap.size (q + 1) (ks.take (q + 1)) := by
            rw [List.take_add_one, HS.out]
            exact seen_put hown5 HM3.out HH3.out
          have hb5 : Below w.heap.size w w5 := hb4.grown hgrow5 hb4.size (fun r e => by cases e; exact Nat.le_refl _)
          go_roundg g'
          case measure => omega
          case rel => exact ⟨q + 1, by omega, by go_num, ⟨valid_next HS.out HOK.out.1 HVV.out, nodup_next HS.out HOK.out.2 HII.out⟩, hseen5, hb5⟩
    · have hqn : q = n := by omega
      have htk : ks.take q = ks := List.take_of_length_le (by have := HN.out; omega)
      go_wp2
      go_ret
      exact bp_true rfl hbw (by have := HOK.out; rw [htk] at this; exact this)
end Go.Proofs.YtjcnjaebmndeiaaDoor

namespace Go.Proofs.YtjcnjaebmndeiaaDoor
open Go.RowKit

/-- What is right at that depth, whatever is within. -/
def AloneP (d : Nat) (k : Int) (t : ByteArray) (n : Nat) (ks : List ByteArray) : Prop := (LeafP k t ∧ n = 0 ∧ ks.length = 0) ∨ NestP k t n ks d
theorem alone_leaf_iff {d : Nat} {k : Int} {t : ByteArray} {n : Nat} {ks : List ByteArray} (h6 : k ≠ 6) (h7 : k ≠ 7) : AloneP d k t n ks ↔ (LeafP k t ∧ n = 0 ∧ ks.length = 0) := by
  constructor
  · rintro (h | h)
    · exact h
    · rcases h.2.2 with h | h
      · exact absurd h.1 h6
      · exact absurd h.1 h7
  · exact Or.inl
theorem alone_arr_iff {d : Nat} {t : ByteArray} {n : Nat} {ks : List ByteArray} : AloneP d 6 t n ks ↔ (t = ⟨#[]⟩ ∧ d < 64 ∧ ks.length = 0) := by
  rw [List.length_eq_zero_iff]
  constructor
  · rintro (h | ⟨h1, h2, h | h⟩)
    · rcases h.1 with ⟨h | h | h, _⟩ | ⟨h, _⟩ | ⟨h, _⟩ <;> omega
    · exact ⟨h1, h2, h.2⟩
    · exact absurd h.1 (by decide)
  · rintro ⟨h1, h2, h3⟩
    exact .inr ⟨h1, h2, .inl ⟨rfl, h3⟩⟩
theorem alone_obj_iff {d : Nat} {t : ByteArray} {n : Nat} {ks : List ByteArray} : AloneP d 7 t n ks ↔ (t = ⟨#[]⟩ ∧ d < 64 ∧ ks.length = n ∧ KeysOk ks) := by
  constructor
  · rintro (h | ⟨h1, h2, h | h⟩)
    · rcases h.1 with ⟨h | h | h, _⟩ | ⟨h, _⟩ | ⟨h, _⟩ <;> omega
    · exact absurd h.1 (by decide)
    · exact ⟨h1, h2, h.2.1, h.2.2⟩
  · rintro ⟨h1, h2, h3, h4⟩
    exact .inr ⟨h1, h2, .inr ⟨rfl, h3, h4⟩⟩
/-- The program's test of a number, and the reference's. -/
theorem num_list (ts : Bs) : numM ts = some (ts, []) ↔ (ts ≠ [] ∧ numN ts = ts.length ∧ ts ≠ [45, 48]) := by
  have hn1 := (neg_le ts).2
  have hdl := digs_le (ts.drop (neg ts))
  rw [List.length_drop] at hdl
  unfold numM numN
  constructor
  · intro h
    split at h
    · cases h
    · rename_i hc
      rw [not_or, not_or] at hc
      obtain ⟨hc1, hc2, hc3⟩ := hc
      simp only [Option.some.injEq, Prod.mk.injEq] at h
      obtain ⟨h1, h2⟩ := h
      rw [List.drop_eq_nil_iff] at h2
      rw [List.take_of_length_le h2] at h1
      have h3 : ts ≠ [45, 48] := fun e => by rw [if_pos e] at h1; rw [e] at h1; cases h1
      refine ⟨fun e => by rw [e] at hc1; simp [neg, digs] at hc1, ?_, h3⟩
      split
      · rename_i h48
        have : ¬ 1 < digs (ts.drop (neg ts)) := fun hg => hc3 ⟨hg, h48⟩
        omega
      · rw [if_neg (by omega)]; omega
  · rintro ⟨h0, h1, h3⟩
    have hpos : 0 < ts.length := List.length_pos_iff.2 h0
    by_cases h48 : (ts.drop (neg ts)).head? = some 48
    · rw [if_pos h48] at h1
      have hD : ts.drop (neg ts) = [48] := by
        have hl : (ts.drop (neg ts)).length = 1 := by rw [List.length_drop]; omega
        match ts.drop (neg ts), hl, h48 with
        | [a], _, h48 => simp at h48; rw [h48]
      have hg : digs (ts.drop (neg ts)) = 1 := by rw [hD]; rfl
      rw [hg, if_neg (by rw [not_or, not_or]; exact ⟨by omega, by omega, fun h => by omega⟩), h1, List.take_of_length_le (Nat.le_refl _), if_neg h3, List.drop_of_length_le (Nat.le_refl _)]
    · rw [if_neg h48] at h1
      split at h1
      · omega
      · rename_i hc
        rw [not_or] at hc
        rw [if_neg (by rw [not_or, not_or]; exact ⟨hc.1, hc.2, fun h => h48 h.2⟩), h1, List.take_of_length_le (Nat.le_refl _), if_neg h3, List.drop_of_length_le (Nat.le_refl _)]
theorem num_iff (t : ByteArray) : NumT t ↔ (t.toList.isEmpty = false ∧ numN t.data.toList = t.size ∧ (t.toList == [45, 48]) = false) := by
  unfold NumT
  rw [num_list, size_len, ← Lib.toList_data]
  constructor
  · rintro ⟨h0, h1, h2⟩
    refine ⟨?_, h1, by simpa using h2⟩
    cases hh : t.toList with
    | nil => exact absurd hh h0
    | cons => rfl
  · rintro ⟨h0, h1, h2⟩
    exact ⟨fun e => (by rw [e] at h0; cases h0), h1, by simpa using h2⟩
set_option maxHeartbeats 4000000 in
set_option maxRecDepth 100000 in
theorem alone_any (d : Nat) (k : Int) (t : ByteArray) (n : Nat) (ks : List ByteArray) (A A' : Option Addr) (cap cap' : Nat) (w : World) (hG : Gl w) (ht : t.size ≤ 1060000) (hb : ks.length ≤ 1000000) (hkm : ∀ s, s ∈ ks → s.size ≤ maxLen) (hsl : SlS w A' ks) :
    Calls Tryd.prog 44 #[.agg #[.int .i64 k, .string t, .slice A n cap, .slice A' ks.length cap'], .int .i64 d] w (BoolPost w (AloneP d k t n ks)) := by
  have hB0 := heap_alloc_new w (.cells #[.int .i64 k, .string t, .slice A n cap, .slice A' ks.length cap'] 26 (0, 0))
  have hb0 : Below w.heap.size w (w.alloc (.cells #[.int .i64 k, .string t, .slice A n cap, .slice A' ks.length cap'] 26)) := (Below.refl _ _).alloc (Nat.le_refl _) _
  have hG0 := hG.below hb0
  have hrk := rightKeys_any A' ks cap' _ hG0 hb hkm (fun hp => by
    obtain ⟨g, off, e, hc⟩ := hsl hp
    exact ⟨g, off, e, fun i s hs => (below_fr hb0).cell (hc i s hs) (World.block_lt_of_cell? w _ (hc i s hs))⟩)
  obtain ⟨p0, p1, p2, p3⟩ := cells_4 hB0
  by_cases h6 : k = 6
  · subst h6
    have hiff := alone_arr_iff (d := d) (t := t) (n := n) (ks := ks)
    generalize AloneP d 6 t n ks = R at *
    generalize ks.length = m at *
    have HIF := Lib.hid hiff
    clear hiff hrk hB0 hG0 hsl hkm
    by_cases hd4 : d < 64
    · have hdi : (d : Int) < 64 := by omega
      by_cases hm0 : m = 0
      · subst hm0
        by_cases he : t = ⟨#[]⟩
        · subst he
          go_enter Tryd.func44, Tryd.ntmps44
          go_wp2
          go_ret
          exact bp_true rfl hb0 (HIF.out.2 ⟨(by first | rfl | trivial), hd4, (by first | rfl | trivial)⟩)
        · obtain ⟨e1, e2⟩ := empty_beq he
          have HE := Lib.hid he
          clear he
          go_enter Tryd.func44, Tryd.ntmps44
          go_wp2
          go_ret
          exact bp_false rfl hb0 (fun h => absurd (HIF.out.1 h).1 HE.out)
      · have hmi : (0 : Int) < (m : Int) := by omega
        go_enter Tryd.func44, Tryd.ntmps44
        go_wp2
        go_ret
        exact bp_false rfl hb0 (fun h => absurd (HIF.out.1 h).2.2 hm0)
    · have hdi : ¬ (d : Int) < 64 := by omega
      have hdi2 : (64 : Int) ≤ (d : Int) := by omega
      go_enter Tryd.func44, Tryd.ntmps44
      go_wp2
      go_ret
      exact bp_false rfl hb0 (fun h => absurd (HIF.out.1 h).2.1 hd4)
  by_cases h7 : k = 7
  · subst h7
    have hiff := alone_obj_iff (d := d) (t := t) (n := n) (ks := ks)
    generalize AloneP d 7 t n ks = R at *
    generalize KeysOk ks = KO at *
    generalize ks.length = m at *
    have HIF := Lib.hid hiff
    clear hiff hG0 hsl hkm h6
    by_cases hd4 : d < 64
    · have hdi : (d : Int) < 64 := by omega
      by_cases he : t = ⟨#[]⟩
      · subst he
        by_cases hm0 : m = n
        · subst hm0
          go_enter Tryd.func44, Tryd.ntmps44
          go_wp2_with fail
          generalize (w.alloc (.cells #[.int .i64 7, .string ⟨#[]⟩, .slice A m cap, .slice A' m cap'] 26)) = W0 at *
          refine hrk.mono ?_
          rintro e w1 ⟨b, rfl, hbi, hb1⟩
          have HBI := Lib.hid hbi
          clear hbi
          cases b with
          | false =>
            go_wp2
            go_ret
            exact bp_false rfl (hb0.trans (hb1.mono hb0.size)) (fun h => by have := HBI.out.2 (HIF.out.1 h).2.2.2; cases this)
          | true =>
            go_wp2
            go_ret
            exact bp_true rfl (hb0.trans (hb1.mono hb0.size)) (HIF.out.2 ⟨(by first | rfl | trivial), hd4, (by first | rfl | trivial), HBI.out.1 (by first | rfl | trivial)⟩)
        · have hmi : ((m : Int) == (n : Int)) = false := by simp only [beq_eq_false_iff_ne, ne_eq]; omega
          clear hrk
          go_enter Tryd.func44, Tryd.ntmps44
          go_wp2
          go_ret
          exact bp_false rfl hb0 (fun h => absurd (HIF.out.1 h).2.2.1 hm0)
      · obtain ⟨e1, e2⟩ := empty_beq he
        have HE := Lib.hid he
        clear he hrk
        go_enter Tryd.func44, Tryd.ntmps44
        go_wp2
        go_ret
        exact bp_false rfl hb0 (fun h => absurd (HIF.out.1 h).1 HE.out)
    · have hdi : ¬ (d : Int) < 64 := by omega
      have hdi2 : (64 : Int) ≤ (d : Int) := by omega
      clear hrk
      go_enter Tryd.func44, Tryd.ntmps44
      go_wp2
      go_ret
      exact bp_false rfl hb0 (fun h => absurd (HIF.out.1 h).2.1 hd4)
  have hiff := alone_leaf_iff (d := d) (t := t) (n := n) (ks := ks) h6 h7
  generalize AloneP d k t n ks = R at *
  generalize ks.length = m at *
  have HIF := Lib.hid hiff
  have k6 : (k == 6) = false := by simp only [beq_eq_false_iff_ne, ne_eq]; omega
  have k7 : (k == 7) = false := by simp only [beq_eq_false_iff_ne, ne_eq]; omega
  clear hiff hrk hsl hkm
  by_cases hn0 : n = 0
  · subst hn0
    by_cases hm0 : m = 0
    · subst hm0
      by_cases hw : k = 1 ∨ k = 2 ∨ k = 3
      · have HL := Lib.hid (leafP_word (t := t) hw)
        clear hB0 hG0 h6 h7
        by_cases he : t = ⟨#[]⟩
        · subst he
          rcases hw with rfl | rfl | rfl
          all_goals
            go_enter Tryd.func44, Tryd.ntmps44
            go_wp2
            go_ret
            exact bp_true rfl hb0 (HIF.out.2 ⟨HL.out.2 (by first | rfl | trivial), (by first | rfl | trivial), (by first | rfl | trivial)⟩)
        · obtain ⟨e1, e2⟩ := empty_beq he
          have HE := Lib.hid he
          clear he
          rcases hw with rfl | rfl | rfl
          all_goals
            go_enter Tryd.func44, Tryd.ntmps44
            go_wp2
            go_ret
            exact bp_false rfl hb0 (fun h => absurd (HL.out.1 (HIF.out.1 h).1) HE.out)
      · have k1 : (k == 1) = false := by simp only [beq_eq_false_iff_ne, ne_eq]; omega
        have k2 : (k == 2) = false := by simp only [beq_eq_false_iff_ne, ne_eq]; omega
        have k3 : (k == 3) = false := by simp only [beq_eq_false_iff_ne, ne_eq]; omega
        by_cases h4 : k = 4
        · subst h4
          have hni := num_iff t
          have hlf : LeafP 4 t ↔ NumT t := leafP_num
          rw [hni] at hlf
          have hnum : ∀ W : World, Calls Tryd.prog 59 #[.string t] W fun e w' => e = .returned (.int .i64 (numN t.data.toList)) ∧ w' = W := fun W => by
            have := big.numeral_any t W ht
            exact this.mono fun e w' ⟨a, b⟩ => ⟨a, b.symm⟩
          generalize numN t.data.toList = N at *
          have HL := Lib.hid hlf
          have HN := Lib.hid hnum
          clear hni hlf hnum hw h6 h7 hG0 p0 p2 p3
          by_cases he : t = ⟨#[]⟩
          · subst he
            go_enter Tryd.func44, Tryd.ntmps44
            go_wp2
            generalize (w.alloc (.cells #[.int .i64 4, .string ⟨#[]⟩, .slice A 0 cap, .slice A' 0 cap'] 26)) = W0 at *
            obtain ⟨p0, p1, p2, p3⟩ := cells_4 hB0
            clear hB0
            go_quiet (fail)
            go_wp2
            go_ret
            exact bp_false rfl ⟨hb0.os, hb0.tape, hb0.output, hb0.size, hb0.block⟩ (fun h => by have := (HL.out.1 (HIF.out.1 h).1).1; rw [Lib.toList_data] at this; cases this)
          · obtain ⟨e1, e2⟩ := empty_beq he
            have e3 : (!t.toList.isEmpty) = true := by rw [e1]; rfl
            have e4 : (t.toList != []) = true := by simp [bne, e2]
            have HE := Lib.hid he
            clear he
            by_cases hN : N = t.size
            · subst hN
              cases h45 : (t.toList == [45, 48]) with
              | true =>
                have h45' : (t.toList != [45, 48]) = false := by simp only [bne, h45]; rfl
                have H45 := Lib.hid h45
                go_enter Tryd.func44, Tryd.ntmps44
                go_wp2
                generalize (w.alloc (.cells #[.int .i64 4, .string t, .slice A 0 cap, .slice A' 0 cap'] 26)) = W0 at *
                obtain ⟨p0, p1, p2, p3⟩ := cells_4 hB0
                clear hB0
                go_quiet ((go_at_call 59; exact quiet_same (fun n => HN.out _) _))
                go_wp2
                go_ret
                exact bp_false (by first | rfl | simp) ⟨hb0.os, hb0.tape, hb0.output, hb0.size, hb0.block⟩ (fun h => by have := (HL.out.1 (HIF.out.1 h).1).2.2; rw [H45.out] at this; cases this)
              | false =>
                have h45' : (t.toList != [45, 48]) = true := by simp only [bne, h45]; rfl
                have H45 := Lib.hid h45
                have HE1 := Lib.hid e1
                go_enter Tryd.func44, Tryd.ntmps44
                go_wp2
                generalize (w.alloc (.cells #[.int .i64 4, .string t, .slice A 0 cap, .slice A' 0 cap'] 26)) = W0 at *
                obtain ⟨p0, p1, p2, p3⟩ := cells_4 hB0
                clear hB0
                go_quiet ((go_at_call 59; exact quiet_same (fun n => HN.out _) _))
                go_wp2
                go_ret
                exact bp_true (by first | rfl | simp) ⟨hb0.os, hb0.tape, hb0.output, hb0.size, hb0.block⟩ (HIF.out.2 ⟨HL.out.2 ⟨HE1.out, (by first | rfl | trivial), H45.out⟩, (by first | rfl | trivial), (by first | rfl | trivial)⟩)
            · have hNi : ((N : Int) == (t.size : Int)) = false := by simp only [beq_eq_false_iff_ne, ne_eq]; omega
              go_enter Tryd.func44, Tryd.ntmps44
              go_wp2
              generalize (w.alloc (.cells #[.int .i64 4, .string t, .slice A 0 cap, .slice A' 0 cap'] 26)) = W0 at *
              obtain ⟨p0, p1, p2, p3⟩ := cells_4 hB0
              clear hB0
              go_quiet ((go_at_call 59; exact quiet_same (fun n => HN.out _) _))
              go_wp2
              go_ret
              exact bp_false (by first | rfl | simp) ⟨hb0.os, hb0.tape, hb0.output, hb0.size, hb0.block⟩ (fun h => hN (HL.out.1 (HIF.out.1 h).1).2.1)
        · have k4 : (k == 4) = false := by simp only [beq_eq_false_iff_ne, ne_eq]; omega
          by_cases h5 : k = 5
          · subst h5
            have hva := Tryd.utf8_ValidString t (w.alloc (.cells #[.int .i64 5, .string t, .slice A 0 cap, .slice A' 0 cap'] 26)) (by omega) hG0.u8
            have hlv : LeafP 5 t ↔ Lib.validD t.data.toList = true := leafP_str
            generalize Lib.validD t.data.toList = b at *
            have HBi := Lib.hid hlv
            clear hw h6 h7 hlv hB0
            go_enter Tryd.func44, Tryd.ntmps44
            go_wp2_with fail
            generalize (w.alloc (.cells #[.int .i64 5, .string t, .slice A 0 cap, .slice A' 0 cap'] 26)) = W0 at *
            refine hva.mono ?_
            rintro e w1 ⟨rfl, hb1⟩
            have hb2 : Below w.heap.size w w1 := hb0.trans (hb1.mono hb0.size)
            clear hva
            cases b with
            | false =>
              go_wp2
              go_ret
              exact bp_false rfl hb2 (fun h => by have := HBi.out.1 (HIF.out.1 h).1; cases this)
            | true =>
              go_wp2
              go_ret
              exact bp_true rfl hb2 (HIF.out.2 ⟨HBi.out.2 (by first | rfl | trivial), (by first | rfl | trivial), (by first | rfl | trivial)⟩)
          · have k5 : (k == 5) = false := by simp only [beq_eq_false_iff_ne, ne_eq]; omega
            have hno : ¬ LeafP k t := leafP_none (by omega) (by omega) (by omega) h4 h5
            have HNO := Lib.hid hno
            clear hw h6 h7 hno hG0 hB0 h4 h5
            go_enter Tryd.func44, Tryd.ntmps44
            go_wp2
            go_ret
            exact bp_false rfl hb0 (fun h => absurd (HIF.out.1 h).1 HNO.out)
    · have hmi : (0 : Int) < (m : Int) := by omega
      clear hB0 hG0
      go_enter Tryd.func44, Tryd.ntmps44
      go_wp2
      go_ret
      exact bp_false rfl hb0 (fun h => absurd (HIF.out.1 h).2.2 hm0)
  · have hni : (0 : Int) < (n : Int) := by omega
    clear hB0 hG0
    go_enter Tryd.func44, Tryd.ntmps44
    go_wp2
    go_ret
    exact bp_false rfl hb0 (fun h => absurd (HIF.out.1 h).2.1 hn0)
end Go.Proofs.YtjcnjaebmndeiaaDoor

namespace Go.Proofs.YtjcnjaebmndeiaaDoor
open Go.RowKit Go.Shelf
attribute [local go_sem] Oper.semAt_some

theorem ZIn.forms {w : World} {ok : Nat → Prop} {t : Z} {v0 v1 v2 v3 : Value} (h : ZIn w ok t v0 v1 v2 v3) : ∃ (k : Int) (t : ByteArray) (A A' : Option Addr) (n cap n' cap' : Nat), v0 = .int .i64 k ∧ v1 = .string t ∧ v2 = .slice A n cap ∧ v3 = .slice A' n' cap' := by
  cases h; exact ⟨_, _, _, _, _, _, _, _, rfl, rfl, rfl, rfl⟩
inductive ZT where
  | mk (t : Z) (v0 v1 v2 v3 : Value) (kids : List ZT)
def ZT.t : ZT → Z | .mk t _ _ _ _ _ => t
def ZT.v0 : ZT → Value | .mk _ a _ _ _ _ => a
def ZT.v1 : ZT → Value | .mk _ _ a _ _ _ => a
def ZT.v2 : ZT → Value | .mk _ _ _ a _ _ => a
def ZT.v3 : ZT → Value | .mk _ _ _ _ a _ => a
def ZT.kids : ZT → List ZT | .mk _ _ _ _ _ k => k
abbrev ZT.val (x : ZT) : Value := .agg #[x.v0, x.v1, x.v2, x.v3]
mutual
def zpre : Nat → ZT → List (Nat × ZT)
  | d, .mk t a b c e ks => (d, .mk t a b c e ks) :: zpreL (d + 1) ks
def zpreL : Nat → List ZT → List (Nat × ZT)
  | _, [] => []
  | d, x :: r => zpre d x ++ zpreL d r
end
theorem zpre_eq (d : Nat) (x : ZT) : zpre d x = (d, x) :: zpreL (d + 1) x.kids := by cases x; rw [zpre]; rfl
/-- What is still to come, of the lists on the way (the innermost first). -/
def zrem : List (List ZT) → List (Nat × ZT)
  | [] => []
  | r :: s => zpreL s.length r ++ zrem s
theorem zrem_nil (s : List (List ZT)) : zrem ([] :: s) = zrem s := by rw [zrem, zpreL]; rfl
theorem zrem_cons (x : ZT) (r : List ZT) (s : List (List ZT)) : zrem ((x :: r) :: s) = (s.length, x) :: zrem (x.kids :: r :: s) := by
  rw [zrem, zpreL, zpre_eq, zrem, zrem]
  simp

def Z.l : Z → List Z | .mk _ _ l _ => l
/-- A slice of JSON values in memory. -/
def ZSlV (w : World) (ok : Nat → Prop) (v : Value) (xs : List ZT) : Prop :=
  ∃ A cap, v = .slice A xs.length cap ∧ xs.length ≤ cap ∧ cap ≤ maxLen ∧
    (0 < xs.length → ∃ g off, A = some ⟨g, off, none⟩ ∧ ok g ∧ ∀ i x, xs[i]? = some x → w.cell? ⟨g, off + 4 * i, none⟩ = some x.v0 ∧ w.cell? ⟨g, off + 4 * i + 1, none⟩ = some x.v1 ∧ w.cell? ⟨g, off + 4 * i + 2, none⟩ = some x.v2 ∧ w.cell? ⟨g, off + 4 * i + 3, none⟩ = some x.v3)
inductive ZVIn (w : World) (ok : Nat → Prop) : ZT → Prop
  | mk (t : Z) (v0 v1 v2 v3 : Value) (kids : List ZT) (hs : ZSlV w ok v2 kids) (hj : ZIn w ok t v0 v1 v2 v3) (ht : kids.map ZT.t = t.l) (hk : ∀ x, x ∈ kids → ZVIn w ok x) : ZVIn w ok (.mk t v0 v1 v2 v3 kids)
theorem ZVIn.sl {w : World} {ok : Nat → Prop} {x : ZT} (h : ZVIn w ok x) : ZSlV w ok x.v2 x.kids := by cases h; assumption
theorem ZVIn.jin {w : World} {ok : Nat → Prop} {x : ZT} (h : ZVIn w ok x) : ZIn w ok x.t x.v0 x.v1 x.v2 x.v3 := by cases h; assumption
theorem ZVIn.ts {w : World} {ok : Nat → Prop} {x : ZT} (h : ZVIn w ok x) : x.kids.map ZT.t = x.t.l := by cases h; assumption
theorem ZVIn.kid {w : World} {ok : Nat → Prop} {x : ZT} (h : ZVIn w ok x) : ∀ y, y ∈ x.kids → ZVIn w ok y := by cases h; assumption
theorem ZSlV.fr {w w' : World} {ok ok' : Nat → Prop} (hf : Fr w w' ok') (hk : ∀ b, ok b → ok' b) {v : Value} {xs : List ZT} (h : ZSlV w ok v xs) : ZSlV w' ok v xs := by
  obtain ⟨A, cap, e, h1, h2, h3⟩ := h
  refine ⟨A, cap, e, h1, h2, fun hp => ?_⟩
  obtain ⟨g, off, ea, ho, hc⟩ := h3 hp
  exact ⟨g, off, ea, ho, fun i x hx => by
    obtain ⟨a, b, c, d⟩ := hc i x hx
    exact ⟨hf.cell a (hk g ho), hf.cell b (hk g ho), hf.cell c (hk g ho), hf.cell d (hk g ho)⟩⟩
theorem ZVIn.fr {w w' : World} {ok ok' : Nat → Prop} (hf : Fr w w' ok') (hk : ∀ b, ok b → ok' b) {x : ZT} (h : ZVIn w ok x) : ZVIn w' ok x := by
  induction h with
  | mk t v0 v1 v2 v3 kids hs hj ht _ ih => exact .mk t v0 v1 v2 v3 kids (hs.fr hf hk) (hj.fr hf hk) ht ih
theorem ZSlV.tail {w : World} {ok : Nat → Prop} {A : Option Addr} {n cap : Nat} {x : ZT} {r : List ZT} (h : ZSlV w ok (.slice A n cap) (x :: r)) : n = r.length + 1 ∧ (r.length + 1 ≤ cap) ∧ cap ≤ maxLen ∧
    ∃ g off, A = some ⟨g, off, none⟩ ∧ ok g ∧ w.cell? ⟨g, off, none⟩ = some x.v0 ∧ w.cell? ⟨g, off + 1, none⟩ = some x.v1 ∧ w.cell? ⟨g, off + 2, none⟩ = some x.v2 ∧ w.cell? ⟨g, off + 3, none⟩ = some x.v3 ∧
      ZSlV w ok (.slice (if cap = 1 then some ⟨g, off, none⟩ else some ⟨g, off + 4, none⟩) r.length (cap - 1)) r := by
  obtain ⟨A', cap', e, h1, h2, h3⟩ := h
  cases e
  obtain ⟨g, off, ea, ho, hc⟩ := h3 (by simp)
  have h0 := hc 0 x rfl
  simp only [List.length_cons] at h1
  refine ⟨rfl, h1, h2, g, off, ea, ho, h0.1, h0.2.1, h0.2.2.1, h0.2.2.2, _, cap - 1, rfl, by omega, by omega, fun hp => ?_⟩
  rw [if_neg (by omega)]
  refine ⟨g, off + 4, rfl, ho, fun i y hy => ?_⟩
  have := hc (i + 1) y (by simpa using hy)
  rw [show off + 4 * (i + 1) = off + 4 + 4 * i by omega] at this
  exact this
theorem ZIn.vt {w : World} {ok : Nat → Prop} {t : Z} {v0 v1 v2 v3 : Value} (h : ZIn w ok t v0 v1 v2 v3) : ∃ kids, ZVIn w ok (.mk t v0 v1 v2 v3 kids) := by
  have h' := h
  induction h with
  | mk k t l ks A A' cap cap' c _ _ _ hcap hcap' hL hK hE ih =>
    have hex : ∀ i, ∃ x : ZT, ∀ h : i < l.length, ZVIn w ok x ∧ x.v0 = c i 0 ∧ x.v1 = c i 1 ∧ x.v2 = c i 2 ∧ x.v3 = c i 3 ∧ x.t = l[i] := by
      intro i
      by_cases hi : i < l.length
      · obtain ⟨kids, hv⟩ := ih i (l[i]) (List.getElem?_eq_getElem hi) (hE i (l[i]) (List.getElem?_eq_getElem hi))
        exact ⟨_, fun _ => ⟨hv, rfl, rfl, rfl, rfl, rfl⟩⟩
      · exact ⟨.mk (.mk 0 ByteArray.empty [] []) undef undef undef undef [], fun h => absurd h hi⟩
    obtain ⟨f, hf⟩ := Classical.axiomOfChoice hex
    have hlen : ((List.range l.length).map f).length = l.length := by simp
    refine ⟨(List.range l.length).map f, .mk _ _ _ _ _ _ ⟨A, cap, by rw [hlen], by rw [hlen]; exact hcap.1, hcap.2, fun hp => ?_⟩ h' ?_ (fun x hx => ?_)⟩
    · rw [hlen] at hp
      obtain ⟨g, off, e, ho, hc⟩ := hL hp
      refine ⟨g, off, e, ho, fun i x hx => ?_⟩
      have hi : i < l.length := by
        have := (List.getElem?_eq_some_iff.1 hx).1
        simpa using this
      have hxf : x = f i := by
        rw [List.getElem?_map, List.getElem?_range hi] at hx
        simpa using hx.symm
      subst hxf
      obtain ⟨_, e0, e1, e2, e3, _⟩ := hf i hi
      rw [e0, e1, e2, e3]
      have g0 := hc i 0 hi (by omega)
      have g1 := hc i 1 hi (by omega)
      have g2 := hc i 2 hi (by omega)
      have g3 := hc i 3 hi (by omega)
      exact ⟨by simpa using g0, by rw [Nat.add_assoc]; exact g1, by rw [Nat.add_assoc]; exact g2, by rw [Nat.add_assoc]; exact g3⟩
    · apply List.ext_getElem?
      intro i
      rw [List.getElem?_map, List.getElem?_map]
      by_cases hi : i < l.length
      · rw [List.getElem?_range hi]
        have := (hf i hi).2.2.2.2.2
        show some (ZT.t (f i)) = l[i]?
        rw [this, List.getElem?_eq_getElem hi]
      · rw [List.getElem?_eq_none (by simpa using hi)]
        show none = l[i]?
        rw [List.getElem?_eq_none (by omega)]
    · obtain ⟨i, hi, rfl⟩ := List.mem_map.1 hx
      exact (hf i (List.mem_range.1 hi)).1

def zencN (x : Nat × ZT) : Array Value := #[.int .i64 x.1, x.2.val]
/-- The lists on the way, as slices. -/
def ZStk (w : World) (ok : Nat → Prop) : List Value → List (List ZT) → Prop
  | [], [] => True
  | v :: vs, r :: s => ZSlV w ok v r ∧ (∀ x, x ∈ r → ZVIn w ok x) ∧ ZStk w ok vs s
  | _, _ => False
theorem ZVIn.mono {w : World} {ok ok' : Nat → Prop} {x : ZT} (h : ZVIn w ok x) (hk : ∀ b, ok b → ok' b) : ZVIn w ok' x := by
  induction h with
  | mk t v0 v1 v2 v3 kids hs hj ht _ ih =>
    refine .mk t v0 v1 v2 v3 kids ?_ (hj.mono (fun b _ => hk b)) ht ih
    obtain ⟨A, cap, e, h1, h2, h3⟩ := hs
    exact ⟨A, cap, e, h1, h2, fun hp => by obtain ⟨g, off, ea, ho, hc⟩ := h3 hp; exact ⟨g, off, ea, hk g ho, hc⟩⟩
theorem ZStk.fr {w w' : World} {ok ok' : Nat → Prop} (hf : Fr w w' ok') (hk : ∀ b, ok b → ok' b) : ∀ {vs : List Value} {s : List (List ZT)}, ZStk w ok vs s → ZStk w' ok vs s
  | [], [], _ => trivial
  | _ :: _, _ :: _, ⟨h1, h2, h3⟩ => ⟨h1.fr hf hk, fun x hx => (h2 x hx).fr hf hk, h3.fr hf hk⟩
theorem ZStk.len {w : World} {ok : Nat → Prop} : ∀ {vs : List Value} {s : List (List ZT)}, ZStk w ok vs s → vs.length = s.length
  | [], [], _ => rfl
  | _ :: _, _ :: _, ⟨_, _, h3⟩ => by simp [h3.len]
/-- What holds in the function's loop. -/
def ZERel (xs : List (Nat × ZT)) (J : List (Nat × ZT) → World → Prop) (N b1 : Nat) (g : Nat) (v : Value) (wr : World) : Prop :=
  ∃ (pr : List (Nat × ZT)) (s : List (List ZT)) (vs : List Value), xs = pr ++ zrem s ∧ 2 * (zrem s).length + s.length = g ∧ wr.ownsRow (b1 + 1) 23 1 v s.length vs.reverse ∧ ZStk wr (fun k => k < N ∨ k = b1) vs s ∧ J pr wr ∧ b1 + 1 ≤ wr.heap.size ∧ s.length ≤ pr.length + 1
set_option maxRecDepth 100000 in
set_option maxHeartbeats 4000000 in
theorem zeach_it (F : Fence) (n : Nat) (h67 : F.fn 68) (hro : F.round = none) (hn : 1 ≤ n) (Bv : Nat) (x0 : ZT) (w : World) (hB : Bv < w.heap.size) (hbox : w.heap[Bv]? = some (.cells #[x0.v0, x0.v1, x0.v2, x0.v3] 26 (0, 0))) (hv : ZVIn w (fun k => k < w.heap.size) x0) (hsmall : (zpre 0 x0).length ≤ 100000) :
    ItC F n Tryd.prog 68 #[.pointer (some ⟨Bv, 0, none⟩)] zencN (zpre 0 x0) w := by
  intro l J Jx W hW hl hwl hJ hJx hY h0
  have hbx : W.heap[Bv]? = some (.cells #[x0.v0, x0.v1, x0.v2, x0.v3] 26 (0, 0)) := (hW.block Bv hB).trans hbox
  have hfW : Fr w W (fun k => k < w.heap.size) := ⟨hW.os, hW.tape, hW.output, hW.size, fun k _ hk => hW.block k hk⟩
  have hv' : ZVIn W (fun k => k < w.heap.size) x0 := hv.fr hfW (fun _ h => h)
  have hxs : zpre 0 x0 = zrem [[x0]] := by rw [zrem, zpreL, zpreL]; simp [zrem]
  have HSm := Lib.hid hsmall
  rw [hxs] at HSm hY ⊢
  clear hxs hsmall
  obtain ⟨kk, tt, A, A', n1, cap1, n2, cap2, e0, e1, e2, e3⟩ := hv'.jin.forms
  have c0 : W.cell? ⟨Bv, 0, none⟩ = some (.int .i64 kk) := by rw [cell_of_row _ _ _ _ _ _ hbx, ← e0]; rfl
  have c1 : W.cell? ⟨Bv, 1, none⟩ = some (.string tt) := by rw [cell_of_row _ _ _ _ _ _ hbx, ← e1]; rfl
  have c2 : W.cell? ⟨Bv, 2, none⟩ = some (.slice A n1 cap1) := by rw [cell_of_row _ _ _ _ _ _ hbx, ← e2]; rfl
  have c3 : W.cell? ⟨Bv, 3, none⟩ = some (.slice A' n2 cap2) := by rw [cell_of_row _ _ _ _ _ _ hbx, ← e3]; rfl
  have hBW : Bv < W.heap.size := Nat.lt_of_lt_of_le hB hW.size
  have hrel0 : ZERel (zrem [[x0]]) J w.heap.size W.heap.size (2 * (zrem [[x0]]).length + 1) (.slice (some ⟨W.heap.size + 1, 0, none⟩) 1 1) ((W.alloc (.cells #[.int .i64 kk, .string tt, .slice A n1 cap1, .slice A' n2 cap2] 26)).alloc (.cells #[.slice (some ⟨W.heap.size, 0, none⟩) 1 1] 23)) := by
    have hfa : Fr W ((W.alloc (.cells #[.int .i64 kk, .string tt, .slice A n1 cap1, .slice A' n2 cap2] 26)).alloc (.cells #[.slice (some ⟨W.heap.size, 0, none⟩) 1 1] 23)) (fun _ => True) := ((Fr.refl W _).alloc _).alloc _
    have hb1 : ((W.alloc (.cells #[.int .i64 kk, .string tt, .slice A n1 cap1, .slice A' n2 cap2] 26)).alloc (.cells #[.slice (some ⟨W.heap.size, 0, none⟩) 1 1] 23)).heap[W.heap.size]? = some (.cells #[.int .i64 kk, .string tt, .slice A n1 cap1, .slice A' n2 cap2] 26 (0, 0)) := (Below.heap_alloc _ _ _ (by simp)).trans (heap_alloc_new W _)
    have hb2 : ((W.alloc (.cells #[.int .i64 kk, .string tt, .slice A n1 cap1, .slice A' n2 cap2] 26)).alloc (.cells #[.slice (some ⟨W.heap.size, 0, none⟩) 1 1] 23)).heap[W.heap.size + 1]? = some (.cells #[.slice (some ⟨W.heap.size, 0, none⟩) 1 1] 23 (0, 0)) := by
      have := heap_alloc_new (W.alloc (.cells #[.int .i64 kk, .string tt, .slice A n1 cap1, .slice A' n2 cap2] 26)) (.cells #[.slice (some ⟨W.heap.size, 0, none⟩) 1 1] 23 (0, 0))
      simpa using this
    refine ⟨[], [[x0]], [.slice (some ⟨W.heap.size, 0, none⟩) 1 1], rfl, rfl, ⟨rfl, .inr ⟨_, 1, _, rfl, Nat.le_refl _, hb2, Nat.le_refl _, by unfold maxLen; omega, rfl, rfl⟩⟩, ⟨⟨_, 1, rfl, Nat.le_refl _, by unfold maxLen; omega, fun _ => ⟨W.heap.size, 0, rfl, .inr rfl, fun i x hx => ?_⟩⟩, fun x hx => ?_, trivial⟩, ?_, by simp, by simp⟩
    · match i, hx with
      | 0, hx =>
        cases hx
        rw [e0, e1, e2, e3]
        exact ⟨by rw [cell_of_row _ _ _ _ _ _ hb1]; rfl, by rw [cell_of_row _ _ _ _ _ _ hb1]; rfl, by rw [cell_of_row _ _ _ _ _ _ hb1]; rfl, by rw [cell_of_row _ _ _ _ _ _ hb1]; rfl⟩
    · rw [List.mem_singleton] at hx
      subst hx
      exact (hv'.mono (fun k hk => .inl hk)).fr hfa (fun _ _ => trivial)
    · exact hJ _ _ _ none (hJ _ _ _ none h0 (World.grownBy_alloc _ _ _) (fun r e => by cases e)) (World.grownBy_alloc _ _ _) (fun r e => by cases e)
  refine callsIn_of_wp Tryd.func68 rfl h67 ?_ hro
  simp only [Tryd.ntmps68, List.size_toArray, List.length_cons, List.length_nil, Nat.reduceAdd, Nat.reduceSub, Array.replicate_succ, Array.replicate_zero, List.push_toArray, List.append_toArray, List.nil_append, List.cons_append]
  have HY := Lib.hid hY
  have HJ := Lib.hid hJ
  have HJx := Lib.hid hJx
  clear hY hJ hJx e0 e1 e2 e3 hbx hv'
  gi_wp2
  clear c0 c1 c2 c3
  gi_loopg [3] (2 * (zrem [[x0]]).length + 1) (fun g v wr => ZERel (zrem [[x0]]) J w.heap.size W.heap.size g v wr)
  case atStart => exact hrel0
  case round =>
    obtain ⟨pr, s, vs, hx, hg, hown, hstk, hjj, hsz, hpl⟩ := hrel
    clear hrel0
    have HG := Lib.hid hg
    have HX := Lib.hid hx
    clear hg hx
    match s, vs, hstk with
    | [], [], _ =>
      obtain ⟨A0, cp0, rfl, _, _, _⟩ := own_open hown (by omega)
      have hfin : zrem [[x0]] = pr := by rw [HX.out, zrem, List.append_nil]
      have HF := Lib.hid hfin
      clear hfin hown
      gi_wp2
      go_end0
      exact ⟨⟨_, rfl⟩, .inl (by rw [HF.out]; exact hjj)⟩
    | r :: s, v :: vs, ⟨hsl, hvin, hstk⟩ =>
      have hvl := hstk.len
      obtain ⟨g, cap, rfl⟩ := ownsRow_succ hown
      have hcap : s.length + 1 ≤ cap ∧ cap ≤ maxLen := by
        obtain ⟨A9, cp9, e9, a1, a2, _⟩ := own_open hown (by omega)
        cases e9; exact ⟨a1, a2⟩
      have hglt := hown.lt g rfl
      rw [List.reverse_cons] at hown
      have htop : wr.cell? ⟨g, s.length, none⟩ = some v := by
        have := hown.cells (g := g) rfl s.length v (by rw [List.getElem?_append_right (by simp; omega)]; simp [hvl])
        rw [addr_add, Nat.zero_add] at this
        exact this
      have hfz : wr.frozen? ⟨g, s.length, none⟩ = false := by
        rcases hown.2 with ⟨e, _⟩ | ⟨g', cp', cur, e, _, hgg, _⟩
        · cases e
        · cases e; exact frozen_of_row wr g s.length _ 23 hgg
      have hsml : s.length ≤ 100000 := by
        have h1 := HSm.out
        have h2 := congrArg List.length HX.out
        rw [List.length_append] at h2
        simp only [List.length_cons] at hpl
        omega
      obtain ⟨hcap1, hcap2⟩ := hcap
      unfold maxLen at hcap2
      cases r with
      | nil =>
        obtain ⟨A1, cp1, rfl, hr1, hr2, hr3⟩ := hsl
        have hpop := own_pop hown
        have HP : Hid (ZERel (zrem [[x0]]) J w.heap.size W.heap.size (2 * (zrem s).length + s.length) (.slice (some ⟨g, 0, none⟩) s.length cap) wr) := ⟨pr, s, vs, by rw [HX.out, zrem_nil], rfl, hpop, hstk, hjj, hsz, by simp at hpl; omega⟩
        have HG2 : Hid (2 * (zrem s).length + s.length < gk) := by
          show _ < _
          have := HG.out
          rw [zrem_nil] at this
          simp only [List.length_cons] at this
          omega
        clear hpop hown
        gi_wp2
        gi_roundg (2 * (zrem s).length + s.length)
        case measure => exact HG2.out
        case rel => exact HP.out
      | cons x r =>
        obtain ⟨A1, cp1, rfl, hr1, hr2, hr3⟩ := hsl
        obtain ⟨_, hcp, hcpm, g1, off, rfl, hok1, d0, d1, d2, d3, htl⟩ := ZSlV.tail (x := x) (r := r) ⟨A1, cp1, rfl, hr1, hr2, hr3⟩
        have hxv := hvin x (by simp)
        obtain ⟨kx, tx, Ax, Ax', m1, cx1, m2, cx2, e0, e1, e2, e3⟩ := hxv.jin.forms
        rw [e0] at d0
        rw [e1] at d1
        rw [e2] at d2
        rw [e3] at d3
        have hg1 : g1 < wr.heap.size := World.block_lt_of_cell? wr ⟨g1, off, none⟩ d0
        have hgg1 : g1 ≠ g := by
          have h2 := hW.size
          rcases hok1 with h | h
          · omega
          · omega
        unfold maxLen at hcpm
        simp only [List.length_cons] at hr1
        clear hr3
        obtain ⟨vt, hvt⟩ : ∃ vt : Value, vt = .slice (if cp1 = 1 then some ⟨g1, off, none⟩ else some ⟨g1, off + 4, none⟩) r.length (cp1 - 1) := ⟨_, rfl⟩
        rw [← hvt] at htl
        have HVT := Lib.hid hvt
        clear hvt
        -- the world in which the round is asked for
        have hlast := own_last (y := vt) hown
        have hf1 : Fr wr (wr.setCell ⟨g, s.length, none⟩ vt) (fun k => k ≠ g) := Fr.of (gset wr g s.length vt) (fun b _ hb e => hb (by cases e; rfl))
        have hfa : Fr wr ((wr.setCell ⟨g, s.length, none⟩ vt).alloc (.cells #[.int .i64 kx, .string tx, .slice Ax m1 cx1, .slice Ax' m2 cx2] 26)) (fun k => k ≠ g) := hf1.alloc _
        have hokg : ∀ k, (k < w.heap.size ∨ k = W.heap.size) → k ≠ g := fun k hk => by have := hW.size; omega
        have hokl : ∀ k, (k < w.heap.size ∨ k = W.heap.size) → k ≠ l := fun k hk => by have := hW.size; omega
        have hgc : ∃ o : Obj, wr.heap[g]? = some o ∧ o.isCells = true := by
          rcases hown.2 with ⟨e, _⟩ | ⟨g', cp', cur, e, _, hgg, _⟩
          · cases e
          · cases e; exact ⟨_, hgg, rfl⟩
        have hj1 : J pr ((wr.setCell ⟨g, s.length, none⟩ vt).alloc (.cells #[.int .i64 kx, .string tx, .slice Ax m1 cx1, .slice Ax' m2 cx2] 26)) :=
          HJ.out _ _ _ none (HJ.out _ _ _ (some g) hjj (gset wr g s.length vt) (fun r e => by cases e; exact ⟨by omega, hgc⟩)) (World.grownBy_alloc _ _ _) (fun r e => by cases e)
        have hrem : zrem [[x0]] = pr ++ (s.length, x) :: zrem (x.kids :: r :: s) := HX.out.trans (by rw [zrem_cons])
        obtain ⟨fn, tmps, assign, body, hy, hR⟩ := HY.out pr (s.length, x) _ _ hj1 hrem
        have hsize1 : ((wr.setCell ⟨g, s.length, none⟩ vt).alloc (.cells #[.int .i64 kx, .string tx, .slice Ax m1 cx1, .slice Ax' m2 cx2] 26)).heap.size = wr.heap.size + 1 := by simp
        have hown1 : ((wr.setCell ⟨g, s.length, none⟩ vt).alloc (.cells #[.int .i64 kx, .string tx, .slice Ax m1 cx1, .slice Ax' m2 cx2] 26)).ownsRow (W.heap.size + 1) 23 1 (.slice (some ⟨g, 0, none⟩) (s.length + 1) cap) (s.length + 1) (vs.reverse ++ [vt]) := hlast.alloc _
        have hstk1 := hstk.fr hfa hokg
        have hsl1 := htl.fr hfa hokg
        have hvin1 : ∀ y, y ∈ r → ZVIn ((wr.setCell ⟨g, s.length, none⟩ vt).alloc (.cells #[.int .i64 kx, .string tx, .slice Ax m1 cx1, .slice Ax' m2 cx2] 26)) (fun k => k < w.heap.size ∨ k = W.heap.size) y := fun y hy' => (hvin y (by simp [hy'])).fr hfa hokg
        have hxv1 := hxv.fr hfa hokg
        have hbox1 : ((wr.setCell ⟨g, s.length, none⟩ vt).alloc (.cells #[.int .i64 kx, .string tx, .slice Ax m1 cx1, .slice Ax' m2 cx2] 26)).heap[wr.heap.size]? = some (.cells #[.int .i64 kx, .string tx, .slice Ax m1 cx1, .slice Ax' m2 cx2] 26 (0, 0)) := by
          have := heap_alloc_new (wr.setCell ⟨g, s.length, none⟩ vt) (.cells #[.int .i64 kx, .string tx, .slice Ax m1 cx1, .slice Ax' m2 cx2] 26 (0, 0))
          simpa using this
        simp only [zencN, ZT.val, e0, e1, e2, e3] at hy
        -- behind the round
        have hafter : ∀ W3, J (pr ++ [(s.length, x)]) W3 → Fr ((wr.setCell ⟨g, s.length, none⟩ vt).alloc (.cells #[.int .i64 kx, .string tx, .slice Ax m1 cx1, .slice Ax' m2 cx2] 26)) W3 (fun k => k ≠ l) →
            W3.cell? ⟨wr.heap.size, 2, none⟩ = some (.slice Ax m1 cx1) ∧ wr.heap.size < W3.heap.size ∧ W3.ownsRow (W.heap.size + 1) 23 1 (.slice (some ⟨g, 0, none⟩) (s.length + 1) cap) (s.length + 1) (vs.reverse ++ [vt]) ∧
            (∀ v5 w5 o5, w5.ownsRow (W.heap.size + 1) 23 1 v5 (s.length + 1 + 1) ((vs.reverse ++ [vt]) ++ [.slice Ax m1 cx1]) → (W3.alloc o5).grownBy w5 (some g) →
              ZERel (zrem [[x0]]) J w.heap.size W.heap.size (2 * (zrem (x.kids :: r :: s)).length + (x.kids :: r :: s).length) v5 w5) := by
          intro W3 hj3 hk3
          have hb3 := hk3.at hbox1 (show wr.heap.size ≠ l by have := hW.size; omega)
          have hown3 := ownsRow_fr hown1 hk3 (fun g' e => by cases e; show g ≠ l; omega)
          refine ⟨by rw [cell_of_row _ _ _ _ _ _ hb3]; rfl, blk_lt hb3, hown3, fun v5 w5 o5 h5 hg5 => ?_⟩
          have hf5 : Fr W3 w5 (fun k => k ≠ g) := ((Fr.refl W3 _).alloc o5).trans (Fr.of hg5 (fun b _ hb e => hb (by cases e; rfl)))
          have hgc3 : ∃ o : Obj, (W3.alloc o5).heap[g]? = some o ∧ o.isCells = true := by
            rcases (hown3.alloc o5).2 with ⟨e, _⟩ | ⟨g', cp', cur, e, _, hgg, _⟩
            · cases e
            · cases e; exact ⟨_, hgg, rfl⟩
          refine ⟨pr ++ [(s.length, x)], x.kids :: r :: s, .slice Ax m1 cx1 :: vt :: vs, by rw [hrem]; simp, rfl, by simpa using h5, ⟨?_, fun y hy' => ?_, ?_, fun y hy' => ?_, ?_⟩, ?_, ?_, ?_⟩
          · rw [← e2]; exact ((hxv1.sl).fr hk3 hokl).fr hf5 hokg
          · exact ((hxv1.kid y hy').fr hk3 hokl).fr hf5 hokg
          · exact (hsl1.fr hk3 hokl).fr hf5 hokg
          · exact ((hvin1 y hy').fr hk3 hokl).fr hf5 hokg
          · exact (hstk1.fr hk3 hokl).fr hf5 hokg
          · exact HJ.out _ _ _ (some g) (HJ.out _ _ _ none hj3 (World.grownBy_alloc _ _ _) (fun r e => by cases e)) hg5 (fun r e => by cases e; exact ⟨by omega, hgc3⟩)
          · have := hf5.size; have := hk3.size; rw [hsize1] at this; omega
          · simp only [List.length_cons, List.length_append, List.length_nil] at hpl ⊢; omega
        have HAf := Lib.hid hafter
        have HG2 : Hid (2 * (zrem (x.kids :: r :: s)).length + (x.kids :: r :: s).length < gk) := by
          show _ < _
          have := HG.out
          rw [zrem_cons] at this
          simp only [List.length_cons] at this ⊢
          omega
        have HJx2 : ∀ W3, Jx (pr ++ [(s.length, x)]) W3 → ∃ zpre rest, zrem [[x0]] = zpre ++ rest ∧ Jx zpre W3 := fun W3 h3 => ⟨pr ++ [(s.length, x)], zrem (x.kids :: r :: s), by rw [hrem]; simp, h3⟩
        have HJ3 := Lib.hid HJx2
        have HRd := Lib.hid hR
        clear hafter HJx2 hR hrem hj1 hown1 hstk1 hsl1 hvin1 hxv1 hbox1 hlast hf1 hfa hgc hsize1 htl hstk hvin hxv hown hjj hokg hokl
        obtain ⟨i0, hi, hz0, hz1, hz2⟩ := info_parts Tryd.info23
        clear e0 e1 e2 e3
        by_cases hc1 : cp1 = 1
        · obtain rfl : r = [] := List.eq_nil_of_length_eq_zero (by omega)
          subst hc1
          obtain rfl : vt = .slice (some ⟨g1, off, none⟩) 0 0 := by rw [HVT.out]; rfl
          gi_wp2
          refine HRd.out.mono ?_
          rintro e W3 (⟨rfl, hJ3, hk3⟩ | ⟨rfl, hJx3⟩)
          · obtain ⟨b2, hlt3, hown3, hfin⟩ := HAf.out W3 hJ3 hk3
            have HFin := Lib.hid hfin
            clear hfin hJ3 hk3 HAf
            gi_wp2_with (gi_at_builtin; refine wpListIn_append_own _ rfl _ _ 99 rfl (W.heap.size + 1) 23 i0 _ 1 24 Tryd.underlying99 hi hz0 hz1 hz2 rfl (by decide) _ _ _ rfl (hown3.alloc _) ⟨W3.heap.size, 0, none⟩ 1 1 [.slice Ax m1 cx1] rfl rfl (cell_one_new _ _ _) (by simp [Value.oneCell']) (by unfold maxLen; omega) (by omega) (by simp; omega) ?_; intro v5 w5 hown5 hgrow5 _)
            gi_roundg (2 * (zrem (x.kids :: [] :: s)).length + (x.kids :: [] :: s).length)
            case measure => exact HG2.out
            case rel => exact HFin.out v5 w5 _ hown5 hgrow5
          · gi_wp2
            refine bodyPost_ret (results_none rfl _ _ _) rfl ?_
            exact ⟨⟨_, rfl⟩, .inr (HJ3.out W3 hJx3)⟩
        · have hc2 : (cp1 : Int) ≠ 1 := by omega
          obtain rfl : vt = .slice (some ⟨g1, off + 4, none⟩) r.length (cp1 - 1) := by rw [HVT.out, if_neg hc1]
          gi_wp2
          refine HRd.out.mono ?_
          rintro e W3 (⟨rfl, hJ3, hk3⟩ | ⟨rfl, hJx3⟩)
          · obtain ⟨b2, hlt3, hown3, hfin⟩ := HAf.out W3 hJ3 hk3
            have HFin := Lib.hid hfin
            clear hfin hJ3 hk3 HAf
            gi_wp2_with (gi_at_builtin; refine wpListIn_append_own _ rfl _ _ 99 rfl (W.heap.size + 1) 23 i0 _ 1 24 Tryd.underlying99 hi hz0 hz1 hz2 rfl (by decide) _ _ _ rfl (hown3.alloc _) ⟨W3.heap.size, 0, none⟩ 1 1 [.slice Ax m1 cx1] rfl rfl (cell_one_new _ _ _) (by simp [Value.oneCell']) (by unfold maxLen; omega) (by omega) (by simp; omega) ?_; intro v5 w5 hown5 hgrow5 _)
            gi_roundg (2 * (zrem (x.kids :: r :: s)).length + (x.kids :: r :: s).length)
            case measure => exact HG2.out
            case rel => exact HFin.out v5 w5 _ hown5 hgrow5
          · gi_wp2
            refine bodyPost_ret (results_none rfl _ _ _) rfl ?_
            exact ⟨⟨_, rfl⟩, .inr (HJ3.out W3 hJx3)⟩
end Go.Proofs.YtjcnjaebmndeiaaDoor

namespace Go.Proofs.YtjcnjaebmndeiaaDoor
open Go.RowKit Go.Shelf
attribute [local go_sem] Oper.semAt_some

theorem set_same_below {n b : Nat} {W0 w5 : World} {v : Value} (h : Below n W0 w5) (hb : w5.heap[b]? = some (.cells #[v] 4 (0, 0))) : Below n W0 (w5.setCell ⟨b, 0, none⟩ v) := by
  have hg := gset w5 b 0 v
  refine ⟨hg.os.trans h.os, hg.tape.trans h.tape, hg.output.trans h.output, Nat.le_trans h.size hg.size, fun i hi => ?_⟩
  by_cases e : i = b
  · subst e
    have h1 : (w5.setCell ⟨i, 0, none⟩ v).heap[i]? = some (.cells #[v] 4 (0, 0)) := by rw [heap_setCell_same w5 i 0 _ 4 _ hb]; rfl
    rw [h1, ← hb]
    exact h.block i hi
  · exact (Below.heap_setCell _ _ _ _ (by exact e)).trans (h.block i hi)
/-- A part is right at its depth, whatever is within. -/
def zal (y : Nat × ZT) : Prop := match y.2.t with | .mk k t l ks => AloneP y.1 k t l.length ks
mutual
theorem zmem_pre {w : World} {ok : Nat → Prop} : ∀ (x : ZT) (d : Nat), ZVIn w ok x → ∀ y, y ∈ zpre d x → ZVIn w ok y.2
  | .mk t a b c e ks, d, h, y, hy => by
    rw [zpre] at hy
    rcases List.mem_cons.1 hy with rfl | hy
    · exact h
    · exact zmem_preL ks (d + 1) h.kid y hy
theorem zmem_preL {w : World} {ok : Nat → Prop} : ∀ (l : List ZT) (d : Nat), (∀ x, x ∈ l → ZVIn w ok x) → ∀ y, y ∈ zpreL d l → ZVIn w ok y.2
  | [], _, _, y, hy => by rw [zpreL] at hy; cases hy
  | x :: r, d, h, y, hy => by
    rw [zpreL] at hy
    rcases List.mem_append.1 hy with hy | hy
    · exact zmem_pre x d (h x (by simp)) y hy
    · exact zmem_preL r d (fun z hz => h z (by simp [hz])) y hy
end

set_option maxHeartbeats 1000000 in
theorem zeach_call (F : Fence) (n : Nat) (h43 : F.fn 43) (hro : F.round = none) (kk : Int) (tt : ByteArray) (A A' : Option Addr) (n1 cap1 n2 cap2 : Nat) (w : World) :
    CallsIn F n Tryd.prog 43 #[.agg #[.int .i64 kk, .string tt, .slice A n1 cap1, .slice A' n2 cap2]] w fun e w' => e = .returned (.func (.func 68) #[] #[.pointer (some ⟨w.heap.size, 0, none⟩)]) ∧ w' = w.alloc (.cells #[.int .i64 kk, .string tt, .slice A n1 cap1, .slice A' n2 cap2] 26) := by
  refine callsIn_of_wp Tryd.func43 rfl h43 ?_ hro
  simp only [Tryd.ntmps43, List.size_toArray, List.length_cons, List.length_nil, Nat.reduceAdd, Nat.reduceSub, Array.replicate_succ, Array.replicate_zero, List.push_toArray, List.append_toArray, List.nil_append, List.cons_append]
  gi_wp2
  go_ret
  exact ⟨rfl, rfl⟩
set_option maxRecDepth 100000 in
set_option maxHeartbeats 4000000 in
theorem zright_any (x0 : ZT) (w : World) (hG : Gl w) (hv : ZVIn w (fun k => k < w.heap.size) x0) (hsmall : (zpre 0 x0).length ≤ 100000)
    (hall : ∀ d x, (d, x) ∈ zpre 0 x0 → ∀ W, Gl W → ZVIn W (fun k => k < w.heap.size) x → Calls Tryd.prog 44 #[x.val, .int .i64 d] W (BoolPost W (zal (d, x)))) :
    Calls Tryd.prog 18 #[x0.val] w (BoolPost w (∀ y, y ∈ zpre 0 x0 → zal y)) := by
  obtain ⟨kk, tt, A, A', n1, cap1, n2, cap2, e0, e1, e2, e3⟩ := hv.jin.forms
  have hval : x0.val = .agg #[.int .i64 kk, .string tt, .slice A n1 cap1, .slice A' n2 cap2] := by simp only [ZT.val, e0, e1, e2, e3]
  rw [hval]
  refine (callsIn_wide (n := 4)).1 ?_
  refine callsIn_of_wp_marks Tryd.func18 rfl trivial ?_
  simp only [Tryd.ntmps18, List.size_toArray, List.length_cons, List.length_nil, Nat.reduceAdd, Nat.reduceSub, Array.replicate_succ, Array.replicate_zero, List.push_toArray, List.append_toArray, List.nil_append, List.cons_append]
  have HAll := Lib.hid hall
  clear hall
  gi_wp2_with (refine ⟨trivial, ?_⟩; gi_at_call 43; refine (zeach_call Fence.wide _ trivial rfl kk tt A A' n1 cap1 n2 cap2 _).mono ?_; rintro e w' ⟨rfl, rfl⟩)
  have hb0 : Below w.heap.size w (((w.alloc (.cells #[.int .i64 kk, .string tt, .slice A n1 cap1, .slice A' n2 cap2] 26)).alloc (.cells #[.bool false] 4)).alloc (.cells #[.int .i64 kk, .string tt, .slice A n1 cap1, .slice A' n2 cap2] 26)) := (((Below.refl _ w).alloc (Nat.le_refl _) _).alloc (by simp) _).alloc (by simp; omega) _
  have hs0 : (((w.alloc (.cells #[.int .i64 kk, .string tt, .slice A n1 cap1, .slice A' n2 cap2] 26)).alloc (.cells #[.bool false] 4)).alloc (.cells #[.int .i64 kk, .string tt, .slice A n1 cap1, .slice A' n2 cap2] 26)).heap.size = w.heap.size + 3 := by simp
  have hbx : (((w.alloc (.cells #[.int .i64 kk, .string tt, .slice A n1 cap1, .slice A' n2 cap2] 26)).alloc (.cells #[.bool false] 4)).alloc (.cells #[.int .i64 kk, .string tt, .slice A n1 cap1, .slice A' n2 cap2] 26)).heap[w.heap.size + 2]? = some (.cells #[.int .i64 kk, .string tt, .slice A n1 cap1, .slice A' n2 cap2] 26 (0, 0)) := by
    have := heap_alloc_new ((w.alloc (.cells #[.int .i64 kk, .string tt, .slice A n1 cap1, .slice A' n2 cap2] 26)).alloc (.cells #[.bool false] 4)) (.cells #[.int .i64 kk, .string tt, .slice A n1 cap1, .slice A' n2 cap2] 26 (0, 0))
    simpa using this
  have hrb : (((w.alloc (.cells #[.int .i64 kk, .string tt, .slice A n1 cap1, .slice A' n2 cap2] 26)).alloc (.cells #[.bool false] 4)).alloc (.cells #[.int .i64 kk, .string tt, .slice A n1 cap1, .slice A' n2 cap2] 26)).heap[w.heap.size + 1]? = some (.cells #[.bool false] 4 (0, 0)) := by
    rw [Below.heap_alloc _ _ _ (by simp)]
    have := heap_alloc_new (w.alloc (.cells #[.int .i64 kk, .string tt, .slice A n1 cap1, .slice A' n2 cap2] 26)) (.cells #[.bool false] 4 (0, 0))
    simpa using this
  generalize ((w.alloc (.cells #[.int .i64 kk, .string tt, .slice A n1 cap1, .slice A' n2 cap2] 26)).alloc (.cells #[.bool false] 4)).alloc (.cells #[.int .i64 kk, .string tt, .slice A n1 cap1, .slice A' n2 cap2] 26) = W0 at *
  have hG0 := hG.below hb0
  have hv0 := hv.fr (below_fr hb0) (fun _ h => h)
  have hv0' : ZVIn W0 (fun k => k < W0.heap.size) x0 := hv0.mono (fun k hk => by omega)
  have hmem := zmem_pre x0 0 hv
  refine range_ret (F := Fence.wide) (n := 4) (ps := #[7, 8]) rfl (by omega) (gf := 68) (lb := #[.pointer (some ⟨w.heap.size + 2, 0, none⟩)]) rfl trivial (enters_of Tryd.func68 (by kernel_rfl) rfl) (encs := zencN) (fun _ => rfl)
    (zeach_it Fence.wide 3 trivial rfl (by omega) (w.heap.size + 2) x0 W0 (by omega) (by rw [e0, e1, e2, e3]; exact hbx) hv0' hsmall)
    (fun pr W => (∀ y, y ∈ pr → zal y) ∧ Below W0.heap.size W0 W) (fun pr W => (∃ y, y ∈ pr ∧ ¬ zal y) ∧ Below W0.heap.size W0 W) (fun s W W' row h hg hr => ⟨h.1, ownFrom_below (β := List (Nat × ZT)) (Nat.le_refl _) (Nat.le_refl _) s W W' row h.2 hg hr⟩) (fun s A A' row h hg hr => ⟨h.1, below_stc (β := List (Nat × ZT)) (Nat.le_refl _) (by omega) s A A' row h.2 hg hr⟩) (fun s W W' row h hg hr => ⟨h.1, ownFrom_below (β := List (Nat × ZT)) (Nat.le_refl _) (Nat.le_refl _) s W W' row h.2 hg hr⟩) (fun s A A' row h hg hr => ⟨h.1, below_stc (β := List (Nat × ZT)) (Nat.le_refl _) (by omega) s A A' row h.2 hg hr⟩) ⟨fun y hy => by simp at hy, Below.refl _ _⟩ ?round ?done ?stop
  case stop =>
    intro pr rest W hx hbad hd
    obtain ⟨⟨y, hy, hny⟩, hb⟩ := hbad
    have hno : ¬ (∀ y, y ∈ zpre 0 x0 → zal y) := fun h => hny (h y (by rw [hx]; exact List.mem_append_left _ hy))
    have HNO := Lib.hid hno
    have hrb2 : W.heap[w.heap.size + 1]? = some (.cells #[.bool false] 4 (0, 0)) := (hb.block _ (by omega)).trans hrb
    clear hno hny hy
    gi_wp2
    have q1 : (W.putObj W0.heap.size (.deferred none)).cell? ⟨w.heap.size + 1, 0, none⟩ = some (.bool false) := by
      rw [cell_of_row _ _ _ _ _ _ ((put_other (show w.heap.size + 1 ≠ W0.heap.size by omega)).trans hrb2)]; rfl
    refine ⟨by simp, .inl ⟨_, _, rfl, run_takeDeferred hd, ?_⟩⟩
    refine ⟨.bool false, (by simp [results, Tryd.results18, go_sem, q1]), ?_⟩
    have hb3 := hb0.trans (hb.mono (by omega))
    exact bp_false rfl (hb3.grown (grownBy_putObj' _ _ _) hb3.size (fun k e => by cases e; omega)) HNO.out
  case done =>
    intro W hib hd
    obtain ⟨hyes, hb⟩ := hib
    have HYES := Lib.hid hyes
    clear hyes
    have hrb2 : W.heap[w.heap.size + 1]? = some (.cells #[.bool false] 4 (0, 0)) := (hb.block _ (by omega)).trans hrb
    have q0 : W.cell? ⟨w.heap.size + 1, 0, none⟩ = some (.bool false) := by rw [cell_of_row _ _ _ _ _ _ hrb2]; rfl
    have y0 := frozen_of_row W (w.heap.size + 1) 0 _ 4 hrb2
    gi_wp2
    have hd' : (W.setCell ⟨w.heap.size + 1, 0, none⟩ (.bool true)).heap[W0.heap.size]? = some (.deferred (some [])) := (Below.heap_setCell _ _ _ _ (by show W0.heap.size ≠ w.heap.size + 1; omega)).trans hd
    have q1 : ((W.setCell ⟨w.heap.size + 1, 0, none⟩ (.bool true)).putObj W0.heap.size (.deferred none)).cell? ⟨w.heap.size + 1, 0, none⟩ = some (.bool true) := by
      have h1 : (W.setCell ⟨w.heap.size + 1, 0, none⟩ (.bool true)).heap[w.heap.size + 1]? = some (.cells #[.bool true] 4 (0, 0)) := by rw [heap_setCell_same W _ 0 _ 4 _ hrb2]; rfl
      rw [cell_of_row _ _ _ _ _ _ ((put_other (show w.heap.size + 1 ≠ W0.heap.size by omega)).trans h1)]; rfl
    refine ⟨by simp, .inl ⟨_, _, rfl, run_takeDeferred hd', ?_⟩⟩
    refine ⟨.bool true, (by simp [results, Tryd.results18, go_sem, q1]), ?_⟩
    have hb3 := (hb0.trans (hb.mono (by omega))).setCell (p := ⟨w.heap.size + 1, 0, none⟩) (show w.heap.size ≤ w.heap.size + 1 by omega) (.bool true)
    exact bp_true rfl (hb3.grown (grownBy_putObj' _ _ _) hb3.size (fun k e => by cases e; omega)) HYES.out
  case round =>
    intro pr x rest W hx hib hlt
    obtain ⟨hyes, hb⟩ := hib
    have HYES := Lib.hid hyes
    clear hyes
    have hvx := (hmem x (by rw [hx]; simp)).fr (below_fr (hb0.trans (hb.mono (by omega)))) (fun _ h => h)
    have hGx := hG0.below hb
    obtain ⟨kx, tx, Ax, Ax', m1, cx1, m2, cx2, f0, f1, f2, f3⟩ := hvx.jin.forms
    have hcall := HAll.out x.1 x.2 (by rw [hx]; simp)
    have hxval : x.2.val = .agg #[.int .i64 kx, .string tx, .slice Ax m1 cx1, .slice Ax' m2 cx2] := by simp only [ZT.val, f0, f1, f2, f3]
    rw [hxval] at hcall
    have HC := Lib.hid hcall
    clear hcall
    refine wpIn_mono (Q := Exit.then (fun a1 W1 => W1 = W.alloc (.cells #[.int .i64 kx, .string tx, .slice Ax m1 cx1, .slice Ax' m2 cx2] 26) ∧ a1 = { tmps := #[.agg #[.int .i64 kk, .string tt, .slice A n1 cap1, .slice A' n2 cap2], .pointer (some ⟨w.heap.size, 0, none⟩), .pointer (some ⟨w.heap.size + 1, 0, none⟩), .int .i64 x.1, .pointer (some ⟨W.heap.size, 0, none⟩), .agg #[.int .i64 kk, .string tt, .slice A n1 cap1, .slice A' n2 cap2], .func (.func 68) #[] #[.pointer (some ⟨w.heap.size + 1 + 1, 0, none⟩)], .int .i64 x.1, .agg #[.int .i64 kx, .string tx, .slice Ax m1 cx1, .slice Ax' m2 cx2], undef, undef, undef, undef], defers := [] }) (fun _ _ _ => False)) ?_ ?_
    · show Code.wpIn _ _ _ _ _ { tmps := _, defers := _ } _
      simp only [zencN, hxval, List.zip_cons_cons, List.zip_nil_right, List.foldl_toArray', List.foldl_toArray, List.foldl_cons, List.foldl_nil, List.setIfInBounds_toArray, List.set_cons_succ, List.set_cons_zero, Array.zip]
      gi_wp2
      first | exact ⟨rfl, rfl⟩ | exact ⟨trivial, rfl⟩ | exact ⟨trivial, trivial⟩ | simp
    · intro e a1 W1 hp
      cases e with
      | normal =>
        obtain ⟨rfl, rfl⟩ := hp
        refine ⟨(Fr.refl W _).alloc _, ⟨HYES.out, hb.alloc hb.size _⟩, fun W2 hf2 hl2 hib2 => ?_⟩
        obtain ⟨_, hb2⟩ := hib2
        have hbox2 := hf2.at (heap_alloc_new W (.cells #[.int .i64 kx, .string tx, .slice Ax m1 cx1, .slice Ax' m2 cx2] 26 (0, 0))) (show W.heap.size ≠ W0.heap.size + 1 by omega)
        have g0 : W2.cell? ⟨W.heap.size, 0, none⟩ = some (.int .i64 kx) := by rw [cell_of_row _ _ _ _ _ _ hbox2]; rfl
        have g1 : W2.cell? ⟨W.heap.size, 1, none⟩ = some (.string tx) := by rw [cell_of_row _ _ _ _ _ _ hbox2]; rfl
        have g2 : W2.cell? ⟨W.heap.size, 2, none⟩ = some (.slice Ax m1 cx1) := by rw [cell_of_row _ _ _ _ _ _ hbox2]; rfl
        have g3 : W2.cell? ⟨W.heap.size, 3, none⟩ = some (.slice Ax' m2 cx2) := by rw [cell_of_row _ _ _ _ _ _ hbox2]; rfl
        have hvx2 := (hmem x (by rw [hx]; simp)).fr (below_fr (hb0.trans (hb2.mono (by omega)))) (fun _ h => h)
        have hc2 := HC.out W2 (hG0.below hb2) hvx2
        obtain ⟨o, ho, _⟩ := hl2
        have hlt2 := blk_lt ho
        clear hvx2
        by_cases hA : zal (x.1, x.2)
        · have hc3 : Calls Tryd.prog 44 #[.agg #[.int .i64 kx, .string tx, .slice Ax m1 cx1, .slice Ax' m2 cx2], .int .i64 x.1] W2 fun e W' => e = .returned (.bool true) ∧ Below W2.heap.size W2 W' := hc2.mono (by rintro e w' ⟨b, rfl, hbi, hb⟩; obtain rfl : b = true := hbi.2 hA; exact ⟨rfl, hb⟩)
          have HA := Lib.hid hA
          clear hA hc2
          gi_wp2_with (refine ⟨trivial, ?_⟩; gi_at_call 44; refine (CallsIn.inRound (W0.heap.size + 1) (callsIn_wide.2 hc3)).mono ?_; rintro e w5 ⟨rfl, hb5⟩)
          exact ⟨(below_fr hb5).mono (fun k hk _ => hk), hb5.block _ hlt2, fun y hy => by
            rcases List.mem_append.1 hy with hy | hy
            · exact HYES.out y hy
            · simp at hy; rw [hy]; exact HA.out, hb2.trans (hb5.mono hb2.size)⟩
        · have hc3 : Calls Tryd.prog 44 #[.agg #[.int .i64 kx, .string tx, .slice Ax m1 cx1, .slice Ax' m2 cx2], .int .i64 x.1] W2 fun e W' => e = .returned (.bool false) ∧ Below W2.heap.size W2 W' := hc2.mono (by rintro e w' ⟨b, rfl, hbi, hb⟩; obtain rfl : b = false := (by cases b with | false => rfl | true => exact absurd (hbi.1 rfl) hA); exact ⟨rfl, hb⟩)
          have HA := Lib.hid hA
          clear hA hc2
          have hrb2 : W2.heap[w.heap.size + 1]? = some (.cells #[.bool false] 4 (0, 0)) := (hb2.block _ (by omega)).trans hrb
          gi_wp2_with (refine ⟨trivial, ?_⟩; gi_at_call 44; refine (CallsIn.inRound (W0.heap.size + 1) (callsIn_wide.2 hc3)).mono ?_; rintro e w5 ⟨rfl, hb5⟩; have hrb5 := (hb5.block _ (blk_lt hrb2)).trans hrb2; have q5 : w5.cell? ⟨w.heap.size + 1, 0, none⟩ = some (.bool false) := (by rw [cell_of_row _ _ _ _ _ _ hrb5]; rfl); have y5 := frozen_of_row w5 (w.heap.size + 1) 0 _ 4 hrb5)
          have hb6 : Below W0.heap.size W0 (w5.setCell ⟨w.heap.size + 1, 0, none⟩ (.bool false)) := set_same_below (hb2.trans (hb5.mono hb2.size)) hrb5
          exact ⟨(Below.heap_setCell _ _ _ _ (by show W0.heap.size + 1 ≠ w.heap.size + 1; omega)).trans (hb5.block _ hlt2), (Below.heap_setCell _ _ _ _ (by show W0.heap.size + 1 - 1 ≠ w.heap.size + 1; omega)).trans (hb5.block _ (by omega)), ⟨x, by simp, HA.out⟩, hb6⟩
      | ret => exact hp.elim
      | exit id => exact hp.elim
      | goto t => exact hp.elim
      | panic ch => exact hp.elim
      | outgrown => exact hp.elim
end Go.Proofs.YtjcnjaebmndeiaaDoor

namespace Go.Proofs.YtjcnjaebmndeiaaDoor
open Go.RowKit

theorem zal_mk {d : Nat} {k : Int} {t : ByteArray} {l : List Z} {ks : List ByteArray} {a b c e : Value} {kids : List ZT} : zal (d, .mk (.mk k t l ks) a b c e kids) ↔ AloneP d k t l.length ks := Iff.rfl
mutual
theorem zal_rgt {w : World} {ok : Nat → Prop} : ∀ (x : ZT) (d : Nat), ZVIn w ok x → ((∀ y, y ∈ zpre d x → zal y) ↔ Rgt d x.t)
  | .mk (.mk k t l ks) a b c e kids, d, h => by
    have hts : kids.map ZT.t = l := h.ts
    have ih := zalL_rgt kids (d + 1) h.kid
    rw [hts] at ih
    rw [zpre]
    show _ ↔ Rgt d (.mk k t l ks)
    rw [Rgt]
    constructor
    · intro h
      have h0 : AloneP d k t l.length ks := h (d, .mk (.mk k t l ks) a b c e kids) (List.mem_cons_self ..)
      have hr := ih.1 (fun y hy => h y (List.mem_cons_of_mem _ hy))
      rcases h0 with ⟨h1, h2, h3⟩ | h1
      · exact .inl ⟨h1, List.length_eq_zero_iff.1 h2, List.length_eq_zero_iff.1 h3⟩
      · exact .inr ⟨h1, hr⟩
    · intro h y hy
      rcases List.mem_cons.1 hy with rfl | hy
      · rcases h with ⟨h1, h2, h3⟩ | ⟨h1, _⟩
        · exact .inl ⟨h1, by rw [h2]; rfl, by rw [h3]; rfl⟩
        · exact .inr h1
      · rcases h with ⟨_, h2, _⟩ | ⟨_, h2⟩
        · exact ih.2 (by rw [h2, RgtL]; trivial) y hy
        · exact ih.2 h2 y hy
theorem zalL_rgt {w : World} {ok : Nat → Prop} : ∀ (l : List ZT) (d : Nat), (∀ x, x ∈ l → ZVIn w ok x) → ((∀ y, y ∈ zpreL d l → zal y) ↔ RgtL d (l.map ZT.t))
  | [], d, _ => by rw [zpreL, List.map_nil, RgtL]; simp
  | x :: r, d, h => by
    have h1 := zal_rgt x d (h x (by simp))
    have h2 := zalL_rgt r d (fun y hy => h y (by simp [hy]))
    rw [zpreL, List.map_cons, RgtL, ← h1, ← h2]
    constructor
    · exact fun h => ⟨fun y hy => h y (List.mem_append_left _ hy), fun y hy => h y (List.mem_append_right _ hy)⟩
    · rintro ⟨a, b⟩ y hy
      rcases List.mem_append.1 hy with hy | hy
      · exact a y hy
      · exact b y hy
end
mutual
theorem zpre_small {w : World} {ok : Nat → Prop} : ∀ (x : ZT) (d : Nat), ZVIn w ok x → ((∀ y, y ∈ zpre d x → zn y.2.t ≤ zn x.t ∧ zw y.2.t ≤ zw x.t) ∧ (zpre d x).length ≤ zn x.t)
  | .mk (.mk k t l ks) a b c e kids, d, h => by
    have hts : kids.map ZT.t = l := h.ts
    have ih := zpreL_small kids (d + 1) h.kid
    rw [hts] at ih
    rw [zpre]
    show (∀ (y : Nat × ZT), y ∈ _ → zn y.2.t ≤ zn (.mk k t l ks) ∧ zw y.2.t ≤ zw (.mk k t l ks)) ∧ _ ≤ zn (.mk k t l ks)
    refine ⟨fun y hy => ?_, ?_⟩
    · rcases List.mem_cons.1 hy with rfl | hy
      · exact ⟨Nat.le_refl _, Nat.le_refl _⟩
      · have := ih.1 y hy
        rw [zn, zw]
        omega
    · have := ih.2
      rw [zn, List.length_cons]
      omega
theorem zpreL_small {w : World} {ok : Nat → Prop} : ∀ (l : List ZT) (d : Nat), (∀ x, x ∈ l → ZVIn w ok x) → ((∀ y, y ∈ zpreL d l → zn y.2.t ≤ znL (l.map ZT.t) ∧ zw y.2.t ≤ zwL (l.map ZT.t)) ∧ (zpreL d l).length ≤ znL (l.map ZT.t))
  | [], d, _ => by rw [zpreL]; exact ⟨fun y hy => absurd hy (by simp), by simp⟩
  | x :: r, d, h => by
    have h1 := zpre_small x d (h x (by simp))
    have h2 := zpreL_small r d (fun y hy => h y (by simp [hy]))
    rw [zpreL, List.map_cons, znL, zwL]
    refine ⟨fun y hy => ?_, by rw [List.length_append]; omega⟩
    rcases List.mem_append.1 hy with hy | hy
    · have := h1.1 y hy; omega
    · have := h2.1 y hy; omega
end
/-- 'rightAlone' of a value with all within it. -/
theorem alone_z (d : Nat) (x : ZT) (W : World) (ok : Nat → Prop) (hG : Gl W) (hx : ZVIn W ok x) (hn : zn x.t ≤ 21000) (hw : zw x.t ≤ 1048576) : Calls Tryd.prog 44 #[x.val, .int .i64 d] W (BoolPost W (zal (d, x))) := by
  have hj := hx.jin
  match x, hj, hn, hw with
  | .mk (.mk k t l ks) a b c e kids, hj, hn, hw =>
    have hn' : zn (.mk k t l ks) ≤ 21000 := hn
    have hw' : zw (.mk k t l ks) ≤ 1048576 := hw
    rw [zn] at hn'
    rw [zw] at hw'
    have hkl := kw_len ks
    have hj' : ZIn W ok (.mk k t l ks) a b c e := hj
    cases hj' with
    | mk _ _ _ _ A A' cap cap' cc h1 h2 h3 hcap hcap' hL hK hE =>
      exact alone_any d k t l.length ks A A' cap cap' W hG (by omega) (by omega) h3 (fun hp => by obtain ⟨g, off, e, _, hc⟩ := hK hp; exact ⟨g, off, e, hc⟩)
/-- 'Right'. -/
theorem right_any (z : Z) (hn : zn z ≤ 21000) (hw : zw z ≤ 1048576) (w : World) (hG : Gl w) (v0 v1 v2 v3 : Value) (h : ZIn w (fun b => b < w.heap.size) z v0 v1 v2 v3) :
    Calls Tryd.prog 18 #[.agg #[v0, v1, v2, v3]] w (BoolPost w (Rgt 0 z)) := by
  obtain ⟨kids, hv⟩ := h.vt
  have hs := zpre_small (.mk z v0 v1 v2 v3 kids) 0 hv
  have hiff := zal_rgt (.mk z v0 v1 v2 v3 kids) 0 hv
  have := zright_any (.mk z v0 v1 v2 v3 kids) w hG hv (Nat.le_trans hs.2 (by show zn z ≤ _; omega)) (fun d x hx W hGW hxW => by
    have hb := hs.1 (d, x) hx
    exact alone_z d x W _ hGW hxW (Nat.le_trans hb.1 hn) (Nat.le_trans hb.2 hw))
  rw [hiff] at this
  exact this
end Go.Proofs.YtjcnjaebmndeiaaDoor
