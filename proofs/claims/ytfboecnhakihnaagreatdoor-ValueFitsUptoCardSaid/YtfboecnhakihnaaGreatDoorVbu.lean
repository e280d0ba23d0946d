/-
  DERIVED: THE SHELF's CONTRACTS AT THIS DUMP, IN PLAIN WORDS (tools/lay-plain.mjs out of 'TryzShelf.lean', which tools/lay-shelf.mjs wrote): THE SAME DECLARATIONS UNDER THE SAME NAMES: 'import', 'namespace', 'open', 'def', 'theorem' AND NOTHING ELSE: no command of the shelf's: FOR A HAND-IN. Each laying: the table of numbers ('.._ren') and one theorem, a field a fact of the dump's own or the kernel's comparison; each contract: ONE APPLICATION.
  DERIVED: THE SHELF's CONTRACTS AT THIS DUMP, IN PLAIN WORDS (tools/lay-plain.mjs out of 'TrydShelfV.lean', which tools/lay-shelf.mjs wrote): THE SAME DECLARATIONS UNDER THE SAME NAMES: 'import', 'namespace', 'open', 'def', 'theorem' AND NOTHING ELSE: no command of the shelf's: FOR A HAND-IN. Each laying: the table of numbers ('.._ren') and one theorem, a field a fact of the dump's own or the kernel's comparison; each contract: ONE APPLICATION.
  Plain: keys, each UTF-8, none there twice; in order, those that are alike stand side by side.
  'unlike' of any keys.
  What one node asks, told whole: UTF-8 of bytes, and keys that are unlike.
-/
import Derived.Shelf.Slices.In.SortNone
import Derived.Test.YtfboecnhakihnaaGreatDoorShelf
import Derived.Shelf.Unicode.ValidAny
import Derived.Test.YtfboecnhakihnaaGreatDoorProg
import Derived.Test.YtfboecnhakihnaaGreatDoorVv
import Derived.Sort.OwnSorted
import Derived.Test.YtfboecnhakihnaaGreatDoorBia
namespace Go.Proofs
open Go.Shelf
open Go.RowKit Go.Sort in
theorem Tryz.slices_Sort_string_none (p : Option Addr) (cap : Nat) (w : World) :
    Calls Tryz.prog 100 #[.slice p 0 cap] w fun e w' => e = .returned (.tuple #[]) ∧ w' = w := Any.slices_Sort_string_none Tryz.lays190 p cap w
end Go.Proofs

namespace Go.Proofs
open Go.Shelf
def Tryz.lays196_ren : Go.Shelf.Ren := ⟨fun | 196 => 34 | 259 => 57 | n => n, fun | 9 => 9 | 4 => 4 | 3 => 3 | 5 => 5 | 12 => 12 | 119 => 108 | 0 => 0 | 46 => 55 | 139 => 111 | 138 => 110 | 53 => 142 | n => n, fun | 3 => 0 | 4 => 1 | n => n⟩
theorem Tryz.lays196 : Go.Proofs.Lays.n196 Tryz.prog Tryz.lays196_ren := {
  mixed := by kernel_rfl
  f196 := Tryz.func34.trans (congrArg some (by kernel_rfl))
  f259 := Tryz.func57.trans (congrArg some (by kernel_rfl))
  t0 := Tryz.underlying0
  a0 := Tryz.isAgg0
  z0 := Tryz.sizeOf0
  v0 := Tryz.zeroValue0
  t3 := Tryz.underlying3
  a3 := Tryz.isAgg3
  z3 := Tryz.sizeOf3
  v3 := Tryz.zeroValue3
  t4 := Tryz.underlying4
  a4 := Tryz.isAgg4
  z4 := Tryz.sizeOf4
  v4 := Tryz.zeroValue4
  t5 := Tryz.underlying5
  a5 := Tryz.isAgg5
  z5 := Tryz.sizeOf5
  v5 := Tryz.zeroValue5
  t9 := Tryz.underlying9
  a9 := Tryz.isAgg9
  z9 := Tryz.sizeOf9
  v9 := Tryz.zeroValue9
  t12 := Tryz.underlying12
  a12 := Tryz.isAgg12
  z12 := Tryz.sizeOf12
  v12 := Tryz.zeroValue12
  t46 := Tryz.underlying55
  a46 := Tryz.isAgg55
  z46 := Tryz.sizeOf55
  v46 := Tryz.zeroValue55
  t53 := Tryz.underlying142
  a53 := Tryz.isAgg142
  z53 := Tryz.sizeOf142
  v53 := Tryz.zeroValue142
  t119 := Tryz.underlying108
  a119 := Tryz.isAgg108
  z119 := Tryz.sizeOf108
  t138 := Tryz.underlying110
  a138 := Tryz.isAgg110
  z138 := Tryz.sizeOf110
  v138 := Tryz.zeroValue110
  t139 := Tryz.underlying111
  a139 := Tryz.isAgg111
  z139 := Tryz.sizeOf111
  v139 := Tryz.zeroValue111
  g3 := by kernel_rfl
  g4 := by kernel_rfl }
open Go.RowKit in
/-- unicode/utf8.ValidString at every string. -/
theorem Tryz.utf8_ValidString (s : ByteArray) (w : World) (hs : s.size ≤ 9223372036854775807) (hT : Lib.Utf8Tabs 0 1 w) :
    Calls Tryz.prog 34 #[.string s] w fun e w' => e = .returned (.bool (Lib.validD s.data.toList)) ∧ Below w.heap.size w w' := Any.utf8_ValidString Tryz.lays196 s w hs hT
end Go.Proofs

namespace Go.Proofs.YtfboecnhakihnaaGreatDoor
open Go.RowKit

abbrev bsL (s : ByteArray) : List UInt8 := s.data.toList
theorem bsL_inj {a b : ByteArray} (h : bsL a = bsL b) : a = b := by
  cases a with | mk x => cases b with | mk y => simp only [bsL] at h; rw [Array.toList_inj.1 h]
/-- Are all UTF-8, and none there twice? -/
def ubM (ks : List ByteArray) : Bool := ks.all (fun s => Lib.validD (bsL s)) && decide ((ks.map bsL).Nodup)
abbrev sortL (ks : List ByteArray) : List (List UInt8) := (ks.map bsL).mergeSort fun x y => decide (x ≤ y)
theorem sortL_perm (ks : List ByteArray) : (sortL ks).Perm (ks.map bsL) := List.mergeSort_perm _ _
theorem sortL_len (ks : List ByteArray) : (sortL ks).length = ks.length := by rw [(sortL_perm ks).length_eq, List.length_map]
theorem sortL_le (ks : List ByteArray) : (sortL ks).Pairwise (fun a b => a ≤ b) := by
  have tr : ∀ a b c : List UInt8, decide (a ≤ b) = true → decide (b ≤ c) = true → decide (a ≤ c) = true := fun a b c h1 h2 => by simp only [decide_eq_true_eq] at *; exact List.le_trans h1 h2
  have tot : ∀ a b : List UInt8, (decide (a ≤ b) || decide (b ≤ a)) = true := fun a b => by simp only [Bool.or_eq_true, decide_eq_true_eq]; exact List.le_total a b
  have h := List.pairwise_mergeSort tr tot (ks.map bsL)
  exact h.imp (fun hab => by simpa using hab)
theorem nodup_adj (L : List (List UInt8)) (hs : L.Pairwise (fun a b => a ≤ b)) (ha : ∀ i a b, L[i]? = some a → L[i + 1]? = some b → a ≠ b) : L.Nodup := by
  rw [List.Nodup, List.pairwise_iff_getElem]
  rw [List.pairwise_iff_getElem] at hs
  intro i j hi hj hij he
  obtain ⟨m, rfl⟩ : ∃ m, j = m + 1 := ⟨j - 1, by omega⟩
  have hm : m < L.length := by omega
  have h1 : L[i] ≤ L[m] := by
    rcases Nat.eq_or_lt_of_le (show i ≤ m by omega) with e | e
    · subst e; exact List.le_refl _
    · exact hs i m hi hm e
  have h2 : L[m] ≤ L[m + 1] := hs m (m + 1) hm hj (by omega)
  have h3 : L[m] = L[m + 1] := List.le_antisymm h2 (he ▸ h1)
  exact ha m _ _ (List.getElem?_eq_getElem hm) (List.getElem?_eq_getElem hj) h3
/-- What the program asks at each place. -/
def okU (L : List (List UInt8)) (i : Nat) : Prop := ∃ a, L[i]? = some a ∧ Lib.validD a = true ∧ (0 < i → L[i - 1]? ≠ some a)
theorem ub_true {ks : List ByteArray} (h : ∀ i, i < ks.length → okU (sortL ks) i) : ubM ks = true := by
  unfold ubM
  simp only [Bool.and_eq_true, List.all_eq_true, decide_eq_true_eq]
  refine ⟨fun s hs => ?_, ?_⟩
  · have hm : bsL s ∈ sortL ks := (sortL_perm ks).mem_iff.2 (List.mem_map_of_mem hs)
    obtain ⟨i, hi⟩ := List.mem_iff_getElem?.1 hm
    have hl : i < ks.length := by
      rw [← sortL_len]
      rcases Nat.lt_or_ge i (sortL ks).length with h | h
      · exact h
      · rw [List.getElem?_eq_none h] at hi; cases hi
    obtain ⟨a, ha, hv, _⟩ := h i hl
    rw [hi] at ha
    cases ha
    exact hv
  · refine (sortL_perm ks).nodup_iff.1 (nodup_adj _ (sortL_le ks) (fun i a b h1 h2 e => ?_))
    have hl : i + 1 < ks.length := by
      rw [← sortL_len]
      rcases Nat.lt_or_ge (i + 1) (sortL ks).length with h | h
      · exact h
      · rw [List.getElem?_eq_none h] at h2; cases h2
    obtain ⟨c, hc, _, hn⟩ := h (i + 1) hl
    rw [h2] at hc
    cases hc
    exact hn (by omega) (by rw [Nat.add_sub_cancel, h1, e])
theorem ub_invalid {ks : List ByteArray} {i : Nat} {a : List UInt8} (h : (sortL ks)[i]? = some a) (hv : Lib.validD a = false) : ubM ks = false := by
  have hm : a ∈ ks.map bsL := (sortL_perm ks).mem_iff.1 (List.mem_of_getElem? h)
  obtain ⟨s, hs, rfl⟩ := List.mem_map.1 hm
  unfold ubM
  have : ks.all (fun s => Lib.validD (bsL s)) = false := by
    rw [List.all_eq_false]
    exact ⟨s, hs, by simp [hv]⟩
  rw [this, Bool.false_and]
theorem ub_twice {ks : List ByteArray} {i : Nat} {a : List UInt8} (h : (sortL ks)[i]? = some a) (h2 : (sortL ks)[i + 1]? = some a) : ubM ks = false := by
  unfold ubM
  have : decide ((ks.map bsL).Nodup) = false := by
    rw [decide_eq_false_iff_not]
    intro hn
    have hp := (sortL_perm ks).nodup_iff.2 hn
    rw [List.Nodup, List.pairwise_iff_getElem] at hp
    obtain ⟨h3, h4⟩ := List.getElem?_eq_some_iff.1 h
    obtain ⟨h5, h6⟩ := List.getElem?_eq_some_iff.1 h2
    exact hp i (i + 1) h3 h5 (by omega) (h4.trans h6.symm)
  rw [this, Bool.and_false]
/-- The reference's way: each, and none ahead of it alike. -/
theorem ub_ref_true {ks : List ByteArray} (h : ∀ i s, ks[i]? = some s → Lib.validD (bsL s) = true ∧ ¬ s ∈ ks.take i) : ubM ks = true := by
  unfold ubM
  simp only [Bool.and_eq_true, List.all_eq_true, decide_eq_true_eq]
  refine ⟨fun s hs => ?_, ?_⟩
  · obtain ⟨i, hi⟩ := List.mem_iff_getElem?.1 hs
    exact (h i s hi).1
  · rw [List.Nodup, List.pairwise_map, List.pairwise_iff_getElem]
    intro i j hi hj hij he
    have := (h j _ (List.getElem?_eq_getElem hj)).2
    refine this ?_
    rw [← bsL_inj he]
    exact List.mem_take_iff_getElem.2 ⟨i, by omega, rfl⟩
theorem ub_ref_invalid {ks : List ByteArray} {i : Nat} {s : ByteArray} (h : ks[i]? = some s) (hv : Lib.validD (bsL s) = false) : ubM ks = false := by
  unfold ubM
  have : ks.all (fun s => Lib.validD (bsL s)) = false := by
    rw [List.all_eq_false]
    exact ⟨s, List.mem_of_getElem? h, by simp [hv]⟩
  rw [this, Bool.false_and]
theorem ub_ref_twice {ks : List ByteArray} {i : Nat} {s : ByteArray} (h : ks[i]? = some s) (hm : s ∈ ks.take i) : ubM ks = false := by
  unfold ubM
  have : decide ((ks.map bsL).Nodup) = false := by
    rw [decide_eq_false_iff_not]
    intro hn
    rw [List.Nodup, List.pairwise_map, List.pairwise_iff_getElem] at hn
    obtain ⟨j, hj, hjs⟩ := List.mem_take_iff_getElem.1 hm
    obtain ⟨h3, h4⟩ := List.getElem?_eq_some_iff.1 h
    exact hn j i (by omega) h3 (by omega) (by rw [hjs, h4])
  rw [this, Bool.and_false]
end Go.Proofs.YtfboecnhakihnaaGreatDoor

namespace Go.Proofs.YtfboecnhakihnaaGreatDoor
open Go.RowKit Go.Shelf Go.Sort

theorem encStr_bs (s : ByteArray) : encStr (bsL s) = .string s := by
  cases s; simp [encStr, bsL]
theorem ub_nil : ubM [] = true := by simp [ubM]
theorem own_cells {w : World} {base n : Nat} {e : TypeId} {v : Value} {xs : List Value} (h : w.ownsRow base e 1 v n xs) (hn : 0 < n) :
    ∃ g cap cur, v = .slice (some ⟨g, 0, none⟩) n cap ∧ base ≤ g ∧ w.heap[g]? = some (.cells cur e (0, 0)) ∧ n ≤ cap ∧ cap ≤ maxLen ∧ cur.size = cap * 1 ∧ cur.toList.take (n * 1) = xs := by
  rcases h.2 with ⟨_, h0⟩ | ⟨g, cap, cur, hv, hb, hh, hnc, hcm, hs, ht⟩
  · omega
  · exact ⟨g, cap, cur, hv, hb, hh, hnc, hcm, hs, ht⟩
theorem sort_at {ks : List ByteArray} {i : Nat} (hi : i < ks.length) : ∃ s, s ∈ ks ∧ (sortL ks)[i]? = some (bsL s) := by
  have hl : i < (sortL ks).length := by rw [sortL_len]; exact hi
  have hm : (sortL ks)[i] ∈ ks.map bsL := (sortL_perm ks).mem_iff.1 (List.getElem_mem hl)
  obtain ⟨s, hs, e⟩ := List.mem_map.1 hm
  exact ⟨s, hs, by rw [List.getElem?_eq_getElem hl, e]⟩
set_option maxHeartbeats 4000000 in
set_option maxRecDepth 100000 in
theorem unlike_any (ks : List ByteArray) (A : Option Addr) (cap : Nat) (w : World) (hn : ks.length ≤ 1000000) (hs : ∀ s, s ∈ ks → s.size ≤ maxLen)
    (hK : 0 < ks.length → ∃ g off, A = some ⟨g, off, none⟩ ∧ ∀ i s, ks[i]? = some s → w.cell? ⟨g, off + i, none⟩ = some (.string s)) (hT : Lib.Utf8Tabs 0 1 w) :
    Calls Tryz.prog 83 #[.slice A ks.length cap] w fun e w' => e = .returned (.bool (ubM ks)) ∧ Below w.heap.size w w' := by
  by_cases h0 : ks = []
  · subst h0
    rw [ub_nil]
    clear hK hT hs
    cases A with
    | none =>
      have hcl := Tryz.slices_Clone_string_nil 0 cap w
      have hso := Tryz.slices_Sort_string_none none 0 w
      go_enter Tryz.func83, Tryz.ntmps83
      go_wp2
      go_step3
      go_wp2_with fail
      refine hcl.mono ?_
      rintro e1 w1 ⟨rfl, rfl⟩
      go_wp2_with fail
      refine hso.mono ?_
      rintro e2 w2 ⟨rfl, rfl⟩
      go_wp2
      go_step3
      go_wp2
      go_loopg [12] 0 (fun g i wx => i = .int .i64 0 ∧ wx = w2)
      case atStart => exact ⟨rfl, rfl⟩
      case round =>
        obtain ⟨rfl, rfl⟩ := hrel
        go_wp2
        rw [Exit.noGoto_ret]
        go_ret
        exact ⟨rfl, Below.refl _ _⟩
    | some a =>
      have hcl := Tryz.slices_Clone_string_zero a cap w
      go_enter Tryz.func83, Tryz.ntmps83
      go_wp2
      go_step3
      go_wp2_with fail
      refine hcl.mono ?_
      rintro e1 w1 ⟨v1, rfl, hown, hne, hb⟩
      obtain ⟨A1, c1, rfl⟩ := own_form hown
      have hso := Tryz.slices_Sort_string_none A1 c1 w1
      clear hown hne
      go_wp2_with fail
      refine hso.mono ?_
      rintro e2 w2 ⟨rfl, rfl⟩
      go_wp2
      go_step3
      go_wp2
      go_loopg [12] 0 (fun g i wx => i = .int .i64 0 ∧ wx = w2)
      case atStart => exact ⟨rfl, rfl⟩
      case round =>
        obtain ⟨rfl, rfl⟩ := hrel
        go_wp2
        rw [Exit.noGoto_ret]
        go_ret
        exact ⟨rfl, hb⟩
  · have hpos : 0 < ks.length := List.length_pos_iff.2 h0
    obtain ⟨gk0, off, rfl, hcK⟩ := hK hpos
    have hcl := Tryz.slices_Clone_string gk0 off ks.length cap ks w (Nat.le_refl _) (by omega) (fun j hj => by rw [List.getD_eq_getElem?_getD, List.getElem?_eq_getElem hj]; exact hcK j _ (List.getElem?_eq_getElem hj))
    rw [List.take_length] at hcl
    have HS := Lib.hid hs
    have HT := Lib.hid hT
    clear hK hcK hs hT h0
    obtain ⟨n, hnn⟩ : ∃ n, ks.length = n := ⟨_, rfl⟩
    have HN := Lib.hid hnn
    rw [hnn] at hcl hpos hn ⊢
    clear hnn
    go_enter Tryz.func83, Tryz.ntmps83
    go_wp2
    go_step3
    go_wp2_with fail
    refine hcl.mono ?_
    rintro e1 w1 ⟨v1, rfl, hown, hne, hb1⟩
    clear hcl
    obtain ⟨g, cap1, cur, rfl, hgb, hheap, hnc, hcm, hsz, htk⟩ := own_cells hown hpos
    have hH : Holds encStr w1 g 0 (ks.map bsL).toArray := by
      intro j hj
      simp only [List.size_toArray, List.length_map] at hj
      have h1 : (ks.map bsL).toArray[j]! = bsL ks[j] := by simp [hj]
      rw [h1, encStr_bs, Nat.zero_add]
      exact ⟨by have := hown.cells (g := g) rfl j (.string ks[j]) (by simp [hj]); rwa [addr_add, Nat.zero_add] at this, frozen_of_row w1 g j _ _ hheap⟩
    have hso := Tryz.slices_Sort_string g 0 cap1 (ks.map bsL) w1 hH (blk_lt hheap) (by rw [List.length_map, HN.out]; omega)
    rw [List.length_map, HN.out] at hso
    have HB1 := Lib.hid hb1
    have HHP := Lib.hid hheap
    have HSZ := Lib.hid hsz
    clear hb1 hH hne hown hheap htk hsz
    go_wp2_with fail
    refine hso.mono ?_
    rintro e2 w2 ⟨rfl, m, os, hw2⟩
    have hlen : (sortL ks).length = n := by rw [sortL_len, HN.out]
    have hown2 : w2.ownsRow w.heap.size 9 1 (.slice (some ⟨g, 0, none⟩) n cap1) n ((sortL ks).map encStr) := by
      have := ownsRow_sorted (w := w1) (base := w.heap.size) (n := m) (os := os) (ss := ks.map bsL) (ts := sortL ks) (by rw [hlen, List.length_map, HN.out]) hgb HHP.out (by rw [List.length_map, HN.out]; exact hnc) hcm HSZ.out
      rw [List.length_map, HN.out, ← hw2] at this
      exact this
    have hb2 : Below w.heap.size w w2 := HB1.out.grown (by rw [hw2]; exact grownBy_sorted _) HB1.out.size (fun k hk => by cases hk; exact hgb)
    have HOWN := Lib.hid hown2
    have HB2 := Lib.hid hb2
    have HLEN := Lib.hid hlen
    clear hso hw2 hown2 hb2 hlen hnc hcm hgb
    go_wp2
    go_step3
    go_wp2
    go_loopg [12] n (fun g' i wx => ∃ q : Nat, q + g' = n ∧ i = .int .i64 q ∧ (∀ j, j < q → okU (sortL ks) j) ∧ Below w2.heap.size w2 wx)
    case atStart => exact ⟨0, by omega, rfl, fun j hj => absurd hj (by omega), Below.refl _ _⟩
    case round =>
      obtain ⟨q, hq, rfl, hok, hbx⟩ := hrel
      have HOK := Lib.hid hok
      clear hok
      by_cases hlt : q < n
      · obtain ⟨s, hsm, hsq⟩ := sort_at (ks := ks) (i := q) (by rw [HN.out]; exact hlt)
        have hcell : wr.cell? ⟨g, q, none⟩ = some (.string s) := by
          have := HOWN.out.cells (g := g) rfl q (.string s) (by rw [List.getElem?_map, hsq]; simp [encStr_bs])
          rw [addr_add, Nat.zero_add] at this
          exact (below_fr0 hbx).cell this trivial
        have hqi : (q : Int) < (n : Int) := by omega
        have hval := Tryz.utf8_ValidString s wr (Nat.le_trans (HS.out s hsm) (by unfold maxLen; omega)) (Utf8Tabs_below (Utf8Tabs_below HT.out HB2.out) hbx)
        obtain ⟨vb, hvb⟩ : ∃ vb, Lib.validD s.data.toList = vb := ⟨_, rfl⟩
        rw [hvb] at hval
        have HV := Lib.hid hvb
        have HSQ := Lib.hid hsq
        have HBX := Lib.hid hbx
        clear hvb hsq hbx hsm
        go_wp2_with fail
        refine hval.mono ?_
        rintro e3 w3 ⟨rfl, hb3⟩
        have hbb : Below w2.heap.size w2 w3 := HBX.out.trans (hb3.mono HBX.out.size)
        have HBB := Lib.hid hbb
        clear hval hcell hb3 hbb
        cases vb with
        | false =>
          have HF : Hid (ubM ks = false) := Lib.hid (ub_invalid HSQ.out HV.out)
          have hbr := HB2.out.trans (HBB.out.mono HB2.out.size)
          have HBR := Lib.hid hbr
          clear hbr
          go_wp2
          rw [Exit.noGoto_ret]
          go_ret
          exact ⟨by rw [HF.out]; rfl, HBR.out⟩
        | true =>
          by_cases hq0 : q = 0
          · subst hq0
            go_wp2
            go_roundg (n - 1)
            case measure => omega
            case rel => exact ⟨1, by omega, by go_num, (fun j hj => (by
              obtain rfl : j = 0 := (by omega)
              exact ⟨_, HSQ.out, HV.out, fun h => absurd h (by omega)⟩)), HBB.out⟩
          · obtain ⟨q', rfl⟩ : ∃ q', q = q' + 1 := ⟨q - 1, by omega⟩
            obtain ⟨s', hsm', hsq'⟩ := sort_at (ks := ks) (i := q') (by rw [HN.out]; omega)
            have hcell' : w3.cell? ⟨g, q', none⟩ = some (.string s') := by
              have := HOWN.out.cells (g := g) rfl q' (.string s') (by rw [List.getElem?_map, hsq']; simp [encStr_bs])
              rw [addr_add, Nat.zero_add] at this
              exact (below_fr0 HBB.out).cell this trivial
            have HSQ' := Lib.hid hsq'
            obtain ⟨p, hp⟩ : ∃ p, q' + 1 = p := ⟨_, rfl⟩
            have hp1 : (p : Int) - 1 = (q' : Int) := by omega
            have hp2 : ((p : Int) == 0) = false := by simp; omega
            have hp3 : IntKind.i64.wrap (q' : Int) = (q' : Int) := by simp [IntKind.wrap, IntKind.bits, IntKind.signed]; omega
            have hqn : q' < n := by omega
            have HP := Lib.hid hp
            rw [hp] at hqi hlt ⊢
            clear hsm' hsq' hp
            by_cases he : s' = s
            · subst he
              have HF : Hid (ubM ks = false) := Lib.hid (ub_twice (i := q') HSQ'.out HSQ.out)
              have hbr := HB2.out.trans (HBB.out.mono HB2.out.size)
              have HBR := Lib.hid hbr
              clear hbr
              go_wp2
              rw [Exit.noGoto_ret]
              go_ret
              exact ⟨by rw [HF.out]; rfl, HBR.out⟩
            · have he2 : (s'.toList == s.toList) = false := by
                rw [ByteArray.toList_eq, ByteArray.toList_eq]
                exact beq_eq_false_iff_ne.2 (fun e => he (bsL_inj e))
              go_wp2
              go_roundg (n - (p + 1))
              case measure => omega
              case rel =>
                refine ⟨p + 1, by omega, by go_num, fun j hj => ?_, HBB.out⟩
                rcases Nat.lt_or_ge j p with h | h
                · exact HOK.out j (by have := HP.out; omega)
                · obtain rfl : j = p := by omega
                  refine ⟨_, by rw [← HP.out]; exact HSQ.out, HV.out, fun _ e => ?_⟩
                  rw [show j - 1 = q' by have := HP.out; omega, HSQ'.out] at e
                  exact he (bsL_inj (Option.some.inj e))
      · have hqn : q = n := by omega
        have HT2 : Hid (ubM ks = true) := Lib.hid (ub_true (fun i hi => HOK.out i (by rw [HN.out] at hi; omega)))
        have hbr := HB2.out.trans (hbx.mono HB2.out.size)
        have HBR := Lib.hid hbr
        clear hbr hbx
        go_wp2
        rw [Exit.noGoto_ret]
        go_ret
        exact ⟨by rw [HT2.out]; rfl, HBR.out⟩
end Go.Proofs.YtfboecnhakihnaaGreatDoor

namespace Go.Proofs.YtfboecnhakihnaaGreatDoor
open Go.RowKit Go.Shelf

def vbM (b : List Int) : Bool := Lib.validD (b.map fun n => UInt8.ofNat n.toNat)
theorem vb_any (b : List Int) (B : Option Addr) (capb : Nat) (W : World) (hb : ∀ x, x ∈ b → 0 ≤ x ∧ x < 256) (hcap : b.length ≤ capb ∧ capb ≤ maxLen)
    (hB : 0 < b.length → ∃ g off, B = some ⟨g, off, none⟩ ∧ g < W.heap.size ∧ ∀ i x, b[i]? = some x → W.cell? ⟨g, off + i, none⟩ = some (.int .u8 x)) (hT : Lib.Utf8Tabs 0 1 W) :
    Calls Tryz.prog 32 #[.slice B b.length capb] W fun e w' => e = .returned (.bool (vbM b)) ∧ Below W.heap.size W w' := by
  have hs : (strOfNums b).size = b.length := strOfNums_size b
  have h := valid_any (strOfNums b) B capb W (by omega) hcap.2 (fun h0 => by
    obtain ⟨g, off, e, hg, hc⟩ := hB (by omega)
    refine ⟨g, off, e, hg, fun j hj => ?_⟩
    have hj2 : j < b.length := by omega
    rw [hc j _ (List.getElem?_eq_getElem hj2)]
    have hx := hb _ (List.getElem_mem hj2)
    have h1 : (strOfNums b).get! j = UInt8.ofNat (b[j]).toNat := by
      have : (strOfNums b).get! j = (strOfNums b).data[j]! := rfl
      rw [this]
      simp [strOfNums, hj2]
    rw [h1]
    congr 2
    simp
    omega) hT
  rw [hs] at h
  exact h
abbrev aM1 : Nd → U → Bool := aloneV vbM ubM
theorem alone_c1 (S : List Nd) (w : World) (hT : Lib.Utf8Tabs 0 1 w) : AloneC aM1 S w := by
  intro W hW nd c x d0 d1 d2 d3 d4 hnd hn hx hku
  refine alone_any vbM ubM nd c W _ _ hn x d0 d1 d2 d3 d4 hx (fun _ W2 hW2 => ?_) (fun _ W2 hW2 => ?_)
  · have hf := below_fr0 hW2
    cases hx with
    | mk k n b l ks B A A' capb cap cap' cc h1 h2 h3 h4 hcapb hcap hcap' hB hL hK hE =>
      exact vb_any b B capb W2 h3 hcapb (fun h0 => by
        obtain ⟨g, off, e, hg, hc⟩ := hB h0
        exact ⟨g, off, e, by have := hW.size; have := hW2.size; omega, fun i x hx => hf.cell (hc i x hx) trivial⟩) (Utf8Tabs_below (Utf8Tabs_below hT hW) hW2)
  · have hf := below_fr0 hW2
    cases hx with
    | mk k n b l ks B A A' capb cap cap' cc h1 h2 h3 h4 hcapb hcap hcap' hB hL hK hE =>
      rw [show uk (U.mk k n b l ks) = ks.length + ukL l from uk_l _] at hku
      exact unlike_any ks A' cap' W2 (by omega) h4 (fun h0 => by
        obtain ⟨g, off, e, hg, hc⟩ := hK h0
        exact ⟨g, off, e, fun i x hx => hf.cell (hc i x hx) trivial⟩) (Utf8Tabs_below (Utf8Tabs_below hT hW) hW2)
theorem leaves1 (S : List Nd) : Leaves aM1 S := alone_leaves _ _ S
end Go.Proofs.YtfboecnhakihnaaGreatDoor
