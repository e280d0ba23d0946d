/-
  Where points stand: 'Cut', 'LastIndex', 'Contains' at a point; the reference's 'last'; 'Short', 'Space', 'Write' of both.
-/
import Derived.Test.YtikhdhnehceagaaSim
import Derived.Test.YtikhdhnehceagaaShelf
namespace Go.Proofs.Ytikhdhnehceagaa
open Go.RowKit

def str (l : Bs) : ByteArray := ⟨l.toArray⟩
theorem str_list (l : Bs) : (str l).data.toList = l := by simp [str]
theorem str_size (l : Bs) : (str l).size = l.length := by rw [size_len, str_list]
theorem ba_ext {a b : ByteArray} (h : a.data.toList = b.data.toList) : a = b := by
  cases a; cases b; congr 1; exact Array.toList_inj.1 h
theorem str_of (s : ByteArray) : s = str s.data.toList := ba_ext (by rw [str_list])
theorem ext_str (s : ByteArray) (i j : Nat) : s.extract i j = str ((s.data.toList.take j).drop i) := ba_ext (by rw [ext_list, str_list])
theorem simple_l (l : Bs) (w : World) (h : l.length ≤ 1000000) : Calls Try.prog 8 #[.string (str l)] w fun e w' => e = .returned (.bool (simpL l)) ∧ w = w' := by
  have := simple_ba (str l) w (by rw [str_size]; exact h)
  rwa [str_list] at this
theorem refSimple_l (l : Bs) (w : World) (h : l.length ≤ 1000000) : Calls Try.prog 9 #[.string (str l)] w fun e w' => e = .returned (.bool (simpL l)) ∧ w = w' := by
  have := refSimple_ba (str l) w (by rw [str_size]; exact h)
  rwa [str_list] at this

theorem index_miss {l : Bs} (h : (46 : UInt8) ∉ l) : Lib.indexByte l 46 = -1 := by
  induction l with
  | nil => rfl
  | cons c r ih =>
    have hc : (c == 46) = false := by simp; rintro rfl; exact h (by simp)
    simp [Lib.indexByte, hc, ih (fun hm => h (List.mem_cons_of_mem _ hm))]
theorem index_hit {a b : Bs} (h : (46 : UInt8) ∉ a) : Lib.indexByte (a ++ 46 :: b) 46 = a.length := by
  induction a with
  | nil => rfl
  | cons c r ih =>
    have hc : (c == 46) = false := by simp; rintro rfl; exact h (by simp)
    have := ih (fun hm => h (List.mem_cons_of_mem _ hm))
    rw [List.cons_append, Lib.indexByte, hc, this]
    have h2 : (((r.length : Int)) == -1) = false := by rw [beq_eq_false_iff_ne]; omega
    simp [h2]
theorem index_mem (l : Bs) : decide (0 ≤ Lib.indexByte l 46) = decide ((46 : UInt8) ∈ l) := by
  by_cases h : (46 : UInt8) ∈ l
  · obtain ⟨a, b, rfl, ha⟩ := split_first l h
    rw [index_hit ha]; simp
  · rw [index_miss h]; simp [h]
theorem contains_l (l : Bs) (w : World) : Calls Try.prog 27 #[.string (str l), .string ⟨#[46]⟩] w fun e w' => e = .returned (.bool (decide ((46 : UInt8) ∈ l))) ∧ w = w' := by
  refine (Try.strings_Contains_one (str l) 46 w).mono ?_
  rintro e w' ⟨rfl, rfl⟩
  rw [str_list, index_mem]
  exact ⟨rfl, rfl⟩
theorem cutPrefix_l (l : Bs) (w : World) : Calls Try.prog 34 #[.string (str l), .string ⟨#[46]⟩] w fun e w' => e = .returned (.tuple #[.string (str (if l.head? = some 46 then l.tail else l)), .bool (decide (l.head? = some 46))]) ∧ w = w' := by
  refine (Try.strings_CutPrefix (str l) ⟨#[46]⟩ w).mono ?_
  rintro e w' ⟨rfl, rfl⟩
  rw [str_list]
  refine ⟨?_, rfl⟩
  cases l with
  | nil => rfl
  | cons c r =>
    by_cases h : c = 46
    · subst h; rfl
    · have h1 : Lib.hasPrefix (c :: r) [46] = false := by simp [Lib.hasPrefix, List.isPrefixOf]; exact Ne.symm h
      show Ending.returned (.tuple #[.string (str (Lib.trimPrefix (c :: r) [46])), .bool (Lib.hasPrefix (c :: r) [46])]) = _
      simp [Lib.trimPrefix, h1, h]

theorem index35 (l : Bs) (w : World) : Calls Try.prog 37 #[.string (str l), .string ⟨#[46]⟩] w fun e w' => e = .returned (.int .i64 (Lib.indexByte l 46)) ∧ w = w' := by
  refine (Try.stringslite_Index_one (str l) 46 w).mono ?_
  rintro e w' ⟨rfl, rfl⟩
  rw [str_list]; exact ⟨rfl, rfl⟩
/-- What 'Cut' at a point leaves. -/
structure CutP (l a b : Bs) (f : Bool) : Prop where
  yes : f = true → l = a ++ 46 :: b ∧ (46 : UInt8) ∉ a
  no : f = false → a = l ∧ b = [] ∧ (46 : UInt8) ∉ l
set_option maxHeartbeats 1000000 in
theorem cut35 (l : Bs) (w : World) (hl : l.length ≤ 1000000) : Calls Try.prog 35 #[.string (str l), .string ⟨#[46]⟩] w fun e w' => ∃ a b f, e = .returned (.tuple #[.string (str a), .string (str b), .bool f]) ∧ CutP l a b f ∧ ∃ n, w' = w.drewN n := by
  by_cases h : (46 : UInt8) ∈ l
  · obtain ⟨a, b, rfl, ha⟩ := split_first l h
    have hi := index35 (a ++ 46 :: b) w
    rw [index_hit ha] at hi
    have hz : (str (a ++ 46 :: b)).size = a.length + (b.length + 1) := by rw [str_size]; simp
    have e1 : (str (a ++ 46 :: b)).extract 0 a.length = str a := by rw [ext_str, str_list]; simp
    have e2 : (str (a ++ 46 :: b)).extract (a.length + 1) (a.length + (b.length + 1)) = str b := by rw [ext_str, str_list]; congr 1; rw [List.take_of_length_le (by simp), List.drop_append]; simp
    have HP : Hid (CutP (a ++ 46 :: b) a b true) := ⟨fun _ => ⟨rfl, ha⟩, fun h => by cases h⟩
    generalize hs : str (a ++ 46 :: b) = s at *
    clear hs h ha
    have c0 : s.size ≤ 1000000 := by rw [hz]; simpa using hl
    clear hl
    have c1 : (0 : Int) ≤ (a.length : Int) := by omega
    have c2 : (a.length : Int) ≤ (s.size : Int) := by omega
    have c3 : (0 : Int) ≤ (a.length : Int) + 1 := by omega
    have c4 : (a.length : Int) + 1 ≤ (s.size : Int) := by omega
    have HE1 := Lib.hid e1
    have HE2 := Lib.hid e2
    have HZ := Lib.hid hz
    clear e1 e2 hz
    go_enter Try.func35, Try.ntmps35
    go_wp2_with (go_at_call 37; refine hi.mono ?_; rintro e w1 ⟨rfl, rfl⟩)
    go_region
    go_wp2
    go_ret3
    refine ⟨a, b, true, ?_, HP.out, 1, rfl⟩
    have h2 := HE2.out
    rw [← HZ.out] at h2
    show Ending.returned (.tuple #[.string (s.extract 0 a.length), .string (s.extract (a.length + 1) s.size), .bool true]) = _
    rw [HE1.out, h2]
  · have hi := index35 l w
    rw [index_miss h] at hi
    go_enter Try.func35, Try.ntmps35
    go_wp2_with (go_at_call 37; refine hi.mono ?_; rintro e w1 ⟨rfl, rfl⟩)
    go_ret3
    exact ⟨l, [], false, rfl, { yes := (fun h => by cases h), no := (fun _ => ⟨rfl, rfl, h⟩) }, 0, rfl⟩
theorem cut_any (l : Bs) (w : World) (hl : l.length ≤ 1000000) : Calls Try.prog 30 #[.string (str l), .string ⟨#[46]⟩] w fun e w' => ∃ a b f, e = .returned (.tuple #[.string (str a), .string (str b), .bool f]) ∧ CutP l a b f ∧ ∃ n, w' = w.drewN n := by
  have hc := cut35 l w hl
  go_enter Try.func30, Try.ntmps30
  go_wp2_with (go_at_call 35; refine hc.mono ?_; rintro e w1 ⟨a, b, f, rfl, hp, n, rfl⟩)
  go_ret3
  exact ⟨a, b, f, rfl, hp, n, rfl⟩

theorem lastP_none {l : Bs} (h : (46 : UInt8) ∉ l) : lastP l = -1 := by unfold lastP; rw [lastS_none l h]
theorem lastP_point {a b : Bs} (h : (46 : UInt8) ∉ b) : lastP (a ++ 46 :: b) = a.length := by unfold lastP; rw [lastS_point a b h]
theorem lastP_at {l : Bs} {k : Nat} (h : l[k]? = some 46) (hb : (46 : UInt8) ∉ l.drop (k + 1)) : lastP l = k := by
  have hk : k < l.length := by rcases Nat.lt_or_ge k l.length with h1 | h1; exact h1; rw [List.getElem?_eq_none h1] at h; cases h
  have hg : l[k] = 46 := by rw [List.getElem?_eq_getElem hk] at h; exact Option.some.inj h
  have e : l = l.take k ++ 46 :: l.drop (k + 1) := by
    conv => lhs; rw [← List.take_append_drop k l, List.drop_eq_getElem_cons hk, hg]
  rw [e, lastP_point hb]
  simp; omega
theorem drop_more {l : Bs} {k : Nat} {c : UInt8} (h : l[k]? = some c) (hc : c ≠ 46) (hb : (46 : UInt8) ∉ l.drop (k + 1)) : (46 : UInt8) ∉ l.drop k := by
  have hk : k < l.length := by rcases Nat.lt_or_ge k l.length with h1 | h1; exact h1; rw [List.getElem?_eq_none h1] at h; cases h
  have hg : l[k] = c := by rw [List.getElem?_eq_getElem hk] at h; exact Option.some.inj h
  rw [List.drop_eq_getElem_cons hk, hg]
  intro hm
  rcases List.mem_cons.1 hm with e | e
  · exact hc e.symm
  · exact hb e
theorem get_list {s : ByteArray} {k : Nat} (h : k < s.size) : s.data.toList[k]? = some s[k] := by
  rw [List.getElem?_eq_getElem (by rw [← size_len]; exact h)]
  rfl
set_option maxHeartbeats 1000000 in
theorem refLast_ba (s : ByteArray) (w : World) (hs : s.size ≤ 1000000) : Calls Try.prog 26 #[.string s] w fun e w' => e = .returned (.int .i64 (lastP s.data.toList)) ∧ w = w' := by
  go_enter Try.func26, Try.ntmps26
  go_wp2
  go_loopg [3] s.size (fun g i wr => ∃ x : Int, i = .int .i64 x ∧ x = (g : Int) - 1 ∧ g ≤ s.size ∧ Hid ((46 : UInt8) ∉ s.data.toList.drop g) ∧ w = wr)
  case atStart => exact ⟨_, rfl, rfl, Nat.le_refl _, (by show _ ∉ _; rw [List.drop_of_length_le (by rw [size_len]; exact Nat.le_refl _)]; simp), rfl⟩
  case round =>
    obtain ⟨x, rfl, hx, hg, HN, rfl⟩ := hrel
    have HX := Lib.hid hx
    rcases gk with _ | m
    · have hk : decide (0 ≤ x) = false := by rw [hx]; simp
      clear hx
      go_wp2
      go_ret
      refine ⟨?_, rfl⟩
      rw [lastP_none (by simpa using HN.out)]
      rfl
    · obtain rfl : x = (m : Int) := by omega
      clear hx
      have hlt : m < s.size := by omega
      have hget := get_list hlt
      generalize hc : s[m] = c at *
      have HGt := Lib.hid hget
      clear hget
      have hcs : s[m] = c := hc
      clear hc
      by_cases h46 : ((c.toNat : Int) == 46) = true
      · have HC := Lib.hid h46
        go_wp2
        go_ret
        refine ⟨?_, rfl⟩
        have hcc : c = 46 := UInt8.toNat.inj (by have := HC.out; simp only [beq_iff_eq] at this; show c.toNat = 46; omega)
        rw [lastP_at (hcc ▸ HGt.out) HN.out]
        rfl
      · have h47 : ((c.toNat : Int) == 46) = false := by simpa using h46
        have HC := Lib.hid h46
        clear h46
        go_wp2
        go_roundg m
        case measure => omega
        case rel => exact ⟨_, rfl, rfl, by omega, drop_more HGt.out (by rintro rfl; exact HC.out rfl) HN.out, rfl⟩
theorem refLast_l (l : Bs) (w : World) (h : l.length ≤ 1000000) : Calls Try.prog 26 #[.string (str l)] w fun e w' => e = .returned (.int .i64 (lastP l)) ∧ w = w' := by
  have := refLast_ba (str l) w (by rw [str_size]; exact h)
  rwa [str_list] at this
theorem bang_list (s : ByteArray) (j : Nat) (h : j < s.size) : s.data.toList[j]? = some (s.data[j]!) := by
  rw [get_list h]
  congr 1
  have : s.data[j]! = s.data[j]'h := by rw [getElem!_pos]
  rw [this]; rfl
theorem last_lib (s : ByteArray) : Lib.lastIndexByte s 46 = lastP s.data.toList := by
  rcases Lib.lastIdx_spec s 46 s.size with ⟨e, hn⟩ | ⟨i, hi, e, hc, hn⟩
  · rw [Lib.lastIndexByte, e, lastP_none]
    intro hm
    obtain ⟨j, hj, hg⟩ := List.mem_iff_getElem.1 hm
    have hj' : j < s.size := by rw [size_len]; exact hj
    have h1 := bang_list s j hj'
    rw [List.getElem?_eq_getElem hj, hg] at h1
    exact hn j hj' (by rw [← Option.some.inj h1]; rfl)
  · rw [Lib.lastIndexByte, e]
    have h1 := bang_list s i hi
    have h2 : s.data[i]! = 46 := UInt8.toNat.inj (by show _ = 46; omega)
    rw [h2] at h1
    refine (lastP_at h1 ?_).symm
    intro hm
    obtain ⟨j, hj, hg⟩ := List.mem_iff_getElem.1 hm
    rw [List.length_drop, ← size_len] at hj
    rw [List.getElem_drop] at hg
    have h3 := bang_list s (i + 1 + j) (by omega)
    rw [List.getElem?_eq_getElem (by rw [← size_len]; omega), hg] at h3
    exact hn (i + 1 + j) (by omega) (by omega) (by rw [← Option.some.inj h3]; rfl)
theorem last_l (l : Bs) (w : World) (h : l.length ≤ 1000000) : Calls Try.prog 25 #[.string (str l), .string ⟨#[46]⟩] w fun e w' => e = .returned (.int .i64 (lastP l)) ∧ w = w' := by
  refine (Try.strings_LastIndex_one (str l) ⟨#[46]⟩ rfl (by rw [str_size]; omega) w).mono ?_
  rintro e w' ⟨rfl, rfl⟩
  refine ⟨?_, rfl⟩
  have := last_lib (str l)
  rw [str_list] at this
  rw [← this]; rfl
theorem short_drop (l : Bs) : shortL l = l.drop (lastP l + 1).toNat ∧ 0 ≤ lastP l + 1 ∧ lastP l + 1 ≤ l.length ∧ spaceL l = l.take (max (lastP l) 0).toNat ∧ (max (lastP l) 0) ≤ l.length := by
  by_cases h : (46 : UInt8) ∈ l
  · obtain ⟨a, b, rfl, hb⟩ := split_last l h
    rw [lastP_point hb]
    simp only [shortL, spaceL, lastS_point a b hb]
    have e1 : ((a.length : Int) + 1).toNat = a.length + 1 := by omega
    have e2 : (max (a.length : Int) 0).toNat = a.length := by omega
    rw [e1, e2]
    refine ⟨?_, by omega, by simp; omega, by simp, by simp; omega⟩
    rw [List.drop_append]; simp
  · rw [lastP_none h]
    simp only [shortL, spaceL, lastS_none l h]
    refine ⟨by simp, by omega, by simp, by simp; exact .inl (by decide), by omega⟩
theorem mem_last (l : Bs) : decide ((46 : UInt8) ∈ l) = decide (0 ≤ lastP l) := by
  by_cases h : (46 : UInt8) ∈ l
  · obtain ⟨a, b, rfl, hb⟩ := split_last l h
    rw [lastP_point hb]; simp
  · rw [lastP_none h]; simp [h]
end Go.Proofs.Ytikhdhnehceagaa
