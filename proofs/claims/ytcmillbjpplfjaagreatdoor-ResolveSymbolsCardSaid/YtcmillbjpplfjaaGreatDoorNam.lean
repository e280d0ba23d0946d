/-
  'Short' of the program and of the reference; whether a text is among some; 'Named' of both.
-/
import Derived.Test.YtcmillbjpplfjaaGreatDoorMbs
import Derived.Lib.LastIndexByte
namespace Go.Proofs.YtcmillbjpplfjaaGreatDoor
open Go.RowKit

/-- The place of the first one of which p holds, counted from k on, or -1. -/
def firstI {α : Type} (p : α → Bool) : List α → Nat → Int
  | [], _ => -1
  | a :: r, k => if p a = true then (k : Int) else firstI p r (k + 1)
theorem firstI_yes {α : Type} {p : α → Bool} {xs : List α} {k : Nat} {a : α} (h : xs[k]? = some a) (ha : p a = true) : firstI p (xs.drop k) k = k := by
  have hk := (List.getElem?_eq_some_iff.1 h).1
  have he := (List.getElem?_eq_some_iff.1 h).2
  rw [List.drop_eq_getElem_cons hk, he, firstI, if_pos ha]
theorem firstI_no {α : Type} {p : α → Bool} {xs : List α} {k : Nat} {a : α} (h : xs[k]? = some a) (ha : p a = false) : firstI p (xs.drop k) k = firstI p (xs.drop (k + 1)) (k + 1) := by
  have hk := (List.getElem?_eq_some_iff.1 h).1
  have he := (List.getElem?_eq_some_iff.1 h).2
  rw [List.drop_eq_getElem_cons hk, he, firstI, if_neg (by rw [ha]; simp)]
theorem firstI_end {α : Type} {p : α → Bool} {xs : List α} {k : Nat} (h : xs.length ≤ k) : firstI p (xs.drop k) k = -1 := by
  rw [List.drop_of_length_le h, firstI]
theorem firstI_spec {α : Type} (p : α → Bool) : ∀ (xs : List α) (k : Nat), (firstI p xs k = -1 ∧ ∀ a, a ∈ xs → p a = false) ∨ (∃ i a, xs[i]? = some a ∧ firstI p xs k = (k + i : Nat) ∧ p a = true ∧ ∀ j b, j < i → xs[j]? = some b → p b = false)
  | [], k => .inl ⟨rfl, by simp⟩
  | a :: r, k => by
    cases ha : p a with
    | true => exact .inr ⟨0, a, rfl, by rw [firstI, if_pos ha]; rfl, ha, fun j b hj => by omega⟩
    | false =>
      have e : firstI p (a :: r) k = firstI p r (k + 1) := by rw [firstI, if_neg (by rw [ha]; simp)]
      rcases firstI_spec p r (k + 1) with ⟨h1, h2⟩ | ⟨i, b, h1, h2, h3, h4⟩
      · refine .inl ⟨by rw [e, h1], fun x hx => ?_⟩
        rcases List.mem_cons.1 hx with rfl | hx
        · exact ha
        · exact h2 x hx
      · refine .inr ⟨i + 1, b, by simpa using h1, by rw [e, h2]; omega, h3, fun j x hj hx => ?_⟩
        rcases j with _ | j
        · simp only [List.getElem?_cons_zero, Option.some.injEq] at hx
          rw [← hx]; exact ha
        · exact h4 j x (by omega) (by simpa using hx)

def lastI (s : ByteArray) : Int := Lib.lastIndexByte s 46
theorem lastI_bd (s : ByteArray) : 0 ≤ lastI s + 1 ∧ lastI s + 1 ≤ (s.size : Int) := by
  unfold lastI
  rcases Lib.lastIndexByte_spec s 46 with ⟨h, _⟩ | ⟨i, hi, h, _⟩ <;> rw [h] <;> omega
/-- The last piece of a name. -/
def shortS (s : ByteArray) : ByteArray := s.extract (lastI s + 1).toNat s.size
set_option maxHeartbeats 1000000 in
theorem byte_any (s : ByteArray) (w : World) (hs : s.size ≤ maxLen) : Calls Tryz.prog 226 #[.string s, .int .u8 46] w fun e w' => e = .returned (.int .i64 (lastI s)) ∧ w = w' := by
  unfold maxLen at hs
  go_enter Tryz.func226, Tryz.ntmps226
  go_wp2
  go_loopg [5] s.size (fun g i wr => ∃ x : Int, i = .int .i64 x ∧ x = (g : Int) - 1 ∧ g ≤ s.size ∧ Hid (lastI s = Lib.lastIdx s 46 g) ∧ w = wr)
  case atStart => exact ⟨_, rfl, rfl, Nat.le_refl _, Lib.hid rfl, rfl⟩
  case round =>
    obtain ⟨x, rfl, hx, hg, HN, rfl⟩ := hrel
    rcases gk with _ | m
    · have hk : decide (0 ≤ x) = false := by rw [hx]; simp
      clear hx
      go_wp2
      go_ret
      refine ⟨?_, rfl⟩
      rw [HN.out]
      rfl
    · obtain rfl : x = (m : Int) := by omega
      clear hx
      have hlt : m < s.size := by omega
      have hb : s.data[m]! = s[m] := by
        have : s.data[m]! = s.data[m]'hlt := by rw [getElem!_pos]
        rw [this]; rfl
      have HB := Lib.hid hb
      clear hb
      generalize hc : s[m] = c at *
      have hcs : s[m] = c := hc
      clear hc
      by_cases h46 : ((c.toNat : Int) == 46) = true
      · have HC := Lib.hid h46
        go_wp2
        go_ret
        refine ⟨?_, rfl⟩
        rw [HN.out, Lib.lastIdx_hit _ _ _ (by rw [HB.out]; simpa using HC.out)]
        rfl
      · have h47 : ((c.toNat : Int) == 46) = false := by simpa using h46
        have HC := Lib.hid h46
        clear h46
        go_wp2
        go_roundg m
        case measure => omega
        case rel => exact ⟨_, rfl, rfl, by omega, Lib.hid (by rw [HN.out, Lib.lastIdx_miss _ _ _ (by rw [HB.out]; simpa using HC.out)]), rfl⟩
set_option maxHeartbeats 1000000 in
theorem last_any (s : ByteArray) (w : World) (hs : s.size ≤ maxLen) : Calls Tryz.prog 210 #[.string s, .string ⟨#[46]⟩] w fun e w' => e = .returned (.int .i64 (lastI s)) ∧ w = w' := by
  have hc := byte_any s w hs
  go_enter Tryz.func210, Tryz.ntmps210
  go_wp2_with (go_at_call 226; refine hc.mono ?_; rintro e w1 ⟨rfl, rfl⟩)
  go_ret
  exact ⟨rfl, rfl⟩
set_option maxHeartbeats 1000000 in
theorem short_any (s : ByteArray) (w : World) (hs : s.size ≤ maxLen) : Calls Tryz.prog 196 #[.string s] w fun e w' => e = .returned (.string (shortS s)) ∧ w = w' := by
  have hc := last_any s w hs
  unfold maxLen at hs
  obtain ⟨h1, h2⟩ := lastI_bd s
  have HS : Hid (shortS s = s.extract (lastI s + 1).toNat s.size) := rfl
  generalize shortS s = R at *
  generalize lastI s = p at *
  go_enter Tryz.func196, Tryz.ntmps196
  go_wp2_with (go_at_call 210; refine hc.mono ?_; rintro e w1 ⟨rfl, rfl⟩)
  go_ret
  exact ⟨by rw [HS.out]; rfl, rfl⟩
set_option maxHeartbeats 1000000 in
theorem rlast_any (s : ByteArray) (w : World) (hs : s.size ≤ maxLen) : Calls Tryz.prog 144 #[.string s] w fun e w' => e = .returned (.int .i64 (lastI s)) ∧ w = w' := by
  unfold maxLen at hs
  go_enter Tryz.func144, Tryz.ntmps144
  go_wp2
  go_loopg [3] s.size (fun g i wr => ∃ x : Int, i = .int .i64 x ∧ x = (g : Int) - 1 ∧ g ≤ s.size ∧ Hid (lastI s = Lib.lastIdx s 46 g) ∧ w = wr)
  case atStart => exact ⟨_, rfl, rfl, Nat.le_refl _, Lib.hid rfl, rfl⟩
  case round =>
    obtain ⟨x, rfl, hx, hg, HN, rfl⟩ := hrel
    rcases gk with _ | m
    · have hk : decide (0 ≤ x) = false := by rw [hx]; simp
      clear hx
      go_wp2
      go_ret
      refine ⟨?_, rfl⟩
      rw [HN.out]
      rfl
    · obtain rfl : x = (m : Int) := by omega
      clear hx
      have hlt : m < s.size := by omega
      have hb : s.data[m]! = s[m] := by
        have : s.data[m]! = s.data[m]'hlt := by rw [getElem!_pos]
        rw [this]; rfl
      have HB := Lib.hid hb
      clear hb
      generalize hc : s[m] = c at *
      have hcs : s[m] = c := hc
      clear hc
      by_cases h46 : ((c.toNat : Int) == 46) = true
      · have HC := Lib.hid h46
        go_wp2
        go_ret
        refine ⟨?_, rfl⟩
        rw [HN.out, Lib.lastIdx_hit _ _ _ (by rw [HB.out]; simpa using HC.out)]
        rfl
      · have h47 : ((c.toNat : Int) == 46) = false := by simpa using h46
        have HC := Lib.hid h46
        clear h46
        go_wp2
        go_roundg m
        case measure => omega
        case rel => exact ⟨_, rfl, rfl, by omega, Lib.hid (by rw [HN.out, Lib.lastIdx_miss _ _ _ (by rw [HB.out]; simpa using HC.out)]), rfl⟩
set_option maxHeartbeats 1000000 in
theorem rshort_any (s : ByteArray) (w : World) (hs : s.size ≤ maxLen) : Calls Tryz.prog 155 #[.string s] w fun e w' => e = .returned (.string (shortS s)) ∧ w = w' := by
  have hc := rlast_any s w hs
  unfold maxLen at hs
  obtain ⟨h1, h2⟩ := lastI_bd s
  have HS : Hid (shortS s = s.extract (lastI s + 1).toNat s.size) := rfl
  generalize shortS s = R at *
  generalize lastI s = p at *
  go_enter Tryz.func155, Tryz.ntmps155
  go_wp2_with (go_at_call 144; refine hc.mono ?_; rintro e w1 ⟨rfl, rfl⟩)
  go_ret
  exact ⟨by rw [HS.out]; rfl, rfl⟩

/-- Is x among them? -/
def eqB (x s : ByteArray) : Bool := x.data.toList == s.data.toList
def inS (ss : List ByteArray) (x : ByteArray) : Bool := ss.any (eqB x)
theorem inS_first (ss : List ByteArray) (x : ByteArray) : decide (0 ≤ firstI (eqB x) ss 0) = inS ss x := by
  unfold inS
  rcases firstI_spec (eqB x) ss 0 with ⟨h1, h2⟩ | ⟨i, a, h1, h2, h3, _⟩
  · rw [h1, show ss.any (eqB x) = false by rw [List.any_eq_false]; intro a ha; rw [h2 a ha]; simp]; rfl
  · rw [h2, show ss.any (eqB x) = true by rw [List.any_eq_true]; exact ⟨a, List.mem_of_getElem? h1, h3⟩]
    simp
set_option maxHeartbeats 1000000 in
theorem index_any (ss : List ByteArray) (x : ByteArray) (v : Value) (w : World) (ok : Nat → Prop) (h : StrsAt w ok ss v) : Calls Tryz.prog 125 #[v, .string x] w fun e w' => e = .returned (.int .i64 (firstI (eqB x) ss 0)) ∧ w = w' := by
  obtain ⟨A, cap, rfl, h1, h2, _, h4⟩ := h
  unfold maxLen at h2
  have H4 := Lib.hid h4
  clear h4
  go_enter Tryz.func125, Tryz.ntmps125
  go_wp2
  go_loopg [8] ss.length (fun g i wr => ∃ k : Nat, k + g = ss.length ∧ i = .int .i64 (k : Int) ∧ Hid (firstI (eqB x) ss 0 = firstI (eqB x) (ss.drop k) k) ∧ w = wr)
  case atStart => exact ⟨0, by omega, rfl, Lib.hid rfl, rfl⟩
  case round =>
    obtain ⟨k, hg, rfl, HN, rfl⟩ := hrel
    have HG := Lib.hid hg
    clear hg
    by_cases hlt : k < ss.length
    · obtain ⟨s, hs⟩ : ∃ s, ss[k]? = some s := ⟨_, List.getElem?_eq_getElem hlt⟩
      obtain ⟨g, off, rfl, _, hc⟩ := H4.out (by omega)
      have hx := hc k s hs
      have HS := Lib.hid hs
      clear hc hs
      cases he : eqB x s with
      | true =>
        have he' : (x.toList == s.toList) = true := by rw [Lib.toList_data, Lib.toList_data]; exact he
        have HE := Lib.hid he
        clear he
        go_wp2
        go_ret
        exact ⟨by rw [HN.out, firstI_yes HS.out HE.out]; rfl, rfl⟩
      | false =>
        have he' : (x.toList == s.toList) = false := by rw [Lib.toList_data, Lib.toList_data]; exact he
        have HE := Lib.hid he
        clear he
        go_wp2
        go_roundg (ss.length - (k + 1))
        case measure => have := HG.out; omega
        case rel => exact ⟨k + 1, by omega, by go_num, Lib.hid (by rw [HN.out, firstI_no HS.out HE.out]), rfl⟩
    · have hk := HG.out
      go_wp2
      go_ret
      exact ⟨by rw [HN.out, firstI_end (by omega)]; rfl, rfl⟩
set_option maxHeartbeats 1000000 in
theorem contains_any (ss : List ByteArray) (x : ByteArray) (v : Value) (w : World) (ok : Nat → Prop) (h : StrsAt w ok ss v) : Calls Tryz.prog 197 #[v, .string x] w fun e w' => e = .returned (.bool (inS ss x)) ∧ w = w' := by
  have hc := index_any ss x v w ok h
  have hi := Lib.hid (inS_first ss x)
  generalize inS ss x = B at *
  generalize firstI (eqB x) ss 0 = p at *
  go_enter Tryz.func197, Tryz.ntmps197
  go_wp2_with (go_at_call 125; refine hc.mono ?_; rintro e w1 ⟨rfl, rfl⟩)
  go_ret
  exact ⟨by rw [← hi.out]; rfl, rfl⟩
theorem eqB_comm (x s : ByteArray) : (s.data.toList == x.data.toList) = eqB x s := by
  unfold eqB
  rw [Bool.eq_iff_iff]
  simp only [beq_iff_eq]
  exact eq_comm
theorem inS_end {ss : List ByteArray} {x : ByteArray} {k : Nat} (h : firstI (eqB x) ss 0 = firstI (eqB x) (ss.drop k) k) (hk : ss.length ≤ k) : inS ss x = false := by
  rw [← inS_first, h, firstI_end hk]; rfl
theorem inS_yes {ss : List ByteArray} {x : ByteArray} {k : Nat} {s : ByteArray} (hs : ss[k]? = some s) (he : eqB x s = true) : inS ss x = true := by
  unfold inS; rw [List.any_eq_true]; exact ⟨s, List.mem_of_getElem? hs, he⟩
set_option maxHeartbeats 1000000 in
theorem in_any (ss : List ByteArray) (x : ByteArray) (v : Value) (w : World) (ok : Nat → Prop) (h : StrsAt w ok ss v) : Calls Tryz.prog 25 #[v, .string x] w fun e w' => e = .returned (.bool (inS ss x)) ∧ w = w' := by
  obtain ⟨A, cap, rfl, h1, h2, _, h4⟩ := h
  unfold maxLen at h2
  have H4 := Lib.hid h4
  clear h4
  go_enter Tryz.func25, Tryz.ntmps25
  go_wp2
  go_loopg [5] ss.length (fun g i wr => ∃ k : Nat, k + g = ss.length ∧ i = .int .i64 (k : Int) ∧ Hid (firstI (eqB x) ss 0 = firstI (eqB x) (ss.drop k) k) ∧ w = wr)
  case atStart => exact ⟨0, by omega, rfl, Lib.hid rfl, rfl⟩
  case round =>
    obtain ⟨k, hg, rfl, HN, rfl⟩ := hrel
    have HG := Lib.hid hg
    clear hg
    by_cases hlt : k < ss.length
    · obtain ⟨s, hs⟩ : ∃ s, ss[k]? = some s := ⟨_, List.getElem?_eq_getElem hlt⟩
      obtain ⟨g, off, rfl, _, hc⟩ := H4.out (by omega)
      have hx := hc k s hs
      have HS := Lib.hid hs
      clear hc hs
      cases he : eqB x s with
      | true =>
        have he' : (s.toList == x.toList) = true := by rw [Lib.toList_data, Lib.toList_data, eqB_comm]; exact he
        have HE := Lib.hid he
        clear he
        go_wp2
        go_ret
        exact ⟨by rw [inS_yes HS.out HE.out]; rfl, rfl⟩
      | false =>
        have he' : (s.toList == x.toList) = false := by rw [Lib.toList_data, Lib.toList_data, eqB_comm]; exact he
        have HE := Lib.hid he
        clear he
        go_wp2
        go_roundg (ss.length - (k + 1))
        case measure => have := HG.out; omega
        case rel => exact ⟨k + 1, by omega, by go_num, Lib.hid (by rw [HN.out, firstI_no HS.out HE.out]), rfl⟩
    · have hk := HG.out
      go_wp2
      go_ret
      exact ⟨by rw [inS_end HN.out (by omega)]; rfl, rfl⟩

/-- Whether the names of two nodes go together. -/
def eqS (a b : ByteArray) : Bool := a.toList == b.toList
def namedB (w r : Nd) : Bool := eqS (shortS w.name) (shortS r.name) || inS r.al w.name
end Go.Proofs.YtcmillbjpplfjaaGreatDoor
