/-
  Plain: what holds of the keys that JsonKeys has gathered; the text that it writes of them.
-/
import Derived.Test.YtjcnjaebmndeiaaDoorKym
import Derived.Test.YtjcnjaebmndeiaaDoorRfq
import Derived.Test.YtjcnjaebmndeiaaDoorQtr
import Derived.Test.YtjcnjaebmndeiaaDoorOpn
namespace Go.Proofs.YtjcnjaebmndeiaaDoor
open Go.RowKit

/-- What has been gathered of the first i keys. -/
def Kok (i : Nat) (rows : List (ByteArray × Nat)) : Prop := RowsOk [] rows ∧ rows.length ≤ i ∧ ∀ p, p ∈ rows → p.1.size ≤ 100 ∧ p.2 < i
theorem Kok.nil : Kok 0 [] := ⟨⟨fun p hp => by simp at hp, by simp⟩, by simp, fun p hp => by simp at hp⟩
theorem Kok.skip {i : Nat} {rows : List (ByteArray × Nat)} (h : Kok i rows) : Kok (i + 1) rows :=
  ⟨h.1, by have := h.2.1; omega, fun p hp => ⟨(h.2.2 p hp).1, by have := (h.2.2 p hp).2; omega⟩⟩
theorem Kok.next {i : Nat} {rows : List (ByteArray × Nat)} {x : ByteArray} (h : Kok i rows) (hi : i < 100) (hs : x.size ≤ 100) (hv : Lib.validD x.data.toList = true) (hx : inB (rows.map Prod.fst) x = false) : Kok (i + 1) (rows ++ [(x, i)]) := by
  have hx' : x ∉ rows.map Prod.fst := fun hm => by
    have := any_true hm
    unfold inB at hx
    rw [hx] at this
    cases this
  refine ⟨⟨fun p hp => ?_, ?_⟩, by have := h.2.1; simp; omega, fun p hp => ?_⟩
  · rcases List.mem_append.1 hp with hp | hp
    · exact h.1.1 p hp
    · rw [List.mem_singleton] at hp; subst hp; exact ⟨hv, hi⟩
  · have hnd := h.1.2
    rw [List.nil_append] at hnd ⊢
    rw [List.map_append, List.nodup_append]
    refine ⟨hnd, by simp, fun a ha b hb e => ?_⟩
    simp only [List.map_cons, List.map_nil, List.mem_singleton] at hb
    subst hb; subst e
    exact hx' ha
  · rcases List.mem_append.1 hp with hp | hp
    · exact ⟨(h.2.2 p hp).1, by have := (h.2.2 p hp).2; omega⟩
    · rw [List.mem_singleton] at hp; subst hp; exact ⟨hs, by simp⟩
theorem memK_len (p : ByteArray × Nat) (h1 : p.1.size ≤ 100) (h2 : p.2 < 100) : (memK p).length ≤ 605 := by
  have := (quoL_len p.1.data.toList).2
  rw [← size_len] at this
  have hd := (dgt_ok p.2 h2).2.2.1
  unfold memK
  simp only [List.length_cons, List.length_append]
  omega
theorem txtK_most : ∀ (rows : List (ByteArray × Nat)), (∀ p, p ∈ rows → p.1.size ≤ 100 ∧ p.2 < 100) → (txtK rows).length ≤ 606 * rows.length
  | [], _ => by simp [txtK]
  | p :: r, h => by
    have h1 := memK_len p (h p (by simp)).1 (h p (by simp)).2
    have h2 := txtK_most r (fun q hq => h q (by simp [hq]))
    rw [txtK]
    simp only [List.length_cons, List.length_append]
    omega
theorem Kok.text {i : Nat} {rows : List (ByteArray × Nat)} (h : Kok i rows) (hi : i ≤ 20) : (txtK rows).length ≤ 12120 := by
  have := txtK_most rows (fun p hp => ⟨(h.2.2 p hp).1, by have := (h.2.2 p hp).2; omega⟩)
  have := h.2.1
  omega
theorem str_data (l : Bs) : (str l).data.toList = l := rfl
theorem one_data (c : UInt8) : (⟨#[c]⟩ : ByteArray).data.toList = [c] := rfl
/-- What the round writes. -/
theorem key_text (rows : List (ByteArray × Nat)) (x : ByteArray) (k : Nat) :
    str (txtK rows) ++ (⟨#[44]⟩ : ByteArray) ++ str (34 :: (quoL x.data.toList ++ [34])) ++ (⟨#[58]⟩ : ByteArray) ++ str (dgt k) = str (txtK (rows ++ [(x, k)])) := by
  rw [qstr_cat, qstr_cat, qstr_cat, qstr_cat, txtK_app]
  rw [str_data, str_data, one_data, one_data, txtK, txtK]
  unfold memK
  simp
theorem quo_size (x : ByteArray) (h : x.size ≤ 100) : (str (34 :: (quoL x.data.toList ++ [34]))).size ≤ 602 := by
  have := (quoL_len x.data.toList).2
  rw [← size_len] at this
  rw [qstr_size]
  simp only [List.length_cons, List.length_append, List.length_nil]
  omega
theorem dgt_size (k : Nat) (h : k < 100) : (str (dgt k)).size ≤ 2 := by
  rw [qstr_size]; exact (dgt_ok k h).2.2.1
/-- The object's text. -/
theorem obj_text (rows : List (ByteArray × Nat)) : (⟨#[123]⟩ : ByteArray) ++ (str (txtK rows)).extract 1 (str (txtK rows)).size ++ (⟨#[125]⟩ : ByteArray) = str (123 :: (bodyK rows ++ [125])) := by
  apply Go.WideShapes.bytes_inj
  rw [ByteArray.data_append, ByteArray.data_append]
  rw [Array.toList_append, Array.toList_append, ByteArray.data_extract, Array.toList_extract, str_data, str_data, one_data, one_data]
  rw [qstr_size, List.extract_eq_take_drop, List.take_of_length_le (by simp), bodyK_eq]
  rfl
/-- .. with one key more. -/
theorem twice_text (rows : List (ByteArray × Nat)) (x : ByteArray) : (⟨#[123]⟩ : ByteArray) ++ (str (txtK rows)).extract 1 (str (txtK rows)).size ++ (⟨#[44]⟩ : ByteArray) ++ str (34 :: (quoL x.data.toList ++ [34])) ++ (⟨#[58, 110, 117, 108, 108, 125]⟩ : ByteArray) = str (123 :: (bodyK rows ++ 44 :: 34 :: (quoL x.data.toList ++ 34 :: 58 :: [110, 117, 108, 108, 125]))) := by
  apply Go.WideShapes.bytes_inj
  rw [ByteArray.data_append, ByteArray.data_append, ByteArray.data_append, ByteArray.data_append]
  rw [Array.toList_append, Array.toList_append, Array.toList_append, Array.toList_append, ByteArray.data_extract, Array.toList_extract, str_data, str_data, one_data, one_data]
  rw [qstr_size, List.extract_eq_take_drop, List.take_of_length_le (by simp), bodyK_eq]
  show _ ++ _ ++ _ ++ _ ++ [58, 110, 117, 108, 108, 125] = _
  simp [str]
theorem bodyK_len (rows : List (ByteArray × Nat)) (h : (txtK rows).length ≤ 12120) : (bodyK rows).length ≤ 12120 := by
  rw [← bodyK_eq, List.length_drop]; omega
/-- An owned row of texts is a slice of texts. -/
theorem own_sls {w : World} {B : Nat} {v : Value} {ks : List ByteArray} (h : w.ownsRow B 9 1 v ks.length (ks.map Value.string)) : ∃ A cap, v = .slice A ks.length cap ∧ SlS w A ks ∧ (v.ownBlock = none ∨ ∃ g, v.ownBlock = some g ∧ A = some ⟨g, 0, none⟩) := by
  rcases h.2 with ⟨rfl, h0⟩ | ⟨g, cap, cur, rfl, hb, hg, hn, hm, hz, ht⟩
  · exact ⟨none, 0, by rw [h0], fun hp => by omega, .inl rfl⟩
  · refine ⟨_, cap, rfl, fun hp => ⟨g, 0, rfl, fun i s hs => ?_⟩, .inr ⟨g, rfl, rfl⟩⟩
    rw [cell_of_row w g _ cur 9 (0, 0) hg, Nat.zero_add]
    have h1 : (cur.toList.take (ks.length * 1))[i]? = some (Value.string s) := by rw [ht, List.getElem?_map, hs]; rfl
    rw [List.getElem?_take] at h1
    split at h1
    · simpa using h1
    · cases h1
theorem SlS.fr {w w' : World} {A : Option Addr} {ks : List ByteArray} (h : SlS w A ks) (hf : Fr w w' (fun _ => True)) : SlS w' A ks := fun hp => by
  obtain ⟨g, off, e, hc⟩ := h hp
  exact ⟨g, off, e, fun i s hs => hf.cell (hc i s hs) trivial⟩
end Go.Proofs.YtjcnjaebmndeiaaDoor
