/-
  The signs of a text; 'Print' of a string.
-/
import Derived.Test.YtjcnjaebmndeiaaDoorFour
import Derived.Test.YtjcnjaebmndeiaaDoorApv
import Derived.Test.YtjcnjaebmndeiaaDoorAwk
import Derived.Laws.IdiomStrings
namespace Go.Proofs.YtjcnjaebmndeiaaDoor
open Go.RowKit

theorem runes_eq (s : ByteArray) : ∀ (n i : Nat) (acc : Array Value), Conv.runesFrom s n i acc = acc ++ ((runesN n (s.data.toList.drop i)).map fun c => Value.int .i32 (Int.ofNat c)).toArray
  | 0, i, acc => by simp [Conv.runesFrom, runesN]
  | n + 1, i, acc => by
    unfold Conv.runesFrom
    by_cases h : i < s.size
    · rw [if_pos h]
      have hd := Lib.decodeL_drop s i
      cases hx : s.data.toList.drop i with
      | nil => rw [List.drop_eq_nil_iff] at hx; rw [size_len] at h; omega
      | cons c t =>
        rw [hx] at hd
        simp only
        rw [runes_eq s n, runesN, ← List.drop_drop, hx, hd]
        simp
    · rw [if_neg h]
      have hx : s.data.toList.drop i = [] := List.drop_eq_nil_iff.2 (by rw [← size_len]; omega)
      rw [hx]
      simp [runesN]
theorem value_stq (B : Nat) (v : Value) (l : Bs) (t : ByteArray) (A A' : Option Addr) (n1 c1 n2 c2 : Nat) (w : World) (hown : w.ownsRow B 5 1 v l.length (Lib.byteCells l)) (hB : B ≤ w.heap.size) (hl : l.length ≤ 1000000) (ht : t.size ≤ 1000000) :
    Calls Tryd.prog 46 #[v, jv 5 t A A' n1 c1 n2 c2] w (AppPost w B v (l ++ [34] ++ quoL t.data.toList ++ [34])) := by
  have h := value_sq B v l t A A' n1 c1 n2 c2 w hown hB (by omega) (by omega)
  rw [show l ++ [34] ++ quoL t.data.toList ++ [34] = l ++ (34 :: (quoL t.data.toList ++ [34])) by simp]
  exact h
theorem right_str (t : ByteArray) (w : World) (hG : Gl w) (ht : t.size ≤ 1000000) (hv : Lib.validD t.data.toList = true) :
    Calls Tryd.prog 18 #[jv 5 t none none 0 0 0 0] w fun e w' => e = .returned (.bool true) ∧ Below w.heap.size w w' := by
  have hpre : pre 0 (.mk (.mk 5 t [] []) (.int .i64 5) (.string t) (.slice none 0 0) (.slice none 0 0) []) = [(0, .mk (.mk 5 t [] []) (.int .i64 5) (.string t) (.slice none 0 0) (.slice none 0 0) [])] := by
    simp only [pre, preL]
  refine right_true (.mk (.mk 5 t [] []) (.int .i64 5) (.string t) (.slice none 0 0) (.slice none 0 0) []) w hG ?_ (by rw [hpre]; simp) ?_
  · exact .mk _ _ _ _ _ _ ⟨none, 0, rfl, Nat.le_refl _, by unfold maxLen; omega, fun h => by simp at h⟩ (JIn.leaf _ _ 5 t) rfl (fun x hx => by cases hx)
  · intro d x hx W hW _
    rw [hpre] at hx
    simp only [List.mem_cons, List.not_mem_nil, or_false, Prod.mk.injEq] at hx
    obtain ⟨rfl, rfl⟩ := hx
    refine alone_str 0 0 0 t none none W hW (fun W' hG' => ?_)
    have := Tryd.utf8_ValidString t W' (by omega) hG'.u8
    rw [hv] at this
    exact this
set_option maxHeartbeats 1000000 in
set_option maxRecDepth 100000 in
theorem print_str (t : ByteArray) (w : World) (hG : Gl w) (ht : t.size ≤ 100000) (hv : Lib.validD t.data.toList = true) :
    Calls Tryd.prog 20 #[jv 5 t none none 0 0 0 0] w fun e w' => e = .returned (.string (str (34 :: (quoL t.data.toList ++ [34])))) ∧ Below w.heap.size w w' := by
  have hb0 : Below w.heap.size w (w.alloc (.cells #[.int .i64 5, .string t, .slice none 0 0, .slice none 0 0] 26)) := (Below.refl _ _).alloc (Nat.le_refl _) _
  have hbx := heap_alloc_new w (.cells #[.int .i64 5, .string t, .slice none 0 0, .slice none 0 0] 26 (0, 0))
  have hr0 := right_str t _ (hG.below hb0) (by omega) hv
  have hs0 : w.heap.size < (w.alloc (.cells #[.int .i64 5, .string t, .slice none 0 0, .slice none 0 0] 26)).heap.size := by simp
  have hq : (quoL t.data.toList).length ≤ 6 * t.size := by rw [size_len]; exact (quoL_len _).2
  have HQ := Lib.hid hq
  clear hv hG hq
  go_enter Tryd.func20, Tryd.ntmps20
  go_wp2_with fail
  refine hr0.mono ?_
  rintro e w1 ⟨rfl, hb1⟩
  have hB1 : w1.heap[w.heap.size]? = some (.cells #[.int .i64 5, .string t, .slice none 0 0, .slice none 0 0] 26) := (hb1.block _ hs0).trans hbx
  have q0 : w1.cell? ⟨w.heap.size, 0, none⟩ = some (.int .i64 5) := cell_of_row w1 _ 0 _ _ _ hB1
  have q1 : w1.cell? ⟨w.heap.size, 1, none⟩ = some (.string t) := cell_of_row w1 _ 1 _ _ _ hB1
  have q2 : w1.cell? ⟨w.heap.size, 2, none⟩ = some (.slice none 0 0) := cell_of_row w1 _ 2 _ _ _ hB1
  have q3 : w1.cell? ⟨w.heap.size, 3, none⟩ = some (.slice none 0 0) := cell_of_row w1 _ 3 _ _ _ hB1
  have hsz := hb1.size
  have hcall := value_stq w1.heap.size (.slice none 0 0) [] t none none 0 0 0 0 w1 (World.ownsRow_nil _ _ _ _) (Nat.le_refl _) (by simp) (by omega)
  clear hB1 hbx hr0
  go_wp2_with fail
  refine hcall.mono ?_
  rintro e w2 ⟨v2, rfl, hown2, hg2, _⟩
  have hcv := run_string_own hown2
  go_wp2
  go_ret
  refine ⟨?_, hb0.trans ((hb1.mono (by omega)).trans ((?_ : Below w1.heap.size w1 w2).mono (by omega)))⟩
  · simp [str]
  · exact ⟨hg2.os, hg2.tape, hg2.output, hg2.size, fun k hk => hg2.block k hk (by simp [Value.ownBlock])⟩
end Go.Proofs.YtjcnjaebmndeiaaDoor
