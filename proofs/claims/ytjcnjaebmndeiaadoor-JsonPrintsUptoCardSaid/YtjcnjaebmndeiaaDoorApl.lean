/-
  'appendValue' of a right one that has nothing within it.
-/
import Derived.Test.YtjcnjaebmndeiaaDoorZpq
import Derived.Test.YtjcnjaebmndeiaaDoorApv
namespace Go.Proofs.YtjcnjaebmndeiaaDoor
open Go.RowKit

theorem avalue_str (B : Nat) (v : Value) (l : Bs) (t : ByteArray) (A A' : Option Addr) (n1 c1 n2 c2 : Nat) (w : World) (hown : w.ownsRow B 5 1 v l.length (Lib.byteCells l)) (hB : B ≤ w.heap.size) (hl : l.length ≤ 190000000) (ht : t.size ≤ 1100000) :
    Calls Tryd.prog 46 #[v, jv 5 t A A' n1 c1 n2 c2] w (AppPost w B v (l ++ leafTx 5 t)) := value_sq B v l t A A' n1 c1 n2 c2 w hown hB hl ht
set_option maxHeartbeats 2000000 in
set_option maxRecDepth 100000 in
theorem value_word (B : Nat) (v : Value) (l : Bs) (k : Int) (hk : k = 1 ∨ k = 2 ∨ k = 3) (t : ByteArray) (A A' : Option Addr) (n1 c1 n2 c2 : Nat) (w : World) (hG : Gl w) (hown : w.ownsRow B 5 1 v l.length (Lib.byteCells l)) (hB : B ≤ w.heap.size) (hl : l.length ≤ 190000000) :
    Calls Tryd.prog 46 #[v, .agg #[.int .i64 k, .string t, .slice A n1 c1, .slice A' n2 c2]] w (AppPost w B v (l ++ leafTx k t)) := by
  obtain ⟨i0, hi, hz0, hz1, hz2⟩ := info_parts Tryd.info5
  have hG1 := hG.below ((Below.refl w.heap.size w).alloc (Nat.le_refl _) (.cells #[.int .i64 k, .string t, .slice A n1 c1, .slice A' n2 c2] 26))
  obtain ⟨_, g0, g1, g2, g3, _⟩ := hG1
  rcases hk with rfl | rfl | rfl
  all_goals
    go_enter Tryd.func46, Tryd.ntmps46
    go_wp2_with (at_builtin; refine wp_app_string rfl _ _ rfl i0 hi hz0 hz1 hz2 B _ l rfl (hown.alloc _) _ rfl (Nat.le_trans (Nat.add_le_add_left (show _ ≤ 5 by decide) _) (by omega)) (by simp; omega) ?_; intro v5 w5 ho5 hg5 hb5)
    go_ret
    refine ⟨v5, rfl, ho5, gtrans (World.grownBy_alloc w _ _) hg5, ?_⟩
    rcases hb5 with e | ⟨g, e, hg⟩
    · exact .inl e
    · exact .inr ⟨g, e, by simp at hg; omega⟩
/-- 'appendValue' of a leaf. -/
theorem value_leaf (B : Nat) (v : Value) (l : Bs) (k : Int) (t : ByteArray) (hlf : LeafP k t) (A A' : Option Addr) (n1 c1 n2 c2 : Nat) (w : World) (hG : Gl w) (hown : w.ownsRow B 5 1 v l.length (Lib.byteCells l)) (hB : B ≤ w.heap.size) (hl : l.length ≤ 190000000) (ht : t.size ≤ 1100000) :
    Calls Tryd.prog 46 #[v, .agg #[.int .i64 k, .string t, .slice A n1 c1, .slice A' n2 c2]] w (AppPost w B v (l ++ leafTx k t)) := by
  rcases hlf with ⟨hk, _⟩ | ⟨rfl, _⟩ | ⟨rfl, _⟩
  · exact value_word B v l k hk t A A' n1 c1 n2 c2 w hG hown hB hl
  · exact value_num B v l t A A' n1 c1 n2 c2 w hown hB (by omega)
  · exact avalue_str B v l t A A' n1 c1 n2 c2 w hown hB hl ht
end Go.Proofs.YtjcnjaebmndeiaaDoor
