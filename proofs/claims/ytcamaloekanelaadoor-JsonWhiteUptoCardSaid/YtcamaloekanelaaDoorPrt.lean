/-
  'appendValue' of an array, a number, a string; 'Print'.
-/
import Derived.Test.YtcamaloekanelaaDoorMemb
import Derived.Test.YtcamaloekanelaaDoorShelfV
import Derived.Deep.RegionWith
namespace Go.Proofs.YtcamaloekanelaaDoor
open Go.RowKit

theorem app_string_at {w : World} {B : Nat} {v : Value} {l : Bs} {s : ByteArray} {ty : TypeId} (i : TypeInfo) (hi : Tryd.prog.info? 5 = some i) (hz : i.zero = some (.int .u8 0)) (hsize : i.size = 1) (hby : i.bytes = 1) (hown : w.ownsRow B 5 1 v l.length (Lib.byteCells l)) (hb : l.length + s.size ≤ 10000000) (hB : B ≤ w.heap.size) :
    ∃ v' w', (Builtin.append_ #[50, 9] ty #[v, .string s]).run Tryd.prog w = .ok v' w' ∧ w'.ownsRow B 5 1 v' (l ++ s.data.toList).length (Lib.byteCells (l ++ s.data.toList)) ∧ w.grownBy w' v.ownBlock ∧ (v'.ownBlock = v.ownBlock ∨ ∃ g, v'.ownBlock = some g ∧ w.heap.size ≤ g) := by
  have hm : l.length + s.size ≤ maxLen := by unfold maxLen; omega
  obtain ⟨v', w', hr, h1, h2, h3⟩ := Lib.run_append_own_string (P := Tryd.prog) w B 50 9 ty 5 i Tryd.underlying50 Tryd.underlying9 hi hz hsize hby v _ _ hown s hm (by omega) hB
  refine ⟨v', w', hr, by rw [Lib.byteCells_append, List.length_append, ← size_len]; exact h1, h2, ?_⟩
  rcases hown.2 with ⟨rfl, h0⟩ | ⟨g, cap, cur, rfl, hb', hg, hn, hcm, hcs, htk⟩
  · obtain ⟨v2, w2, hr2, h12, _, _⟩ := Lib.run_append_own_string (P := Tryd.prog) w w.heap.size 50 9 ty 5 i Tryd.underlying50 Tryd.underlying9 hi hz hsize hby (.slice none 0 0) 0 [] (World.ownsRow_nil _ _ _ _) s (by omega) (by omega) (Nat.le_refl _)
    have e := hr.symm.trans hr2
    injection e with e1 e2
    subst e1
    cases hob : v'.ownBlock with
    | none => exact .inl rfl
    | some g => exact .inr ⟨g, rfl, (h12.lt g hob).1⟩
  · by_cases hroom : l.length + s.size ≤ cap
    · have hr2 := Lib.run_append_room_string (P := Tryd.prog) w 50 9 ty 5 i Tryd.underlying50 Tryd.underlying9 hi hsize g l.length cap cur hg s hroom (by omega)
      have e := hr.symm.trans hr2
      injection e with e1 e2
      subst e1
      exact .inl rfl
    · have holds : ∀ j u, (Lib.byteCells l)[j]? = some u → w.cell? ((⟨g, 0, none⟩ : Addr).add j) = some u := hown.cells (g := g) rfl
      have hr2 := Lib.run_append_grow_string (P := Tryd.prog) w 50 9 ty 5 i (.int .u8 0) Tryd.underlying50 Tryd.underlying9 hi hz ⟨g, 0, none⟩ l.length cap (Lib.byteCells l) (by rw [hsize, Lib.byteCells_length]; omega) holds s (by omega) (by omega) (by rw [hby]; exact growslice_fits (by omega) (by omega))
      have e := hr.symm.trans hr2
      injection e with e1 e2
      subst e1
      exact .inr ⟨w.heap.size, rfl, Nat.le_refl _⟩
theorem wp_app_string {w : World} {ops : Array Oper} {rest : List Oper} {o : Oper} {a : Act} {Q : Exit → Act → World → Prop} (hgd : o.guard = none) (sl x : Operand) (ho : o.op = .call { callee := .builtin .append, args := #[sl, x], argTypes := #[50, 9] })
    (i : TypeInfo) (hi : Tryd.prog.info? 5 = some i) (hz : i.zero = some (.int .u8 0)) (hsize : i.size = 1) (hby : i.bytes = 1) (B : Nat) (v : Value) (l : Bs) (hs : a.eval sl = v) (hown : w.ownsRow B 5 1 v l.length (Lib.byteCells l)) (s : ByteArray) (hx : a.eval x = .string s) (hb : l.length + s.size ≤ 10000000) (hB : B ≤ w.heap.size)
    (h : ∀ v' w', w'.ownsRow B 5 1 v' (l ++ s.data.toList).length (Lib.byteCells (l ++ s.data.toList)) → w.grownBy w' v.ownBlock → (v'.ownBlock = v.ownBlock ∨ ∃ g, v'.ownBlock = some g ∧ w.heap.size ≤ g) → wpList Tryd.prog ops Q rest (a.put o.dst v') w') : wpList Tryd.prog ops Q (o :: rest) a w := by
  refine wpList_plain hgd fun K hK => ?_
  obtain ⟨v', w', hr, h2, h3, h4⟩ := app_string_at (ty := o.type) i hi hz hsize hby hown hb hB
  unfold Oper.wp execOp
  simp only [ho, resolve, invoke, builtin, Sem.run_bind, Sem.run_pure, Result.andThen_ok, List.map_toArray, List.map_cons, List.map_nil, hs, hx, hr]
  exact hK _ _ (h v' w' h2 h3 h4)

set_option maxHeartbeats 1000000 in
set_option maxRecDepth 100000 in
theorem value_num (B : Nat) (v : Value) (l : Bs) (t : ByteArray) (A A' : Option Addr) (n1 c1 n2 c2 : Nat) (w : World) (hown : w.ownsRow B 5 1 v l.length (Lib.byteCells l)) (hB : B ≤ w.heap.size) (hl : l.length + t.size ≤ 10000000) :
    Calls Tryd.prog 46 #[v, jv 4 t A A' n1 c1 n2 c2] w (AppPost w B v (l ++ t.data.toList)) := by
  obtain ⟨i0, hi, hz0, hz1, hz2⟩ := info_parts Tryd.info5
  go_enter Tryd.func46, Tryd.ntmps46
  go_wp2_with (at_builtin; refine wp_app_string rfl _ _ rfl i0 hi hz0 hz1 hz2 B _ l rfl (hown.alloc _) t rfl hl (by simp; omega) ?_; intro v5 w5 ho5 hg5 hb5)
  go_ret
  refine ⟨v5, rfl, ho5, gtrans (World.grownBy_alloc w _ _) hg5, ?_⟩
  rcases hb5 with e | ⟨g, e, hg⟩
  · exact .inl e
  · exact .inr ⟨g, e, by simp at hg; omega⟩
set_option maxHeartbeats 1000000 in
set_option maxRecDepth 100000 in
theorem value_st (B : Nat) (v : Value) (l : Bs) (t : ByteArray) (A A' : Option Addr) (n1 c1 n2 c2 : Nat) (w : World) (hown : w.ownsRow B 5 1 v l.length (Lib.byteCells l)) (hB : B ≤ w.heap.size) (hl : l.length ≤ 1000000) (ht : t.size ≤ 1000000) (hp : Plain8 t.data.toList) :
    Calls Tryd.prog 46 #[v, jv 5 t A A' n1 c1 n2 c2] w (AppPost w B v (l ++ ([34] ++ t.data.toList ++ [34]))) := by
  have hc := appString B v l t (w.alloc (.cells #[.int .i64 5, .string t, .slice A n1 c1, .slice A' n2 c2] 26)) (hown.alloc _) (by simp; omega) hl ht hp
  clear hp
  go_enter Tryd.func46, Tryd.ntmps46
  go_wp2_with fail
  refine hc.mono ?_
  rintro e w5 ⟨v5, rfl, ho5, hg5, hb5⟩
  go_wp2
  go_ret
  refine ⟨v5, rfl, by simpa using ho5, gtrans (World.grownBy_alloc w _ _) hg5, ?_⟩
  rcases hb5 with e | ⟨g, e, hg⟩
  · exact .inl e
  · exact .inr ⟨g, e, by simp at hg; omega⟩
end Go.Proofs.YtcamaloekanelaaDoor
