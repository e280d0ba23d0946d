/-
  The drawn region of 'out = append(out, v)' where an array's things are taken.
-/
import Derived.Test.YtcmillbjpplfjaaGreatDoorGnl
namespace Go.Proofs.YtcmillbjpplfjaaGreatDoor
open Go.RowKit Go.Shelf
attribute [local go_sem] Oper.semAt_some

theorem Tryz.info26 : (Tryz.prog.info? 26).map (fun i => (i.zero, i.size, i.bytes)) = some (some (.agg #[.int .i64 0, .int .i64 0, .slice none 0 0, .slice none 0 0, .slice none 0 0]), 5, 88) := by kernel_rfl
theorem wp_append0 {P : Program} {o : Oper} {a : Act} {w w' : World} {K : Act → World → Prop} {Q : Exit → Act → World → Prop} (s x : Operand) (t : TypeId) (ho : o.op = .call { callee := .builtin .append, args := #[s, x], argTypes := #[t, t] }) {v sl v' : Value} (hs : a.eval s = v) (hx : a.eval x = sl)
    (hr : (Builtin.append_ #[t, t] o.type #[v, sl]).run P w = .ok v' w') (h : K (a.put o.dst v') w') : o.wp P a w K Q := by
  unfold Oper.wp execOp
  simp only [ho, resolve, invoke, builtin, Sem.run_bind, Sem.run_pure, Result.andThen_ok, List.map_toArray, List.map_cons, List.map_nil, hs, hx, hr, Oper.upon]
  exact h
theorem fr_more {W w w' : World} {ok : Nat → Prop} {g : Nat} (h : Fr W w ok) (h2 : Fr w w' (fun k => k ≠ g)) (hk : ∀ k, k < W.heap.size → ok k → k ≠ g) : Fr W w' ok :=
  ⟨h2.os.trans h.os, h2.tape.trans h.tape, h2.output.trans h.output, Nat.le_trans h.size h2.size, fun k hl ho => (h2.block k (Nat.lt_of_lt_of_le hl h.size) (hk k hl ho)).trans (h.block k hl ho)⟩
theorem set_fr (w : World) (g j : Nat) (v : Value) : Fr w (w.setCell ⟨g, j, none⟩ v) (fun k => k ≠ g) := Fr.of (gset w g j v) (fun b _ hb e => hb (by cases e; rfl))
theorem set5_fr (w : World) (g j : Nat) (v0 v1 v2 v3 v4 : Value) : Fr w (((((w.setCell ⟨g, j, none⟩ v0).setCell ⟨g, j + 1, none⟩ v1).setCell ⟨g, j + 2, none⟩ v2).setCell ⟨g, j + 3, none⟩ v3).setCell ⟨g, j + 4, none⟩ v4) (fun k => k ≠ g) :=
  ((((set_fr w g _ v0).trans (set_fr _ g _ v1)).trans (set_fr _ g _ v2)).trans (set_fr _ g _ v3)).trans (set_fr _ g _ v4)
theorem set5_at (w : World) (g j : Nat) (v0 v1 v2 v3 v4 : Value) {b : Nat} {o : Obj} (h : w.heap[b]? = some o) (hb : b ≠ g) : (((((w.setCell ⟨g, j, none⟩ v0).setCell ⟨g, j + 1, none⟩ v1).setCell ⟨g, j + 2, none⟩ v2).setCell ⟨g, j + 3, none⟩ v3).setCell ⟨g, j + 4, none⟩ v4).heap[b]? = some o := (set5_fr w g j v0 v1 v2 v3 v4).at h hb
theorem set5_list (row : List Value) (j : Nat) (a0 a1 a2 a3 a4 v0 v1 v2 v3 v4 : Value) (h : row.length = j) : (((((row ++ [a0, a1, a2, a3, a4]).set j v0).set (j + 1) v1).set (j + 2) v2).set (j + 3) v3).set (j + 4) v4 = row ++ [v0, v1, v2, v3, v4] := by
  subst h
  rw [List.set_append_right _ _ (Nat.le_refl _), List.set_append_right _ _ (by omega), List.set_append_right _ _ (by omega), List.set_append_right _ _ (by omega), List.set_append_right _ _ (by omega)]
  congr 1
  simp
theorem set5_own {w : World} {base g n cap : Nat} {row : List Value} {a0 a1 a2 a3 a4 v0 v1 v2 v3 v4 : Value} (h : w.ownsRow base 26 5 (.slice (some ⟨g, 0, none⟩) n cap) n (row ++ [a0, a1, a2, a3, a4])) {j : Nat} (hj : row.length = j) :
    (((((w.setCell ⟨g, j, none⟩ v0).setCell ⟨g, j + 1, none⟩ v1).setCell ⟨g, j + 2, none⟩ v2).setCell ⟨g, j + 3, none⟩ v3).setCell ⟨g, j + 4, none⟩ v4).ownsRow base 26 5 (.slice (some ⟨g, 0, none⟩) n cap) n (row ++ [v0, v1, v2, v3, v4]) := by
  have h5 := own_set (own_set (own_set (own_set (own_set h j v0) (j + 1) v1) (j + 2) v2) (j + 3) v3) (j + 4) v4
  rwa [set5_list row j _ _ _ _ _ _ _ _ _ _ hj] at h5
end Go.Proofs.YtcmillbjpplfjaaGreatDoor
