/-
  An int fits its node; 'value' of the node of an int.
-/
import Derived.Test.YtpajccehkcgoaaaDoorLvl
import Derived.Test.YtpajccehkcgoaaaDoorAln
import Derived.Test.YtpajccehkcgoaaaDoorFit
namespace Go.Proofs.YtpajccehkcgoaaaDoor
open Go.RowKit Go.Shelf Lv

theorem wf0L : (Lit.int .i64 0).wf = true := by decide
theorem wf3L : (Lit.int .i64 3).wf = true := by decide
theorem sz0L : (⟨#[]⟩ : ByteArray).size ≤ maxLen := by decide
def iNd : Nd := ⟨3, ⟨#[]⟩, [], [], [], false, ⟨#[]⟩, 0, [], 0⟩
abbrev iA : Array Value := #[.int .i64 3, .string ⟨#[]⟩, .slice none 0 0, .slice none 0 0, .slice none 0 0, .bool false, .string ⟨#[]⟩, .int .i64 0, .slice none 0 0, .int .i64 0]
theorem strs_nilL (w : World) (ok : Nat → Prop) : StrsAt w ok [] (.slice none 0 0) := ⟨none, 0, rfl, Nat.le_refl _, by unfold maxLen; omega, by simp, fun h => by simp at h⟩
theorem ints_nilL (w : World) (ok : Nat → Prop) : IntsAt w ok [] (.slice none 0 0) := ⟨none, 0, rfl, Nat.le_refl _, by unfold maxLen; omega, by simp, fun h => by simp at h⟩
theorem rows_nilL {α : Type} {k : Nat} {one : α → (Nat → Value) → Prop} (w : World) (ok : Nat → Prop) : RowsAt k one w ok [] (.slice none 0 0) := ⟨none, 0, fun _ _ => undef, rfl, Nat.le_refl _, by unfold maxLen; omega, fun h => by simp at h, fun i x h => by simp at h⟩
theorem i_nds {W : World} {ok : Nat → Prop} {g : Nat} (hg : ok g) (h : W.heap[g]? = some (.cells iA 30 (0, 0))) : NdsAt W ok [iNd] (.slice (some ⟨g, 0, none⟩) 1 1) := by
  refine ⟨some ⟨g, 0, none⟩, 1, fun i j => iA.getD (10 * i + j) undef, rfl, Nat.le_refl _, by unfold maxLen; omega, fun _ => ⟨g, 0, rfl, hg, fun i j hi hj => ?_⟩, fun i n hi => ?_⟩
  · have hi0 : i = 0 := by simp at hi; omega
    subst hi0
    have hlt : 10 * 0 + j < iA.size := by simp; omega
    have := cell_of_row W g (10 * 0 + j) _ _ _ h
    rw [Nat.zero_add, this, Array.getElem?_eq_getElem hlt]
    show _ = some (iA.getD (10 * 0 + j) undef)
    rw [Array.getD_eq_getD_getElem?, Array.getElem?_eq_getElem hlt]
    rfl
  · rcases i with _ | i
    · simp only [List.getElem?_cons_zero, Option.some.injEq] at hi
      subst hi
      exact ⟨rfl, rfl, strs_nilL _ _, rows_nilL _ _, strs_nilL _ _, rfl, rfl, rfl, ints_nilL _ _, rfl, wf3L, wf0L, wf0L, sz0L, sz0L⟩
    · simp at hi
def noB : List Int → Bool := fun _ => true
def noU : List ByteArray → Bool := fun _ => true
theorem i_alone : aloneV noB noU iNd (.mk 3 0 [] [] []) = true := by decide +kernel
theorem fits_int (W : World) (g : Nat) (hg : W.heap[g]? = some (.cells iA 30 (0, 0))) :
    Calls Tryd.prog 27 #[.agg #[.slice (some ⟨g, 0, none⟩) 1 1], .int .i64 0, .agg #[.int .i64 3, .int .i64 0, .slice none 0 0, .slice none 0 0, .slice none 0 0]] W fun e w' => e = .returned (.bool true) ∧ Below W.heap.size W w' := by
  have hS : NdsAt W (fun b => b < W.heap.size) [iNd] (.slice (some ⟨g, 0, none⟩) 1 1) := i_nds (blk_lt hg) hg
  have hu : UIn W (fun b => b < W.heap.size) (.mk 3 0 [] [] []) (.int .i64 3) (.int .i64 0) (.slice none 0 0) (.slice none 0 0) (.slice none 0 0) :=
    UIn.mk 3 0 [] [] [] none none none 0 0 0 (fun _ _ => undef) wf3L wf0L (by simp) (by simp) ⟨Nat.le_refl _, by unfold maxLen; omega⟩ ⟨by simp, by unfold maxLen; omega⟩ ⟨by simp, by unfold maxLen; omega⟩ (fun h => by simp at h) (fun h => by simp at h) (fun h => by simp at h) (fun i z h => by simp at h)
  have hA : AloneC (aloneV noB noU) [iNd] W := by
    intro W1 hW1 nd c x d0 d1 d2 d3 d4 hnd hN hX
    obtain rfl := List.mem_singleton.1 hnd
    exact alone_any noB noU iNd c W1 _ _ hN x d0 d1 d2 d3 d4 hX (fun h8 => absurd h8 (by decide)) (fun h12 => absurd h12 (by decide))
  have h := fits_any (aloneV noB noU) [iNd] (alone_leaves _ _ _) (by simp) 0 _ (by simp [uc, ucL]) W _ _ _ _ _ _ hu hS hA
  have he : fitsU (aloneV noB noU) [iNd] 0 (.mk 3 0 [] [] []) = true := by
    unfold fitsU
    simp [fitsL, i_alone]
  rw [he] at h
  exact h
theorem set5H {W : World} {b : Nat} {e : TypeId} {a0 a1 a2 a3 a4 : Value} (v0 v1 v2 v3 v4 : Value) (h : W.heap[b]? = some (.cells #[a0, a1, a2, a3, a4] e (0, 0))) :
    (((((W.setCell ⟨b, 0, none⟩ v0).setCell ⟨b, 1, none⟩ v1).setCell ⟨b, 2, none⟩ v2).setCell ⟨b, 3, none⟩ v3).setCell ⟨b, 4, none⟩ v4).heap[b]? = some (.cells #[v0, v1, v2, v3, v4] e (0, 0)) := by
  have h1 := heap_setCell_same W b 0 _ e v0 h
  have h2 := heap_setCell_same _ b 1 _ e v1 h1
  have h3 := heap_setCell_same _ b 2 _ e v2 h2
  have h4 := heap_setCell_same _ b 3 _ e v3 h3
  have h5 := heap_setCell_same _ b 4 _ e v4 h4
  simpa using h5
theorem set5F (w : World) (g : Nat) (v0 v1 v2 v3 v4 : Value) : Fr w (((((w.setCell ⟨g, 0, none⟩ v0).setCell ⟨g, 1, none⟩ v1).setCell ⟨g, 2, none⟩ v2).setCell ⟨g, 3, none⟩ v3).setCell ⟨g, 4, none⟩ v4) (fun k => k ≠ g) :=
  ((((set_frL w g _ v0).trans (set_frL _ g _ v1)).trans (set_frL _ g _ v2)).trans (set_frL _ g _ v3)).trans (set_frL _ g _ v4)
/-- 'value' of the node of an int. -/
def IntP (W : World) (p : Nat) : Ending → World → Prop := fun e w' => e = .returned (.tuple #[.agg #[.int .i64 3, .int .i64 0, .slice none 0 0, .slice none 0 0, .slice none 0 0], .bool true]) ∧ Fr W w' (fun b => b ≠ p)
set_option maxRecDepth 100000 in
set_option maxHeartbeats 4000000 in
theorem value_int (W : World) (p g : Nat) (rv : Value) (hg : W.heap[g]? = some (.cells iA 30 (0, 0))) (hp : W.heap[p]? = some (.cells #[.slice (some ⟨g, 0, none⟩) 1 1, rv, .int .i64 10000, .int .i64 10000000] 71 (0, 0))) (hne : g ≠ p) :
    Calls Tryd.prog 26 #[.pointer (some ⟨p, 0, none⟩), .int .i64 0] W (IntP W p) := by
  have hf0 : Fr W (W.alloc (.cells #[.int .i64 0, .int .i64 0, .slice none 0 0, .slice none 0 0, .slice none 0 0] 38)) (fun _ => True) := fr_allocX (Fr.refl _ _)
  have hr : (W.alloc (.cells #[.int .i64 0, .int .i64 0, .slice none 0 0, .slice none 0 0, .slice none 0 0] 38)).heap[W.heap.size]? = some (.cells #[.int .i64 0, .int .i64 0, .slice none 0 0, .slice none 0 0, .slice none 0 0] 38 (0, 0)) := new_at rfl _
  go_enter Tryd.func26, Tryd.ntmps26
  go_upto_region 1 with fail
  generalize W.alloc (.cells #[.int .i64 0, .int .i64 0, .slice none 0 0, .slice none 0 0, .slice none 0 0] 38) = W0 at *
  have hg0 := hf0.at hg trivial
  have hp0 := hf0.at hp trivial
  have hlt := blk_lt hp
  have hpr : W.heap.size ≠ p := by omega
  have p2 := cell_of_row _ _ 2 _ _ _ hp0
  have f2 := frozen_of_row _ _ 2 _ _ hp0
  have hf1 : Fr W (W0.setCell ⟨p, 2, none⟩ (.int .i64 9999)) (fun b => b ≠ p) := (hf0.mono (fun _ _ _ => trivial)).trans (set_frL W0 p 2 _)
  have hg1 := (set_frL W0 p 2 (.int .i64 9999)).at hg0 hne
  have hr1 := (set_frL W0 p 2 (.int .i64 9999)).at hr hpr
  have hp1 := heap_setCell_same W0 p 2 _ _ (.int .i64 9999) hp0
  have HF1 := Lib.hid hf1
  have HG1 := Lib.hid hg1
  have HR1 := Lib.hid hr1
  have HP1 := Lib.hid hp1
  clear hg hp hg0 hp0 hf0 hr hf1 hg1 hr1 hp1 hlt
  go_upto_region 4 with fail
  generalize W0.setCell ⟨p, 2, none⟩ (.int .i64 9999) = W1 at *
  have z0 := cell_of_row _ _ 0 _ _ _ HG1.out
  have z1 := cell_of_row _ _ 1 _ _ _ HG1.out
  have z2 := cell_of_row _ _ 2 _ _ _ HG1.out
  have z3 := cell_of_row _ _ 3 _ _ _ HG1.out
  have z4 := cell_of_row _ _ 4 _ _ _ HG1.out
  have z5 := cell_of_row _ _ 5 _ _ _ HG1.out
  have z6 := cell_of_row _ _ 6 _ _ _ HG1.out
  have z7 := cell_of_row _ _ 7 _ _ _ HG1.out
  have z8 := cell_of_row _ _ 8 _ _ _ HG1.out
  have z9 := cell_of_row _ _ 9 _ _ _ HG1.out
  have p0 := cell_of_row _ _ 0 _ _ _ HP1.out
  have r0 := cell_of_row _ _ 0 _ _ _ HR1.out
  have r1 := cell_of_row _ _ 1 _ _ _ HR1.out
  have r2 := cell_of_row _ _ 2 _ _ _ HR1.out
  have r3 := cell_of_row _ _ 3 _ _ _ HR1.out
  have r4 := cell_of_row _ _ 4 _ _ _ HR1.out
  go_upto_region 5 with fail
  have hfn : Fr W1 (W1.alloc (.cells iA 30)) (fun _ => True) := fr_allocX (Fr.refl _ _)
  have hn : (W1.alloc (.cells iA 30)).heap[W1.heap.size]? = some (.cells iA 30 (0, 0)) := new_at rfl _
  generalize W1.alloc (.cells iA 30) = W2 at *
  have e0 := cell_of_row _ _ 0 _ _ _ hn
  have HFN := Lib.hid hfn
  have HN := Lib.hid hn
  clear hfn hn z0 z1 z2 z3 z4 z5 z6 z7 z8 z9 p0 r0 r1 r2 r3 r4
  go_upto_region 6 with fail
  have hfo : Fr W2 (W2.alloc (.cells #[.int .i64 3, .int .i64 0, .slice none 0 0, .slice none 0 0, .slice none 0 0] 38)) (fun _ => True) := fr_allocX (Fr.refl _ _)
  have ho : (W2.alloc (.cells #[.int .i64 3, .int .i64 0, .slice none 0 0, .slice none 0 0, .slice none 0 0] 38)).heap[W2.heap.size]? = some (.cells #[.int .i64 3, .int .i64 0, .slice none 0 0, .slice none 0 0, .slice none 0 0] 38 (0, 0)) := new_at rfl _
  generalize W2.alloc (.cells #[.int .i64 3, .int .i64 0, .slice none 0 0, .slice none 0 0, .slice none 0 0] 38) = W3 at *
  have e0 := cell_of_row _ _ 0 _ _ _ (hfo.at HN.out trivial)
  have o0 := cell_of_row _ _ 0 _ _ _ ho
  have o1 := cell_of_row _ _ 1 _ _ _ ho
  have o2 := cell_of_row _ _ 2 _ _ _ ho
  have o3 := cell_of_row _ _ 3 _ _ _ ho
  have o4 := cell_of_row _ _ 4 _ _ _ ho
  have hr3 := (HFN.out.trans hfo).at HR1.out trivial
  have r0 := cell_of_row _ _ 0 _ _ _ hr3
  have r1 := cell_of_row _ _ 1 _ _ _ hr3
  have r2 := cell_of_row _ _ 2 _ _ _ hr3
  have r3 := cell_of_row _ _ 3 _ _ _ hr3
  have r4 := cell_of_row _ _ 4 _ _ _ hr3
  obtain ⟨f0, f1, f2, f3, f4⟩ := frozen_5 hr3
  have HR3 := Lib.hid hr3
  have HF3 := Lib.hid ((HF1.out.trans (HFN.out.mono (fun _ _ _ => trivial))).trans (hfo.mono (fun _ _ _ => trivial)))
  clear hfo ho hr3
  go_wp2
  have h9 := set5H (.int .i64 3) (.int .i64 0) (.slice none 0 0) (.slice none 0 0) (.slice none 0 0) HR3.out
  have q0 := cell_of_row _ _ 0 _ _ _ h9
  have q1 := cell_of_row _ _ 1 _ _ _ h9
  have q2 := cell_of_row _ _ 2 _ _ _ h9
  have q3 := cell_of_row _ _ 3 _ _ _ h9
  have q4 := cell_of_row _ _ 4 _ _ _ h9
  refine bodyPost_ret (v := .tuple #[.agg #[.int .i64 3, .int .i64 0, .slice none 0 0, .slice none 0 0, .slice none 0 0], .bool true]) ?_ rfl ?_
  · rw [results_cell_tmp (fn := Tryd.f26) (p := 4) (u := 5) (ty := 38) rfl]
    simp [go_sem, q0, q1, q2, q3, q4]
  · exact ⟨rfl, ⟨HF3.out.os, HF3.out.tape, HF3.out.output, Nat.le_trans HF3.out.size (set5F W3 W.heap.size _ _ _ _ _).size, fun b hb hk => ((set5F W3 W.heap.size _ _ _ _ _).block b (Nat.lt_of_lt_of_le hb HF3.out.size) (by omega)).trans (HF3.out.block b hb hk)⟩⟩
end Go.Proofs.YtpajccehkcgoaaaDoor
