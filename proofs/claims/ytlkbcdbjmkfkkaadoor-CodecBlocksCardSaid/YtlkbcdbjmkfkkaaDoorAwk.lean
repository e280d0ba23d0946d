/-
  'awake': an array of two longs is encoded.
-/
import Derived.Test.YtlkbcdbjmkfkkaaDoorEnc
namespace Go.Proofs.YtlkbcdbjmkfkkaaDoor
open Go.RowKit Go.Shelf

def nd0 (k it : Int) : Nd := ⟨k, ⟨#[]⟩, [], [], [], false, ⟨#[]⟩, it, [], 0⟩
abbrev ndc (k it : Int) : List Value := [.int .i64 k, .string ⟨#[]⟩, .slice none 0 0, .slice none 0 0, .slice none 0 0, .bool false, .string ⟨#[]⟩, .int .i64 it, .slice none 0 0, .int .i64 0]
theorem ndin0 {w : World} {ok : Nat → Prop} {k it : Int} {c : Nat → Value} (hk : (Lit.int .i64 k).wf = true) (hi : (Lit.int .i64 it).wf = true) (hc : ∀ j, j < 10 → c j = (ndc k it).getD j undef) : NdIn w ok (nd0 k it) c := by
  have z : StrsAt w ok [] (.slice none 0 0) := ⟨none, 0, rfl, Nat.le_refl _, by unfold maxLen; omega, fun s hs => by simp at hs, fun h => absurd h (by simp)⟩
  have zi : IntsAt w ok [] (.slice none 0 0) := ⟨none, 0, rfl, Nat.le_refl _, by unfold maxLen; omega, fun s hs => by simp at hs, fun h => absurd h (by simp)⟩
  refine ⟨hc 0 (by omega), hc 1 (by omega), ?_, ?_, ?_, hc 5 (by omega), hc 6 (by omega), hc 7 (by omega), ?_, hc 9 (by omega), hk, hi, (show (Lit.int .i64 0).wf = true by decide), Nat.zero_le _, Nat.zero_le _⟩
  · rw [hc 2 (by omega)]; exact z
  · rw [hc 3 (by omega)]; exact ⟨none, 0, fun _ _ => undef, rfl, Nat.le_refl _, by unfold maxLen; omega, fun h => absurd h (by simp [nd0]), fun i x hx => by simp [nd0] at hx⟩
  · rw [hc 4 (by omega)]; exact z
  · rw [hc 8 (by omega)]; exact zi
theorem nds_two {w : World} {b : Nat} {k0 i0 k1 i1 : Int} (h0 : (Lit.int .i64 k0).wf = true) (h1 : (Lit.int .i64 i0).wf = true) (h2 : (Lit.int .i64 k1).wf = true) (h3 : (Lit.int .i64 i1).wf = true) (hb : w.heap[b]? = some (.cells (ndc k0 i0 ++ ndc k1 i1).toArray 29 (0, 0))) :
    NdsAt w (fun g => g = b) [nd0 k0 i0, nd0 k1 i1] (.slice (some ⟨b, 0, none⟩) 2 2) := by
  refine ⟨_, 2, fun i j => (ndc k0 i0 ++ ndc k1 i1).getD (10 * i + j) undef, rfl, Nat.le_refl _, by unfold maxLen; omega, fun _ => ⟨b, 0, rfl, rfl, fun i j hi hj => ?_⟩, fun i x hx => ?_⟩
  · rw [cell_of_row w b _ _ _ _ hb]
    have : 0 + (10 * i + j) < 20 := by simp at hi; omega
    simp only [List.getElem?_toArray, Nat.zero_add]
    rw [List.getD_eq_getElem?_getD, List.getElem?_eq_getElem (by simp; simp at hi; omega)]
    rfl
  · match i, hx with
    | 0, hx =>
      cases hx
      exact ndin0 h0 h1 (fun j hj => by
        match j, hj with
        | 0, _ => rfl
        | 1, _ => rfl
        | 2, _ => rfl
        | 3, _ => rfl
        | 4, _ => rfl
        | 5, _ => rfl
        | 6, _ => rfl
        | 7, _ => rfl
        | 8, _ => rfl
        | 9, _ => rfl)
    | 1, hx =>
      cases hx
      exact ndin0 h2 h3 (fun j hj => by
        match j, hj with
        | 0, _ => rfl
        | 1, _ => rfl
        | 2, _ => rfl
        | 3, _ => rfl
        | 4, _ => rfl
        | 5, _ => rfl
        | 6, _ => rfl
        | 7, _ => rfl
        | 8, _ => rfl
        | 9, _ => rfl)
def zA : U := .mk 11 0 [] [.mk 4 1 [] [] [], .mk 4 2 [] [] []] []
theorem zA_in {w : World} {b : Nat} (hb : w.heap[b]? = some (.cells #[.int .i64 4, .int .i64 1, .slice none 0 0, .slice none 0 0, .slice none 0 0, .int .i64 4, .int .i64 2, .slice none 0 0, .slice none 0 0, .slice none 0 0] 38 (0, 0))) :
    UIn w (fun g => g = b) zA (.int .i64 11) (.int .i64 0) (.slice none 0 0) (.slice (some ⟨b, 0, none⟩) 2 2) (.slice none 0 0) := by
  refine .mk 11 0 [] [.mk 4 1 [] [] [], .mk 4 2 [] [] []] [] none (some ⟨b, 0, none⟩) none 0 2 0 (fun i j => #[.int .i64 4, .int .i64 1, .slice none 0 0, .slice none 0 0, .slice none 0 0, .int .i64 4, .int .i64 2, .slice none 0 0, .slice none 0 0, .slice none 0 0].getD (5 * i + j) undef) (by decide) (by decide) (fun x hx => by simp at hx) (fun s hs => by simp at hs) ⟨Nat.le_refl _, by unfold maxLen; omega⟩ ⟨Nat.le_refl _, by unfold maxLen; omega⟩ ⟨Nat.le_refl _, by unfold maxLen; omega⟩ (fun h => absurd h (by simp)) (fun _ => ⟨b, 0, rfl, rfl, fun i j hi hj => ?_⟩) (fun h => absurd h (by simp)) (fun i z hz => ?_)
  · rw [cell_of_row w b _ _ _ _ hb]
    simp only [List.length_cons, List.length_nil] at hi
    have hi2 : i = 0 ∨ i = 1 := by omega
    have hj2 : j = 0 ∨ j = 1 ∨ j = 2 ∨ j = 3 ∨ j = 4 := by omega
    rcases hi2 with rfl | rfl <;> rcases hj2 with rfl | rfl | rfl | rfl | rfl <;> rfl
  · match i, hz with
    | 0, hz => cases hz; exact uin_leaf (by decide) (by decide)
    | 1, hz => cases hz; exact uin_leaf (by decide) (by decide)
theorem zA_pcs : (pcs zA).flatten = [4, 2, 4, 0] := by
  have e1 : zigN 1 = 2 := by decide
  have e2 : zigN 2 = 4 := by decide
  simp [zA, pcs, pcsL, aheadM, e1, e2, numL_lt]

set_option maxHeartbeats 4000000 in
set_option maxRecDepth 100000 in
theorem awake_any (w : World) : Calls Tryd.prog 6 #[] w fun e w' => e = .returned (.bool true) ∧ Below w.heap.size w w' := by
  obtain ⟨W, hW⟩ : ∃ W, ((w.alloc (.cells #[.int .i64 11, .string ⟨#[]⟩, .slice none 0 0, .slice none 0 0, .slice none 0 0, .bool false, .string ⟨#[]⟩, .int .i64 1, .slice none 0 0, .int .i64 0, .int .i64 4, .string ⟨#[]⟩, .slice none 0 0, .slice none 0 0, .slice none 0 0, .bool false, .string ⟨#[]⟩, .int .i64 0, .slice none 0 0, .int .i64 0] 29)).alloc (.cells #[.slice (some ⟨w.heap.size, 0, none⟩) 2 2] 32)).alloc (.cells #[.int .i64 4, .int .i64 1, .slice none 0 0, .slice none 0 0, .slice none 0 0, .int .i64 4, .int .i64 2, .slice none 0 0, .slice none 0 0, .slice none 0 0] 38) = W := ⟨_, rfl⟩
  have hb : Below w.heap.size w W := by rw [← hW]; exact (((Below.refl _ w).alloc (Nat.le_refl _) _).alloc (by simp) _).alloc (by simp; omega) _
  have hs : W.heap.size = w.heap.size + 3 := by rw [← hW]; simp
  have h0 : W.heap[w.heap.size]? = some (.cells (ndc 11 1 ++ ndc 4 0).toArray 29 (0, 0)) := by rw [← hW]; exact old_at _ (old_at _ (new_at rfl _))
  have h2 : W.heap[w.heap.size + 2]? = some (.cells #[.int .i64 4, .int .i64 1, .slice none 0 0, .slice none 0 0, .slice none 0 0, .int .i64 4, .int .i64 2, .slice none 0 0, .slice none 0 0, .slice none 0 0] 38 (0, 0)) := by rw [← hW]; exact new_at (by simp) _
  have henc := encode_ok [nd0 11 1, nd0 4 0] (fun nd h => by simp at h; rcases h with rfl | rfl <;> simp [nd0]) (by simp) zA (by decide +kernel) (by decide +kernel) (by decide +kernel) (by decide +kernel) (by rw [zA_pcs]; simp) W (.slice (some ⟨w.heap.size, 0, none⟩) 2 2) _ _ _ _ _
    (nds_mono (nds_two (by decide) (by decide) (by decide) (by decide) h0) (fun b hb => by omega)) ((zA_in h2).mono (fun b _ hb => by omega))
  rw [zA_pcs] at henc
  have HB := Lib.hid hb
  have HW := Lib.hid hW
  clear hb hs h0 h2 hW
  go_enter Tryd.func6, Tryd.ntmps6
  go_wp2_with fail
  rw [HW.out]
  refine henc.mono ?_
  rintro e w1 ⟨hb1, A, c, rfl, hr⟩
  obtain ⟨_, hc4, _, _, h5⟩ := hr
  obtain ⟨b, off, rfl, _, hc⟩ := h5 (by simp)
  have q0 : w1.cell? ⟨b, off, none⟩ = some (.int .u8 4) := hc 0 4 rfl
  have q1 : w1.cell? ⟨b, off + 1, none⟩ = some (.int .u8 2) := hc 1 2 rfl
  have q2 : w1.cell? ⟨b, off + 2, none⟩ = some (.int .u8 4) := hc 2 4 rfl
  have q3 : w1.cell? ⟨b, off + 3, none⟩ = some (.int .u8 0) := hc 3 0 rfl
  have hlen : ([4, 2, 4, 0] : List Int).length = 4 := rfl
  rw [hlen]
  clear hc h5 henc hlen
  have HBB := Lib.hid (HB.out.trans (hb1.mono HB.out.size))
  clear hb1
  go_wp2
  go_ret
  exact ⟨rfl, HBB.out⟩
end Go.Proofs.YtlkbcdbjmkfkkaaDoor
