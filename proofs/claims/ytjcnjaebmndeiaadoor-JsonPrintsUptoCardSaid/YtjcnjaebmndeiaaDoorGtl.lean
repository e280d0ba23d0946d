/-
  'Get' of a key that is there, where its value has nothing within it.
-/
import Derived.Test.YtjcnjaebmndeiaaDoorCln
namespace Go.Proofs.YtjcnjaebmndeiaaDoor
open Go.RowKit

theorem idx_nodup {ks : List ByteArray} (hnd : ks.Nodup) {i : Nat} {x : ByteArray} (hx : ks[i]? = some x) : Lib.idxOfS (ks.take ks.length) x = (i : Int) := by
  obtain ⟨hlt, he⟩ := List.getElem?_eq_some_iff.1 hx
  refine Lib.idxOfS_hit ks ks.length i x hlt (Nat.le_refl _) (by rw [List.getD_eq_getElem?_getD, hx]; rfl) (fun j hj e => ?_)
  have hjl : j < ks.length := by omega
  rw [List.getD_eq_getElem?_getD, List.getElem?_eq_getElem hjl] at e
  simp only [Option.getD_some] at e
  exact List.pairwise_iff_getElem.1 hnd j i hjl hlt hj (e.trans he.symm)
set_option maxHeartbeats 1000000 in
set_option maxRecDepth 100000 in
theorem get_hit (ks : List ByteArray) (hnd : ks.Nodup) (hb : ks.length ≤ 1000) (i : Nat) (x : ByteArray) (hx : ks[i]? = some x) (g off cap g' off' cap' k : Nat) (t : ByteArray) (A A' : Option Addr) (c1 c2 : Nat) (w : World)
    (hK : ∀ i s, ks[i]? = some s → w.cell? ⟨g', off' + i, none⟩ = some (.string s))
    (x0 : w.cell? ⟨g, off + i * 4, none⟩ = some (.int .i64 k)) (x1 : w.cell? ⟨g, off + i * 4 + 1, none⟩ = some (.string t)) (x2 : w.cell? ⟨g, off + i * 4 + 2, none⟩ = some (.slice A 0 c1)) (x3 : w.cell? ⟨g, off + i * 4 + 3, none⟩ = some (.slice A' 0 c2)) :
    Calls Tryd.prog 16 #[.agg #[.int .i64 7, .string ⟨#[]⟩, .slice (some ⟨g, off, none⟩) ks.length cap, .slice (some ⟨g', off', none⟩) ks.length cap'], .string x] w fun e w' => e = .returned (.tuple #[jv k t none none 0 0 0 0, .bool true]) ∧ Below w.heap.size w w' := by
  have hil : i < ks.length := (List.getElem?_eq_some_iff.1 hx).1
  have hix := fun (W : World) (h : ∀ i s, ks[i]? = some s → W.cell? ⟨g', off' + i, none⟩ = some (.string s)) => Tryd.slices_Index_string g' off' ks.length cap' ks x W (Nat.le_refl _) (by omega) (fun j hj => by rw [h j _ (List.getElem?_eq_getElem hj), List.getD_eq_getElem?_getD, List.getElem?_eq_getElem hj]; rfl)
  rw [idx_nodup hnd hx] at hix
  have hfr : Fr w ((w.alloc (.cells #[.int .i64 7, .string ⟨#[]⟩, .slice (some ⟨g, off, none⟩) ks.length cap, .slice (some ⟨g', off', none⟩) ks.length cap'] 26)).alloc (.cells #[.int .i64 0, .string ⟨#[]⟩, .slice none 0 0, .slice none 0 0] 26)) (fun _ => True) := ((Fr.refl w _).alloc _).alloc _
  have hB0 : ((w.alloc (.cells #[.int .i64 7, .string ⟨#[]⟩, .slice (some ⟨g, off, none⟩) ks.length cap, .slice (some ⟨g', off', none⟩) ks.length cap'] 26)).alloc (.cells #[.int .i64 0, .string ⟨#[]⟩, .slice none 0 0, .slice none 0 0] 26)).heap[w.heap.size]? = some (.cells #[.int .i64 7, .string ⟨#[]⟩, .slice (some ⟨g, off, none⟩) ks.length cap, .slice (some ⟨g', off', none⟩) ks.length cap'] 26 (0, 0)) := old_at _ (new_at rfl _)
  have hR0 : ((w.alloc (.cells #[.int .i64 7, .string ⟨#[]⟩, .slice (some ⟨g, off, none⟩) ks.length cap, .slice (some ⟨g', off', none⟩) ks.length cap'] 26)).alloc (.cells #[.int .i64 0, .string ⟨#[]⟩, .slice none 0 0, .slice none 0 0] 26)).heap[w.heap.size + 1]? = some (.cells #[.int .i64 0, .string ⟨#[]⟩, .slice none 0 0, .slice none 0 0] 26 (0, 0)) := new_at (by simp) _
  have hb0 : Below w.heap.size w ((w.alloc (.cells #[.int .i64 7, .string ⟨#[]⟩, .slice (some ⟨g, off, none⟩) ks.length cap, .slice (some ⟨g', off', none⟩) ks.length cap'] 26)).alloc (.cells #[.int .i64 0, .string ⟨#[]⟩, .slice none 0 0, .slice none 0 0] 26)) := ⟨hfr.os, hfr.tape, hfr.output, hfr.size, fun i hi => hfr.block i hi trivial⟩
  have hi0 := hix ((w.alloc (.cells #[.int .i64 7, .string ⟨#[]⟩, .slice (some ⟨g, off, none⟩) ks.length cap, .slice (some ⟨g', off', none⟩) ks.length cap'] 26)).alloc (.cells #[.int .i64 0, .string ⟨#[]⟩, .slice none 0 0, .slice none 0 0] 26)) (fun i s h => hfr.cell (hK i s h) trivial)
  have y0 := hfr.cell x0 trivial
  have y1 := hfr.cell x1 trivial
  have y2 := hfr.cell x2 trivial
  have y3 := hfr.cell x3 trivial
  have hcl := fun W => clone_leaf k t A A' c1 c2 W
  have HCL := Lib.hid hcl
  have hii : (i : Int) < (ks.length : Int) := by omega
  clear hix hK hcl x0 x1 x2 x3 hnd hx hfr
  obtain ⟨p0, p1, p2, p3⟩ := cells_4 hB0
  go_enter Tryd.func16, Tryd.ntmps16
  go_wp2_with fail
  generalize ((w.alloc (.cells #[.int .i64 7, .string ⟨#[]⟩, .slice (some ⟨g, off, none⟩) ks.length cap, .slice (some ⟨g', off', none⟩) ks.length cap'] 26)).alloc (.cells #[.int .i64 0, .string ⟨#[]⟩, .slice none 0 0, .slice none 0 0] 26)) = W0 at *
  refine hi0.mono ?_
  rintro e w1 ⟨rfl, rfl⟩
  clear hi0
  go_wp2_with fail
  refine (HCL.out _).mono ?_
  rintro e w2 ⟨rfl, hb2⟩
  have hf2 : Fr w1 w2 (fun _ => True) := ⟨hb2.os, hb2.tape, hb2.output, hb2.size, fun k hk _ => hb2.block k hk⟩
  have hR2 := hf2.at hR0 trivial
  have hbb2 : Below w.heap.size w w2 := hb0.trans (hb2.mono hb0.size)
  obtain ⟨r0, r1, r2, r3⟩ := cells_4 hR2
  obtain ⟨e0, e1, e2, e3⟩ := frozen_4 hR2
  clear hB0 hR0 hR2 p0 p1 p2 p3 hb2 hf2 HCL y0 y1 y2 y3
  go_wp2
  refine bodyPost_ret (v := .tuple #[jv k t none none 0 0 0 0, .bool true]) (by simp [results, Tryd.results16, go_sem, r0, r1, r2, r3]) rfl ?_
  exact ⟨rfl, by refine Below.setCell (Below.setCell (Below.setCell (Below.setCell hbb2 ?_ _) ?_ _) ?_ _) ?_ _ <;> simp⟩
end Go.Proofs.YtjcnjaebmndeiaaDoor
