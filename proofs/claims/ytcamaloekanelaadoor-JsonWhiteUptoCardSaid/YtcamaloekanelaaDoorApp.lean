/-
  'appendString' of a text without signs that are told by a backslash.
-/
import Derived.Test.YtcamaloekanelaaDoorAlone
namespace Go.Proofs.YtcamaloekanelaaDoor
open Go.RowKit

/-- A row of bytes of the call's own, and nothing that was there has turned but that row. -/
def AppPost (w : World) (B : Nat) (v : Value) (l : Bs) (e : Ending) (w' : World) : Prop :=
  ∃ v', e = .returned v' ∧ w'.ownsRow B 5 1 v' l.length (Lib.byteCells l) ∧ w.grownBy w' v.ownBlock ∧ (v'.ownBlock = v.ownBlock ∨ ∃ g, v'.ownBlock = some g ∧ w.heap.size ≤ g)
def Plain8 (l : Bs) : Prop := ∀ c, c ∈ l → 32 ≤ c.toNat ∧ c.toNat ≠ 34 ∧ c.toNat ≠ 92

theorem app_one {w1 : World} {B : Nat} {v' : Value} {l : Bs} {c : UInt8} (h : w1.ownsRow B 5 1 v' (l.length + 1) (Lib.byteCells l ++ [.int .u8 c.toNat])) : w1.ownsRow B 5 1 v' (l ++ [c]).length (Lib.byteCells (l ++ [c])) := by
  rw [Lib.byteCells_append, List.length_append]; exact h
/-- What holds of the row while it is written. -/
def ARel (w : World) (B bb : Nat) (v : Value) (l : Bs) (v' : Value) (wr : World) : Prop :=
  wr.ownsRow B 5 1 v' l.length (Lib.byteCells l) ∧ w.grownBy wr v.ownBlock ∧ (v'.ownBlock = v.ownBlock ∨ ∃ g, v'.ownBlock = some g ∧ w.heap.size ≤ g) ∧ B ≤ wr.heap.size ∧ v'.ownBlock ≠ some bb
theorem ARel.app {w wr w5 : World} {B bb : Nat} {v v' v5 : Value} {l l5 : Bs} {o : Obj} (h : ARel w B bb v l v' wr) (hbb : bb < wr.heap.size) (hown : w5.ownsRow B 5 1 v5 l5.length (Lib.byteCells l5)) (hg : (wr.alloc o).grownBy w5 v'.ownBlock) (hb : v5.ownBlock = v'.ownBlock ∨ v5.ownBlock = some (wr.alloc o).heap.size) :
    ARel w B bb v l5 v5 w5 ∧ Fr wr w5 (fun k => k = bb) := by
  obtain ⟨h1, h2, h3, h4, h5⟩ := h
  have hf : Fr wr w5 (fun k => some k ≠ v'.ownBlock) := ((Fr.refl wr _).alloc o).trans (Fr.of hg (fun _ _ h => h))
  refine ⟨⟨hown, ⟨hf.os.trans h2.os, hf.tape.trans h2.tape, hf.output.trans h2.output, Nat.le_trans h2.size hf.size, fun k hk hn => ?_⟩, ?_, Nat.le_trans h4 hf.size, ?_⟩, hf.mono (fun k _ e => by subst e; exact fun e' => h5 e'.symm)⟩
  · refine (hf.block k (by have := h2.size; omega) (fun e => ?_)).trans (h2.block k hk hn)
    rcases h3 with e3 | ⟨g, e3, hg3⟩
    · exact hn (by rw [e, e3])
    · rw [e3] at e; cases e; omega
  · rcases hb with e | e
    · rw [e]; exact h3
    · exact .inr ⟨_, e, by have := h2.size; simp; omega⟩
  · rcases hb with e | e
    · rw [e]; exact h5
    · rw [e]; intro e'; simp at e'; omega

set_option maxHeartbeats 2000000 in
set_option maxRecDepth 100000 in
theorem appString (B : Nat) (v : Value) (l : Bs) (t : ByteArray) (w : World) (hown : w.ownsRow B 5 1 v l.length (Lib.byteCells l)) (hB : B ≤ w.heap.size) (hl : l.length ≤ 1000000) (ht : t.size ≤ 1000000) (hp : Plain8 t.data.toList) :
    Calls Tryd.prog 71 #[v, .string t] w (AppPost w B v (l ++ [34] ++ t.data.toList ++ [34])) := by
  obtain ⟨i0, hi, hz0, hz1, hz2⟩ := info_parts Tryd.info5
  have hcv := fun W => Lib.run_convert_string_bytes (P := Tryd.prog) W 9 50 5 t (u := .string) Tryd.underlying9 Tryd.underlying50 Tryd.underlying5
  have hvlt := hown.lt
  go_enter Tryd.func71, Tryd.ntmps71
  go_wp2_with (at_builtin; refine wpList_append_own_at _ rfl _ _ 50 rfl B 5 i0 _ 1 1 Tryd.underlying50 hi hz0 hz1 hz2 rfl (by decide) _ _ _ rfl (hown.alloc _) ⟨w.heap.size, 0, none⟩ 1 1 [.int .u8 34] rfl rfl (cell_one_new _ _ _) (by simp [Value.oneCell']) (by unfold maxLen; omega) (by omega) (by simp; omega) ?_; intro v1 w1 hown1 hg1 _ hb1)
  have ho1 := app_one (c := 34) hown1
  have hf1 := (Lib.bytesWorld_size w1 5 t)
  have hbw := Joins.below_bytesWorld w1.heap.size w1 5 t (Nat.le_refl _)
  have hbc := fun j (hj : j < t.size) => Lib.bytesWorld_cell w1 5 t j hj
  have hlt1 : ∀ g, v1.ownBlock = some g → g < w1.heap.size := fun g e => (ho1.lt g e).2
  have har0 : ARel w B w1.heap.size v (l ++ [34]) v1 (Lib.bytesWorld w1 5 t) := by
    refine ⟨ownsRow_fr ho1 (below_fr hbw) (fun g e => hlt1 g e), ?_, ?_, ?_, fun e => by have := hlt1 _ e; omega⟩
    · refine gtrans (gtrans (World.grownBy_alloc w _ _) hg1) ⟨hbw.os, hbw.tape, hbw.output, hbw.size, fun k hk _ => hbw.block k hk⟩
    · rcases hb1 with e | e
      · exact .inl e
      · exact .inr ⟨_, e, by simp⟩
    · have := hg1.size; simp at this; rw [hf1]; omega
  generalize Lib.bytesWorld w1 5 t = W1 at *
  clear hown1 hg1 hb1 hown hbw ho1
  have hlen := size_len t
  generalize t.data.toList = ts at *
  have HP := Lib.hid hp
  have HLn := Lib.hid hlen
  clear hp hlen
  go_loopg [0, 13] t.size (fun g u i wr => ∃ k : Nat, k + g = t.size ∧ i = .int .i64 k ∧ ARel w B w1.heap.size v (l ++ [34] ++ ts.take k) u wr ∧ w1.heap.size < wr.heap.size ∧ Hid (∀ j, j < t.size → wr.cell? ⟨w1.heap.size, j, none⟩ = some (.int .u8 (ts.getD j 0).toNat)))
  case atStart => exact ⟨0, by omega, rfl, by simpa using har0, by omega, hbc⟩
  case round =>
    obtain ⟨k, hkg, rfl, har, hltr, HB⟩ := hrel
    clear hbc har0
    by_cases hk : k < t.size
    · have hc := HB.out k hk
      have hkl : k < ts.length := by have := HLn.out; omega
      have hget : ts.getD k 0 = ts[k] := by simp [List.getD, List.getElem?_eq_getElem hkl]
      rw [hget] at hc
      obtain ⟨p1, p2, p3⟩ := HP.out ts[k] (List.getElem_mem hkl)
      have htk : ts.take (k + 1) = ts.take k ++ [ts[k]] := List.take_succ_eq_append_getElem hkl
      generalize ts[k] = c at *
      have b1 : ((c.toNat : Int) == 34) = false := by simp only [beq_eq_false_iff_ne, ne_eq]; omega
      have b2 : ((c.toNat : Int) == 92) = false := by simp only [beq_eq_false_iff_ne, ne_eq]; omega
      have b3 : 32 ≤ (c.toNat : Int) := by omega
      have hll : (l ++ [34] ++ ts.take k).length ≤ 3000000 := by simp; omega
      have HTK := Lib.hid htk
      clear p1 p2 p3 htk hget
      go_wp2_with (at_builtin; refine wpList_append_own_at _ rfl _ _ 50 rfl B 5 i0 _ 1 1 Tryd.underlying50 hi hz0 hz1 hz2 rfl (by decide) _ _ _ rfl (har.1.alloc _) ⟨wr.heap.size, 0, none⟩ 1 1 [.int .u8 c.toNat] rfl rfl (cell_one_new _ _ _) (by simp [Value.oneCell']) (by unfold maxLen; omega) (by omega) (by have := har.2.2.2.1; simp; omega) ?_; intro v5 w5 hown5 hg5 _ hb5; obtain ⟨har5, hf5⟩ := har.app hltr (app_one hown5) hg5 hb5)
      go_roundg (t.size - (k + 1))
      case measure => omega
      case rel => exact ⟨k + 1, by omega, by go_num, by rw [HTK.out, ← List.append_assoc]; exact har5, by have := hf5.size; omega, fun j hj => hf5.cell (HB.out j hj) rfl⟩
    · have hall : ts.take k = ts := List.take_of_length_le (by have := HLn.out; omega)
      rw [hall] at har
      have hll : (l ++ [34] ++ ts).length ≤ 3000000 := by have := HLn.out; simp; omega
      have hbb : B ≤ wr.heap.size := har.2.2.2.1
      clear hall HB
      go_wp2_with (at_builtin; refine wpList_append_own_at _ rfl _ _ 50 rfl B 5 i0 _ 1 1 Tryd.underlying50 hi hz0 hz1 hz2 rfl (by decide) _ _ _ rfl (har.1.alloc _) ⟨wr.heap.size, 0, none⟩ 1 1 [.int .u8 34] rfl rfl (cell_one_new _ _ _) (by simp [Value.oneCell']) (by unfold maxLen; omega) (by omega) (by simp; omega) ?_; intro v5 w5 hown5 hg5 _ hb5; obtain ⟨har5, hf5⟩ := har.app hltr (app_one (c := 34) hown5) hg5 hb5)
      go_ret
      exact ⟨v5, rfl, har5.1, har5.2.1, har5.2.2.1⟩
end Go.Proofs.YtcamaloekanelaaDoor
