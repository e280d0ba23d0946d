/-
  'appendString' of every text.
-/
import Derived.Test.YtcamaloekanelaaDoorApp
import Derived.Test.YtcamaloekanelaaDoorQtm
namespace Go.Proofs.YtcamaloekanelaaDoor
open Go.RowKit

theorem row_new (w : World) (cs : Array Value) (t : TypeId) (j : Nat) (u : Value) (h : cs.toList[j]? = some u) : (w.alloc (.cells cs t)).cell? ((⟨w.heap.size, 0, none⟩ : Addr).add j) = some u := by
  rw [addr_add, Nat.zero_add, cell_of_row _ w.heap.size j cs t (0, 0) (heap_alloc_new w _)]
  simpa using h
theorem app_row {w1 : World} {B m : Nat} {v' : Value} {l cs : Bs} (h : w1.ownsRow B 5 1 v' (l.length + m) (Lib.byteCells l ++ Lib.byteCells cs)) (hm : cs.length = m := by rfl) : w1.ownsRow B 5 1 v' (l ++ cs).length (Lib.byteCells (l ++ cs)) := by
  subst hm; rw [Lib.byteCells_append, List.length_append]; exact h

theorem and15 : ∀ n : Fin 32, bits BinOp.and IntKind.u8 (n.val : Int) 15 = ((n.val % 16 : Nat) : Int) := by decide +kernel
theorem hexIdx (W : World) : ∀ n : Nat, n < 16 → (Instr.index 9 (.string ⟨#[48, 49, 50, 51, 52, 53, 54, 55, 56, 57, 97, 98, 99, 100, 101, 102]⟩) (.int .u8 (n : Int))).run Tryd.prog W = .ok (.int .u8 (hexS n).toNat) W
  | 0, _ => by kernel_rfl
  | 1, _ => by kernel_rfl
  | 2, _ => by kernel_rfl
  | 3, _ => by kernel_rfl
  | 4, _ => by kernel_rfl
  | 5, _ => by kernel_rfl
  | 6, _ => by kernel_rfl
  | 7, _ => by kernel_rfl
  | 8, _ => by kernel_rfl
  | 9, _ => by kernel_rfl
  | 10, _ => by kernel_rfl
  | 11, _ => by kernel_rfl
  | 12, _ => by kernel_rfl
  | 13, _ => by kernel_rfl
  | 14, _ => by kernel_rfl
  | 15, _ => by kernel_rfl
  | n + 16, h => by omega

set_option maxHeartbeats 2000000 in
set_option maxRecDepth 100000 in
theorem appQuote (B : Nat) (v : Value) (l : Bs) (t : ByteArray) (w : World) (hown : w.ownsRow B 5 1 v l.length (Lib.byteCells l)) (hB : B ≤ w.heap.size) (hl : l.length ≤ 1000000) (ht : t.size ≤ 1000000) :
    Calls Tryd.prog 71 #[v, .string t] w (AppPost w B v (l ++ [34] ++ quoL t.data.toList ++ [34])) := by
  obtain ⟨i0, hi, hz0, hz1, hz2⟩ := info_parts Tryd.info5
  have hcv := fun W => Lib.run_convert_string_bytes (P := Tryd.prog) W 9 50 5 t (u := .string) Tryd.underlying9 Tryd.underlying50 Tryd.underlying5
  have hvlt := hown.lt
  go_enter Tryd.func71, Tryd.ntmps71
  go_wp2_with (at_builtin; refine wpList_append_own_at _ rfl _ _ 50 rfl B 5 i0 _ 1 1 Tryd.underlying50 hi hz0 hz1 hz2 rfl (by decide) _ _ _ rfl (hown.alloc _) ⟨w.heap.size, 0, none⟩ 1 1 [.int .u8 34] rfl rfl (cell_one_new _ _ _) (by simp [Value.oneCell']) (by unfold maxLen; omega) (by omega) (by simp; omega) ?_; intro v1 w1 hown1 hg1 _ hb1)
  have ho1 := app_one (c := 34) hown1
  have hf1 := (Lib.bytesWorld_size w1 5 t)
  have hbw := Joins.below_bytesWorld w1.heap.size w1 5 t (Nat.le_refl _)
  have hbc := fun j (hj : j < t.size) => Lib.bytesWorld_cell w1 5 t j hj
  have hlt1 : ∀ g, v1.ownBlock = some g → g < w1.heap.size := fun g e => (ho1.lt g e).2
  have har0 : ARel w B w1.heap.size v (l ++ [34]) v1 (Lib.bytesWorld w1 5 t) := by
    refine ⟨ownsRow_fr ho1 (below_fr hbw) (fun g e => hlt1 g e), ?_, ?_, ?_, fun e => by have := hlt1 _ e; omega⟩
    · refine gtrans (gtrans (World.grownBy_alloc w _ _) hg1) ⟨hbw.os, hbw.tape, hbw.output, hbw.size, fun k hk _ => hbw.block k hk⟩
    · rcases hb1 with e | e
      · exact .inl e
      · exact .inr ⟨_, e, by simp⟩
    · have := hg1.size; simp at this; rw [hf1]; omega
  generalize Lib.bytesWorld w1 5 t = W1 at *
  clear hown1 hg1 hb1 hown hbw ho1
  have hlen := size_len t
  generalize t.data.toList = ts at *
  have HLn := Lib.hid hlen
  clear hlen
  go_loopg [0, 13] t.size (fun g u i wr => ∃ k : Nat, k + g = t.size ∧ i = .int .i64 k ∧ ARel w B w1.heap.size v (l ++ [34] ++ quoL (ts.take k)) u wr ∧ w1.heap.size < wr.heap.size ∧ Hid (∀ j, j < t.size → wr.cell? ⟨w1.heap.size, j, none⟩ = some (.int .u8 (ts.getD j 0).toNat)))
  case atStart => exact ⟨0, by omega, rfl, by simpa [quoL] using har0, by omega, hbc⟩
  case round =>
    obtain ⟨k, hkg, rfl, har, hltr, HB⟩ := hrel
    clear hbc har0
    by_cases hk : k < t.size
    · have hc := HB.out k hk
      have hkl : k < ts.length := by have := HLn.out; omega
      have hget : ts.getD k 0 = ts[k] := by simp [List.getD, List.getElem?_eq_getElem hkl]
      rw [hget] at hc
      have htk : quoL (ts.take (k + 1)) = quoL (ts.take k) ++ quoC ts[k] := by rw [List.take_succ_eq_append_getElem hkl, quoL_app]; simp [quoL]
      have hqq := (quoL_len (ts.take k)).2
      have hkt : (ts.take k).length ≤ k := List.length_take_le _ _
      generalize ts[k] = c at *
      have hll : (l ++ [34] ++ quoL (ts.take k)).length ≤ 8000000 := by simp only [List.length_append, List.length_cons, List.length_nil]; omega
      have HTK := Lib.hid htk
      clear htk hget hqq hkt
      by_cases he : c.toNat = 34 ∨ c.toNat = 92
      · have HQ := Lib.hid (show quoC c = [92, c] by rw [quoC, if_pos he])
        have hb' : ((c.toNat : Int) == 34) = true ∨ (((c.toNat : Int) == 34) = false ∧ ((c.toNat : Int) == 92) = true) := by
          simp only [beq_iff_eq, beq_eq_false_iff_ne, ne_eq]; omega
        clear he
        rcases hb' with b1 | ⟨b1, b2⟩
        all_goals
          go_wp2_with (at_builtin; refine wpList_append_own_at _ rfl _ _ 50 rfl B 5 i0 _ 1 1 Tryd.underlying50 hi hz0 hz1 hz2 rfl (by decide) _ _ _ rfl (har.1.alloc _) ⟨wr.heap.size, 0, none⟩ 2 2 [.int .u8 92, .int .u8 c.toNat] rfl rfl (row_new _ _ _) (by simp [Value.oneCell']) (by unfold maxLen; omega) (by omega) (by have := har.2.2.2.1; simp; omega) ?_; intro v5 w5 hown5 hg5 _ hb5; obtain ⟨har5, hf5⟩ := har.app hltr (app_row (cs := [92, c]) hown5) hg5 hb5)
          go_roundg (t.size - (k + 1))
          case measure => omega
          case rel => exact ⟨k + 1, by omega, by go_num, by rw [HTK.out, HQ.out, ← List.append_assoc]; exact har5, by have := hf5.size; omega, fun j hj => hf5.cell (HB.out j hj) rfl⟩
      · have b1 : ((c.toNat : Int) == 34) = false := by simp only [beq_eq_false_iff_ne, ne_eq]; omega
        have b2 : ((c.toNat : Int) == 92) = false := by simp only [beq_eq_false_iff_ne, ne_eq]; omega
        by_cases hlo : c.toNat < 32
        · have HQ := Lib.hid (show quoC c = [92, 117, 48, 48, hexS (c.toNat / 16), hexS (c.toNat % 16)] by rw [quoC, if_neg he, if_pos hlo])
          have b3 : (c.toNat : Int) < 32 := by omega
          clear he
          have ha15 : bits BinOp.and IntKind.u8 (c.toNat : Int) 15 = (c.toNat : Int) % 16 := by have := and15 ⟨c.toNat, hlo⟩; simpa using this
          have hx1 : ∀ W, (Instr.index 9 (.string ⟨#[48, 49, 50, 51, 52, 53, 54, 55, 56, 57, 97, 98, 99, 100, 101, 102]⟩) (.int .u8 ((c.toNat : Int) / 16))).run Tryd.prog W = .ok (.int .u8 (hexS (c.toNat / 16)).toNat) W := fun W => by
            have := hexIdx W (c.toNat / 16) (by omega); simpa using this
          have hx2 : ∀ W, (Instr.index 9 (.string ⟨#[48, 49, 50, 51, 52, 53, 54, 55, 56, 57, 97, 98, 99, 100, 101, 102]⟩) (.int .u8 ((c.toNat : Int) % 16))).run Tryd.prog W = .ok (.int .u8 (hexS (c.toNat % 16)).toNat) W := fun W => by
            have := hexIdx W (c.toNat % 16) (by omega); simpa using this
          go_wp2
          go_region_held3 (fun _ => True) (trivial) (first
            | (refine step_append_lies _ (by rfl) _ _ _ (by rfl) B 5 i0 _ 1 1 Tryd.underlying50 hi hz0 hz1 hz2 rfl (by decide) u0 _ _ (by rfl) (by first | exact har.1.alloc _ | exact (har.1.alloc _).drew) ⟨wr.heap.size, 0, none⟩ 6 6 [.int .u8 92, .int .u8 117, .int .u8 48, .int .u8 48, .int .u8 (hexS (c.toNat / 16)).toNat, .int .u8 (hexS (c.toNat % 16)).toNat] (by rfl) (by rfl) (World.news_of_block (cs := #[.int .u8 92, .int .u8 117, .int .u8 48, .int .u8 48, .int .u8 (hexS (c.toNat / 16)).toNat, .int .u8 (hexS (c.toNat % 16)).toNat]) (t := 5) (fr := (0, 0)) (heap_alloc_new wr _)) (by simp [Value.oneCell']) (by omega) (by unfold maxLen; omega) (by omega) (by have := har.2.2.2.1; simp; omega) (wr.heap.size + 1) (by simp) ?_; intro g5 cap5 w5 hown5 hg5 hb5 hlt5)
            | fail)
          all_goals
            obtain ⟨har5, hf5⟩ := har.app hltr (app_row (cs := [92, 117, 48, 48, hexS (c.toNat / 16), hexS (c.toNat % 16)]) hown5) ⟨hg5.os, hg5.tape, hg5.output, hg5.size, hg5.block⟩ (by
              rcases hb5 with e | e
              · exact .inl e.symm
              · exact .inr (by rw [e]; simp [Value.ownBlock]))
            clear hown5 hg5 hb5 ha15 hx1 hx2
            rw [show List.length (l ++ [34] ++ quoL (List.take k ts)) + 6 = List.length l + (List.length (quoL (List.take k ts)) + 1) + 6 by simp only [List.length_append, List.length_cons, List.length_nil]; omega] at har5
            go_wp2
            go_roundg (t.size - (k + 1))
            case measure => omega
            case rel => exact ⟨k + 1, by omega, by go_num, by rw [HTK.out, HQ.out, ← List.append_assoc]; exact har5, by have := hf5.size; omega, fun j hj => hf5.cell (HB.out j hj) rfl⟩
        · have HQ := Lib.hid (show quoC c = [c] by rw [quoC, if_neg he, if_neg hlo])
          have b3 : 32 ≤ (c.toNat : Int) := by omega
          clear he
          go_wp2_with (at_builtin; refine wpList_append_own_at _ rfl _ _ 50 rfl B 5 i0 _ 1 1 Tryd.underlying50 hi hz0 hz1 hz2 rfl (by decide) _ _ _ rfl (har.1.alloc _) ⟨wr.heap.size, 0, none⟩ 1 1 [.int .u8 c.toNat] rfl rfl (row_new _ _ _) (by simp [Value.oneCell']) (by unfold maxLen; omega) (by omega) (by have := har.2.2.2.1; simp; omega) ?_; intro v5 w5 hown5 hg5 _ hb5; obtain ⟨har5, hf5⟩ := har.app hltr (app_row (cs := [c]) hown5) hg5 hb5)
          go_roundg (t.size - (k + 1))
          case measure => omega
          case rel => exact ⟨k + 1, by omega, by go_num, by rw [HTK.out, HQ.out, ← List.append_assoc]; exact har5, by have := hf5.size; omega, fun j hj => hf5.cell (HB.out j hj) rfl⟩
    · have hall : ts.take k = ts := List.take_of_length_le (by have := HLn.out; omega)
      rw [hall] at har
      have hll : (l ++ [34] ++ quoL ts).length ≤ 8000000 := by have := HLn.out; have := (quoL_len ts).2; simp only [List.length_append, List.length_cons, List.length_nil]; omega
      have hbb : B ≤ wr.heap.size := har.2.2.2.1
      clear hall HB
      go_wp2_with (at_builtin; refine wpList_append_own_at _ rfl _ _ 50 rfl B 5 i0 _ 1 1 Tryd.underlying50 hi hz0 hz1 hz2 rfl (by decide) _ _ _ rfl (har.1.alloc _) ⟨wr.heap.size, 0, none⟩ 1 1 [.int .u8 34] rfl rfl (cell_one_new _ _ _) (by simp [Value.oneCell']) (by unfold maxLen; omega) (by omega) (by simp; omega) ?_; intro v5 w5 hown5 hg5 _ hb5; obtain ⟨har5, hf5⟩ := har.app hltr (app_one (c := 34) hown5) hg5 hb5)
      go_ret
      exact ⟨v5, rfl, har5.1, har5.2.1, har5.2.2.1⟩
end Go.Proofs.YtcamaloekanelaaDoor
