/-
  PROVED: for every byte slice b the law 'FingerPrints' returns true: the print of any bytes, and the table, are the document's, and what is handed in stays (P7.1). No condition.
-/
import Derived.Test.YtlgjmbljpjnlhaaPrt
import Derived.DeepKeys
import Derived.ProofKit
import Derived.OpenShut
import Derived.ChangeOld
namespace Go.Proofs.Ytlgjmbljpjnlhaa
open Go.ChangeShapes Go.WideShapes Go.ChangeAt Go.RowKit
theorem bstep {a b c : World} (h : Below a.heap.size a b) (k : Below b.heap.size b c) : Below a.heap.size a c := h.trans (k.mono h.size)

theorem part25 (cs : Array Value) (i : Nat) (v : Value) (h : cs[i]? = some v) (w : World) : (part 25 cs i).run Try.prog w = .ok v w := by
  have hagg : (isAgg 25).run Try.prog w = .ok false w := by
    unfold isAgg
    rw [Sem.run_bind, run_underlying Try.underlying25 w]
    simp
  simp [part, Sem.run_bind, hagg, h]
theorem items_self (cs : Array Value) (hcs : ∀ i, i < 256 → ∃ v : Int, cs[i]? = some (.int .u64 v)) (w : World) : ∀ is : List Nat, (∀ i ∈ is, i < 256) → (Op.eqItems 9999 25 1 cs cs is).run Try.prog w = .ok true w
  | [], _ => by simp [Op.eqItems]
  | i :: is, h => by
    obtain ⟨v, hv⟩ := hcs i (h i (by simp))
    have ih := items_self cs hcs w is (fun j hj => h j (by simp [hj]))
    have hp := part25 cs (i * 1) (.int .u64 v) (by rw [Nat.mul_one]; exact hv) w
    have he := run_equalIn_int (P := Try.prog) w 9998 25 .u64 .u64 v v Try.underlying25
    simp only [Op.eqItems, Sem.run_bind, hp, he, Result.andThen_ok, beq_self_eq_true]
    simpa using ih
theorem cells25 : Try.prog.cellsOf 25 = 1 := by kernel_rfl
theorem tables_eq (T : Nat → Array Value) (HT : Hid (TblLaw T)) (w : World) : (Op.equalIn 10000 27 (.agg (T 256)) (.agg (T 256))).run Try.prog w = .ok true w := by
  obtain ⟨i, hi⟩ := info_of_underlying Try.underlying25
  rw [run_equalIn_array w 9999 (T 256) (T 256) Try.underlying27 hi, cells25]
  exact items_self _ (fun i hi => ⟨_, HT.out.got 256 i hi hi⟩) w _ (fun i hi => by simpa using hi)
namespace fingerPrints
set_option maxHeartbeats 4000000 in
set_option maxRecDepth 100000 in
theorem walk (T : Nat → Array Value) (HT : Hid (TblLaw T)) (A : Option Addr) (l c : Nat) (xs : List Int) (w : World) (hr : Rd w w.heap.size A l c xs) (hl : l ≤ 20000) :
    Calls Try.prog 3 #[.slice A l c] w fun e w' => e = .returned (.bool true) ∧ Below w.heap.size w w' := by
  have HL := Lib.hid hr.len
  go_enter Try.func3, Try.ntmps3
  go_wp2_with fail
  refine (own_any w.heap.size A l c xs 71 w hr (Nat.le_refl _) (by omega)).mono ?_
  rintro e w1 ⟨g, rfl, hg, hrow, hb1⟩
  go_wp2_with fail
  refine (awake_any w1).mono ?_
  rintro e w2 ⟨rfl, hb2⟩
  have hrow2 := hrow.below hb2 hrow.lt
  have hbw2 := bstep hb1 hb2
  have hrw2 := (hr.below hbw2).more hbw2.size
  have hin : Rd w2 w2.heap.size (some ⟨g, 0, none⟩) l (l + 3) xs := by
    have := hrow2.rd (n := l) (c := l + 3) (fun x hx => by
      rw [List.mem_append] at hx
      rcases hx with hx | hx
      · exact hr.byte x hx
      · simp at hx; omega) (by simp; have := HL.out; omega) (by omega) (by unfold maxLen; omega)
    rwa [List.take_left' HL.out] at this
  clear hrow hb1 hb2
  go_wp2_with fail
  refine (print_any T HT _ _ _ xs w2 hin (by omega)).mono ?_
  rintro e w3 ⟨rfl, hb3⟩
  have hrw3 := (hrw2.below hb3).more hb3.size
  have hrow3 := hrow2.below hb3 hrow2.lt
  have hbw3 := bstep hbw2 hb3
  clear hin hrw2 hrow2 hbw2 hb3
  go_wp2_with fail
  refine (ref_any _ _ _ xs w3 hrw3 (by omega)).mono ?_
  rintro e w4 ⟨rfl, rfl⟩
  go_wp2_with fail
  refine (table_any T HT _).mono ?_
  rintro e w5 ⟨rfl, hb5⟩
  go_wp2_with fail
  refine (reftab_any T HT _).mono ?_
  rintro e w6 ⟨rfl, hb6⟩
  have heq := tables_eq T HT w6
  have hbw6 := bstep (bstep hbw3 hb5) hb6
  have hrow6 := (hrow3.below hb5 hrow3.lt).below hb6 (hrow3.below hb5 hrow3.lt).lt
  have hrw6 := (hr.below hbw6).more hbw6.size
  clear hb5 hb6 hrow3 hrw3 hbw3 hr
  go_wp2_with fail
  refine (kept_true A g l c xs 71 w6 hrow6 (by omega) hrw6 (by omega)).mono ?_
  rintro e w7 ⟨rfl, hb7⟩
  go_wp2
  go_ret
  exact ⟨rfl, bstep hbw6 hb7⟩
set_option maxHeartbeats 400000 in
set_option maxRecDepth 100000 in
theorem walk_long (A : Option Addr) (l c : Nat) (w : World) (hl : ¬ l ≤ 20000) :
    Calls Try.prog 3 #[.slice A l c] w fun e w' => e = .returned (.bool true) ∧ Below w.heap.size w w' := by
  go_enter Try.func3, Try.ntmps3
  go_wp2_with fail
  refine (awake_any w).mono ?_
  rintro e w2 ⟨rfl, hb2⟩
  go_wp2
  go_ret
  exact ⟨rfl, hb2⟩
theorem final (A : Option Addr) (l c : Nat) (xs : List Int) (w : World) (w2 : Rd w w.heap.size A l c xs) :
    Calls Try.prog 3 #[.slice A l c] w fun e w' => e = .returned (.bool true) ∧ Below w.heap.size w w' := by
  by_cases hl : l ≤ 20000
  · exact walk tbl (Lib.hid tbl_law) A l c xs w w2 hl
  · exact walk_long A l c w hl
theorem own : ownKnob Try.prog.godebug = none := by kernel_rfl
theorem laidOut : laidOutB Try.prog = true := by kernel_rfl
set_option maxRecDepth 100000 in
theorem lifted (os : Os) (started : os.Started) (H : Type) (enc : TypeId × Value → H) :
    ReturnsInHanded {} Try.checked os 3 .any (Rows.fingerPrintsSpec.pre6 enc Try.prog Try.f3 Rows.fingerPrintsRow.domain false) (Rows.fingerPrintsSpec.post enc Try.prog Try.f3 false true false false) := by
  refine returnsInHanded_of_change (C := Try.checked) own started (by kernel_rfl) Try.func3
    (ChangeSpec.witness6 (enc := enc) (C := Try.checked) false ⟨#[], #[.slice none 0 0], []⟩ 8 (by kernel_rfl) (by kernel_rfl) (by kernel_rfl) (by kernel_rfl)) ?_
  intro W base args ds gs before hval0 hW hcnd _
  have hval : ∀ (j : Nat) t v, Try.f3.params[j]? = some t → args[j]? = some v → Value.okWide Try.prog W .any base t v := hval0
  have hW' := hW
  obtain ⟨p, q, hA0, hV, rfl, hfz, hnd⟩ := hW
  have hA : DataW.TrodAll enc Try.prog W 0 (fun _ => true) true Try.f3.params.toList args.toList ds p := hA0
  rw [Try.params3] at hA hval
  obtain ⟨v0, vs0, d0, ds0, p0, q0, hargs, rfl, rfl, h0, r0⟩ := trodAll_cons hA
  obtain ⟨rfl, rfl, rfl⟩ := trodAll_nil r0
  obtain rfl : args = #[v0] := by cases args; simp_all
  obtain ⟨rfl, rfl⟩ := trodVars_none hV
  have k0 := h0
  have lt0 : ∀ x ∈ p0, x.block < W.heap.size := by obtain ⟨m, hm⟩ := k0; exact DataW.trod_lt m _ _ _ hm
  obtain ⟨A0, l0, c0, x0, rfl, w0⟩ := open_rd Try.underlying22 Try.underlying5 (by kernel_rfl) (hval 0 22 v0 rfl rfl) h0
  clear hA0 hval0
  refine (final A0 l0 c0 x0 W w0).mono fun e W' ⟨he, bel⟩ => ?_
  subst he
  exact ⟨_, rfl, _, _, _, [], _, [], hW', trodAll_mk1 (shut_bool Try.underlying4 _), (trodAll_cons_mk (Below.trod laidOut (by kernel_rfl) (of_decide_eq_true (by kernel_rfl)) k0 bel lt0) trodAll_mk0), rfl, bel.frame _, fun h => by cases h⟩

theorem over : Rows.fingerPrintsRow.holds Try.pinned (OpenSpec.ofChange Rows.fingerPrintsSpec) :=
  OpenClaim.holds_of_wide 3 Try.f3 rfl rfl rfl rfl rfl rfl rfl ⟨rfl, rfl, rfl, rfl, rfl⟩ rfl rfl rfl rfl rfl (by kernel_rfl) Try.func3 (by kernel_rfl)
    (of_decide_eq_true (by kernel_rfl)) (by unfold Func.isWrapper; first | (rw [if_pos (by decide +kernel)]; kernel_rfl) | (rw [if_neg (by decide +kernel)]; exact ⟨rfl, rfl⟩))
    (fun os started H enc _ => lifted os started H enc)
theorem proved : Rows.FingerPrintsSaid := over
#print axioms proved
end fingerPrints
end Go.Proofs.Ytlgjmbljpjnlhaa
