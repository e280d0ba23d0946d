/-
  ResolveSymbols holds, for all numbers: an enum's symbol is read as the same one, or as the default. No condition but what the card itself ties.
-/
import Derived.Test.YtcmillbjpplfjaaGreatDoorSyF
import Derived.Test.YtcmillbjpplfjaaGreatDoorSyb
namespace Go.Proofs.YtcmillbjpplfjaaGreatDoor.resolveSymbols
open Go.ChangeShapes Go.WideShapes Go.ChangeAt Go.RowKit
theorem cl1 : (Rows.resolveSymbolsRow.inPlace == Tryz.pinned.checked.prog.inPlace 10) = true := by kernel_rfl
theorem cl2 : (Rows.resolveSymbolsRow.unfollowed == Tryz.pinned.checked.prog.unfollowed 10) = true := by kernel_rfl
theorem cl3 : (Rows.resolveSymbolsRow.recurses == Tryz.pinned.checked.prog.recurses 10) = true := by kernel_rfl
theorem cl4 : (Rows.resolveSymbolsRow.named == Tryz.pinned.checked.prog.varsNamed 10) = true := by kernel_rfl
theorem closed : joinedFacts Tryz.pinned.checked.prog 10 Tryz.f10 (OpenSpec.ofChange Rows.resolveSymbolsSpec).bare Rows.resolveSymbolsRow = true := by
  unfold joinedFacts
  rw [cl1, cl2, cl3, cl4]
  kernel_rfl
theorem said (walk : Walk) : Rows.ResolveSymbolsSaid :=
  OpenClaim.holds_of_cond 10 Tryz.f10 rfl rfl rfl rfl rfl rfl rfl ⟨rfl, rfl, rfl, rfl, rfl⟩ rfl rfl rfl rfl rfl (by kernel_rfl) Tryz.func10 closed
    (of_decide_eq_true (by kernel_rfl)) (by unfold Func.isWrapper; first | (rw [if_pos (by decide +kernel)]; kernel_rfl) | (rw [if_neg (by decide +kernel)]; exact ⟨rfl, rfl⟩))
    (fun os started H enc _ F => by rw [OpenClaim.pre_eq_preRow]; exact lifted walk os started H enc F)

theorem plain (f : FuncId) (fn : Func) (hf : Tryz.pinned.checked.prog.funcNamed "courant/courantlaw10.ResolveSymbols" = some f) (hfn : Tryz.pinned.checked.prog.funcs[f]? = some fn) :
    true = Tryz.pinned.checked.prog.looks [] ∧ ∀ (j : Nat) t, fn.params[j]? = some t → Tryz.pinned.checked.prog.wantsStandIn t = false := by
  obtain rfl : f = 10 := Option.some.inj ((show Tryz.prog.funcNamed "courant/courantlaw10.ResolveSymbols" = some 10 by kernel_rfl).symm.trans hf) |>.symm
  obtain rfl : fn = Tryz.f10 := (Option.some.inj (Tryz.func10.symm.trans hfn)).symm
  refine ⟨by kernel_rfl, fun j t ht => ?_⟩
  rw [Tryz.params10] at ht
  have hm : t ∈ [48, 48, 3, 3, 4] := by simpa using Array.mem_of_getElem? ht
  have hall : ([48, 48, 3, 3, 4].all fun u => !Tryz.prog.wantsStandIn u) = true := by kernel_rfl
  exact (show Tryz.prog.wantsStandIn t = false by simpa using List.all_eq_true.1 hall t hm)

theorem card (walk : Walk) : Rows.ResolveSymbolsCardSaid :=
  Claim7.holds_tied_plain_at .later [] _ _ _ _ (said walk) (fun _ h => by cases h) (by kernel_rfl) (fun _ h => by cases h) resolveSymbols_row_tie rfl ⟨rfl, rfl⟩ (by kernel_rfl) rfl plain (by kernel_rfl)
end Go.Proofs.YtcmillbjpplfjaaGreatDoor.resolveSymbols
namespace Go.Proofs.YtcmillbjpplfjaaGreatDoor
open Go.RowKit

theorem resolveSymbols_holds : Rows.ResolveSymbolsCardSaid := resolveSymbols.card fun A0 n0 c0 x0 A1 n1 c1 x1 a2 a3 a4 w h0 h1 _ _ _ => symbols_walk A0 A1 n0 c0 n1 c1 x0 x1 a2 a3 a4 w h0.1 ⟨h0.2.1, h0.2.2.1⟩ h1.1 ⟨h1.2.1, h1.2.2.1⟩ h0.2.2.2.2 h1.2.2.2.2
end Go.Proofs.YtcmillbjpplfjaaGreatDoor
