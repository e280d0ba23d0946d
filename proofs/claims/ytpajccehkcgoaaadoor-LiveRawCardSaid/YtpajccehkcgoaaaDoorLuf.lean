/-
  The world of the witness: the door's own heap, with unicode/utf8's table laid; what the rows' list gives.
-/
import Derived.Test.YtpajccehkcgoaaaDoorRows
import Derived.Test.YtpajccehkcgoaaaDoorCards
import Derived.Test.YtpajccehkcgoaaaDoorTie
import Derived.ProofKit
import Derived.PinnedBridge
import Derived.Lib.LaidU8T
import Derived.Stop.LaidErr
import Derived.MakeChecks
import Derived.OpenShut
import Derived.LaidMore
import Derived.Deep.DeepHandedRow
import Derived.Deep.DeepWitnessRowRef
namespace Go.Proofs.YtpajccehkcgoaaaDoor
open Go.ChangeShapes Go.WideShapes Go.ChangeAt Go.RowKit

abbrev theLaid : List (String × DataW Unit) := Rows.liveRawRow.laid
theorem own : ownKnob Tryd.prog.godebug = none := by kernel_rfl
def firstCells : Array Value := (Lib.firstTab.map (Value.int .u8)).toArray
noncomputable def laidWorld (os : Os) : World :=
  { World.doorLaid Tryd.prog 77 os with heap := (World.doorLaid Tryd.prog 77 os).heap.modify 0 fun
      | .cells _ t frozen => .cells firstCells t frozen
      | o => o }
theorem laid_met (os : Os) (args : Array Value) : laidMet Tryd.prog theLaid ((laidWorld os).forCall (fun _ _ => 0) ⟨#[], args, []⟩).memory :=
  laidMet_of_run' 8 (by kernel_rfl) (by kernel_rfl)
def u8ren : Go.Shelf.Ren := ⟨fun n => n, fun | 119 => 98 | 139 => 101 | 138 => 100 | n => n, fun | 3 => 0 | 4 => 1 | n => n⟩
set_option maxRecDepth 100000 in
theorem u8t : U8Types Tryd.prog u8ren := ⟨Tryd.underlying5, Tryd.underlying98, Tryd.underlying100, Tryd.underlying101⟩
theorem u8x : U8Extra Tryd.prog u8ren := ⟨by kernel_rfl, by kernel_rfl, by kernel_rfl, by kernel_rfl, by kernel_rfl, by kernel_rfl, by kernel_rfl⟩
theorem accept_eq : (Rows.laid_unicode_utf8_acceptRanges : DataW Unit) = Lib.acceptData := by kernel_rfl
/-- What the package-level variables hold. -/
def Gl (W : World) : Prop := Lib.Utf8Tabs 0 1 W
theorem gl_of {W : World} (h : laidMetH Tryd.prog theLaid W) : Gl W := by
  have h0 : laidMet Tryd.prog theLaid W := by rw [MakeChecks.laidMetH_plain _ _ _ (by kernel_rfl)] at h; exact h
  obtain ⟨ps, hL, _⟩ := h0
  have hr := Lib.LaidVars_reads hL
  have h3 : Lib.VarReads Tryd.prog W "unicode/utf8.first" Lib.firstData := by
    have := hr "unicode/utf8.first" Rows.laid_unicode_utf8_first (by simp [theLaid, Rows.liveRawRow])
    rw [Rows.laid_unicode_utf8_first, Pinned.utf8First_eq] at this
    exact this
  have h4 : Lib.VarReads Tryd.prog W "unicode/utf8.acceptRanges" Lib.acceptData := by
    have := hr "unicode/utf8.acceptRanges" Rows.laid_unicode_utf8_acceptRanges (by simp [theLaid, Rows.liveRawRow])
    rw [accept_eq] at this
    exact this
  exact utf8Tabs_of_readsT u8t u8x h3 h4
end Go.Proofs.YtpajccehkcgoaaaDoor
