/-
  The world of the witness: the door's own heap, with unicode/utf8's table laid.
-/
import Derived.Test.YtlkbcdbjmkfkkaaDoorRows
import Derived.Test.YtlkbcdbjmkfkkaaDoorCards
import Derived.Test.YtlkbcdbjmkfkkaaDoorTie
import Derived.ProofKit
import Derived.PinnedBridge
import Derived.Lib.LaidU8
import Derived.Stop.LaidErr
import Derived.MakeChecks
import Derived.OpenShut
import Derived.LaidMore
import Derived.Deep.DeepHandedRow
import Derived.Deep.DeepWitnessRowRef
namespace Go.Proofs.YtlkbcdbjmkfkkaaDoor
open Go.ChangeShapes Go.WideShapes Go.ChangeAt Go.RowKit

abbrev theLaid : List (String × DataW Unit) := Rows.codecNullsRow.laid
theorem own : ownKnob Tryd.prog.godebug = none := by kernel_rfl
def firstCells : Array Value := (Lib.firstTab.map (Value.int .u8)).toArray
noncomputable def laidWorld (os : Os) : World :=
  { World.doorLaid Tryd.prog 77 os with heap := (World.doorLaid Tryd.prog 77 os).heap.modify 0 fun
      | .cells _ t frozen => .cells firstCells t frozen
      | o => o }
theorem laid_met (os : Os) (args : Array Value) : laidMet Tryd.prog theLaid ((laidWorld os).forCall (fun _ _ => 0) ⟨#[], args, []⟩).memory :=
  laidMet_of_run' 8 (by kernel_rfl) (by kernel_rfl)
def Gl (_ : World) : Prop := True
theorem gl_of {l : List (String × DataW Unit)} {W : World} (_ : laidMetH Tryd.prog l W) : Gl W := trivial
end Go.Proofs.YtlkbcdbjmkfkkaaDoor
