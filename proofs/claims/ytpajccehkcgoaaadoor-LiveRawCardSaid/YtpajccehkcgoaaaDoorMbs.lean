/-
  What the texts of 'match' ask besides: frames, the cells of a field.
-/
import Derived.Test.YtpajccehkcgoaaaDoorFsm
import Derived.Test.YtpajccehkcgoaaaDoorGnl
import Derived.Test.YtpajccehkcgoaaaDoorUrq
import Derived.Deep.DeepCutAuto
import Derived.StillTail
import Derived.Lib.SmallJoins
namespace Go.Proofs.YtpajccehkcgoaaaDoor
open Go.RowKit

theorem fr_below {w w' : World} (h : Fr w w' (fun _ => True)) : Below w.heap.size w w' := ⟨h.os, h.tape, h.output, h.size, fun k hk => h.block k hk trivial⟩
abbrev fdv (c : Nat → Value) : Value := .agg #[c 0, c 1, c 2, c 3, c 4]
end Go.Proofs.YtpajccehkcgoaaaDoor
