/-
  ResolveSymbols holds, for all numbers: an enum's symbol is read as the same one, or as the default. No condition but what the card itself ties.
-/
import Derived.Test.YtcmillbjpplfjaaGreatDoorSyF
import Derived.Test.YtcmillbjpplfjaaGreatDoorSyb
namespace Go.Proofs.YtcmillbjpplfjaaGreatDoor
open Go.RowKit

theorem resolveSymbols_holds : Rows.ResolveSymbolsCardSaid := resolveSymbols.card fun A0 n0 c0 x0 A1 n1 c1 x1 a2 a3 a4 w h0 h1 _ _ _ => symbols_walk A0 A1 n0 c0 n1 c1 x0 x1 a2 a3 a4 w h0.1 ⟨h0.2.1, h0.2.2.1⟩ h1.1 ⟨h1.2.1, h1.2.2.1⟩ h0.2.2.2.2 h1.2.2.2.2
end Go.Proofs.YtcmillbjpplfjaaGreatDoor
