/-
  ResolvePromotes holds, for every two kinds, every number and all bytes: of all pairs of primitives just those that are alike, an int as a long, and a string as bytes, are read; the value stays. No condition but what the card itself ties.
-/
import Derived.Test.YtcmillbjpplfjaaGreatDoorPrF
import Derived.Test.YtcmillbjpplfjaaGreatDoorRpy
namespace Go.Proofs.YtcmillbjpplfjaaGreatDoor
open Go.RowKit

theorem resolvePromotes_holds : Rows.ResolvePromotesCardSaid := resolvePromotes.card fun a0 a1 a2 A n c xs w _ _ h2 hb hG => promotes_walk a0 a1 a2 A n c xs w h2 hb.2.2.2.1 hb.1 hb.2.1 hb.2.2.1 hb.2.2.2.2 hG
end Go.Proofs.YtcmillbjpplfjaaGreatDoor
