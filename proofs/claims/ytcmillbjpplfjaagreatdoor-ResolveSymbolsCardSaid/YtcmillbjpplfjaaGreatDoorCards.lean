/-
  DERIVED. GIVEN WITH THE SEED: THE CARDS: each row of YtcmillbjpplfjaaGreatDoorRows.lean that lists a variable, with what it lists TIED to the program's text (the seventh form; the later family's looks); each row that meets fmt, with fmt's text TOLD by the authors' own Lean function (tested against real Go, not proved from fmt's source: count such statements apart). THE CARD IS WHAT COUNTS. Prove the row's statement (the work); the ties are given (YtcmillbjpplfjaaGreatDoorTie.lean); close each card by the builder's one call (the guide's Derived/Test/ToyasCard.lean, 'card_holds'). Laid BY PROGRAM, IN A SANDBOX (cutbox-door.mjs). By AI agents, Wed Nov 11 2026. No macro, syntax, notation, axiom, sorry.
-/
import Derived.Test.YtcmillbjpplfjaaGreatDoorRows
import GoSem.ClaimSeven
namespace Go.Proofs.YtcmillbjpplfjaaGreatDoor
namespace Rows

/-- THE TIED CARD OF 'courantlaw10.ResolveValues'. -/
def resolveValuesCard : Claim7 := { stood := { row := resolveValuesRow, standIns := [], harness := (true, "f3aeef7218c261145dce20e22043ea9744edcded1e5a84d84f49cf87e9535de4"), looks := true }, kinds := [], alts := [], laidByText := true, laidKinds := [.data, .data, .data, .data, .sentinel, .sentinel, .data, .pinned], laidTests := true, laidLooks := .later }
def ResolveValuesCardSaid : Prop := Claim7.holds Tryz.pinned (.plain (OpenSpec.ofChange resolveValuesSpec)) resolveValuesCard

/-- THE TIED CARD OF 'courantlaw10.ResolveReads'. -/
def resolveReadsCard : Claim7 := { stood := { row := resolveReadsRow, standIns := [], harness := (true, "f3aeef7218c261145dce20e22043ea9744edcded1e5a84d84f49cf87e9535de4"), looks := true }, kinds := [], alts := [], laidByText := true, laidKinds := [.data, .data, .data, .data, .sentinel, .sentinel, .data, .pinned], laidTests := true, laidLooks := .later }
def ResolveReadsCardSaid : Prop := Claim7.holds Tryz.pinned (.plain (OpenSpec.ofChange resolveReadsSpec)) resolveReadsCard

/-- THE TIED CARD OF 'courantlaw10.ResolveSelf'. -/
def resolveSelfCard : Claim7 := { stood := { row := resolveSelfRow, standIns := [], harness := (true, "f3aeef7218c261145dce20e22043ea9744edcded1e5a84d84f49cf87e9535de4"), looks := true }, kinds := [], alts := [], laidByText := true, laidKinds := [.data, .data, .data, .data, .sentinel, .sentinel, .data, .pinned], laidTests := true, laidLooks := .later }
def ResolveSelfCardSaid : Prop := Claim7.holds Tryz.pinned (.plain (OpenSpec.ofChange resolveSelfSpec)) resolveSelfCard

/-- THE TIED CARD OF 'courantlaw10.ResolveTwice'. -/
def resolveTwiceCard : Claim7 := { stood := { row := resolveTwiceRow, standIns := [], harness := (true, "f3aeef7218c261145dce20e22043ea9744edcded1e5a84d84f49cf87e9535de4"), looks := true }, kinds := [], alts := [], laidByText := true, laidKinds := [.data, .data, .data, .data, .sentinel, .sentinel, .data, .pinned], laidTests := true, laidLooks := .later }
def ResolveTwiceCardSaid : Prop := Claim7.holds Tryz.pinned (.plain (OpenSpec.ofChange resolveTwiceSpec)) resolveTwiceCard

/-- THE TIED CARD OF 'courantlaw10.ResolveBytes'. -/
def resolveBytesCard : Claim7 := { stood := { row := resolveBytesRow, standIns := [], harness := (true, "f3aeef7218c261145dce20e22043ea9744edcded1e5a84d84f49cf87e9535de4"), looks := true }, kinds := [], alts := [], laidByText := true, laidKinds := [.data, .data, .data, .data, .sentinel, .sentinel, .data, .pinned], laidTests := true, laidLooks := .later }
def ResolveBytesCardSaid : Prop := Claim7.holds Tryz.pinned (.plain (OpenSpec.ofChange resolveBytesSpec)) resolveBytesCard

/-- THE TIED CARD OF 'courantlaw10.ResolvePromotes'. -/
def resolvePromotesCard : Claim7 := { stood := { row := resolvePromotesRow, standIns := [], harness := (true, "f3aeef7218c261145dce20e22043ea9744edcded1e5a84d84f49cf87e9535de4"), looks := true }, kinds := [], alts := [], laidByText := true, laidKinds := [.data, .data, .data, .data, .sentinel, .sentinel, .data, .pinned], laidTests := true, laidLooks := .later }
def ResolvePromotesCardSaid : Prop := Claim7.holds Tryz.pinned (.plain (OpenSpec.ofChange resolvePromotesSpec)) resolvePromotesCard

/-- THE TIED CARD OF 'courantlaw10.ResolveFields'. -/
def resolveFieldsCard : Claim7 := { stood := { row := resolveFieldsRow, standIns := [], harness := (true, "f3aeef7218c261145dce20e22043ea9744edcded1e5a84d84f49cf87e9535de4"), looks := true }, kinds := [], alts := [], laidByText := true, laidKinds := [.data, .data, .data, .data, .sentinel, .sentinel, .data, .pinned], laidTests := true, laidLooks := .later }
def ResolveFieldsCardSaid : Prop := Claim7.holds Tryz.pinned (.plain (OpenSpec.ofChange resolveFieldsSpec)) resolveFieldsCard

/-- THE TIED CARD OF 'courantlaw10.ResolveSymbols'. -/
def resolveSymbolsCard : Claim7 := { stood := { row := resolveSymbolsRow, standIns := [], harness := (true, "f3aeef7218c261145dce20e22043ea9744edcded1e5a84d84f49cf87e9535de4"), looks := true }, kinds := [], alts := [], laidByText := true, laidKinds := [.data, .data, .data, .data, .sentinel, .sentinel, .data, .pinned], laidTests := true, laidLooks := .later }
def ResolveSymbolsCardSaid : Prop := Claim7.holds Tryz.pinned (.plain (OpenSpec.ofChange resolveSymbolsSpec)) resolveSymbolsCard

/-- THE SECOND FORM's CARD OF 'courantlaw10.ResolveValues'. -/
def resolveValuesUptoCard : Claim7 := { stood := { row := resolveValuesUptoRow, standIns := [], harness := (true, "f3aeef7218c261145dce20e22043ea9744edcded1e5a84d84f49cf87e9535de4"), looks := true }, kinds := [], alts := [], laidByText := true, laidKinds := [.data, .data, .data, .data, .sentinel, .sentinel, .data, .pinned], laidTests := true, laidLooks := .later }
def ResolveValuesUptoCardSaid : Prop := Claim7.holds Tryz.pinned (.plain (OpenSpec.upto resolveValuesSpec)) resolveValuesUptoCard

/-- THE SECOND FORM's CARD OF 'courantlaw10.ResolveReads'. -/
def resolveReadsUptoCard : Claim7 := { stood := { row := resolveReadsUptoRow, standIns := [], harness := (true, "f3aeef7218c261145dce20e22043ea9744edcded1e5a84d84f49cf87e9535de4"), looks := true }, kinds := [], alts := [], laidByText := true, laidKinds := [.data, .data, .data, .data, .sentinel, .sentinel, .data, .pinned], laidTests := true, laidLooks := .later }
def ResolveReadsUptoCardSaid : Prop := Claim7.holds Tryz.pinned (.plain (OpenSpec.upto resolveReadsSpec)) resolveReadsUptoCard

/-- THE SECOND FORM's CARD OF 'courantlaw10.ResolveSelf'. -/
def resolveSelfUptoCard : Claim7 := { stood := { row := resolveSelfUptoRow, standIns := [], harness := (true, "f3aeef7218c261145dce20e22043ea9744edcded1e5a84d84f49cf87e9535de4"), looks := true }, kinds := [], alts := [], laidByText := true, laidKinds := [.data, .data, .data, .data, .sentinel, .sentinel, .data, .pinned], laidTests := true, laidLooks := .later }
def ResolveSelfUptoCardSaid : Prop := Claim7.holds Tryz.pinned (.plain (OpenSpec.upto resolveSelfSpec)) resolveSelfUptoCard

/-- THE SECOND FORM's CARD OF 'courantlaw10.ResolveTwice'. -/
def resolveTwiceUptoCard : Claim7 := { stood := { row := resolveTwiceUptoRow, standIns := [], harness := (true, "f3aeef7218c261145dce20e22043ea9744edcded1e5a84d84f49cf87e9535de4"), looks := true }, kinds := [], alts := [], laidByText := true, laidKinds := [.data, .data, .data, .data, .sentinel, .sentinel, .data, .pinned], laidTests := true, laidLooks := .later }
def ResolveTwiceUptoCardSaid : Prop := Claim7.holds Tryz.pinned (.plain (OpenSpec.upto resolveTwiceSpec)) resolveTwiceUptoCard

/-- THE SECOND FORM's CARD OF 'courantlaw10.ResolveBytes'. -/
def resolveBytesUptoCard : Claim7 := { stood := { row := resolveBytesUptoRow, standIns := [], harness := (true, "f3aeef7218c261145dce20e22043ea9744edcded1e5a84d84f49cf87e9535de4"), looks := true }, kinds := [], alts := [], laidByText := true, laidKinds := [.data, .data, .data, .data, .sentinel, .sentinel, .data, .pinned], laidTests := true, laidLooks := .later }
def ResolveBytesUptoCardSaid : Prop := Claim7.holds Tryz.pinned (.plain (OpenSpec.upto resolveBytesSpec)) resolveBytesUptoCard

/-- THE SECOND FORM's CARD OF 'courantlaw10.ResolvePromotes'. -/
def resolvePromotesUptoCard : Claim7 := { stood := { row := resolvePromotesUptoRow, standIns := [], harness := (true, "f3aeef7218c261145dce20e22043ea9744edcded1e5a84d84f49cf87e9535de4"), looks := true }, kinds := [], alts := [], laidByText := true, laidKinds := [.data, .data, .data, .data, .sentinel, .sentinel, .data, .pinned], laidTests := true, laidLooks := .later }
def ResolvePromotesUptoCardSaid : Prop := Claim7.holds Tryz.pinned (.plain (OpenSpec.upto resolvePromotesSpec)) resolvePromotesUptoCard

/-- THE SECOND FORM's CARD OF 'courantlaw10.ResolveFields'. -/
def resolveFieldsUptoCard : Claim7 := { stood := { row := resolveFieldsUptoRow, standIns := [], harness := (true, "f3aeef7218c261145dce20e22043ea9744edcded1e5a84d84f49cf87e9535de4"), looks := true }, kinds := [], alts := [], laidByText := true, laidKinds := [.data, .data, .data, .data, .sentinel, .sentinel, .data, .pinned], laidTests := true, laidLooks := .later }
def ResolveFieldsUptoCardSaid : Prop := Claim7.holds Tryz.pinned (.plain (OpenSpec.upto resolveFieldsSpec)) resolveFieldsUptoCard

/-- THE SECOND FORM's CARD OF 'courantlaw10.ResolveSymbols'. -/
def resolveSymbolsUptoCard : Claim7 := { stood := { row := resolveSymbolsUptoRow, standIns := [], harness := (true, "f3aeef7218c261145dce20e22043ea9744edcded1e5a84d84f49cf87e9535de4"), looks := true }, kinds := [], alts := [], laidByText := true, laidKinds := [.data, .data, .data, .data, .sentinel, .sentinel, .data, .pinned], laidTests := true, laidLooks := .later }
def ResolveSymbolsUptoCardSaid : Prop := Claim7.holds Tryz.pinned (.plain (OpenSpec.upto resolveSymbolsSpec)) resolveSymbolsUptoCard
end Rows
end Go.Proofs.YtcmillbjpplfjaaGreatDoor
