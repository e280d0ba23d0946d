/-
  DERIVED. GIVEN WITH THE SEED: THE CARDS: each row of YtfboecnhakihnaaGreatDoorRows.lean that lists a variable, with what it lists TIED to the program's text (the seventh form; the later family's looks); each row that meets fmt, with fmt's text TOLD by the authors' own Lean function (tested against real Go, not proved from fmt's source: count such statements apart). THE CARD IS WHAT COUNTS. Prove the row's statement (the work); the ties are given (YtfboecnhakihnaaGreatDoorTie.lean); close each card by the builder's one call (the guide's Derived/Test/ToyasCard.lean, 'card_holds'). Laid BY PROGRAM, IN A SANDBOX (cutbox-door.mjs). By AI agents, Wed Nov 11 2026. No macro, syntax, notation, axiom, sorry.
-/
import Derived.Test.YtfboecnhakihnaaGreatDoorRows
import GoSem.ClaimSeven
namespace Go.Proofs.YtfboecnhakihnaaGreatDoor
namespace Rows

/-- THE TIED CARD OF 'courantlaw04.ValueFits'. -/
def valueFitsCard : Claim7 := { stood := { row := valueFitsRow, standIns := [], harness := (true, "d93243193960a03f31a9dd1dd6185925ecd2b5ea25df60369a415b08955373c9"), looks := true }, kinds := [], alts := [], laidByText := true, laidKinds := [.data, .data, .data, .data, .sentinel, .sentinel, .data, .pinned], laidTests := true, laidLooks := .later }
def ValueFitsCardSaid : Prop := Claim7.holds Tryz.pinned (.plain (OpenSpec.ofChange valueFitsSpec)) valueFitsCard

/-- THE TIED CARD OF 'courantlaw04.ValueDefaults'. -/
def valueDefaultsCard : Claim7 := { stood := { row := valueDefaultsRow, standIns := [], harness := (true, "d93243193960a03f31a9dd1dd6185925ecd2b5ea25df60369a415b08955373c9"), looks := true }, kinds := [], alts := [], laidByText := true, laidKinds := [.data, .data, .data, .data, .sentinel, .sentinel, .data, .pinned], laidTests := true, laidLooks := .later }
def ValueDefaultsCardSaid : Prop := Claim7.holds Tryz.pinned (.plain (OpenSpec.ofChange valueDefaultsSpec)) valueDefaultsCard

/-- THE TIED CARD OF 'courantlaw04.ValueDefaultFits'. -/
def valueDefaultFitsCard : Claim7 := { stood := { row := valueDefaultFitsRow, standIns := [], harness := (true, "d93243193960a03f31a9dd1dd6185925ecd2b5ea25df60369a415b08955373c9"), looks := true }, kinds := [], alts := [], laidByText := true, laidKinds := [.data, .data, .data, .data, .sentinel, .sentinel, .data, .pinned], laidTests := true, laidLooks := .later }
def ValueDefaultFitsCardSaid : Prop := Claim7.holds Tryz.pinned (.plain (OpenSpec.ofChange valueDefaultFitsSpec)) valueDefaultFitsCard

/-- THE TIED CARD OF 'courantlaw04.ValueWalks'. -/
def valueWalksCard : Claim7 := { stood := { row := valueWalksRow, standIns := [], harness := (true, "d93243193960a03f31a9dd1dd6185925ecd2b5ea25df60369a415b08955373c9"), looks := true }, kinds := [], alts := [], laidByText := true, laidKinds := [.data, .data, .data, .data, .sentinel, .sentinel, .data, .pinned], laidTests := true, laidLooks := .later }
def ValueWalksCardSaid : Prop := Claim7.holds Tryz.pinned (.plain (OpenSpec.ofChange valueWalksSpec)) valueWalksCard

/-- THE SECOND FORM's CARD OF 'courantlaw04.ValueFits'. -/
def valueFitsUptoCard : Claim7 := { stood := { row := valueFitsUptoRow, standIns := [], harness := (true, "d93243193960a03f31a9dd1dd6185925ecd2b5ea25df60369a415b08955373c9"), looks := true }, kinds := [], alts := [], laidByText := true, laidKinds := [.data, .data, .data, .data, .sentinel, .sentinel, .data, .pinned], laidTests := true, laidLooks := .later }
def ValueFitsUptoCardSaid : Prop := Claim7.holds Tryz.pinned (.plain (OpenSpec.upto valueFitsSpec)) valueFitsUptoCard

/-- THE SECOND FORM's CARD OF 'courantlaw04.ValueDefaults'. -/
def valueDefaultsUptoCard : Claim7 := { stood := { row := valueDefaultsUptoRow, standIns := [], harness := (true, "d93243193960a03f31a9dd1dd6185925ecd2b5ea25df60369a415b08955373c9"), looks := true }, kinds := [], alts := [], laidByText := true, laidKinds := [.data, .data, .data, .data, .sentinel, .sentinel, .data, .pinned], laidTests := true, laidLooks := .later }
def ValueDefaultsUptoCardSaid : Prop := Claim7.holds Tryz.pinned (.plain (OpenSpec.upto valueDefaultsSpec)) valueDefaultsUptoCard

/-- THE SECOND FORM's CARD OF 'courantlaw04.ValueDefaultFits'. -/
def valueDefaultFitsUptoCard : Claim7 := { stood := { row := valueDefaultFitsUptoRow, standIns := [], harness := (true, "d93243193960a03f31a9dd1dd6185925ecd2b5ea25df60369a415b08955373c9"), looks := true }, kinds := [], alts := [], laidByText := true, laidKinds := [.data, .data, .data, .data, .sentinel, .sentinel, .data, .pinned], laidTests := true, laidLooks := .later }
def ValueDefaultFitsUptoCardSaid : Prop := Claim7.holds Tryz.pinned (.plain (OpenSpec.upto valueDefaultFitsSpec)) valueDefaultFitsUptoCard

/-- THE SECOND FORM's CARD OF 'courantlaw04.ValueWalks'. -/
def valueWalksUptoCard : Claim7 := { stood := { row := valueWalksUptoRow, standIns := [], harness := (true, "d93243193960a03f31a9dd1dd6185925ecd2b5ea25df60369a415b08955373c9"), looks := true }, kinds := [], alts := [], laidByText := true, laidKinds := [.data, .data, .data, .data, .sentinel, .sentinel, .data, .pinned], laidTests := true, laidLooks := .later }
def ValueWalksUptoCardSaid : Prop := Claim7.holds Tryz.pinned (.plain (OpenSpec.upto valueWalksSpec)) valueWalksUptoCard
end Rows
end Go.Proofs.YtfboecnhakihnaaGreatDoor
