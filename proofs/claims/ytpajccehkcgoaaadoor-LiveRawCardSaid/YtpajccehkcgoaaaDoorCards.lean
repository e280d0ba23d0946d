/-
  DERIVED. GIVEN WITH THE SEED: THE CARDS: each row of YtpajccehkcgoaaaDoorRows.lean that lists a variable, with what it lists TIED to the program's text (the seventh form; the later family's looks); each row that meets fmt, with fmt's text TOLD by the authors' own Lean function (tested against real Go, not proved from fmt's source: count such statements apart). THE CARD IS WHAT COUNTS. Prove the row's statement (the work); the ties are given (YtpajccehkcgoaaaDoorTie.lean); close each card by the builder's one call (the guide's Derived/Test/ToyasCard.lean, 'card_holds'). Laid BY PROGRAM, IN A SANDBOX (cutbox-door.mjs). By AI agents, Wed Nov 11 2026. No macro, syntax, notation, axiom, sorry.
-/
import Derived.Test.YtpajccehkcgoaaaDoorRows
import GoSem.ClaimSeven
namespace Go.Proofs.YtpajccehkcgoaaaDoor
namespace Rows

/-- THE TIED CARD OF 'courantlaw11.LiveRaw'. -/
def liveRawCard : Claim7 := { stood := { row := liveRawRow, standIns := [], harness := (true, "e7267e13d35b8decbcd753b21e8d45966db6f4c30a5b0696cce057b6a2dafe80"), looks := false }, kinds := [], alts := [], laidByText := true, laidKinds := [.data, .pinned], laidTests := true, laidLooks := .later }
def LiveRawCardSaid : Prop := Claim7.holds Tryd.pinned (.plain (OpenSpec.ofChange liveRawSpec)) liveRawCard

/-- THE TIED CARD OF 'courantlaw11.LiveFits'. -/
def liveFitsCard : Claim7 := { stood := { row := liveFitsRow, standIns := [], harness := (true, "e7267e13d35b8decbcd753b21e8d45966db6f4c30a5b0696cce057b6a2dafe80"), looks := false }, kinds := [], alts := [], laidByText := true, laidKinds := [.data, .pinned], laidTests := true, laidLooks := .later }
def LiveFitsCardSaid : Prop := Claim7.holds Tryd.pinned (.plain (OpenSpec.ofChange liveFitsSpec)) liveFitsCard

/-- THE SECOND FORM's CARD OF 'courantlaw11.LiveRaw'. -/
def liveRawUptoCard : Claim7 := { stood := { row := liveRawUptoRow, standIns := [], harness := (true, "e7267e13d35b8decbcd753b21e8d45966db6f4c30a5b0696cce057b6a2dafe80"), looks := false }, kinds := [], alts := [], laidByText := true, laidKinds := [.data, .pinned], laidTests := true, laidLooks := .later }
def LiveRawUptoCardSaid : Prop := Claim7.holds Tryd.pinned (.plain (OpenSpec.upto liveRawSpec)) liveRawUptoCard

/-- THE SECOND FORM's CARD OF 'courantlaw11.LiveFits'. -/
def liveFitsUptoCard : Claim7 := { stood := { row := liveFitsUptoRow, standIns := [], harness := (true, "e7267e13d35b8decbcd753b21e8d45966db6f4c30a5b0696cce057b6a2dafe80"), looks := false }, kinds := [], alts := [], laidByText := true, laidKinds := [.data, .pinned], laidTests := true, laidLooks := .later }
def LiveFitsUptoCardSaid : Prop := Claim7.holds Tryd.pinned (.plain (OpenSpec.upto liveFitsSpec)) liveFitsUptoCard
end Rows
end Go.Proofs.YtpajccehkcgoaaaDoor
