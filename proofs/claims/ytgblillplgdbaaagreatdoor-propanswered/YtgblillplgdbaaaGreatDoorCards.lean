/-
  DERIVED. GIVEN WITH THE SEED: THE CARDS: each row of YtgblillplgdbaaaGreatDoorRows.lean that lists a variable, with what it lists TIED to the program's text (the seventh form; the later family's looks); each row that meets fmt, with fmt's text TOLD by the authors' own Lean function (tested against real Go, not proved from fmt's source: count such statements apart). THE CARD IS WHAT COUNTS. Prove the row's statement (the work); the ties are given (YtgblillplgdbaaaGreatDoorTie.lean); close each card by the builder's one call (the guide's Derived/Test/ToyasCard.lean, 'card_holds'). Laid BY PROGRAM, IN A SANDBOX (cutbox-door.mjs). By AI agents, Wed Nov 11 2026. No macro, syntax, notation, axiom, sorry.
-/
import Derived.Test.YtgblillplgdbaaaGreatDoorRows
import GoSem.ClaimSeven
namespace Go.Proofs.YtgblillplgdbaaaGreatDoor
namespace Rows

/-- THE TIED CARD OF 'signalcabinkeep.PropSound'. -/
def propSoundCard : Claim7 := { stood := { row := propSoundRow, standIns := [], harness := (true, "79e19aa3a818f6a981ff774c3f9a66b9c776cb26fb1c57e45ce565d3efd467c2"), looks := true }, kinds := [], alts := [], laidByText := true, laidKinds := [.data, .data, .data, .data, .handle, .sentinel, .sentinel, .data, .data, .pinned], laidTests := true, laidLooks := .later }
def PropSoundCardSaid : Prop := Claim7.holds Tryz.pinned (.plain (OpenSpec.ofChange propSoundSpec)) propSoundCard

/-- THE TIED CARD OF 'signalcabinkeep.PropAnswered'. -/
def propAnsweredCard : Claim7 := { stood := { row := propAnsweredRow, standIns := [], harness := (true, "79e19aa3a818f6a981ff774c3f9a66b9c776cb26fb1c57e45ce565d3efd467c2"), looks := true }, kinds := [], alts := [], laidByText := true, laidKinds := [.data, .data, .data, .data, .handle, .sentinel, .sentinel, .data, .data, .pinned], laidTests := true, laidLooks := .later }
def PropAnsweredCardSaid : Prop := Claim7.holds Tryz.pinned (.plain (OpenSpec.ofChange propAnsweredSpec)) propAnsweredCard

/-- THE SECOND FORM's CARD OF 'signalcabinkeep.PropSound'. -/
def propSoundUptoCard : Claim7 := { stood := { row := propSoundUptoRow, standIns := [], harness := (true, "79e19aa3a818f6a981ff774c3f9a66b9c776cb26fb1c57e45ce565d3efd467c2"), looks := true }, kinds := [], alts := [], laidByText := true, laidKinds := [.data, .data, .data, .data, .handle, .sentinel, .sentinel, .data, .data, .pinned], laidTests := true, laidLooks := .later }
def PropSoundUptoCardSaid : Prop := Claim7.holds Tryz.pinned (.plain (OpenSpec.upto propSoundSpec)) propSoundUptoCard

/-- THE SECOND FORM's CARD OF 'signalcabinkeep.PropAnswered'. -/
def propAnsweredUptoCard : Claim7 := { stood := { row := propAnsweredUptoRow, standIns := [], harness := (true, "79e19aa3a818f6a981ff774c3f9a66b9c776cb26fb1c57e45ce565d3efd467c2"), looks := true }, kinds := [], alts := [], laidByText := true, laidKinds := [.data, .data, .data, .data, .handle, .sentinel, .sentinel, .data, .data, .pinned], laidTests := true, laidLooks := .later }
def PropAnsweredUptoCardSaid : Prop := Claim7.holds Tryz.pinned (.plain (OpenSpec.upto propAnsweredSpec)) propAnsweredUptoCard
end Rows
end Go.Proofs.YtgblillplgdbaaaGreatDoor
