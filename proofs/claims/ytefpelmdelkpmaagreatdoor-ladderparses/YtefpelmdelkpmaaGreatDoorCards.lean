/-
  DERIVED. GIVEN WITH THE SEED: THE CARDS: each row of YtefpelmdelkpmaaGreatDoorRows.lean that lists a variable, with what it lists TIED to the program's text (the seventh form; the later family's looks); each row that meets fmt, with fmt's text TOLD by the authors' own Lean function (tested against real Go, not proved from fmt's source: count such statements apart). THE CARD IS WHAT COUNTS. Prove the row's statement (the work); the ties are given (YtefpelmdelkpmaaGreatDoorTie.lean); close each card by the builder's one call (the guide's Derived/Test/ToyasCard.lean, 'card_holds'). Laid BY PROGRAM, IN A SANDBOX (cutbox-door.mjs). By AI agents, Wed Nov 11 2026. No macro, syntax, notation, axiom, sorry.
-/
import Derived.Test.YtefpelmdelkpmaaGreatDoorRows
import GoSem.ClaimSeven
namespace Go.Proofs.YtefpelmdelkpmaaGreatDoor
namespace Rows

/-- THE TIED CARD OF 'signalcabinlaw.LadderChecks'. -/
def ladderChecksCard : Claim7 := { stood := { row := ladderChecksRow, standIns := [], harness := (true, "f2ad2e28074f0572e986ddec681f1b34bd73bc9a3689c8ff3d48c0ed7cdfb7c7"), looks := true }, kinds := [], alts := [], laidByText := true, laidKinds := [.data, .data, .data, .handle, .data, .data, .data, .widerDeep, .widerDeep], laidTests := true, laidLooks := .later }
def LadderChecksCardSaid : Prop := Claim7.holds Tryz.pinned (.plain (OpenSpec.ofChange ladderChecksSpec)) ladderChecksCard

/-- THE TIED CARD OF 'signalcabinlaw.LadderParses'. -/
def ladderParsesCard : Claim7 := { stood := { row := ladderParsesRow, standIns := [], harness := (true, "f2ad2e28074f0572e986ddec681f1b34bd73bc9a3689c8ff3d48c0ed7cdfb7c7"), looks := true }, kinds := [], alts := [], laidByText := true, laidKinds := [.data, .data, .data, .data, .handle, .sentinel, .sentinel, .data, .data, .data, .widerDeep, .widerDeep, .pinned], laidTests := true, laidLooks := .later }
def LadderParsesCardSaid : Prop := Claim7.holds Tryz.pinned (.plain (OpenSpec.ofChange ladderParsesSpec)) ladderParsesCard

/-- THE SECOND FORM's CARD OF 'signalcabinlaw.LadderChecks'. -/
def ladderChecksUptoCard : Claim7 := { stood := { row := ladderChecksUptoRow, standIns := [], harness := (true, "f2ad2e28074f0572e986ddec681f1b34bd73bc9a3689c8ff3d48c0ed7cdfb7c7"), looks := true }, kinds := [], alts := [], laidByText := true, laidKinds := [.data, .data, .data, .handle, .data, .data, .data, .widerDeep, .widerDeep], laidTests := true, laidLooks := .later }
def LadderChecksUptoCardSaid : Prop := Claim7.holds Tryz.pinned (.plain (OpenSpec.upto ladderChecksSpec)) ladderChecksUptoCard

/-- THE SECOND FORM's CARD OF 'signalcabinlaw.LadderParses'. -/
def ladderParsesUptoCard : Claim7 := { stood := { row := ladderParsesUptoRow, standIns := [], harness := (true, "f2ad2e28074f0572e986ddec681f1b34bd73bc9a3689c8ff3d48c0ed7cdfb7c7"), looks := true }, kinds := [], alts := [], laidByText := true, laidKinds := [.data, .data, .data, .data, .handle, .sentinel, .sentinel, .data, .data, .data, .widerDeep, .widerDeep, .pinned], laidTests := true, laidLooks := .later }
def LadderParsesUptoCardSaid : Prop := Claim7.holds Tryz.pinned (.plain (OpenSpec.upto ladderParsesSpec)) ladderParsesUptoCard
end Rows
end Go.Proofs.YtefpelmdelkpmaaGreatDoor
