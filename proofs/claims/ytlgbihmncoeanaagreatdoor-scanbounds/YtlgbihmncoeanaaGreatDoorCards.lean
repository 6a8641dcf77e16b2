/-
  DERIVED. GIVEN WITH THE SEED: THE CARDS: each row of YtlgbihmncoeanaaGreatDoorRows.lean that lists a variable, with what it lists TIED to the program's text (the seventh form; the later family's looks); each row that meets fmt, with fmt's text TOLD by the authors' own Lean function (tested against real Go, not proved from fmt's source: count such statements apart). THE CARD IS WHAT COUNTS. Prove the row's statement (the work); the ties are given (YtlgbihmncoeanaaGreatDoorTie.lean); close each card by the builder's one call (the guide's Derived/Test/ToyasCard.lean, 'card_holds'). Laid BY PROGRAM, IN A SANDBOX (cutbox-door.mjs). By AI agents, Wed Nov 11 2026. No macro, syntax, notation, axiom, sorry.
-/
import Derived.Test.YtlgbihmncoeanaaGreatDoorRows
import GoSem.ClaimSeven
namespace Go.Proofs.YtlgbihmncoeanaaGreatDoor
namespace Rows

/-- THE TIED CARD OF 'signalcabinlaw.LadderChecks'. -/
def ladderChecksCard : Claim7 := { stood := { row := ladderChecksRow, standIns := [], harness := (true, "e3afd28aa9fcf849975e675a1038073a65c19341a4b57dca26a11f191b3906fa"), looks := true }, kinds := [], alts := [], laidByText := true, laidKinds := [.data, .data, .data, .handle, .data, .data, .data, .widerDeep, .widerDeep], laidTests := true, laidLooks := .later }
def LadderChecksCardSaid : Prop := Claim7.holds Tryz.pinned (.plain (OpenSpec.ofChange ladderChecksSpec)) ladderChecksCard

/-- THE TIED CARD OF 'signalcabinlaw.LadderParses'. -/
def ladderParsesCard : Claim7 := { stood := { row := ladderParsesRow, standIns := [], harness := (true, "e3afd28aa9fcf849975e675a1038073a65c19341a4b57dca26a11f191b3906fa"), looks := true }, kinds := [], alts := [], laidByText := true, laidKinds := [.data, .data, .data, .data, .handle, .sentinel, .sentinel, .data, .data, .data, .widerDeep, .widerDeep, .pinned], laidTests := true, laidLooks := .later }
def LadderParsesCardSaid : Prop := Claim7.holds Tryz.pinned (.plain (OpenSpec.ofChange ladderParsesSpec)) ladderParsesCard

/-- THE TIED CARD OF 'signalcabinkeep.LadderBack'. -/
def ladderBackCard : Claim7 := { stood := { row := ladderBackRow, standIns := [], harness := (true, "e3afd28aa9fcf849975e675a1038073a65c19341a4b57dca26a11f191b3906fa"), looks := true }, kinds := [], alts := [], laidByText := true, laidKinds := [.data, .data, .data, .data, .handle, .sentinel, .sentinel, .data, .data, .pinned], laidTests := true, laidLooks := .later }
def LadderBackCardSaid : Prop := Claim7.holds Tryz.pinned (.plain (OpenSpec.ofChange ladderBackSpec)) ladderBackCard

/-- THE TIED CARD OF 'signalcabinlaw.ScanPlays'. -/
def scanPlaysCard : Claim7 := { stood := { row := scanPlaysRow, standIns := [], harness := (true, "e3afd28aa9fcf849975e675a1038073a65c19341a4b57dca26a11f191b3906fa"), looks := true }, kinds := [], alts := [], laidByText := true, laidKinds := [.data, .data, .data, .data, .handle, .sentinel, .sentinel, .data, .data, .data, .widerDeep, .widerDeep, .pinned], laidTests := true, laidLooks := .later }
def ScanPlaysCardSaid : Prop := Claim7.holds Tryz.pinned (.plain (OpenSpec.ofChange scanPlaysSpec)) scanPlaysCard

/-- THE TIED CARD OF 'signalcabinkeep.ScanBounds'. -/
def scanBoundsCard : Claim7 := { stood := { row := scanBoundsRow, standIns := [], harness := (true, "e3afd28aa9fcf849975e675a1038073a65c19341a4b57dca26a11f191b3906fa"), looks := true }, kinds := [], alts := [], laidByText := true, laidKinds := [.data, .data, .data, .data, .handle, .sentinel, .sentinel, .data, .data, .pinned], laidTests := true, laidLooks := .later }
def ScanBoundsCardSaid : Prop := Claim7.holds Tryz.pinned (.plain (OpenSpec.ofChange scanBoundsSpec)) scanBoundsCard

/-- THE TIED CARD OF 'signalcabinlaw.MachineMakes'. -/
def machineMakesCard : Claim7 := { stood := { row := machineMakesRow, standIns := [], harness := (true, "e3afd28aa9fcf849975e675a1038073a65c19341a4b57dca26a11f191b3906fa"), looks := true }, kinds := [], alts := [], laidByText := true, laidKinds := [.data, .data, .data, .data, .handle, .sentinel, .sentinel, .data, .data, .data, .widerDeep, .widerDeep, .pinned], laidTests := true, laidLooks := .later }
def MachineMakesCardSaid : Prop := Claim7.holds Tryz.pinned (.plain (OpenSpec.ofChange machineMakesSpec)) machineMakesCard

/-- THE TIED CARD OF 'signalcabinlaw.MachineSees'. -/
def machineSeesCard : Claim7 := { stood := { row := machineSeesRow, standIns := [], harness := (true, "e3afd28aa9fcf849975e675a1038073a65c19341a4b57dca26a11f191b3906fa"), looks := true }, kinds := [], alts := [], laidByText := true, laidKinds := [.data, .data, .data, .data, .handle, .sentinel, .sentinel, .data, .data, .data, .widerDeep, .widerDeep, .pinned], laidTests := true, laidLooks := .later }
def MachineSeesCardSaid : Prop := Claim7.holds Tryz.pinned (.plain (OpenSpec.ofChange machineSeesSpec)) machineSeesCard

/-- THE TIED CARD OF 'signalcabinkeep.MachinePlays'. -/
def machinePlaysCard : Claim7 := { stood := { row := machinePlaysRow, standIns := [], harness := (true, "e3afd28aa9fcf849975e675a1038073a65c19341a4b57dca26a11f191b3906fa"), looks := true }, kinds := [], alts := [], laidByText := true, laidKinds := [.data, .data, .data, .data, .handle, .sentinel, .sentinel, .data, .data, .pinned], laidTests := true, laidLooks := .later }
def MachinePlaysCardSaid : Prop := Claim7.holds Tryz.pinned (.plain (OpenSpec.ofChange machinePlaysSpec)) machinePlaysCard

/-- THE TIED CARD OF 'signalcabinlaw.ReachFars'. -/
def reachFarsCard : Claim7 := { stood := { row := reachFarsRow, standIns := [], harness := (true, "e3afd28aa9fcf849975e675a1038073a65c19341a4b57dca26a11f191b3906fa"), looks := true }, kinds := [], alts := [], laidByText := true, laidKinds := [.data, .data, .data, .data, .handle, .sentinel, .sentinel, .data, .data, .data, .widerDeep, .widerDeep, .pinned], laidTests := true, laidLooks := .later }
def ReachFarsCardSaid : Prop := Claim7.holds Tryz.pinned (.plain (OpenSpec.ofChange reachFarsSpec)) reachFarsCard

/-- THE TIED CARD OF 'signalcabinlaw.ReachFixed'. -/
def reachFixedCard : Claim7 := { stood := { row := reachFixedRow, standIns := [], harness := (true, "e3afd28aa9fcf849975e675a1038073a65c19341a4b57dca26a11f191b3906fa"), looks := true }, kinds := [], alts := [], laidByText := true, laidKinds := [.data, .data, .data, .data, .handle, .sentinel, .sentinel, .data, .data, .data, .widerDeep, .widerDeep, .pinned], laidTests := true, laidLooks := .later }
def ReachFixedCardSaid : Prop := Claim7.holds Tryz.pinned (.plain (OpenSpec.ofChange reachFixedSpec)) reachFixedCard

/-- THE TIED CARD OF 'signalcabinkeep.ReachPaths'. -/
def reachPathsCard : Claim7 := { stood := { row := reachPathsRow, standIns := [], harness := (true, "e3afd28aa9fcf849975e675a1038073a65c19341a4b57dca26a11f191b3906fa"), looks := true }, kinds := [], alts := [], laidByText := true, laidKinds := [.data, .data, .data, .data, .handle, .sentinel, .sentinel, .data, .data, .pinned], laidTests := true, laidLooks := .later }
def ReachPathsCardSaid : Prop := Claim7.holds Tryz.pinned (.plain (OpenSpec.ofChange reachPathsSpec)) reachPathsCard

/-- THE TIED CARD OF 'signalcabinkeep.ReachTarski'. -/
def reachTarskiCard : Claim7 := { stood := { row := reachTarskiRow, standIns := [], harness := (true, "e3afd28aa9fcf849975e675a1038073a65c19341a4b57dca26a11f191b3906fa"), looks := true }, kinds := [], alts := [], laidByText := true, laidKinds := [.data, .data, .data, .data, .handle, .sentinel, .sentinel, .data, .data, .pinned], laidTests := true, laidLooks := .later }
def ReachTarskiCardSaid : Prop := Claim7.holds Tryz.pinned (.plain (OpenSpec.ofChange reachTarskiSpec)) reachTarskiCard

/-- THE SECOND FORM's CARD OF 'signalcabinlaw.LadderChecks'. -/
def ladderChecksUptoCard : Claim7 := { stood := { row := ladderChecksUptoRow, standIns := [], harness := (true, "e3afd28aa9fcf849975e675a1038073a65c19341a4b57dca26a11f191b3906fa"), looks := true }, kinds := [], alts := [], laidByText := true, laidKinds := [.data, .data, .data, .handle, .data, .data, .data, .widerDeep, .widerDeep], laidTests := true, laidLooks := .later }
def LadderChecksUptoCardSaid : Prop := Claim7.holds Tryz.pinned (.plain (OpenSpec.upto ladderChecksSpec)) ladderChecksUptoCard

/-- THE SECOND FORM's CARD OF 'signalcabinlaw.LadderParses'. -/
def ladderParsesUptoCard : Claim7 := { stood := { row := ladderParsesUptoRow, standIns := [], harness := (true, "e3afd28aa9fcf849975e675a1038073a65c19341a4b57dca26a11f191b3906fa"), looks := true }, kinds := [], alts := [], laidByText := true, laidKinds := [.data, .data, .data, .data, .handle, .sentinel, .sentinel, .data, .data, .data, .widerDeep, .widerDeep, .pinned], laidTests := true, laidLooks := .later }
def LadderParsesUptoCardSaid : Prop := Claim7.holds Tryz.pinned (.plain (OpenSpec.upto ladderParsesSpec)) ladderParsesUptoCard

/-- THE SECOND FORM's CARD OF 'signalcabinkeep.LadderBack'. -/
def ladderBackUptoCard : Claim7 := { stood := { row := ladderBackUptoRow, standIns := [], harness := (true, "e3afd28aa9fcf849975e675a1038073a65c19341a4b57dca26a11f191b3906fa"), looks := true }, kinds := [], alts := [], laidByText := true, laidKinds := [.data, .data, .data, .data, .handle, .sentinel, .sentinel, .data, .data, .pinned], laidTests := true, laidLooks := .later }
def LadderBackUptoCardSaid : Prop := Claim7.holds Tryz.pinned (.plain (OpenSpec.upto ladderBackSpec)) ladderBackUptoCard

/-- THE SECOND FORM's CARD OF 'signalcabinlaw.ScanPlays'. -/
def scanPlaysUptoCard : Claim7 := { stood := { row := scanPlaysUptoRow, standIns := [], harness := (true, "e3afd28aa9fcf849975e675a1038073a65c19341a4b57dca26a11f191b3906fa"), looks := true }, kinds := [], alts := [], laidByText := true, laidKinds := [.data, .data, .data, .data, .handle, .sentinel, .sentinel, .data, .data, .data, .widerDeep, .widerDeep, .pinned], laidTests := true, laidLooks := .later }
def ScanPlaysUptoCardSaid : Prop := Claim7.holds Tryz.pinned (.plain (OpenSpec.upto scanPlaysSpec)) scanPlaysUptoCard

/-- THE SECOND FORM's CARD OF 'signalcabinkeep.ScanBounds'. -/
def scanBoundsUptoCard : Claim7 := { stood := { row := scanBoundsUptoRow, standIns := [], harness := (true, "e3afd28aa9fcf849975e675a1038073a65c19341a4b57dca26a11f191b3906fa"), looks := true }, kinds := [], alts := [], laidByText := true, laidKinds := [.data, .data, .data, .data, .handle, .sentinel, .sentinel, .data, .data, .pinned], laidTests := true, laidLooks := .later }
def ScanBoundsUptoCardSaid : Prop := Claim7.holds Tryz.pinned (.plain (OpenSpec.upto scanBoundsSpec)) scanBoundsUptoCard

/-- THE SECOND FORM's CARD OF 'signalcabinlaw.MachineMakes'. -/
def machineMakesUptoCard : Claim7 := { stood := { row := machineMakesUptoRow, standIns := [], harness := (true, "e3afd28aa9fcf849975e675a1038073a65c19341a4b57dca26a11f191b3906fa"), looks := true }, kinds := [], alts := [], laidByText := true, laidKinds := [.data, .data, .data, .data, .handle, .sentinel, .sentinel, .data, .data, .data, .widerDeep, .widerDeep, .pinned], laidTests := true, laidLooks := .later }
def MachineMakesUptoCardSaid : Prop := Claim7.holds Tryz.pinned (.plain (OpenSpec.upto machineMakesSpec)) machineMakesUptoCard

/-- THE SECOND FORM's CARD OF 'signalcabinlaw.MachineSees'. -/
def machineSeesUptoCard : Claim7 := { stood := { row := machineSeesUptoRow, standIns := [], harness := (true, "e3afd28aa9fcf849975e675a1038073a65c19341a4b57dca26a11f191b3906fa"), looks := true }, kinds := [], alts := [], laidByText := true, laidKinds := [.data, .data, .data, .data, .handle, .sentinel, .sentinel, .data, .data, .data, .widerDeep, .widerDeep, .pinned], laidTests := true, laidLooks := .later }
def MachineSeesUptoCardSaid : Prop := Claim7.holds Tryz.pinned (.plain (OpenSpec.upto machineSeesSpec)) machineSeesUptoCard

/-- THE SECOND FORM's CARD OF 'signalcabinkeep.MachinePlays'. -/
def machinePlaysUptoCard : Claim7 := { stood := { row := machinePlaysUptoRow, standIns := [], harness := (true, "e3afd28aa9fcf849975e675a1038073a65c19341a4b57dca26a11f191b3906fa"), looks := true }, kinds := [], alts := [], laidByText := true, laidKinds := [.data, .data, .data, .data, .handle, .sentinel, .sentinel, .data, .data, .pinned], laidTests := true, laidLooks := .later }
def MachinePlaysUptoCardSaid : Prop := Claim7.holds Tryz.pinned (.plain (OpenSpec.upto machinePlaysSpec)) machinePlaysUptoCard

/-- THE SECOND FORM's CARD OF 'signalcabinlaw.ReachFars'. -/
def reachFarsUptoCard : Claim7 := { stood := { row := reachFarsUptoRow, standIns := [], harness := (true, "e3afd28aa9fcf849975e675a1038073a65c19341a4b57dca26a11f191b3906fa"), looks := true }, kinds := [], alts := [], laidByText := true, laidKinds := [.data, .data, .data, .data, .handle, .sentinel, .sentinel, .data, .data, .data, .widerDeep, .widerDeep, .pinned], laidTests := true, laidLooks := .later }
def ReachFarsUptoCardSaid : Prop := Claim7.holds Tryz.pinned (.plain (OpenSpec.upto reachFarsSpec)) reachFarsUptoCard

/-- THE SECOND FORM's CARD OF 'signalcabinlaw.ReachFixed'. -/
def reachFixedUptoCard : Claim7 := { stood := { row := reachFixedUptoRow, standIns := [], harness := (true, "e3afd28aa9fcf849975e675a1038073a65c19341a4b57dca26a11f191b3906fa"), looks := true }, kinds := [], alts := [], laidByText := true, laidKinds := [.data, .data, .data, .data, .handle, .sentinel, .sentinel, .data, .data, .data, .widerDeep, .widerDeep, .pinned], laidTests := true, laidLooks := .later }
def ReachFixedUptoCardSaid : Prop := Claim7.holds Tryz.pinned (.plain (OpenSpec.upto reachFixedSpec)) reachFixedUptoCard

/-- THE SECOND FORM's CARD OF 'signalcabinkeep.ReachPaths'. -/
def reachPathsUptoCard : Claim7 := { stood := { row := reachPathsUptoRow, standIns := [], harness := (true, "e3afd28aa9fcf849975e675a1038073a65c19341a4b57dca26a11f191b3906fa"), looks := true }, kinds := [], alts := [], laidByText := true, laidKinds := [.data, .data, .data, .data, .handle, .sentinel, .sentinel, .data, .data, .pinned], laidTests := true, laidLooks := .later }
def ReachPathsUptoCardSaid : Prop := Claim7.holds Tryz.pinned (.plain (OpenSpec.upto reachPathsSpec)) reachPathsUptoCard

/-- THE SECOND FORM's CARD OF 'signalcabinkeep.ReachTarski'. -/
def reachTarskiUptoCard : Claim7 := { stood := { row := reachTarskiUptoRow, standIns := [], harness := (true, "e3afd28aa9fcf849975e675a1038073a65c19341a4b57dca26a11f191b3906fa"), looks := true }, kinds := [], alts := [], laidByText := true, laidKinds := [.data, .data, .data, .data, .handle, .sentinel, .sentinel, .data, .data, .pinned], laidTests := true, laidLooks := .later }
def ReachTarskiUptoCardSaid : Prop := Claim7.holds Tryz.pinned (.plain (OpenSpec.upto reachTarskiSpec)) reachTarskiUptoCard
end Rows
end Go.Proofs.YtlgbihmncoeanaaGreatDoor
