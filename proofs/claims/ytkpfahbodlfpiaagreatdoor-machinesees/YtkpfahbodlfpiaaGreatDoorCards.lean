/-
  DERIVED. GIVEN WITH THE SEED: THE CARDS: each row of YtkpfahbodlfpiaaGreatDoorRows.lean that lists a variable, with what it lists TIED to the program's text (the seventh form; the later family's looks); each row that meets fmt, with fmt's text TOLD by the authors' own Lean function (tested against real Go, not proved from fmt's source: count such statements apart). THE CARD IS WHAT COUNTS. Prove the row's statement (the work); the ties are given (YtkpfahbodlfpiaaGreatDoorTie.lean); close each card by the builder's one call (the guide's Derived/Test/ToyasCard.lean, 'card_holds'). Laid BY PROGRAM, IN A SANDBOX (cutbox-door.mjs). By AI agents, Wed Nov 11 2026. No macro, syntax, notation, axiom, sorry.
-/
import Derived.Test.YtkpfahbodlfpiaaGreatDoorRows
import GoSem.ClaimSeven
namespace Go.Proofs.YtkpfahbodlfpiaaGreatDoor
namespace Rows

/-- THE TIED CARD OF 'signalcabinlaw.ScanPlays'. -/
def scanPlaysCard : Claim7 := { stood := { row := scanPlaysRow, standIns := [], harness := (true, "c2169012fdecc4be1d558992580abd874cb4980c605a93a7a7676a7a6953e620"), looks := true }, kinds := [], alts := [], laidByText := true, laidKinds := [.data, .data, .data, .data, .handle, .sentinel, .sentinel, .data, .data, .data, .widerDeep, .widerDeep, .pinned], laidTests := true, laidLooks := .later }
def ScanPlaysCardSaid : Prop := Claim7.holds Tryz.pinned (.plain (OpenSpec.ofChange scanPlaysSpec)) scanPlaysCard

/-- THE TIED CARD OF 'signalcabinlaw.MachineMakes'. -/
def machineMakesCard : Claim7 := { stood := { row := machineMakesRow, standIns := [], harness := (true, "c2169012fdecc4be1d558992580abd874cb4980c605a93a7a7676a7a6953e620"), looks := true }, kinds := [], alts := [], laidByText := true, laidKinds := [.data, .data, .data, .data, .handle, .sentinel, .sentinel, .data, .data, .data, .widerDeep, .widerDeep, .pinned], laidTests := true, laidLooks := .later }
def MachineMakesCardSaid : Prop := Claim7.holds Tryz.pinned (.plain (OpenSpec.ofChange machineMakesSpec)) machineMakesCard

/-- THE TIED CARD OF 'signalcabinlaw.MachineSees'. -/
def machineSeesCard : Claim7 := { stood := { row := machineSeesRow, standIns := [], harness := (true, "c2169012fdecc4be1d558992580abd874cb4980c605a93a7a7676a7a6953e620"), looks := true }, kinds := [], alts := [], laidByText := true, laidKinds := [.data, .data, .data, .data, .handle, .sentinel, .sentinel, .data, .data, .data, .widerDeep, .widerDeep, .pinned], laidTests := true, laidLooks := .later }
def MachineSeesCardSaid : Prop := Claim7.holds Tryz.pinned (.plain (OpenSpec.ofChange machineSeesSpec)) machineSeesCard

/-- THE SECOND FORM's CARD OF 'signalcabinlaw.ScanPlays'. -/
def scanPlaysUptoCard : Claim7 := { stood := { row := scanPlaysUptoRow, standIns := [], harness := (true, "c2169012fdecc4be1d558992580abd874cb4980c605a93a7a7676a7a6953e620"), looks := true }, kinds := [], alts := [], laidByText := true, laidKinds := [.data, .data, .data, .data, .handle, .sentinel, .sentinel, .data, .data, .data, .widerDeep, .widerDeep, .pinned], laidTests := true, laidLooks := .later }
def ScanPlaysUptoCardSaid : Prop := Claim7.holds Tryz.pinned (.plain (OpenSpec.upto scanPlaysSpec)) scanPlaysUptoCard

/-- THE SECOND FORM's CARD OF 'signalcabinlaw.MachineMakes'. -/
def machineMakesUptoCard : Claim7 := { stood := { row := machineMakesUptoRow, standIns := [], harness := (true, "c2169012fdecc4be1d558992580abd874cb4980c605a93a7a7676a7a6953e620"), looks := true }, kinds := [], alts := [], laidByText := true, laidKinds := [.data, .data, .data, .data, .handle, .sentinel, .sentinel, .data, .data, .data, .widerDeep, .widerDeep, .pinned], laidTests := true, laidLooks := .later }
def MachineMakesUptoCardSaid : Prop := Claim7.holds Tryz.pinned (.plain (OpenSpec.upto machineMakesSpec)) machineMakesUptoCard

/-- THE SECOND FORM's CARD OF 'signalcabinlaw.MachineSees'. -/
def machineSeesUptoCard : Claim7 := { stood := { row := machineSeesUptoRow, standIns := [], harness := (true, "c2169012fdecc4be1d558992580abd874cb4980c605a93a7a7676a7a6953e620"), looks := true }, kinds := [], alts := [], laidByText := true, laidKinds := [.data, .data, .data, .data, .handle, .sentinel, .sentinel, .data, .data, .data, .widerDeep, .widerDeep, .pinned], laidTests := true, laidLooks := .later }
def MachineSeesUptoCardSaid : Prop := Claim7.holds Tryz.pinned (.plain (OpenSpec.upto machineSeesSpec)) machineSeesUptoCard
end Rows
end Go.Proofs.YtkpfahbodlfpiaaGreatDoor
