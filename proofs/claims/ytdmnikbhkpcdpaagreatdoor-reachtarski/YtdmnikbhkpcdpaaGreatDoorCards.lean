/-
  DERIVED. GIVEN WITH THE SEED: THE CARDS: each row of YtdmnikbhkpcdpaaGreatDoorRows.lean that lists a variable, with what it lists TIED to the program's text (the seventh form; the later family's looks); each row that meets fmt, with fmt's text TOLD by the authors' own Lean function (tested against real Go, not proved from fmt's source: count such statements apart). THE CARD IS WHAT COUNTS. Prove the row's statement (the work); the ties are given (YtdmnikbhkpcdpaaGreatDoorTie.lean); close each card by the builder's one call (the guide's Derived/Test/ToyasCard.lean, 'card_holds'). Laid BY PROGRAM, IN A SANDBOX (cutbox-door.mjs). By AI agents, Wed Nov 11 2026. No macro, syntax, notation, axiom, sorry.
-/
import Derived.Test.YtdmnikbhkpcdpaaGreatDoorRows
import GoSem.ClaimSeven
namespace Go.Proofs.YtdmnikbhkpcdpaaGreatDoor
namespace Rows

/-- THE TIED CARD OF 'signalcabinkeep.MachinePlays'. -/
def machinePlaysCard : Claim7 := { stood := { row := machinePlaysRow, standIns := [], harness := (true, "d287bf7adeb5dc97dba70a4e7ce4f06f777bfd004ff8dbee658a522ad2f12b7d"), looks := true }, kinds := [], alts := [], laidByText := true, laidKinds := [.data, .data, .data, .data, .handle, .sentinel, .sentinel, .data, .data, .pinned], laidTests := true, laidLooks := .later }
def MachinePlaysCardSaid : Prop := Claim7.holds Tryz.pinned (.plain (OpenSpec.ofChange machinePlaysSpec)) machinePlaysCard

/-- THE TIED CARD OF 'signalcabinkeep.ReachPaths'. -/
def reachPathsCard : Claim7 := { stood := { row := reachPathsRow, standIns := [], harness := (true, "d287bf7adeb5dc97dba70a4e7ce4f06f777bfd004ff8dbee658a522ad2f12b7d"), looks := true }, kinds := [], alts := [], laidByText := true, laidKinds := [.data, .data, .data, .data, .handle, .sentinel, .sentinel, .data, .data, .pinned], laidTests := true, laidLooks := .later }
def ReachPathsCardSaid : Prop := Claim7.holds Tryz.pinned (.plain (OpenSpec.ofChange reachPathsSpec)) reachPathsCard

/-- THE TIED CARD OF 'signalcabinkeep.ReachTarski'. -/
def reachTarskiCard : Claim7 := { stood := { row := reachTarskiRow, standIns := [], harness := (true, "d287bf7adeb5dc97dba70a4e7ce4f06f777bfd004ff8dbee658a522ad2f12b7d"), looks := true }, kinds := [], alts := [], laidByText := true, laidKinds := [.data, .data, .data, .data, .handle, .sentinel, .sentinel, .data, .data, .pinned], laidTests := true, laidLooks := .later }
def ReachTarskiCardSaid : Prop := Claim7.holds Tryz.pinned (.plain (OpenSpec.ofChange reachTarskiSpec)) reachTarskiCard

/-- THE TIED CARD OF 'signalcabinkeep.PropSound'. -/
def propSoundCard : Claim7 := { stood := { row := propSoundRow, standIns := [], harness := (true, "d287bf7adeb5dc97dba70a4e7ce4f06f777bfd004ff8dbee658a522ad2f12b7d"), looks := true }, kinds := [], alts := [], laidByText := true, laidKinds := [.data, .data, .data, .data, .handle, .sentinel, .sentinel, .data, .data, .pinned], laidTests := true, laidLooks := .later }
def PropSoundCardSaid : Prop := Claim7.holds Tryz.pinned (.plain (OpenSpec.ofChange propSoundSpec)) propSoundCard

/-- THE TIED CARD OF 'signalcabinkeep.PropAnswered'. -/
def propAnsweredCard : Claim7 := { stood := { row := propAnsweredRow, standIns := [], harness := (true, "d287bf7adeb5dc97dba70a4e7ce4f06f777bfd004ff8dbee658a522ad2f12b7d"), looks := true }, kinds := [], alts := [], laidByText := true, laidKinds := [.data, .data, .data, .data, .handle, .sentinel, .sentinel, .data, .data, .pinned], laidTests := true, laidLooks := .later }
def PropAnsweredCardSaid : Prop := Claim7.holds Tryz.pinned (.plain (OpenSpec.ofChange propAnsweredSpec)) propAnsweredCard

/-- THE SECOND FORM's CARD OF 'signalcabinkeep.MachinePlays'. -/
def machinePlaysUptoCard : Claim7 := { stood := { row := machinePlaysUptoRow, standIns := [], harness := (true, "d287bf7adeb5dc97dba70a4e7ce4f06f777bfd004ff8dbee658a522ad2f12b7d"), looks := true }, kinds := [], alts := [], laidByText := true, laidKinds := [.data, .data, .data, .data, .handle, .sentinel, .sentinel, .data, .data, .pinned], laidTests := true, laidLooks := .later }
def MachinePlaysUptoCardSaid : Prop := Claim7.holds Tryz.pinned (.plain (OpenSpec.upto machinePlaysSpec)) machinePlaysUptoCard

/-- THE SECOND FORM's CARD OF 'signalcabinkeep.ReachPaths'. -/
def reachPathsUptoCard : Claim7 := { stood := { row := reachPathsUptoRow, standIns := [], harness := (true, "d287bf7adeb5dc97dba70a4e7ce4f06f777bfd004ff8dbee658a522ad2f12b7d"), looks := true }, kinds := [], alts := [], laidByText := true, laidKinds := [.data, .data, .data, .data, .handle, .sentinel, .sentinel, .data, .data, .pinned], laidTests := true, laidLooks := .later }
def ReachPathsUptoCardSaid : Prop := Claim7.holds Tryz.pinned (.plain (OpenSpec.upto reachPathsSpec)) reachPathsUptoCard

/-- THE SECOND FORM's CARD OF 'signalcabinkeep.ReachTarski'. -/
def reachTarskiUptoCard : Claim7 := { stood := { row := reachTarskiUptoRow, standIns := [], harness := (true, "d287bf7adeb5dc97dba70a4e7ce4f06f777bfd004ff8dbee658a522ad2f12b7d"), looks := true }, kinds := [], alts := [], laidByText := true, laidKinds := [.data, .data, .data, .data, .handle, .sentinel, .sentinel, .data, .data, .pinned], laidTests := true, laidLooks := .later }
def ReachTarskiUptoCardSaid : Prop := Claim7.holds Tryz.pinned (.plain (OpenSpec.upto reachTarskiSpec)) reachTarskiUptoCard

/-- THE SECOND FORM's CARD OF 'signalcabinkeep.PropSound'. -/
def propSoundUptoCard : Claim7 := { stood := { row := propSoundUptoRow, standIns := [], harness := (true, "d287bf7adeb5dc97dba70a4e7ce4f06f777bfd004ff8dbee658a522ad2f12b7d"), looks := true }, kinds := [], alts := [], laidByText := true, laidKinds := [.data, .data, .data, .data, .handle, .sentinel, .sentinel, .data, .data, .pinned], laidTests := true, laidLooks := .later }
def PropSoundUptoCardSaid : Prop := Claim7.holds Tryz.pinned (.plain (OpenSpec.upto propSoundSpec)) propSoundUptoCard

/-- THE SECOND FORM's CARD OF 'signalcabinkeep.PropAnswered'. -/
def propAnsweredUptoCard : Claim7 := { stood := { row := propAnsweredUptoRow, standIns := [], harness := (true, "d287bf7adeb5dc97dba70a4e7ce4f06f777bfd004ff8dbee658a522ad2f12b7d"), looks := true }, kinds := [], alts := [], laidByText := true, laidKinds := [.data, .data, .data, .data, .handle, .sentinel, .sentinel, .data, .data, .pinned], laidTests := true, laidLooks := .later }
def PropAnsweredUptoCardSaid : Prop := Claim7.holds Tryz.pinned (.plain (OpenSpec.upto propAnsweredSpec)) propAnsweredUptoCard
end Rows
end Go.Proofs.YtdmnikbhkpcdpaaGreatDoor
