/-
  DERIVED. GIVEN WITH THE SEED: THE CARDS: each row of YtgldbliohpfljaaGreatDoorRows.lean that lists a variable, with what it lists TIED to the program's text (the seventh form; the later family's looks); each row that meets fmt, with fmt's text TOLD by the authors' own Lean function (tested against real Go, not proved from fmt's source: count such statements apart). THE CARD IS WHAT COUNTS. Prove the row's statement (the work); the ties are given (YtgldbliohpfljaaGreatDoorTie.lean); close each card by the builder's one call (the guide's Derived/Test/ToyasCard.lean, 'card_holds'). Laid BY PROGRAM, IN A SANDBOX (cutbox-door.mjs). By AI agents, Wed Nov 11 2026. No macro, syntax, notation, axiom, sorry.
-/
import Derived.Test.YtgldbliohpfljaaGreatDoorRows
import GoSem.ClaimSeven
namespace Go.Proofs.YtgldbliohpfljaaGreatDoor
namespace Rows

/-- THE TIED CARD OF 'signalcabinlaw.PropChecks'. -/
def propChecksCard : Claim7 := { stood := { row := propChecksRow, standIns := [], harness := (true, "a7e76be45874c472f0b6d3a6c3383cfb7465c622f6d9cd84e74c7f95312f2699"), looks := true }, kinds := [], alts := [], laidByText := true, laidKinds := [.data, .data, .data, .data, .handle, .sentinel, .sentinel, .data, .data, .data, .widerDeep, .widerDeep, .pinned], laidTests := true, laidLooks := .later }
def PropChecksCardSaid : Prop := Claim7.holds Tryz.pinned (.plain (OpenSpec.ofChange propChecksSpec)) propChecksCard

/-- THE TIED CARD OF 'signalcabinlaw.PropAnswers'. -/
def propAnswersCard : Claim7 := { stood := { row := propAnswersRow, standIns := [], harness := (true, "a7e76be45874c472f0b6d3a6c3383cfb7465c622f6d9cd84e74c7f95312f2699"), looks := true }, kinds := [], alts := [], laidByText := true, laidKinds := [.data, .data, .data, .data, .handle, .sentinel, .sentinel, .data, .data, .data, .widerDeep, .widerDeep, .pinned], laidTests := true, laidLooks := .later }
def PropAnswersCardSaid : Prop := Claim7.holds Tryz.pinned (.plain (OpenSpec.ofChange propAnswersSpec)) propAnswersCard

/-- THE TIED CARD OF 'signalcabinlaw.InductChecks'. -/
def inductChecksCard : Claim7 := { stood := { row := inductChecksRow, standIns := [], harness := (true, "a7e76be45874c472f0b6d3a6c3383cfb7465c622f6d9cd84e74c7f95312f2699"), looks := true }, kinds := [], alts := [], laidByText := true, laidKinds := [.data, .data, .data, .data, .handle, .sentinel, .sentinel, .data, .data, .data, .widerDeep, .widerDeep, .pinned], laidTests := true, laidLooks := .later }
def InductChecksCardSaid : Prop := Claim7.holds Tryz.pinned (.plain (OpenSpec.ofChange inductChecksSpec)) inductChecksCard

/-- THE TIED CARD OF 'signalcabinlaw.BlockOfs'. -/
def blockOfsCard : Claim7 := { stood := { row := blockOfsRow, standIns := [], harness := (true, "a7e76be45874c472f0b6d3a6c3383cfb7465c622f6d9cd84e74c7f95312f2699"), looks := true }, kinds := [], alts := [], laidByText := true, laidKinds := [.data, .data, .data, .data, .handle, .sentinel, .sentinel, .data, .data, .data, .widerDeep, .widerDeep, .pinned], laidTests := true, laidLooks := .later }
def BlockOfsCardSaid : Prop := Claim7.holds Tryz.pinned (.plain (OpenSpec.ofChange blockOfsSpec)) blockOfsCard

/-- THE TIED CARD OF 'signalcabinlaw.CoverTours'. -/
def coverToursCard : Claim7 := { stood := { row := coverToursRow, standIns := [], harness := (true, "a7e76be45874c472f0b6d3a6c3383cfb7465c622f6d9cd84e74c7f95312f2699"), looks := true }, kinds := [], alts := [], laidByText := true, laidKinds := [.data, .data, .data, .data, .handle, .sentinel, .sentinel, .data, .data, .data, .widerDeep, .widerDeep, .pinned], laidTests := true, laidLooks := .later }
def CoverToursCardSaid : Prop := Claim7.holds Tryz.pinned (.plain (OpenSpec.ofChange coverToursSpec)) coverToursCard

/-- THE SECOND FORM's CARD OF 'signalcabinlaw.PropChecks'. -/
def propChecksUptoCard : Claim7 := { stood := { row := propChecksUptoRow, standIns := [], harness := (true, "a7e76be45874c472f0b6d3a6c3383cfb7465c622f6d9cd84e74c7f95312f2699"), looks := true }, kinds := [], alts := [], laidByText := true, laidKinds := [.data, .data, .data, .data, .handle, .sentinel, .sentinel, .data, .data, .data, .widerDeep, .widerDeep, .pinned], laidTests := true, laidLooks := .later }
def PropChecksUptoCardSaid : Prop := Claim7.holds Tryz.pinned (.plain (OpenSpec.upto propChecksSpec)) propChecksUptoCard

/-- THE SECOND FORM's CARD OF 'signalcabinlaw.PropAnswers'. -/
def propAnswersUptoCard : Claim7 := { stood := { row := propAnswersUptoRow, standIns := [], harness := (true, "a7e76be45874c472f0b6d3a6c3383cfb7465c622f6d9cd84e74c7f95312f2699"), looks := true }, kinds := [], alts := [], laidByText := true, laidKinds := [.data, .data, .data, .data, .handle, .sentinel, .sentinel, .data, .data, .data, .widerDeep, .widerDeep, .pinned], laidTests := true, laidLooks := .later }
def PropAnswersUptoCardSaid : Prop := Claim7.holds Tryz.pinned (.plain (OpenSpec.upto propAnswersSpec)) propAnswersUptoCard

/-- THE SECOND FORM's CARD OF 'signalcabinlaw.InductChecks'. -/
def inductChecksUptoCard : Claim7 := { stood := { row := inductChecksUptoRow, standIns := [], harness := (true, "a7e76be45874c472f0b6d3a6c3383cfb7465c622f6d9cd84e74c7f95312f2699"), looks := true }, kinds := [], alts := [], laidByText := true, laidKinds := [.data, .data, .data, .data, .handle, .sentinel, .sentinel, .data, .data, .data, .widerDeep, .widerDeep, .pinned], laidTests := true, laidLooks := .later }
def InductChecksUptoCardSaid : Prop := Claim7.holds Tryz.pinned (.plain (OpenSpec.upto inductChecksSpec)) inductChecksUptoCard

/-- THE SECOND FORM's CARD OF 'signalcabinlaw.BlockOfs'. -/
def blockOfsUptoCard : Claim7 := { stood := { row := blockOfsUptoRow, standIns := [], harness := (true, "a7e76be45874c472f0b6d3a6c3383cfb7465c622f6d9cd84e74c7f95312f2699"), looks := true }, kinds := [], alts := [], laidByText := true, laidKinds := [.data, .data, .data, .data, .handle, .sentinel, .sentinel, .data, .data, .data, .widerDeep, .widerDeep, .pinned], laidTests := true, laidLooks := .later }
def BlockOfsUptoCardSaid : Prop := Claim7.holds Tryz.pinned (.plain (OpenSpec.upto blockOfsSpec)) blockOfsUptoCard

/-- THE SECOND FORM's CARD OF 'signalcabinlaw.CoverTours'. -/
def coverToursUptoCard : Claim7 := { stood := { row := coverToursUptoRow, standIns := [], harness := (true, "a7e76be45874c472f0b6d3a6c3383cfb7465c622f6d9cd84e74c7f95312f2699"), looks := true }, kinds := [], alts := [], laidByText := true, laidKinds := [.data, .data, .data, .data, .handle, .sentinel, .sentinel, .data, .data, .data, .widerDeep, .widerDeep, .pinned], laidTests := true, laidLooks := .later }
def CoverToursUptoCardSaid : Prop := Claim7.holds Tryz.pinned (.plain (OpenSpec.upto coverToursSpec)) coverToursUptoCard
end Rows
end Go.Proofs.YtgldbliohpfljaaGreatDoor
