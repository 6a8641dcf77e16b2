/-
  DERIVED. GIVEN WITH THE SEED: THE CARDS: each row of YtgoabhclnicepaaGreatDoorRows.lean that lists a variable, with what it lists TIED to the program's text (the seventh form; the later family's looks); each row that meets fmt, with fmt's text TOLD by the authors' own Lean function (tested against real Go, not proved from fmt's source: count such statements apart). THE CARD IS WHAT COUNTS. Prove the row's statement (the work); the ties are given (YtgoabhclnicepaaGreatDoorTie.lean); close each card by the builder's one call (the guide's Derived/Test/ToyasCard.lean, 'card_holds'). Laid BY PROGRAM, IN A SANDBOX (cutbox-door.mjs). By AI agents, Wed Nov 11 2026. No macro, syntax, notation, axiom, sorry.
-/
import Derived.Test.YtgoabhclnicepaaGreatDoorRows
import GoSem.ClaimSeven
namespace Go.Proofs.YtgoabhclnicepaaGreatDoor
namespace Rows

/-- THE TIED CARD OF 'signalcabinkeep.SliceSame'. -/
def sliceSameCard : Claim7 := { stood := { row := sliceSameRow, standIns := [], harness := (true, "c0ff5344c4c56c0ab3703f0ad4ab2a9566de46900f5ae0c3d0315447d786800c"), looks := true }, kinds := [], alts := [], laidByText := true, laidKinds := [.data, .data, .data, .data, .handle, .sentinel, .sentinel, .data, .data, .pinned], laidTests := true, laidLooks := .later }
def SliceSameCardSaid : Prop := Claim7.holds Tryz.pinned (.plain (OpenSpec.ofChange sliceSameSpec)) sliceSameCard

/-- THE TIED CARD OF 'signalcabinkeep.SliceTidy'. -/
def sliceTidyCard : Claim7 := { stood := { row := sliceTidyRow, standIns := [], harness := (true, "c0ff5344c4c56c0ab3703f0ad4ab2a9566de46900f5ae0c3d0315447d786800c"), looks := true }, kinds := [], alts := [], laidByText := true, laidKinds := [.data, .data, .data, .data, .handle, .sentinel, .sentinel, .data, .data, .pinned], laidTests := true, laidLooks := .later }
def SliceTidyCardSaid : Prop := Claim7.holds Tryz.pinned (.plain (OpenSpec.ofChange sliceTidySpec)) sliceTidyCard

/-- THE SECOND FORM's CARD OF 'signalcabinkeep.SliceSame'. -/
def sliceSameUptoCard : Claim7 := { stood := { row := sliceSameUptoRow, standIns := [], harness := (true, "c0ff5344c4c56c0ab3703f0ad4ab2a9566de46900f5ae0c3d0315447d786800c"), looks := true }, kinds := [], alts := [], laidByText := true, laidKinds := [.data, .data, .data, .data, .handle, .sentinel, .sentinel, .data, .data, .pinned], laidTests := true, laidLooks := .later }
def SliceSameUptoCardSaid : Prop := Claim7.holds Tryz.pinned (.plain (OpenSpec.upto sliceSameSpec)) sliceSameUptoCard

/-- THE SECOND FORM's CARD OF 'signalcabinkeep.SliceTidy'. -/
def sliceTidyUptoCard : Claim7 := { stood := { row := sliceTidyUptoRow, standIns := [], harness := (true, "c0ff5344c4c56c0ab3703f0ad4ab2a9566de46900f5ae0c3d0315447d786800c"), looks := true }, kinds := [], alts := [], laidByText := true, laidKinds := [.data, .data, .data, .data, .handle, .sentinel, .sentinel, .data, .data, .pinned], laidTests := true, laidLooks := .later }
def SliceTidyUptoCardSaid : Prop := Claim7.holds Tryz.pinned (.plain (OpenSpec.upto sliceTidySpec)) sliceTidyUptoCard
end Rows
end Go.Proofs.YtgoabhclnicepaaGreatDoor
