/-
  DERIVED. GIVEN WITH THE SEED: THE CARDS: each row of YtjfgfcajmkbmeaaGreatDoorRows.lean that lists a variable, with what it lists TIED to the program's text (the seventh form; the later family's looks); each row that meets fmt, with fmt's text TOLD by the authors' own Lean function (tested against real Go, not proved from fmt's source: count such statements apart). THE CARD IS WHAT COUNTS. Prove the row's statement (the work); the ties are given (YtjfgfcajmkbmeaaGreatDoorTie.lean); close each card by the builder's one call (the guide's Derived/Test/ToyasCard.lean, 'card_holds'). Laid BY PROGRAM, IN A SANDBOX (cutbox-door.mjs). By AI agents, Wed Nov 11 2026. No macro, syntax, notation, axiom, sorry.
-/
import Derived.Test.YtjfgfcajmkbmeaaGreatDoorRows
import GoSem.ClaimSeven
namespace Go.Proofs.YtjfgfcajmkbmeaaGreatDoor
namespace Rows

/-- THE TIED CARD OF 'signalcabinlaw.SliceOfs'. -/
def sliceOfsCard : Claim7 := { stood := { row := sliceOfsRow, standIns := [], harness := (true, "609a3093ef0d6bedf656cab46292caa1acb504fe975d3081ecfecb4dd34c16c4"), looks := true }, kinds := [], alts := [], laidByText := true, laidKinds := [.data, .data, .data, .data, .handle, .sentinel, .sentinel, .data, .data, .data, .widerDeep, .widerDeep, .pinned], laidTests := true, laidLooks := .later }
def SliceOfsCardSaid : Prop := Claim7.holds Tryz.pinned (.plain (OpenSpec.ofChange sliceOfsSpec)) sliceOfsCard

/-- THE TIED CARD OF 'signalcabinlaw.SliceTidies'. -/
def sliceTidiesCard : Claim7 := { stood := { row := sliceTidiesRow, standIns := [], harness := (true, "609a3093ef0d6bedf656cab46292caa1acb504fe975d3081ecfecb4dd34c16c4"), looks := true }, kinds := [], alts := [], laidByText := true, laidKinds := [.data, .data, .data, .data, .handle, .sentinel, .sentinel, .data, .data, .data, .widerDeep, .widerDeep, .pinned], laidTests := true, laidLooks := .later }
def SliceTidiesCardSaid : Prop := Claim7.holds Tryz.pinned (.plain (OpenSpec.ofChange sliceTidiesSpec)) sliceTidiesCard

/-- THE SECOND FORM's CARD OF 'signalcabinlaw.SliceOfs'. -/
def sliceOfsUptoCard : Claim7 := { stood := { row := sliceOfsUptoRow, standIns := [], harness := (true, "609a3093ef0d6bedf656cab46292caa1acb504fe975d3081ecfecb4dd34c16c4"), looks := true }, kinds := [], alts := [], laidByText := true, laidKinds := [.data, .data, .data, .data, .handle, .sentinel, .sentinel, .data, .data, .data, .widerDeep, .widerDeep, .pinned], laidTests := true, laidLooks := .later }
def SliceOfsUptoCardSaid : Prop := Claim7.holds Tryz.pinned (.plain (OpenSpec.upto sliceOfsSpec)) sliceOfsUptoCard

/-- THE SECOND FORM's CARD OF 'signalcabinlaw.SliceTidies'. -/
def sliceTidiesUptoCard : Claim7 := { stood := { row := sliceTidiesUptoRow, standIns := [], harness := (true, "609a3093ef0d6bedf656cab46292caa1acb504fe975d3081ecfecb4dd34c16c4"), looks := true }, kinds := [], alts := [], laidByText := true, laidKinds := [.data, .data, .data, .data, .handle, .sentinel, .sentinel, .data, .data, .data, .widerDeep, .widerDeep, .pinned], laidTests := true, laidLooks := .later }
def SliceTidiesUptoCardSaid : Prop := Claim7.holds Tryz.pinned (.plain (OpenSpec.upto sliceTidiesSpec)) sliceTidiesUptoCard
end Rows
end Go.Proofs.YtjfgfcajmkbmeaaGreatDoor
