/-
  DERIVED. GIVEN WITH THE SEED: THE CARDS: each row of YtglmpkpcbafgdaaGreatDoorRows.lean that lists a variable, with what it lists TIED to the program's text (the seventh form; the later family's looks); each row that meets fmt, with fmt's text TOLD by the authors' own Lean function (tested against real Go, not proved from fmt's source: count such statements apart). THE CARD IS WHAT COUNTS. Prove the row's statement (the work); the ties are given (YtglmpkpcbafgdaaGreatDoorTie.lean); close each card by the builder's one call (the guide's Derived/Test/ToyasCard.lean, 'card_holds'). Laid BY PROGRAM, IN A SANDBOX (cutbox-door.mjs). By AI agents, Wed Nov 11 2026. No macro, syntax, notation, axiom, sorry.
-/
import Derived.Test.YtglmpkpcbafgdaaGreatDoorRows
import GoSem.ClaimSeven
namespace Go.Proofs.YtglmpkpcbafgdaaGreatDoor
namespace Rows

/-- THE TIED CARD OF 'signalcabinkeep.CoverGoes'. -/
def coverGoesCard : Claim7 := { stood := { row := coverGoesRow, standIns := [], harness := (true, "55fd4a70b92d11e5c7616059ed09a25c1995c9b9d44d0964542b55d5d5aab1ac"), looks := true }, kinds := [], alts := [], laidByText := true, laidKinds := [.data, .data, .data, .data, .handle, .sentinel, .sentinel, .data, .data, .pinned], laidTests := true, laidLooks := .later }
def CoverGoesCardSaid : Prop := Claim7.holds Tryz.pinned (.plain (OpenSpec.ofChange coverGoesSpec)) coverGoesCard

/-- THE SECOND FORM's CARD OF 'signalcabinkeep.CoverGoes'. -/
def coverGoesUptoCard : Claim7 := { stood := { row := coverGoesUptoRow, standIns := [], harness := (true, "55fd4a70b92d11e5c7616059ed09a25c1995c9b9d44d0964542b55d5d5aab1ac"), looks := true }, kinds := [], alts := [], laidByText := true, laidKinds := [.data, .data, .data, .data, .handle, .sentinel, .sentinel, .data, .data, .pinned], laidTests := true, laidLooks := .later }
def CoverGoesUptoCardSaid : Prop := Claim7.holds Tryz.pinned (.plain (OpenSpec.upto coverGoesSpec)) coverGoesUptoCard
end Rows
end Go.Proofs.YtglmpkpcbafgdaaGreatDoor
