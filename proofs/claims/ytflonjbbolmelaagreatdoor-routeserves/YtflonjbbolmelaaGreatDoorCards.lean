/-
  DERIVED. GIVEN WITH THE SEED: THE CARDS: each row of YtflonjbbolmelaaGreatDoorRows.lean that lists a variable, with what it lists TIED to the program's text (the seventh form; the later family's looks); each row that meets fmt, with fmt's text TOLD by the authors' own Lean function (tested against real Go, not proved from fmt's source: count such statements apart). THE CARD IS WHAT COUNTS. Prove the row's statement (the work); the ties are given (YtflonjbbolmelaaGreatDoorTie.lean); close each card by the builder's one call (the guide's Derived/Test/ToyasCard.lean, 'card_holds'). Laid BY PROGRAM, IN A SANDBOX (cutbox-door.mjs). By AI agents, Wed Nov 11 2026. No macro, syntax, notation, axiom, sorry.
-/
import Derived.Test.YtflonjbbolmelaaGreatDoorRows
import GoSem.ClaimSeven
namespace Go.Proofs.YtflonjbbolmelaaGreatDoor
namespace Rows

/-- THE TIED CARD OF 'signalcabinkeep.RouteServes'. -/
def routeServesCard : Claim7 := { stood := { row := routeServesRow, standIns := [], harness := (true, "f87829cf1e3cf1e7ae82315a92001cab13a10c6aaef836cfbf45a203ae9b613e"), looks := true }, kinds := [], alts := [], laidByText := true, laidKinds := [.data, .data, .data], laidTests := true, laidLooks := .later }
def RouteServesCardSaid : Prop := Claim7.holds Tryz.pinned (.plain (OpenSpec.ofChange routeServesSpec)) routeServesCard

/-- THE SECOND FORM's CARD OF 'signalcabinkeep.RouteServes'. -/
def routeServesUptoCard : Claim7 := { stood := { row := routeServesUptoRow, standIns := [], harness := (true, "f87829cf1e3cf1e7ae82315a92001cab13a10c6aaef836cfbf45a203ae9b613e"), looks := true }, kinds := [], alts := [], laidByText := true, laidKinds := [.data, .data, .data], laidTests := true, laidLooks := .later }
def RouteServesUptoCardSaid : Prop := Claim7.holds Tryz.pinned (.plain (OpenSpec.upto routeServesSpec)) routeServesUptoCard
end Rows
end Go.Proofs.YtflonjbbolmelaaGreatDoor
