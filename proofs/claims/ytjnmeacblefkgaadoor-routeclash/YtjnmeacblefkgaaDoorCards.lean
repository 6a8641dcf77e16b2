/-
  DERIVED. GIVEN WITH THE SEED: THE CARDS: each row of YtjnmeacblefkgaaDoorRows.lean that lists a variable, with what it lists TIED to the program's text (the seventh form; the later family's looks); each row that meets fmt, with fmt's text TOLD by the authors' own Lean function (tested against real Go, not proved from fmt's source: count such statements apart). THE CARD IS WHAT COUNTS. Prove the row's statement (the work); the ties are given (YtjnmeacblefkgaaDoorTie.lean); close each card by the builder's one call (the guide's Derived/Test/ToyasCard.lean, 'card_holds'). Laid BY PROGRAM, IN A SANDBOX (cutbox-door.mjs). By AI agents, Wed Nov 11 2026. No macro, syntax, notation, axiom, sorry.
-/
import Derived.Test.YtjnmeacblefkgaaDoorRows
import GoSem.ClaimSeven
namespace Go.Proofs.YtjnmeacblefkgaaDoor
namespace Rows

/-- THE TIED CARD OF 'signalcabinkeep.RouteClash'. -/
def routeClashCard : Claim7 := { stood := { row := routeClashRow, standIns := [], harness := (true, "199c259f5fca7ea3c194192ff2a0fc71007ab6dda5762c4a39b757bde17c9e2f"), looks := false }, kinds := [], alts := [], laidByText := true, laidKinds := [.data, .data, .data], laidTests := true, laidLooks := .later }
def RouteClashCardSaid : Prop := Claim7.holds Tryd.pinned (.plain (OpenSpec.ofChange routeClashSpec)) routeClashCard

/-- THE SECOND FORM's CARD OF 'signalcabinkeep.RouteClash'. -/
def routeClashUptoCard : Claim7 := { stood := { row := routeClashUptoRow, standIns := [], harness := (true, "199c259f5fca7ea3c194192ff2a0fc71007ab6dda5762c4a39b757bde17c9e2f"), looks := false }, kinds := [], alts := [], laidByText := true, laidKinds := [.data, .data, .data], laidTests := true, laidLooks := .later }
def RouteClashUptoCardSaid : Prop := Claim7.holds Tryd.pinned (.plain (OpenSpec.upto routeClashSpec)) routeClashUptoCard
end Rows
end Go.Proofs.YtjnmeacblefkgaaDoor
