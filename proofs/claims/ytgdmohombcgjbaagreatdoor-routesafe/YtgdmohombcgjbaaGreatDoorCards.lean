/-
  DERIVED. GIVEN WITH THE SEED: THE CARDS: each row of YtgdmohombcgjbaaGreatDoorRows.lean that lists a variable, with what it lists TIED to the program's text (the seventh form; the later family's looks); each row that meets fmt, with fmt's text TOLD by the authors' own Lean function (tested against real Go, not proved from fmt's source: count such statements apart). THE CARD IS WHAT COUNTS. Prove the row's statement (the work); the ties are given (YtgdmohombcgjbaaGreatDoorTie.lean); close each card by the builder's one call (the guide's Derived/Test/ToyasCard.lean, 'card_holds'). Laid BY PROGRAM, IN A SANDBOX (cutbox-door.mjs). By AI agents, Wed Nov 11 2026. No macro, syntax, notation, axiom, sorry.
-/
import Derived.Test.YtgdmohombcgjbaaGreatDoorRows
import GoSem.ClaimSeven
namespace Go.Proofs.YtgdmohombcgjbaaGreatDoor
namespace Rows

/-- THE TIED CARD OF 'signalcabinkeep.RouteSafe'. -/
def routeSafeCard : Claim7 := { stood := { row := routeSafeRow, standIns := [], harness := (true, "d33f59bbf7a76c065cea1e37908c601a4076c2ab9e52646fe08fa94bda2d1e69"), looks := true }, kinds := [], alts := [], laidByText := true, laidKinds := [.data, .data, .data], laidTests := true, laidLooks := .later }
def RouteSafeCardSaid : Prop := Claim7.holds Tryz.pinned (.plain (OpenSpec.ofChange routeSafeSpec)) routeSafeCard

/-- THE SECOND FORM's CARD OF 'signalcabinkeep.RouteSafe'. -/
def routeSafeUptoCard : Claim7 := { stood := { row := routeSafeUptoRow, standIns := [], harness := (true, "d33f59bbf7a76c065cea1e37908c601a4076c2ab9e52646fe08fa94bda2d1e69"), looks := true }, kinds := [], alts := [], laidByText := true, laidKinds := [.data, .data, .data], laidTests := true, laidLooks := .later }
def RouteSafeUptoCardSaid : Prop := Claim7.holds Tryz.pinned (.plain (OpenSpec.upto routeSafeSpec)) routeSafeUptoCard
end Rows
end Go.Proofs.YtgdmohombcgjbaaGreatDoor
