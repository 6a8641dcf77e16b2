/-
  DERIVED. GIVEN WITH THE SEED: THE CARDS: each row of YtmdblokmplbpmaaDoorRows.lean that lists a variable, with what it lists TIED to the program's text (the seventh form; the later family's looks); each row that meets fmt, with fmt's text TOLD by the authors' own Lean function (tested against real Go, not proved from fmt's source: count such statements apart). THE CARD IS WHAT COUNTS. Prove the row's statement (the work); the ties are given (YtmdblokmplbpmaaDoorTie.lean); close each card by the builder's one call (the guide's Derived/Test/ToyasCard.lean, 'card_holds'). Laid BY PROGRAM, IN A SANDBOX (cutbox-door.mjs). By AI agents, Wed Nov 11 2026. No macro, syntax, notation, axiom, sorry.
-/
import Derived.Test.YtmdblokmplbpmaaDoorRows
import GoSem.ClaimSeven
namespace Go.Proofs.YtmdblokmplbpmaaDoor
namespace Rows

/-- THE TIED CARD OF 'signalcabinlaw.LassoHolds'. -/
def lassoHoldsCard : Claim7 := { stood := { row := lassoHoldsRow, standIns := [], harness := (true, "ccf9bb9256d47dafc6739a887a84419a334dafe6351af36b854966017be9ff6c"), looks := true }, kinds := [], alts := [], laidByText := true, laidKinds := [.handle, .data], laidTests := true, laidLooks := .later }
def LassoHoldsCardSaid : Prop := Claim7.holds Tryd.pinned (.plain (OpenSpec.ofChange lassoHoldsSpec)) lassoHoldsCard

/-- THE TIED CARD OF 'signalcabinlaw.LassoPushes'. -/
def lassoPushesCard : Claim7 := { stood := { row := lassoPushesRow, standIns := [], harness := (true, "ccf9bb9256d47dafc6739a887a84419a334dafe6351af36b854966017be9ff6c"), looks := true }, kinds := [], alts := [], laidByText := true, laidKinds := [.handle, .data, .data], laidTests := true, laidLooks := .later }
def LassoPushesCardSaid : Prop := Claim7.holds Tryd.pinned (.plain (OpenSpec.ofChange lassoPushesSpec)) lassoPushesCard

/-- THE SECOND FORM's CARD OF 'signalcabinlaw.LassoHolds'. -/
def lassoHoldsUptoCard : Claim7 := { stood := { row := lassoHoldsUptoRow, standIns := [], harness := (true, "ccf9bb9256d47dafc6739a887a84419a334dafe6351af36b854966017be9ff6c"), looks := true }, kinds := [], alts := [], laidByText := true, laidKinds := [.handle, .data], laidTests := true, laidLooks := .later }
def LassoHoldsUptoCardSaid : Prop := Claim7.holds Tryd.pinned (.plain (OpenSpec.upto lassoHoldsSpec)) lassoHoldsUptoCard

/-- THE SECOND FORM's CARD OF 'signalcabinlaw.LassoPushes'. -/
def lassoPushesUptoCard : Claim7 := { stood := { row := lassoPushesUptoRow, standIns := [], harness := (true, "ccf9bb9256d47dafc6739a887a84419a334dafe6351af36b854966017be9ff6c"), looks := true }, kinds := [], alts := [], laidByText := true, laidKinds := [.handle, .data, .data], laidTests := true, laidLooks := .later }
def LassoPushesUptoCardSaid : Prop := Claim7.holds Tryd.pinned (.plain (OpenSpec.upto lassoPushesSpec)) lassoPushesUptoCard
end Rows
end Go.Proofs.YtmdblokmplbpmaaDoor
