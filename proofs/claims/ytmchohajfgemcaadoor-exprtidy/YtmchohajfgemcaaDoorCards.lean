/-
  DERIVED. GIVEN WITH THE SEED: THE CARDS: each row of YtmchohajfgemcaaDoorRows.lean that lists a variable, with what it lists TIED to the program's text (the seventh form; the later family's looks); each row that meets fmt, with fmt's text TOLD by the authors' own Lean function (tested against real Go, not proved from fmt's source: count such statements apart). THE CARD IS WHAT COUNTS. Prove the row's statement (the work); the ties are given (YtmchohajfgemcaaDoorTie.lean); close each card by the builder's one call (the guide's Derived/Test/ToyasCard.lean, 'card_holds'). Laid BY PROGRAM, IN A SANDBOX (cutbox-door.mjs). By AI agents, Wed Nov 11 2026. No macro, syntax, notation, axiom, sorry.
-/
import Derived.Test.YtmchohajfgemcaaDoorRows
import GoSem.ClaimSeven
namespace Go.Proofs.YtmchohajfgemcaaDoor
namespace Rows

/-- THE TIED CARD OF 'signalcabinlaw.ExprParses'. -/
def exprParsesCard : Claim7 := { stood := { row := exprParsesRow, standIns := [], harness := (true, "5be999b0f587605d5bd1c1ee6fd01e5169691a953bd1c0739f7f467dfe3fdef0"), looks := true }, kinds := [], alts := [], laidByText := true, laidKinds := [.handle, .data], laidTests := true, laidLooks := .later }
def ExprParsesCardSaid : Prop := Claim7.holds Tryd.pinned (.plain (OpenSpec.ofChange exprParsesSpec)) exprParsesCard

/-- THE TIED CARD OF 'signalcabinkeep.ExprTidy'. -/
def exprTidyCard : Claim7 := { stood := { row := exprTidyRow, standIns := [], harness := (true, "5be999b0f587605d5bd1c1ee6fd01e5169691a953bd1c0739f7f467dfe3fdef0"), looks := true }, kinds := [], alts := [], laidByText := true, laidKinds := [.data, .data, .data], laidTests := true, laidLooks := .later }
def ExprTidyCardSaid : Prop := Claim7.holds Tryd.pinned (.plain (OpenSpec.ofChange exprTidySpec)) exprTidyCard

/-- THE SECOND FORM's CARD OF 'signalcabinlaw.ExprParses'. -/
def exprParsesUptoCard : Claim7 := { stood := { row := exprParsesUptoRow, standIns := [], harness := (true, "5be999b0f587605d5bd1c1ee6fd01e5169691a953bd1c0739f7f467dfe3fdef0"), looks := true }, kinds := [], alts := [], laidByText := true, laidKinds := [.handle, .data], laidTests := true, laidLooks := .later }
def ExprParsesUptoCardSaid : Prop := Claim7.holds Tryd.pinned (.plain (OpenSpec.upto exprParsesSpec)) exprParsesUptoCard

/-- THE SECOND FORM's CARD OF 'signalcabinkeep.ExprTidy'. -/
def exprTidyUptoCard : Claim7 := { stood := { row := exprTidyUptoRow, standIns := [], harness := (true, "5be999b0f587605d5bd1c1ee6fd01e5169691a953bd1c0739f7f467dfe3fdef0"), looks := true }, kinds := [], alts := [], laidByText := true, laidKinds := [.data, .data, .data], laidTests := true, laidLooks := .later }
def ExprTidyUptoCardSaid : Prop := Claim7.holds Tryd.pinned (.plain (OpenSpec.upto exprTidySpec)) exprTidyUptoCard
end Rows
end Go.Proofs.YtmchohajfgemcaaDoor
