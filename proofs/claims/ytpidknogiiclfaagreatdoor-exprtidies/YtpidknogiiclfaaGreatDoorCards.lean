/-
  DERIVED. GIVEN WITH THE SEED: THE CARDS: each row of YtpidknogiiclfaaGreatDoorRows.lean that lists a variable, with what it lists TIED to the program's text (the seventh form; the later family's looks); each row that meets fmt, with fmt's text TOLD by the authors' own Lean function (tested against real Go, not proved from fmt's source: count such statements apart). THE CARD IS WHAT COUNTS. Prove the row's statement (the work); the ties are given (YtpidknogiiclfaaGreatDoorTie.lean); close each card by the builder's one call (the guide's Derived/Test/ToyasCard.lean, 'card_holds'). Laid BY PROGRAM, IN A SANDBOX (cutbox-door.mjs). By AI agents, Wed Nov 11 2026. No macro, syntax, notation, axiom, sorry.
-/
import Derived.Test.YtpidknogiiclfaaGreatDoorRows
import GoSem.ClaimSeven
namespace Go.Proofs.YtpidknogiiclfaaGreatDoor
namespace Rows

/-- THE TIED CARD OF 'signalcabinlaw.ExprSays'. -/
def exprSaysCard : Claim7 := { stood := { row := exprSaysRow, standIns := [], harness := (true, "ce85b4f15bcdcb57d8d7fc27d21a185fe5e18e9431a436a21c481ffb8f2fea39"), looks := true }, kinds := [], alts := [], laidByText := true, laidKinds := [.data], laidTests := true, laidLooks := .later }
def ExprSaysCardSaid : Prop := Claim7.holds Tryz.pinned (.plain (OpenSpec.ofChange exprSaysSpec)) exprSaysCard

/-- THE TIED CARD OF 'signalcabinlaw.ExprTidies'. -/
def exprTidiesCard : Claim7 := { stood := { row := exprTidiesRow, standIns := [], harness := (true, "ce85b4f15bcdcb57d8d7fc27d21a185fe5e18e9431a436a21c481ffb8f2fea39"), looks := true }, kinds := [], alts := [], laidByText := true, laidKinds := [.data, .data, .data, .data], laidTests := true, laidLooks := .later }
def ExprTidiesCardSaid : Prop := Claim7.holds Tryz.pinned (.plain (OpenSpec.ofChange exprTidiesSpec)) exprTidiesCard

/-- THE SECOND FORM's CARD OF 'signalcabinlaw.ExprSays'. -/
def exprSaysUptoCard : Claim7 := { stood := { row := exprSaysUptoRow, standIns := [], harness := (true, "ce85b4f15bcdcb57d8d7fc27d21a185fe5e18e9431a436a21c481ffb8f2fea39"), looks := true }, kinds := [], alts := [], laidByText := true, laidKinds := [.data], laidTests := true, laidLooks := .later }
def ExprSaysUptoCardSaid : Prop := Claim7.holds Tryz.pinned (.plain (OpenSpec.upto exprSaysSpec)) exprSaysUptoCard

/-- THE SECOND FORM's CARD OF 'signalcabinlaw.ExprTidies'. -/
def exprTidiesUptoCard : Claim7 := { stood := { row := exprTidiesUptoRow, standIns := [], harness := (true, "ce85b4f15bcdcb57d8d7fc27d21a185fe5e18e9431a436a21c481ffb8f2fea39"), looks := true }, kinds := [], alts := [], laidByText := true, laidKinds := [.data, .data, .data, .data], laidTests := true, laidLooks := .later }
def ExprTidiesUptoCardSaid : Prop := Claim7.holds Tryz.pinned (.plain (OpenSpec.upto exprTidiesSpec)) exprTidiesUptoCard
end Rows
end Go.Proofs.YtpidknogiiclfaaGreatDoor
