/-
  DERIVED. GIVEN WITH THE SEED: THE CARDS: each row of YtkfikffnljnepaaGreatDoorRows.lean that lists a variable, with what it lists TIED to the program's text (the seventh form; the later family's looks); each row that meets fmt, with fmt's text TOLD by the authors' own Lean function (tested against real Go, not proved from fmt's source: count such statements apart). THE CARD IS WHAT COUNTS. Prove the row's statement (the work); the ties are given (YtkfikffnljnepaaGreatDoorTie.lean); close each card by the builder's one call (the guide's Derived/Test/ToyasCard.lean, 'card_holds'). Laid BY PROGRAM, IN A SANDBOX (cutbox-door.mjs). By AI agents, Wed Nov 11 2026. No macro, syntax, notation, axiom, sorry.
-/
import Derived.Test.YtkfikffnljnepaaGreatDoorRows
import GoSem.ClaimSeven
namespace Go.Proofs.YtkfikffnljnepaaGreatDoor
namespace Rows

/-- THE TIED CARD OF 'signalcabinlaw.ReachFars'. -/
def reachFarsCard : Claim7 := { stood := { row := reachFarsRow, standIns := [], harness := (true, "3fd10049a59a155f35efeaf920eff39890a55de6136cd9550b8f0c594c8effee"), looks := true }, kinds := [], alts := [], laidByText := true, laidKinds := [.data, .data, .data, .data, .handle, .sentinel, .sentinel, .data, .data, .data, .widerDeep, .widerDeep, .pinned], laidTests := true, laidLooks := .later }
def ReachFarsCardSaid : Prop := Claim7.holds Tryz.pinned (.plain (OpenSpec.ofChange reachFarsSpec)) reachFarsCard

/-- THE TIED CARD OF 'signalcabinlaw.ReachFixed'. -/
def reachFixedCard : Claim7 := { stood := { row := reachFixedRow, standIns := [], harness := (true, "3fd10049a59a155f35efeaf920eff39890a55de6136cd9550b8f0c594c8effee"), looks := true }, kinds := [], alts := [], laidByText := true, laidKinds := [.data, .data, .data, .data, .handle, .sentinel, .sentinel, .data, .data, .data, .widerDeep, .widerDeep, .pinned], laidTests := true, laidLooks := .later }
def ReachFixedCardSaid : Prop := Claim7.holds Tryz.pinned (.plain (OpenSpec.ofChange reachFixedSpec)) reachFixedCard

/-- THE SECOND FORM's CARD OF 'signalcabinlaw.ReachFars'. -/
def reachFarsUptoCard : Claim7 := { stood := { row := reachFarsUptoRow, standIns := [], harness := (true, "3fd10049a59a155f35efeaf920eff39890a55de6136cd9550b8f0c594c8effee"), looks := true }, kinds := [], alts := [], laidByText := true, laidKinds := [.data, .data, .data, .data, .handle, .sentinel, .sentinel, .data, .data, .data, .widerDeep, .widerDeep, .pinned], laidTests := true, laidLooks := .later }
def ReachFarsUptoCardSaid : Prop := Claim7.holds Tryz.pinned (.plain (OpenSpec.upto reachFarsSpec)) reachFarsUptoCard

/-- THE SECOND FORM's CARD OF 'signalcabinlaw.ReachFixed'. -/
def reachFixedUptoCard : Claim7 := { stood := { row := reachFixedUptoRow, standIns := [], harness := (true, "3fd10049a59a155f35efeaf920eff39890a55de6136cd9550b8f0c594c8effee"), looks := true }, kinds := [], alts := [], laidByText := true, laidKinds := [.data, .data, .data, .data, .handle, .sentinel, .sentinel, .data, .data, .data, .widerDeep, .widerDeep, .pinned], laidTests := true, laidLooks := .later }
def ReachFixedUptoCardSaid : Prop := Claim7.holds Tryz.pinned (.plain (OpenSpec.upto reachFixedSpec)) reachFixedUptoCard
end Rows
end Go.Proofs.YtkfikffnljnepaaGreatDoor
