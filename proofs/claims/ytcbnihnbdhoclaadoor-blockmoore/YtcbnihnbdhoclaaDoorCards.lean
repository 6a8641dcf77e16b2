/-
  DERIVED. GIVEN WITH THE SEED: THE CARDS: each row of YtcbnihnbdhoclaaDoorRows.lean that lists a variable, with what it lists TIED to the program's text (the seventh form; the later family's looks); each row that meets fmt, with fmt's text TOLD by the authors' own Lean function (tested against real Go, not proved from fmt's source: count such statements apart). THE CARD IS WHAT COUNTS. Prove the row's statement (the work); the ties are given (YtcbnihnbdhoclaaDoorTie.lean); close each card by the builder's one call (the guide's Derived/Test/ToyasCard.lean, 'card_holds'). Laid BY PROGRAM, IN A SANDBOX (cutbox-door.mjs). By AI agents, Wed Nov 11 2026. No macro, syntax, notation, axiom, sorry.
-/
import Derived.Test.YtcbnihnbdhoclaaDoorRows
import GoSem.ClaimSeven
namespace Go.Proofs.YtcbnihnbdhoclaaDoor
namespace Rows

/-- THE TIED CARD OF 'signalcabinlaw.BlockBlocks'. -/
def blockBlocksCard : Claim7 := { stood := { row := blockBlocksRow, standIns := [], harness := (true, "2bcb18f209384b1ef924a06d673ecc28b0ed70cd5ae9f9105e07939b428b9f7f"), looks := true }, kinds := [], alts := [], laidByText := true, laidKinds := [.handle, .data], laidTests := true, laidLooks := .later }
def BlockBlocksCardSaid : Prop := Claim7.holds Tryd.pinned (.plain (OpenSpec.ofChange blockBlocksSpec)) blockBlocksCard

/-- THE TIED CARD OF 'signalcabinlaw.BlockParts'. -/
def blockPartsCard : Claim7 := { stood := { row := blockPartsRow, standIns := [], harness := (true, "2bcb18f209384b1ef924a06d673ecc28b0ed70cd5ae9f9105e07939b428b9f7f"), looks := true }, kinds := [], alts := [], laidByText := true, laidKinds := [.handle, .data], laidTests := true, laidLooks := .later }
def BlockPartsCardSaid : Prop := Claim7.holds Tryd.pinned (.plain (OpenSpec.ofChange blockPartsSpec)) blockPartsCard

/-- THE TIED CARD OF 'signalcabinkeep.BlockMoore'. -/
def blockMooreCard : Claim7 := { stood := { row := blockMooreRow, standIns := [], harness := (true, "2bcb18f209384b1ef924a06d673ecc28b0ed70cd5ae9f9105e07939b428b9f7f"), looks := true }, kinds := [], alts := [], laidByText := true, laidKinds := [.handle], laidTests := true, laidLooks := .later }
def BlockMooreCardSaid : Prop := Claim7.holds Tryd.pinned (.plain (OpenSpec.ofChange blockMooreSpec)) blockMooreCard

/-- THE SECOND FORM's CARD OF 'signalcabinlaw.BlockBlocks'. -/
def blockBlocksUptoCard : Claim7 := { stood := { row := blockBlocksUptoRow, standIns := [], harness := (true, "2bcb18f209384b1ef924a06d673ecc28b0ed70cd5ae9f9105e07939b428b9f7f"), looks := true }, kinds := [], alts := [], laidByText := true, laidKinds := [.handle, .data], laidTests := true, laidLooks := .later }
def BlockBlocksUptoCardSaid : Prop := Claim7.holds Tryd.pinned (.plain (OpenSpec.upto blockBlocksSpec)) blockBlocksUptoCard

/-- THE SECOND FORM's CARD OF 'signalcabinlaw.BlockParts'. -/
def blockPartsUptoCard : Claim7 := { stood := { row := blockPartsUptoRow, standIns := [], harness := (true, "2bcb18f209384b1ef924a06d673ecc28b0ed70cd5ae9f9105e07939b428b9f7f"), looks := true }, kinds := [], alts := [], laidByText := true, laidKinds := [.handle, .data], laidTests := true, laidLooks := .later }
def BlockPartsUptoCardSaid : Prop := Claim7.holds Tryd.pinned (.plain (OpenSpec.upto blockPartsSpec)) blockPartsUptoCard

/-- THE SECOND FORM's CARD OF 'signalcabinkeep.BlockMoore'. -/
def blockMooreUptoCard : Claim7 := { stood := { row := blockMooreUptoRow, standIns := [], harness := (true, "2bcb18f209384b1ef924a06d673ecc28b0ed70cd5ae9f9105e07939b428b9f7f"), looks := true }, kinds := [], alts := [], laidByText := true, laidKinds := [.handle], laidTests := true, laidLooks := .later }
def BlockMooreUptoCardSaid : Prop := Claim7.holds Tryd.pinned (.plain (OpenSpec.upto blockMooreSpec)) blockMooreUptoCard
end Rows
end Go.Proofs.YtcbnihnbdhoclaaDoor
