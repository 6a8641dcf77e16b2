/-
  DERIVED. GIVEN WITH THE SEED: THE CARDS: each row of YtjlkjhmmbaljiaaGreatDoorRows.lean that lists a variable, with what it lists TIED to the program's text (the seventh form; the later family's looks); each row that meets fmt, with fmt's text TOLD by the authors' own Lean function (tested against real Go, not proved from fmt's source: count such statements apart). THE CARD IS WHAT COUNTS. Prove the row's statement (the work); the ties are given (YtjlkjhmmbaljiaaGreatDoorTie.lean); close each card by the builder's one call (the guide's Derived/Test/ToyasCard.lean, 'card_holds'). Laid BY PROGRAM, IN A SANDBOX (cutbox-door.mjs). By AI agents, Wed Nov 11 2026. No macro, syntax, notation, axiom, sorry.
-/
import Derived.Test.YtjlkjhmmbaljiaaGreatDoorRows
import GoSem.ClaimSeven
namespace Go.Proofs.YtjlkjhmmbaljiaaGreatDoor
namespace Rows

/-- THE TIED CARD OF 'signalcabinkeep.InductSound'. -/
def inductSoundCard : Claim7 := { stood := { row := inductSoundRow, standIns := [], harness := (true, "49c1258c81688b5c4976aee8d3564e81d5e436ffb84dc756973a0cd881ebda23"), looks := true }, kinds := [], alts := [], laidByText := true, laidKinds := [.data, .data, .data, .data, .handle, .sentinel, .sentinel, .data, .data, .pinned], laidTests := true, laidLooks := .later }
def InductSoundCardSaid : Prop := Claim7.holds Tryz.pinned (.plain (OpenSpec.ofChange inductSoundSpec)) inductSoundCard

/-- THE SECOND FORM's CARD OF 'signalcabinkeep.InductSound'. -/
def inductSoundUptoCard : Claim7 := { stood := { row := inductSoundUptoRow, standIns := [], harness := (true, "49c1258c81688b5c4976aee8d3564e81d5e436ffb84dc756973a0cd881ebda23"), looks := true }, kinds := [], alts := [], laidByText := true, laidKinds := [.data, .data, .data, .data, .handle, .sentinel, .sentinel, .data, .data, .pinned], laidTests := true, laidLooks := .later }
def InductSoundUptoCardSaid : Prop := Claim7.holds Tryz.pinned (.plain (OpenSpec.upto inductSoundSpec)) inductSoundUptoCard
end Rows
end Go.Proofs.YtjlkjhmmbaljiaaGreatDoor
