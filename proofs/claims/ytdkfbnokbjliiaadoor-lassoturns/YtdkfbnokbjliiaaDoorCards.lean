/-
  DERIVED. GIVEN WITH THE SEED: THE CARDS: each row of YtdkfbnokbjliiaaDoorRows.lean that lists a variable, with what it lists TIED to the program's text (the seventh form; the later family's looks); each row that meets fmt, with fmt's text TOLD by the authors' own Lean function (tested against real Go, not proved from fmt's source: count such statements apart). THE CARD IS WHAT COUNTS. Prove the row's statement (the work); the ties are given (YtdkfbnokbjliiaaDoorTie.lean); close each card by the builder's one call (the guide's Derived/Test/ToyasCard.lean, 'card_holds'). Laid BY PROGRAM, IN A SANDBOX (cutbox-door.mjs). By AI agents, Wed Nov 11 2026. No macro, syntax, notation, axiom, sorry.
-/
import Derived.Test.YtdkfbnokbjliiaaDoorRows
import GoSem.ClaimSeven
namespace Go.Proofs.YtdkfbnokbjliiaaDoor
namespace Rows

/-- THE TIED CARD OF 'signalcabinkeep.LassoTurns'. -/
def lassoTurnsCard : Claim7 := { stood := { row := lassoTurnsRow, standIns := [], harness := (true, "96d992bcf99faa78a762ae8f7c18e5c09426fcba4c6fb15fbd67399793d3953a"), looks := false }, kinds := [], alts := [], laidByText := true, laidKinds := [.data], laidTests := true, laidLooks := .later }
def LassoTurnsCardSaid : Prop := Claim7.holds Tryd.pinned (.plain (OpenSpec.ofChange lassoTurnsSpec)) lassoTurnsCard

/-- THE TIED CARD OF 'signalcabinkeep.LassoPush'. -/
def lassoPushCard : Claim7 := { stood := { row := lassoPushRow, standIns := [], harness := (true, "96d992bcf99faa78a762ae8f7c18e5c09426fcba4c6fb15fbd67399793d3953a"), looks := false }, kinds := [], alts := [], laidByText := true, laidKinds := [.data, .data], laidTests := true, laidLooks := .later }
def LassoPushCardSaid : Prop := Claim7.holds Tryd.pinned (.plain (OpenSpec.ofChange lassoPushSpec)) lassoPushCard

/-- THE TIED CARD OF 'signalcabinkeep.LassoGrows'. -/
def lassoGrowsCard : Claim7 := { stood := { row := lassoGrowsRow, standIns := [], harness := (true, "96d992bcf99faa78a762ae8f7c18e5c09426fcba4c6fb15fbd67399793d3953a"), looks := false }, kinds := [], alts := [], laidByText := true, laidKinds := [.data], laidTests := true, laidLooks := .later }
def LassoGrowsCardSaid : Prop := Claim7.holds Tryd.pinned (.plain (OpenSpec.ofChange lassoGrowsSpec)) lassoGrowsCard

/-- THE SECOND FORM's CARD OF 'signalcabinkeep.LassoTurns'. -/
def lassoTurnsUptoCard : Claim7 := { stood := { row := lassoTurnsUptoRow, standIns := [], harness := (true, "96d992bcf99faa78a762ae8f7c18e5c09426fcba4c6fb15fbd67399793d3953a"), looks := false }, kinds := [], alts := [], laidByText := true, laidKinds := [.data], laidTests := true, laidLooks := .later }
def LassoTurnsUptoCardSaid : Prop := Claim7.holds Tryd.pinned (.plain (OpenSpec.upto lassoTurnsSpec)) lassoTurnsUptoCard

/-- THE SECOND FORM's CARD OF 'signalcabinkeep.LassoPush'. -/
def lassoPushUptoCard : Claim7 := { stood := { row := lassoPushUptoRow, standIns := [], harness := (true, "96d992bcf99faa78a762ae8f7c18e5c09426fcba4c6fb15fbd67399793d3953a"), looks := false }, kinds := [], alts := [], laidByText := true, laidKinds := [.data, .data], laidTests := true, laidLooks := .later }
def LassoPushUptoCardSaid : Prop := Claim7.holds Tryd.pinned (.plain (OpenSpec.upto lassoPushSpec)) lassoPushUptoCard

/-- THE SECOND FORM's CARD OF 'signalcabinkeep.LassoGrows'. -/
def lassoGrowsUptoCard : Claim7 := { stood := { row := lassoGrowsUptoRow, standIns := [], harness := (true, "96d992bcf99faa78a762ae8f7c18e5c09426fcba4c6fb15fbd67399793d3953a"), looks := false }, kinds := [], alts := [], laidByText := true, laidKinds := [.data], laidTests := true, laidLooks := .later }
def LassoGrowsUptoCardSaid : Prop := Claim7.holds Tryd.pinned (.plain (OpenSpec.upto lassoGrowsSpec)) lassoGrowsUptoCard
end Rows
end Go.Proofs.YtdkfbnokbjliiaaDoor
