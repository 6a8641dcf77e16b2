/-
  DERIVED. GIVEN WITH THE SEED: THE CARDS: each row of YtafohdcfcaiddaaDoorRows.lean that lists a variable, with what it lists TIED to the program's text (the seventh form; the later family's looks); each row that meets fmt, with fmt's text TOLD by the authors' own Lean function (tested against real Go, not proved from fmt's source: count such statements apart). THE CARD IS WHAT COUNTS. Prove the row's statement (the work); the ties are given (YtafohdcfcaiddaaDoorTie.lean); close each card by the builder's one call (the guide's Derived/Test/ToyasCard.lean, 'card_holds'). Laid BY PROGRAM, IN A SANDBOX (cutbox-door.mjs). By AI agents, Wed Nov 11 2026. No macro, syntax, notation, axiom, sorry.
-/
import Derived.Test.YtafohdcfcaiddaaDoorRows
import GoSem.ClaimSeven
namespace Go.Proofs.YtafohdcfcaiddaaDoor
namespace Rows

/-- THE TIED CARD OF 'signalcabinlaw.LassoHolds'. -/
def lassoHoldsCard : Claim7 := { stood := { row := lassoHoldsRow, standIns := [], harness := (true, "e76862671f7c4e442fd9313e4a7d914e32f60896e895a53da0ddad0752bb88fd"), looks := true }, kinds := [], alts := [], laidByText := true, laidKinds := [.handle, .data], laidTests := true, laidLooks := .later }
def LassoHoldsCardSaid : Prop := Claim7.holds Tryd.pinned (.plain (OpenSpec.ofChange lassoHoldsSpec)) lassoHoldsCard

/-- THE TIED CARD OF 'signalcabinlaw.LassoPushes'. -/
def lassoPushesCard : Claim7 := { stood := { row := lassoPushesRow, standIns := [], harness := (true, "e76862671f7c4e442fd9313e4a7d914e32f60896e895a53da0ddad0752bb88fd"), looks := true }, kinds := [], alts := [], laidByText := true, laidKinds := [.handle, .data, .data], laidTests := true, laidLooks := .later }
def LassoPushesCardSaid : Prop := Claim7.holds Tryd.pinned (.plain (OpenSpec.ofChange lassoPushesSpec)) lassoPushesCard

/-- THE TIED CARD OF 'signalcabinlaw.LassoRights'. -/
def lassoRightsCard : Claim7 := { stood := { row := lassoRightsRow, standIns := [], harness := (true, "e76862671f7c4e442fd9313e4a7d914e32f60896e895a53da0ddad0752bb88fd"), looks := true }, kinds := [], alts := [], laidByText := true, laidKinds := [.handle, .data], laidTests := true, laidLooks := .later }
def LassoRightsCardSaid : Prop := Claim7.holds Tryd.pinned (.plain (OpenSpec.ofChange lassoRightsSpec)) lassoRightsCard

/-- THE SECOND FORM's CARD OF 'signalcabinlaw.LassoHolds'. -/
def lassoHoldsUptoCard : Claim7 := { stood := { row := lassoHoldsUptoRow, standIns := [], harness := (true, "e76862671f7c4e442fd9313e4a7d914e32f60896e895a53da0ddad0752bb88fd"), looks := true }, kinds := [], alts := [], laidByText := true, laidKinds := [.handle, .data], laidTests := true, laidLooks := .later }
def LassoHoldsUptoCardSaid : Prop := Claim7.holds Tryd.pinned (.plain (OpenSpec.upto lassoHoldsSpec)) lassoHoldsUptoCard

/-- THE SECOND FORM's CARD OF 'signalcabinlaw.LassoPushes'. -/
def lassoPushesUptoCard : Claim7 := { stood := { row := lassoPushesUptoRow, standIns := [], harness := (true, "e76862671f7c4e442fd9313e4a7d914e32f60896e895a53da0ddad0752bb88fd"), looks := true }, kinds := [], alts := [], laidByText := true, laidKinds := [.handle, .data, .data], laidTests := true, laidLooks := .later }
def LassoPushesUptoCardSaid : Prop := Claim7.holds Tryd.pinned (.plain (OpenSpec.upto lassoPushesSpec)) lassoPushesUptoCard

/-- THE SECOND FORM's CARD OF 'signalcabinlaw.LassoRights'. -/
def lassoRightsUptoCard : Claim7 := { stood := { row := lassoRightsUptoRow, standIns := [], harness := (true, "e76862671f7c4e442fd9313e4a7d914e32f60896e895a53da0ddad0752bb88fd"), looks := true }, kinds := [], alts := [], laidByText := true, laidKinds := [.handle, .data], laidTests := true, laidLooks := .later }
def LassoRightsUptoCardSaid : Prop := Claim7.holds Tryd.pinned (.plain (OpenSpec.upto lassoRightsSpec)) lassoRightsUptoCard
end Rows
end Go.Proofs.YtafohdcfcaiddaaDoor
