/-
  DERIVED. GIVEN WITH THE SEED: THE PROGRAM's TIES (one call each: nine closed facts by the kernel) AND EACH ROW's TIE, after the 31st guide's Derived/Test/Toyas{Tie, Card}.lean. No idea stands in it: it is a product of the set-up. Laid BY PROGRAM, IN A SANDBOX (cutbox-door.mjs). By AI agents, Wed Nov 11 2026. No macro, syntax, notation, axiom, sorry.
-/
import Derived.Test.YtdkfbnokbjliiaaDoorRows
import Derived.LaidByTextLater
import Derived.SevenTiedAt
import Derived.LaidSub
import Derived.LaidOnce
namespace Go.Proofs.YtdkfbnokbjliiaaDoor
open Go
set_option maxRecDepth 100000
theorem seatTie1 : Tryd.prog.laidByTextLater [("signalcabin/lasso.parts", Rows.laid_signalcabin_lasso_parts), ("signalcabin/lasso.signs", Rows.laid_signalcabin_lasso_signs)] [.data, .data] true :=
  Program.laidByTextLater_by_one 19 8 12 (by kernel_rfl) (by kernel_rfl) (by kernel_rfl) (by kernel_rfl) (by kernel_rfl) (by kernel_rfl) (fun _ _ => by kernel_rfl)
theorem noOwnUnsafe : Tryd.pinned.checked.prog.headLifts.contains "ownunsafe" = false := by kernel_rfl
theorem tie : Tryd.prog.laidByTextLater [("signalcabin/lasso.parts", Rows.laid_signalcabin_lasso_parts)] [.data] true :=
  Program.laidByTextLater.sub seatTie1 ["signalcabin/lasso.parts"] (by kernel_rfl) (by kernel_rfl)
theorem lassoTurns_row_tie : Rows.lassoTurnsRow.laidByTextAt .later Tryd.pinned [.data] true :=
  OpenClaim.laidByTextAt_later rfl rfl tie noOwnUnsafe
theorem lassoGrows_row_tie : Rows.lassoGrowsRow.laidByTextAt .later Tryd.pinned [.data] true :=
  OpenClaim.laidByTextAt_later rfl rfl tie noOwnUnsafe
theorem tie2 : Tryd.prog.laidByTextLater [("signalcabin/lasso.parts", Rows.laid_signalcabin_lasso_parts), ("signalcabin/lasso.signs", Rows.laid_signalcabin_lasso_signs)] [.data, .data] true :=
  Program.laidByTextLater.sub seatTie1 ["signalcabin/lasso.parts", "signalcabin/lasso.signs"] (by kernel_rfl) (by kernel_rfl)
theorem lassoPush_row_tie : Rows.lassoPushRow.laidByTextAt .later Tryd.pinned [.data, .data] true :=
  OpenClaim.laidByTextAt_later rfl rfl tie2 noOwnUnsafe
theorem lassoTurnsUpto_row_tie : Rows.lassoTurnsUptoRow.laidByTextAt .later Tryd.pinned [.data] true :=
  OpenClaim.laidByTextAt_later rfl rfl tie noOwnUnsafe
theorem lassoPushUpto_row_tie : Rows.lassoPushUptoRow.laidByTextAt .later Tryd.pinned [.data, .data] true :=
  OpenClaim.laidByTextAt_later rfl rfl tie2 noOwnUnsafe
theorem lassoGrowsUpto_row_tie : Rows.lassoGrowsUptoRow.laidByTextAt .later Tryd.pinned [.data] true :=
  OpenClaim.laidByTextAt_later rfl rfl tie noOwnUnsafe
end Go.Proofs.YtdkfbnokbjliiaaDoor
