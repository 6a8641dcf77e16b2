/-
  DERIVED. GIVEN WITH THE SEED: THE PROGRAM's TIES (one call each: nine closed facts by the kernel) AND EACH ROW's TIE, after the 31st guide's Derived/Test/Toyas{Tie, Card}.lean. No idea stands in it: it is a product of the set-up. Laid BY PROGRAM, IN A SANDBOX (cutbox-door.mjs). By AI agents, Wed Nov 11 2026. No macro, syntax, notation, axiom, sorry.
-/
import Derived.Test.YtmdblokmplbpmaaDoorRows
import Derived.LaidByTextLater
import Derived.SevenTiedAt
import Derived.LaidSub
import Derived.LaidOnce
namespace Go.Proofs.YtmdblokmplbpmaaDoor
open Go
set_option maxRecDepth 100000
theorem seatTie1 : Tryd.prog.laidByTextLater [("errors.errorType", Rows.laid_errors_errorType), ("signalcabin/lasso.parts", Rows.laid_signalcabin_lasso_parts), ("signalcabin/lasso.signs", Rows.laid_signalcabin_lasso_signs)] [.handle, .data, .data] true :=
  Program.laidByTextLater_by_one 26 8 12 (by kernel_rfl) (by kernel_rfl) (by kernel_rfl) (by kernel_rfl) (by kernel_rfl) (by kernel_rfl) (fun _ _ => by kernel_rfl)
theorem noOwnUnsafe : Tryd.pinned.checked.prog.headLifts.contains "ownunsafe" = false := by kernel_rfl
theorem tie : Tryd.prog.laidByTextLater [("errors.errorType", Rows.laid_errors_errorType), ("signalcabin/lasso.parts", Rows.laid_signalcabin_lasso_parts)] [.handle, .data] true :=
  Program.laidByTextLater.sub seatTie1 ["errors.errorType", "signalcabin/lasso.parts"] (by kernel_rfl) (by kernel_rfl)
theorem lassoHolds_row_tie : Rows.lassoHoldsRow.laidByTextAt .later Tryd.pinned [.handle, .data] true :=
  OpenClaim.laidByTextAt_later rfl rfl tie noOwnUnsafe
theorem tie2 : Tryd.prog.laidByTextLater [("errors.errorType", Rows.laid_errors_errorType), ("signalcabin/lasso.parts", Rows.laid_signalcabin_lasso_parts), ("signalcabin/lasso.signs", Rows.laid_signalcabin_lasso_signs)] [.handle, .data, .data] true :=
  Program.laidByTextLater.sub seatTie1 ["errors.errorType", "signalcabin/lasso.parts", "signalcabin/lasso.signs"] (by kernel_rfl) (by kernel_rfl)
theorem lassoPushes_row_tie : Rows.lassoPushesRow.laidByTextAt .later Tryd.pinned [.handle, .data, .data] true :=
  OpenClaim.laidByTextAt_later rfl rfl tie2 noOwnUnsafe
theorem lassoHoldsUpto_row_tie : Rows.lassoHoldsUptoRow.laidByTextAt .later Tryd.pinned [.handle, .data] true :=
  OpenClaim.laidByTextAt_later rfl rfl tie noOwnUnsafe
theorem lassoPushesUpto_row_tie : Rows.lassoPushesUptoRow.laidByTextAt .later Tryd.pinned [.handle, .data, .data] true :=
  OpenClaim.laidByTextAt_later rfl rfl tie2 noOwnUnsafe
end Go.Proofs.YtmdblokmplbpmaaDoor
