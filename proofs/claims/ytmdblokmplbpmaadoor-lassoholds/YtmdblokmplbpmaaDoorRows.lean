/-
  NARROWER THAN 'FOR EVERY INPUT', by the rows' own cells (each row's printed sentence says how): LassoHolds: laid · LassoPushes: laid.
  DERIVED. THE GIVEN ROWS OF THIS SEAT. 2 by the template 'for every input the law returns true; each argument reads behind the call as it read before'; 0 by the template 'total and deterministic' (their statements: YtmdblokmplbpmaaDoorTotals.lean).
  GIVEN WITH THE SEED: the statements are not yours to turn. If you find one false, say at which input.
  Laid BY PROGRAM, IN A SANDBOX (cutbox-rows.mjs): the forced cells as the released guide's own fill.sh prints them over the translation 1bdb4c4dc8ffebf7… (all of the seat's roots in one cut). By AI agents, Wed Nov 11 2026. No macro, syntax, notation, axiom, sorry.
-/
import Derived.Test.YtmdblokmplbpmaaDoorChecked
import GoSem.Claim
import GoSem.ClaimJoined
import GoSem.ClaimMapViews
import Derived.JoinedTies
import Derived.KernelRfl
namespace Go.Proofs.YtmdblokmplbpmaaDoor
/- THE CELL 'sum', in the pinned program and in every row, IS THE sha256 OF THE DUMP (.gsa) THAT YtmdblokmplbpmaaDoorProg.lean LOADS. Nothing in Lean hashes anything: it is a label: what it is worth is what the hold of that sum in a sandbox is worth. -/
noncomputable def Tryd.pinned : Pinned := { name := "ytmdblokmplbpmaadoor", sum := "1bdb4c4dc8ffebf7a85257af86922a5ba80d39d489fb5b39ebfe3953548514a0", checked := Tryd.checked }
namespace Rows
def none {H : Type} : Left H := { results := [], args := [] }

/- WHAT THE LISTED PACKAGE-LEVEL VARIABLES READ AS WHEN THE CALL BEGINS. Each datum BY PROGRAM (the guide's laid-datum.mjs) off the statement by which the dump's own 'gosem.cut.vars' lays the variable. In a bare row this is a premise. The card (YtmdblokmplbpmaaDoorCards.lean) ties it to the program's text. -/
def laid_errors_errorType {H : Type} : DataW H := .iface "internal/reflectlite.rtype" (.agg [.ptr (.lit (.string [101, 114, 114, 111, 114]))])
def laid_signalcabin_lasso_parts {H : Type} : DataW H := .agg [.lit (.int .i64 0), .lit (.int .i64 0), .lit (.int .i64 0), .lit (.int .i64 1), .lit (.int .i64 2), .lit (.int .i64 2), .lit (.int .i64 1), .lit (.int .i64 2), .lit (.int .i64 2), .lit (.int .i64 1), .lit (.int .i64 1)]
def laid_signalcabin_lasso_signs {H : Type} : DataW H := .agg [.lit (.string []), .lit (.string []), .lit (.string []), .lit (.string [33]), .lit (.string [32, 38, 32]), .lit (.string [32, 124, 32]), .lit (.string [88, 32]), .lit (.string [32, 85, 32]), .lit (.string [32, 82, 32]), .lit (.string [70, 32]), .lit (.string [71, 32])]

/-- 'signalcabinlaw.LassoHolds': WHATEVER THE INPUT: true; the input reads as it did. -/
def lassoHoldsSpec : ChangeSpec := { name := "lassoHolds", fn := fun _ => fun
  | [d1, d2] => { results := [.lit (.bool true)], args := [d1, d2] }
  | _ => none }
def lassoHoldsRow : OpenClaim := { program := "ytmdblokmplbpmaadoor", sum := "1bdb4c4dc8ffebf7a85257af86922a5ba80d39d489fb5b39ebfe3953548514a0", func := "signalcabin/signalcabinlaw.LassoHolds", spec := "lassoHolds", inPlace := ["internal/reflectlite.ValueOf", "(internal/reflectlite.Value).Type", "(internal/reflectlite.Value).IsNil", "internal/reflectlite.TypeOf", "(internal/reflectlite.Value).Elem", "(internal/reflectlite.Value).Set"], unfollowed := true, recurses := true, named := ["errors.errorType", "signalcabin/lasso.parts"], apart := false, laid := [("errors.errorType", laid_errors_errorType), ("signalcabin/lasso.parts", laid_signalcabin_lasso_parts)] }
def LassoHoldsSaid : Prop := lassoHoldsRow.holds Tryd.pinned (OpenSpec.ofChange lassoHoldsSpec)

/-- ITS FALSE NEIGHBOUR: 'it returns false'. Refute it at one input. -/
def lassoHoldsWrong : ChangeSpec := { name := "lassoHolds", fn := fun _ => fun
  | [d1, d2] => { results := [.lit (.bool false)], args := [d1, d2] }
  | _ => none }
def LassoHoldsWrongFalsely : Prop := lassoHoldsRow.holds Tryd.pinned (OpenSpec.ofChange lassoHoldsWrong)

/-- 'signalcabinlaw.LassoPushes': WHATEVER THE INPUT: true; the input reads as it did. -/
def lassoPushesSpec : ChangeSpec := { name := "lassoPushes", fn := fun _ => fun
  | [d] => { results := [.lit (.bool true)], args := [d] }
  | _ => none }
def lassoPushesRow : OpenClaim := { program := "ytmdblokmplbpmaadoor", sum := "1bdb4c4dc8ffebf7a85257af86922a5ba80d39d489fb5b39ebfe3953548514a0", func := "signalcabin/signalcabinlaw.LassoPushes", spec := "lassoPushes", inPlace := ["internal/reflectlite.ValueOf", "(internal/reflectlite.Value).Type", "(internal/reflectlite.Value).IsNil", "internal/reflectlite.TypeOf", "(internal/reflectlite.Value).Elem", "(internal/reflectlite.Value).Set"], unfollowed := true, recurses := true, named := ["signalcabin/lasso.parts", "errors.errorType", "signalcabin/lasso.signs"], apart := false, laid := [("errors.errorType", laid_errors_errorType), ("signalcabin/lasso.parts", laid_signalcabin_lasso_parts), ("signalcabin/lasso.signs", laid_signalcabin_lasso_signs)] }
def LassoPushesSaid : Prop := lassoPushesRow.holds Tryd.pinned (OpenSpec.ofChange lassoPushesSpec)

/-- ITS FALSE NEIGHBOUR: 'it returns false'. Refute it at one input. -/
def lassoPushesWrong : ChangeSpec := { name := "lassoPushes", fn := fun _ => fun
  | [d] => { results := [.lit (.bool false)], args := [d] }
  | _ => none }
def LassoPushesWrongFalsely : Prop := lassoPushesRow.holds Tryd.pinned (OpenSpec.ofChange lassoPushesWrong)

/- THE SECOND FORM. 'bulk': how many values and letters a reading holds, each counted each time it is reached (what is shared counts as often as it is met; a slice's spare places count too). A statement '..UptoSaid' is the law's where the arguments, and the package variables that the reading takes, are together of bulk at most 1048576: NARROWER than '..Said'. Prove '..Said' where nothing that the law and all that it calls make is longer than what came in: it says more and counts as full. Else prove '..UptoSaid'. A law counts once. -/
mutual
def uptoBulk {H : Type} : DataW H → Nat
  | .lit (.string bytes) => bytes.length + 1
  | .lit _ => 1
  | .nil => 1
  | .ptr d => uptoBulk d + 1
  | .slice elems spare => uptoBulkAll elems + uptoBulkAll spare + 1
  | .agg parts => uptoBulkAll parts + 1
  | .iface _ d => uptoBulk d + 1
  | .map entries => uptoBulkEntries entries + 1
  | .held _ => 1
def uptoBulkAll {H : Type} : List (DataW H) → Nat
  | [] => 0
  | d :: r => uptoBulk d + uptoBulkAll r
def uptoBulkEntries {H : Type} : List (Lit × DataW H) → Nat
  | [] => 0
  | x :: r => uptoBulkEntry x + uptoBulkEntries r
def uptoBulkEntry {H : Type} : Lit × DataW H → Nat
  | (.string bytes, d) => bytes.length + uptoBulk d + 1
  | (_, d) => uptoBulk d + 1
 end
def uptoSmall : (H : Type) → List (DataW H) → Bool := fun _ ds => decide (uptoBulkAll ds ≤ 1048576)
def OpenSpec.upto (s : _root_.Go.ChangeSpec) : _root_.Go.OpenSpec := { _root_.Go.OpenSpec.ofChange s with cond := some uptoSmall }

/-- 'signalcabinlaw.LassoHolds', WHERE WHAT IT READS IS OF BULK AT MOST 1048576: true; the input reads as it did. -/
def lassoHoldsUptoRow : OpenClaim := { program := "ytmdblokmplbpmaadoor", sum := "1bdb4c4dc8ffebf7a85257af86922a5ba80d39d489fb5b39ebfe3953548514a0", func := "signalcabin/signalcabinlaw.LassoHolds", spec := "lassoHolds", inPlace := ["internal/reflectlite.ValueOf", "(internal/reflectlite.Value).Type", "(internal/reflectlite.Value).IsNil", "internal/reflectlite.TypeOf", "(internal/reflectlite.Value).Elem", "(internal/reflectlite.Value).Set"], unfollowed := true, recurses := true, named := ["errors.errorType", "signalcabin/lasso.parts"], apart := false, laid := [("errors.errorType", laid_errors_errorType), ("signalcabin/lasso.parts", laid_signalcabin_lasso_parts)], narrowed := true }
def LassoHoldsUptoSaid : Prop := lassoHoldsUptoRow.holds Tryd.pinned (OpenSpec.upto lassoHoldsSpec)

/-- 'signalcabinlaw.LassoPushes', WHERE WHAT IT READS IS OF BULK AT MOST 1048576: true; the input reads as it did. -/
def lassoPushesUptoRow : OpenClaim := { program := "ytmdblokmplbpmaadoor", sum := "1bdb4c4dc8ffebf7a85257af86922a5ba80d39d489fb5b39ebfe3953548514a0", func := "signalcabin/signalcabinlaw.LassoPushes", spec := "lassoPushes", inPlace := ["internal/reflectlite.ValueOf", "(internal/reflectlite.Value).Type", "(internal/reflectlite.Value).IsNil", "internal/reflectlite.TypeOf", "(internal/reflectlite.Value).Elem", "(internal/reflectlite.Value).Set"], unfollowed := true, recurses := true, named := ["signalcabin/lasso.parts", "errors.errorType", "signalcabin/lasso.signs"], apart := false, laid := [("errors.errorType", laid_errors_errorType), ("signalcabin/lasso.parts", laid_signalcabin_lasso_parts), ("signalcabin/lasso.signs", laid_signalcabin_lasso_signs)], narrowed := true }
def LassoPushesUptoSaid : Prop := lassoPushesUptoRow.holds Tryd.pinned (OpenSpec.upto lassoPushesSpec)

end Rows
end Go.Proofs.YtmdblokmplbpmaaDoor
