/-
  NARROWER THAN 'FOR EVERY INPUT', by the rows' own cells (each row's printed sentence says how): LassoTurns: laid · LassoPush: laid · LassoGrows: laid.
  DERIVED. THE GIVEN ROWS OF THIS SEAT. 3 by the template 'for every input the law returns true; each argument reads behind the call as it read before'; 0 by the template 'total and deterministic' (their statements: YtdkfbnokbjliiaaDoorTotals.lean).
  GIVEN WITH THE SEED: the statements are not yours to turn. If you find one false, say at which input.
  Laid BY PROGRAM, IN A SANDBOX (cutbox-rows.mjs): the forced cells as the released guide's own fill.sh prints them over the translation 0d073836ae40f8ec… (all of the seat's roots in one cut). By AI agents, Wed Nov 11 2026. No macro, syntax, notation, axiom, sorry.
-/
import Derived.Test.YtdkfbnokbjliiaaDoorChecked
import GoSem.Claim
import GoSem.ClaimJoined
import GoSem.ClaimMapViews
import Derived.JoinedTies
import Derived.KernelRfl
namespace Go.Proofs.YtdkfbnokbjliiaaDoor
/- THE CELL 'sum', in the pinned program and in every row, IS THE sha256 OF THE DUMP (.gsa) THAT YtdkfbnokbjliiaaDoorProg.lean LOADS. Nothing in Lean hashes anything: it is a label: what it is worth is what the hold of that sum in a sandbox is worth. -/
noncomputable def Tryd.pinned : Pinned := { name := "ytdkfbnokbjliiaadoor", sum := "0d073836ae40f8ec74bde565b3a39650f25efc7c126b20ff079d17343403710f", checked := Tryd.checked }
namespace Rows
def none {H : Type} : Left H := { results := [], args := [] }

/- WHAT THE LISTED PACKAGE-LEVEL VARIABLES READ AS WHEN THE CALL BEGINS. Each datum BY PROGRAM (the guide's laid-datum.mjs) off the statement by which the dump's own 'gosem.cut.vars' lays the variable. In a bare row this is a premise. The card (YtdkfbnokbjliiaaDoorCards.lean) ties it to the program's text. -/
def laid_signalcabin_lasso_parts {H : Type} : DataW H := .agg [.lit (.int .i64 0), .lit (.int .i64 0), .lit (.int .i64 0), .lit (.int .i64 1), .lit (.int .i64 2), .lit (.int .i64 2), .lit (.int .i64 1), .lit (.int .i64 2), .lit (.int .i64 2), .lit (.int .i64 1), .lit (.int .i64 1)]
def laid_signalcabin_lasso_signs {H : Type} : DataW H := .agg [.lit (.string []), .lit (.string []), .lit (.string []), .lit (.string [33]), .lit (.string [32, 38, 32]), .lit (.string [32, 124, 32]), .lit (.string [88, 32]), .lit (.string [32, 85, 32]), .lit (.string [32, 82, 32]), .lit (.string [70, 32]), .lit (.string [71, 32])]

/-- 'signalcabinkeep.LassoTurns': WHATEVER THE INPUT: true; the input reads as it did. -/
def lassoTurnsSpec : ChangeSpec := { name := "lassoTurns", fn := fun _ => fun
  | [d1, d2] => { results := [.lit (.bool true)], args := [d1, d2] }
  | _ => none }
def lassoTurnsRow : OpenClaim := { program := "ytdkfbnokbjliiaadoor", sum := "0d073836ae40f8ec74bde565b3a39650f25efc7c126b20ff079d17343403710f", func := "signalcabin/signalcabinkeep.LassoTurns", spec := "lassoTurns", unfollowed := true, recurses := true, named := ["signalcabin/lasso.parts"], apart := false, laid := [("signalcabin/lasso.parts", laid_signalcabin_lasso_parts)] }
def LassoTurnsSaid : Prop := lassoTurnsRow.holds Tryd.pinned (OpenSpec.ofChange lassoTurnsSpec)

/-- ITS FALSE NEIGHBOUR: 'it returns false'. Refute it at one input. -/
def lassoTurnsWrong : ChangeSpec := { name := "lassoTurns", fn := fun _ => fun
  | [d1, d2] => { results := [.lit (.bool false)], args := [d1, d2] }
  | _ => none }
def LassoTurnsWrongFalsely : Prop := lassoTurnsRow.holds Tryd.pinned (OpenSpec.ofChange lassoTurnsWrong)

/-- 'signalcabinkeep.LassoPush': WHATEVER THE INPUT: true; the input reads as it did. -/
def lassoPushSpec : ChangeSpec := { name := "lassoPush", fn := fun _ => fun
  | [d1, d2] => { results := [.lit (.bool true)], args := [d1, d2] }
  | _ => none }
def lassoPushRow : OpenClaim := { program := "ytdkfbnokbjliiaadoor", sum := "0d073836ae40f8ec74bde565b3a39650f25efc7c126b20ff079d17343403710f", func := "signalcabin/signalcabinkeep.LassoPush", spec := "lassoPush", unfollowed := true, recurses := true, named := ["signalcabin/lasso.parts", "signalcabin/lasso.signs"], apart := false, laid := [("signalcabin/lasso.parts", laid_signalcabin_lasso_parts), ("signalcabin/lasso.signs", laid_signalcabin_lasso_signs)] }
def LassoPushSaid : Prop := lassoPushRow.holds Tryd.pinned (OpenSpec.ofChange lassoPushSpec)

/-- ITS FALSE NEIGHBOUR: 'it returns false'. Refute it at one input. -/
def lassoPushWrong : ChangeSpec := { name := "lassoPush", fn := fun _ => fun
  | [d1, d2] => { results := [.lit (.bool false)], args := [d1, d2] }
  | _ => none }
def LassoPushWrongFalsely : Prop := lassoPushRow.holds Tryd.pinned (OpenSpec.ofChange lassoPushWrong)

/-- 'signalcabinkeep.LassoGrows': WHATEVER THE INPUT: true; the input reads as it did. -/
def lassoGrowsSpec : ChangeSpec := { name := "lassoGrows", fn := fun _ => fun
  | [d1, d2, d3] => { results := [.lit (.bool true)], args := [d1, d2, d3] }
  | _ => none }
def lassoGrowsRow : OpenClaim := { program := "ytdkfbnokbjliiaadoor", sum := "0d073836ae40f8ec74bde565b3a39650f25efc7c126b20ff079d17343403710f", func := "signalcabin/signalcabinkeep.LassoGrows", spec := "lassoGrows", unfollowed := true, recurses := true, named := ["signalcabin/lasso.parts"], apart := false, laid := [("signalcabin/lasso.parts", laid_signalcabin_lasso_parts)] }
def LassoGrowsSaid : Prop := lassoGrowsRow.holds Tryd.pinned (OpenSpec.ofChange lassoGrowsSpec)

/-- ITS FALSE NEIGHBOUR: 'it returns false'. Refute it at one input. -/
def lassoGrowsWrong : ChangeSpec := { name := "lassoGrows", fn := fun _ => fun
  | [d1, d2, d3] => { results := [.lit (.bool false)], args := [d1, d2, d3] }
  | _ => none }
def LassoGrowsWrongFalsely : Prop := lassoGrowsRow.holds Tryd.pinned (OpenSpec.ofChange lassoGrowsWrong)

/- THE SECOND FORM. 'bulk': how many values and letters a reading holds, each counted each time it is reached (what is shared counts as often as it is met; a slice's spare places count too). A statement '..UptoSaid' is the law's where the arguments, and the package variables that the reading takes, are together of bulk at most 1048576: NARROWER than '..Said'. Prove '..Said' where nothing that the law and all that it calls make is longer than what came in: it says more and counts as full. Else prove '..UptoSaid'. A law counts once. -/
mutual
def uptoBulk {H : Type} : DataW H → Nat
  | .lit (.string bytes) => bytes.length + 1
  | .lit _ => 1
  | .nil => 1
  | .ptr d => uptoBulk d + 1
  | .slice elems spare => uptoBulkAll elems + uptoBulkAll spare + 1
  | .agg parts => uptoBulkAll parts + 1
  | .iface _ d => uptoBulk d + 1
  | .map entries => uptoBulkEntries entries + 1
  | .held _ => 1
def uptoBulkAll {H : Type} : List (DataW H) → Nat
  | [] => 0
  | d :: r => uptoBulk d + uptoBulkAll r
def uptoBulkEntries {H : Type} : List (Lit × DataW H) → Nat
  | [] => 0
  | x :: r => uptoBulkEntry x + uptoBulkEntries r
def uptoBulkEntry {H : Type} : Lit × DataW H → Nat
  | (.string bytes, d) => bytes.length + uptoBulk d + 1
  | (_, d) => uptoBulk d + 1
 end
def uptoSmall : (H : Type) → List (DataW H) → Bool := fun _ ds => decide (uptoBulkAll ds ≤ 1048576)
def OpenSpec.upto (s : _root_.Go.ChangeSpec) : _root_.Go.OpenSpec := { _root_.Go.OpenSpec.ofChange s with cond := some uptoSmall }

/-- 'signalcabinkeep.LassoTurns', WHERE WHAT IT READS IS OF BULK AT MOST 1048576: true; the input reads as it did. -/
def lassoTurnsUptoRow : OpenClaim := { program := "ytdkfbnokbjliiaadoor", sum := "0d073836ae40f8ec74bde565b3a39650f25efc7c126b20ff079d17343403710f", func := "signalcabin/signalcabinkeep.LassoTurns", spec := "lassoTurns", unfollowed := true, recurses := true, named := ["signalcabin/lasso.parts"], apart := false, laid := [("signalcabin/lasso.parts", laid_signalcabin_lasso_parts)], narrowed := true }
def LassoTurnsUptoSaid : Prop := lassoTurnsUptoRow.holds Tryd.pinned (OpenSpec.upto lassoTurnsSpec)

/-- 'signalcabinkeep.LassoPush', WHERE WHAT IT READS IS OF BULK AT MOST 1048576: true; the input reads as it did. -/
def lassoPushUptoRow : OpenClaim := { program := "ytdkfbnokbjliiaadoor", sum := "0d073836ae40f8ec74bde565b3a39650f25efc7c126b20ff079d17343403710f", func := "signalcabin/signalcabinkeep.LassoPush", spec := "lassoPush", unfollowed := true, recurses := true, named := ["signalcabin/lasso.parts", "signalcabin/lasso.signs"], apart := false, laid := [("signalcabin/lasso.parts", laid_signalcabin_lasso_parts), ("signalcabin/lasso.signs", laid_signalcabin_lasso_signs)], narrowed := true }
def LassoPushUptoSaid : Prop := lassoPushUptoRow.holds Tryd.pinned (OpenSpec.upto lassoPushSpec)

/-- 'signalcabinkeep.LassoGrows', WHERE WHAT IT READS IS OF BULK AT MOST 1048576: true; the input reads as it did. -/
def lassoGrowsUptoRow : OpenClaim := { program := "ytdkfbnokbjliiaadoor", sum := "0d073836ae40f8ec74bde565b3a39650f25efc7c126b20ff079d17343403710f", func := "signalcabin/signalcabinkeep.LassoGrows", spec := "lassoGrows", unfollowed := true, recurses := true, named := ["signalcabin/lasso.parts"], apart := false, laid := [("signalcabin/lasso.parts", laid_signalcabin_lasso_parts)], narrowed := true }
def LassoGrowsUptoSaid : Prop := lassoGrowsUptoRow.holds Tryd.pinned (OpenSpec.upto lassoGrowsSpec)

end Rows
end Go.Proofs.YtdkfbnokbjliiaaDoor
