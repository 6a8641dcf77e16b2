/-
  The closed facts of LadderBack's row, one by one.
-/
import Derived.Test.YtiamkoghflfjcaaGreatDoorCards
import Derived.ProofKit
import Derived.JoinedOf
namespace Go.Proofs.YtiamkoghflfjcaaGreatDoor
namespace LbFacts
set_option maxHeartbeats 4000000 in
theorem closed : joinedFacts Tryz.prog 5 Tryz.f5 Rows.ladderBackSpec Rows.ladderBackRow = true := by
  unfold joinedFacts
  repeat' rw [Bool.and_eq_true]
  repeat' apply And.intro
  all_goals (as_aux_lemma => kernel_rfl)
end LbFacts
end Go.Proofs.YtiamkoghflfjcaaGreatDoor
