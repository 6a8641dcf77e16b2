/-
  The walks of Place, and of the law's own at.
-/
import Derived.Test.YtdeijfkahhgojaaDoorBkErWalk
import Derived.WalkMore
namespace Go.Proofs.YtdeijfkahhgojaaDoor
namespace Bk
namespace ErAs
open Go.RowKit
/-- an error that the program hands back, its Errno and its place -/
def ErrAt (er : Value) (n pl : Int) (w : World) : Prop := (er = .iface 26 (.int .i64 n) ∧ pl = -1) ∨ ∃ a, er = .iface 58 (.pointer (some ⟨a, 0, none⟩)) ∧ w.cell? ⟨a, 0, none⟩ = some (.int .i64 n) ∧ w.cell? ⟨a, 1, none⟩ = some (.int .i64 pl)
theorem ErrAt.finds {er : Value} {n pl : Int} {w : World} (h : ErrAt er n pl w) : Finds er n w := by
  rcases h with ⟨h, _⟩ | ⟨a, h, h1, _⟩
  · exact .inl h
  · exact .inr ⟨_, h, h1⟩
set_option maxHeartbeats 2000000 in
set_option maxRecDepth 100000 in
theorem Place_any (er : Value) (n pl : Int) (w : World) (hg : Door w) (hf : ErrAt er n pl w) :
    Calls Tryd.prog 21 #[er] w fun e w' => e = .returned (.tuple #[.int .i64 n, .int .i64 pl]) ∧ Below w.heap.size w w' := by
  have HC := hide (Tell_any er n w hg hf.finds)
  clear hg
  rcases hf with ⟨rfl, rfl⟩ | ⟨a, rfl, h0, h1⟩
  · have sE := atE
    have sU := unE
    go_enter Tryd.func21, Tryd.ntmps21
    go_wp2_with fail
    refine HC.out.mono ?_
    rintro e w1 ⟨rfl, hb⟩
    have HB := hide hb
    clear hb HC
    go_wp2_with fail
    refine wp_loop_rounds 1 ?_
    rw [rounds_succ]
    go_wp2_with fail
    refine bodyPost_ret_by (v := .tuple #[.int .i64 n, .int .i64 (-1)]) ?_ rfl ⟨rfl, HB.out⟩
    simp [results, Tryd.results21, go_sem]
  · have sA := atA
    go_enter Tryd.func21, Tryd.ntmps21
    go_wp2_with fail
    refine HC.out.mono ?_
    rintro e w1 ⟨rfl, hb⟩
    have HB := hide hb
    have h1' := (hb.cell (World.block_lt_of_cell? _ _ h1)).trans h1
    clear hb HC h0 h1
    go_wp2_with fail
    refine wp_loop_rounds 1 ?_
    rw [rounds_succ]
    go_wp2_with fail
    go_quiet (fail)
    go_wp2_with fail
    refine bodyPost_ret_by (v := .tuple #[.int .i64 n, .int .i64 pl]) ?_ rfl ⟨rfl, ⟨HB.out.os, HB.out.tape, HB.out.output, HB.out.size, HB.out.block⟩⟩
    simp [results, Tryd.results21, go_sem]
end ErAs
end Bk
end Go.Proofs.YtdeijfkahhgojaaDoor
