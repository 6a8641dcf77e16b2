/-
  The walks of Place, and of the law's own at. The walk of the statements' own at: is an error this fault?
-/
import Derived.Test.YtblfeahbpklgiaaGreatDoorErWalk
import Derived.WalkMore
import Derived.Test.YtblfeahbpklgiaaGreatDoorRpParse
namespace Go.Proofs.YtblfeahbpklgiaaGreatDoor
section
namespace ErAs
open Go.RowKit
/-- an error that the program hands back, its Errno and its place -/
def ErrAt (er : Value) (n pl : Int) (w : World) : Prop := (er = .iface 33 (.int .i64 n) ∧ pl = -1) ∨ ∃ a, er = .iface 87 (.pointer (some ⟨a, 0, none⟩)) ∧ w.cell? ⟨a, 0, none⟩ = some (.int .i64 n) ∧ w.cell? ⟨a, 1, none⟩ = some (.int .i64 pl)
theorem ErrAt.finds {er : Value} {n pl : Int} {w : World} (h : ErrAt er n pl w) : Finds er n w := by
  rcases h with ⟨h, _⟩ | ⟨a, h, h1, _⟩
  · exact .inl h
  · exact .inr ⟨_, h, h1⟩
set_option maxHeartbeats 2000000 in
set_option maxRecDepth 100000 in
theorem Place_any (er : Value) (n pl : Int) (w : World) (hg : Door w) (hf : ErrAt er n pl w) :
    Calls Tryz.prog 37 #[er] w fun e w' => e = .returned (.tuple #[.int .i64 n, .int .i64 pl]) ∧ Below w.heap.size w w' := by
  have HC := hide (Tell_any er n w hg hf.finds)
  clear hg
  rcases hf with ⟨rfl, rfl⟩ | ⟨a, rfl, h0, h1⟩
  · have sE := atE
    have sU := unE
    go_enter Tryz.func37, Tryz.ntmps37
    go_wp2_with fail
    refine HC.out.mono ?_
    rintro e w1 ⟨rfl, hb⟩
    have HB := hide hb
    clear hb HC
    go_wp2_with fail
    refine wp_loop_rounds 1 ?_
    rw [rounds_succ]
    go_wp2_with fail
    refine bodyPost_ret_by (v := .tuple #[.int .i64 n, .int .i64 (-1)]) ?_ rfl ⟨rfl, HB.out⟩
    simp [results, Tryz.results37, go_sem]
  · have sA := atA
    go_enter Tryz.func37, Tryz.ntmps37
    go_wp2_with fail
    refine HC.out.mono ?_
    rintro e w1 ⟨rfl, hb⟩
    have HB := hide hb
    have h1' := (hb.cell (World.block_lt_of_cell? _ _ h1)).trans h1
    clear hb HC h0 h1
    go_wp2_with fail
    refine wp_loop_rounds 1 ?_
    rw [rounds_succ]
    go_wp2_with fail
    go_quiet (fail)
    go_wp2_with fail
    refine bodyPost_ret_by (v := .tuple #[.int .i64 n, .int .i64 pl]) ?_ rfl ⟨rfl, ⟨HB.out.os, HB.out.tape, HB.out.output, HB.out.size, HB.out.block⟩⟩
    simp [results, Tryz.results37, go_sem]
end ErAs
end
section
open Go.RowKit ErAs
set_option maxHeartbeats 2000000 in
set_option maxRecDepth 100000 in
theorem at_any (er : Value) (n pl : Int) (w : World) (hg : Door w) (hf : ErrAt er n pl w) :
    Calls Tryz.prog 16 #[er, faultV n pl] w fun e w' => e = .returned (.bool true) ∧ Below w.heap.size w w' := by
  obtain ⟨w1, hw1⟩ : ∃ w1, w1 = w.alloc (.cells #[.int .i64 n, .int .i64 pl] 44) := ⟨_, rfl⟩
  have hb1 : Below w.heap.size w w1 := by rw [hw1]; exact (Below.refl _ _).alloc (Nat.le_refl _) _
  have hg1 : Door w1 := (hb1.cell (World.block_lt_of_cell? _ _ hg)).trans hg
  have hf1 : ErrAt er n pl w1 := by
    rcases hf with h | ⟨a, h, h1, h2⟩
    · exact .inl h
    · exact .inr ⟨a, h, (hb1.cell (World.block_lt_of_cell? _ _ h1)).trans h1, (hb1.cell (World.block_lt_of_cell? _ _ h2)).trans h2⟩
  have HC := hide (Place_any er n pl w1 hg1 hf1)
  have hh : w1.heap[w.heap.size]? = some (.cells #[.int .i64 n, .int .i64 pl] 44 (0, 0)) := by rw [hw1]; exact heap_alloc_new _ _
  have HH := hide hh
  have HS1 : Hid (w1.heap.size = w.heap.size + 1) := by show _ = _; rw [hw1]; simp
  obtain ⟨te, ve, hte⟩ : ∃ te ve, er = .iface te ve := by
    rcases hf with ⟨rfl, _⟩ | ⟨q, rfl, _⟩
    · exact ⟨_, _, rfl⟩
    · exact ⟨_, _, rfl⟩
  subst hte
  have HB1 := hide hb1
  have HW1 := hide hw1
  rw [hw1] at HC
  unfold faultV
  clear hg hf hg1 hf1 hb1 hw1 hh
  go_enter Tryz.func16, Tryz.ntmps16
  go_wp2_with fail
  refine HC.out.mono ?_
  rintro e w2 ⟨rfl, hb⟩
  rw [← HW1.out] at hb
  have c0 : w2.cell? ⟨w.heap.size, 0, none⟩ = some (.int .i64 n) := by rw [hb.cell (p := ⟨w.heap.size, 0, none⟩) (by rw [HS1.out]; simp), Lib.cell_of_heap HH.out]; rfl
  have c1 : w2.cell? ⟨w.heap.size, 1, none⟩ = some (.int .i64 pl) := by rw [hb.cell (p := ⟨w.heap.size, 1, none⟩) (by rw [HS1.out]; simp), Lib.cell_of_heap HH.out]; rfl
  have HB := hide hb
  clear hb HC
  go_wp2_with fail
  go_ret
  exact ⟨ret_bool (by simp), HB1.out.trans (HB.out.mono HB1.out.size)⟩
end
end Go.Proofs.YtblfeahbpklgiaaGreatDoor
