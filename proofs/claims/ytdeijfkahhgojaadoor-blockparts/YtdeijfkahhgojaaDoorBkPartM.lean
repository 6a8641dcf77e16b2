/-
  What lies in memory while package block's part looks for inputs that tell two states apart.
-/
import Derived.Test.YtdeijfkahhgojaaDoorBkNew
namespace Go.Proofs.YtdeijfkahhgojaaDoor
namespace Bk
open Go.RowKit
theorem Tryd.infoPair : (Tryd.prog.info? 77).map (fun i => (i.zero, i.size, i.bytes)) = some (some (.agg #[.int .i64 0, .int .i64 0, .int .i64 0, .int .i64 0]), 4, 32) := by kernel_rfl
/-- where what stays lies -/
structure PC (w : World) (q bS bA gA : Nat) : Prop where
  lw : w.heap.size < q
  lS : bS < q
  lA : bA < q
  lG : gA < q
  gW : w.heap.size < gA
  nS : bS ≠ gA
  nA : bA ≠ gA
structure PM (w : World) (q n bS bA gA : Nat) (nv tv : Value) (mv : Value) (asked : List Bool) (M : List Pp) (W : World) : Prop where
  bel : Below w.heap.size w W
  tab : Tab W w.heap.size nv tv
  am : AMem W n bS bA gA asked
  met : MetAt W q mv M
theorem PM.below {w : World} {q n bS bA gA : Nat} {nv tv mv : Value} {asked : List Bool} {M : List Pp} {W W' : World} (h : PM w q n bS bA gA nv tv mv asked M W) (hb : Below W.heap.size W W') : PM w q n bS bA gA nv tv mv asked M W' :=
  ⟨then_ h.bel hb, h.tab.below hb, h.am.below hb, h.met.below hb⟩
theorem PM.mark {w : World} {q n bS bA gA : Nat} {nv tv mv : Value} {asked : List Bool} {M : List Pp} {W : World} (h : PM w q n bS bA gA nv tv mv asked M W) (hc : PC w q bS bA gA) (c : Nat) : PM w q n bS bA gA nv tv mv (asked.set c true) M (W.setCell ⟨gA, c, none⟩ (.bool true)) := by
  have h1 := hc.gW
  refine ⟨h.bel.setCell (by show w.heap.size ≤ gA; omega) _, ⟨cell_set_block _ _ _ _ _ _ _ (by omega) h.tab.1, cell_set_block _ _ _ _ _ _ _ (by omega) h.tab.2⟩, ⟨cell_set_block _ _ _ _ _ _ _ hc.nS h.am.st, cell_set_block _ _ _ _ _ _ _ hc.nA h.am.sl, ?_⟩, ?_⟩
  · have h2 := h.am.row.set c (.bool true)
    rw [List.map_set]
    exact h2
  · refine own_keep h.met fun k hk => Below.heap_setCell _ _ _ _ (fun e => ?_)
    have e : k = gA := e
    have := (own_lt h.met k hk).1
    have := hc.lG
    omega
theorem PM.push {w : World} {q n bS bA gA : Nat} {nv tv mv : Value} {asked : List Bool} {M : List Pp} {W : World} (h : PM w q n bS bA gA nv tv mv asked M W) (hc : PC w q bS bA gA) (m : Pp) (o : Obj) (g cap : Nat) (wC : World)
    (hown : wC.ownsRow q 77 4 (.slice (some ⟨g, 0, none⟩) (M.length + 1) cap) (M.length + 1) (M.flatMap ppCells ++ ppCells m)) (hgrow : (W.alloc o).grownBy wC mv.ownBlock) :
    PM w q n bS bA gA nv tv (.slice (some ⟨g, 0, none⟩) (M.length + 1) cap) asked (M ++ [m]) wC := by
  have hz := (RowIs.lt h.am.row)
  have hzq : ∀ k, k < q → k < W.heap.size → wC.heap[k]? = W.heap[k]? := fun k hk hkW =>
    (hgrow.block k (by simp; omega) (fun e => by have := (own_lt h.met k e.symm).1; omega)).trans (Below.heap_alloc _ _ _ hkW)
  have hcell : ∀ (k i : Nat) v, k < q → W.cell? ⟨k, i, none⟩ = some v → wC.cell? ⟨k, i, none⟩ = some v := fun k i v hk hv => (heap_cell i (hzq k hk (World.block_lt_of_cell? _ _ hv))).trans hv
  refine ⟨?_, ⟨hcell _ _ _ hc.lw h.tab.1, hcell _ _ _ hc.lw h.tab.2⟩, ⟨hcell _ _ _ hc.lS h.am.st, hcell _ _ _ hc.lA h.am.sl, (hzq gA hc.lG hz).trans h.am.row⟩, ?_⟩
  · exact (h.bel.alloc h.bel.size o).grown hgrow (by have := h.bel.size; simp; omega) (fun k e => by have := (own_lt h.met k e).1; have := hc.lw; omega)
  · show wC.ownsRow q 77 4 _ (M ++ [m]).length ((M ++ [m]).flatMap ppCells)
    rw [List.length_append, List.flatMap_append]
    simpa using hown
/-- what part comes to: alike; or inputs that tell something unlike at the last one -/
def PartDone (w : World) (t : Tb) (a b : Nat) (e : Ending) (w' : World) : Prop := Below w.heap.size w w' ∧
  ((e = .returned (.slice none 0 0) ∧ Alike t a b) ∨ ∃ M K i m g c, Found t a b M K i m ∧ e = .returned (.slice (some ⟨g, 0, none⟩) ((pathTo M K).length + 1) c) ∧ Rw w' w.heap.size (.slice (some ⟨g, 0, none⟩) ((pathTo M K).length + 1) c) (ints (pathTo M K ++ [i])))
theorem own_pair (W : World) (m : Pp) : (W.alloc (.cells #[.int .i64 (m.a : Int), .int .i64 (m.b : Int), .int .i64 m.fr, .int .i64 (m.i : Int)] 77)).ownsRow W.heap.size 77 4 (.slice (some ⟨W.heap.size, 0, none⟩) 1 1) 1 (ppCells m) :=
  ⟨rfl, .inr ⟨W.heap.size, 1, _, rfl, Nat.le_refl _, heap_alloc_new W _, Nat.le_refl _, by decide, rfl, rfl⟩⟩
theorem repl_false (n i : Nat) : (List.replicate n false).getD i false = false := by
  rw [List.getD_eq_getElem?_getD, List.getElem?_replicate]
  split <;> rfl
theorem AInv.none (n : Nat) : AInv n [] (List.replicate (n * n) false) := by
  refine ⟨by simp, fun x y _ _ => ⟨fun h => ?_, fun h => ?_⟩, by simp [falses_all]⟩
  · rw [repl_false] at h; cases h
  · obtain ⟨j, m, h, _⟩ := h
    simp at h
end Bk
end Go.Proofs.YtdeijfkahhgojaaDoor
