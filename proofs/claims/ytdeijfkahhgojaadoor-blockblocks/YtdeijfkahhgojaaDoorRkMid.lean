/-
  Both lists of the document's table of blocks grow in one statement.
-/
import Derived.Test.YtdeijfkahhgojaaDoorRkLst
namespace Go.Proofs.YtdeijfkahhgojaaDoor
namespace Bk
open Go.RowKit
/-- the first list has grown, and is not yet stored -/
structure Mid (q bL : Nat) (W0 W : World) (ns ts : List (List Int)) (nv tv : Value) (vs us : List Value) (r : List Int) (xv : Value) (g4 c4 : Nat) : Prop where
  old : RLst q bL W0 ns ts nv tv vs us
  row0 : Rw W0 q xv r
  own : W.ownsRow q 31 1 (.slice (some ⟨g4, 0, none⟩) (ns.length + 1) c4) (ns.length + 1) (vs ++ [xv])
  grow : W0.grownBy W nv.ownBlock
  at_ : nv.ownBlock = some g4 ∨ W0.heap.size ≤ g4
  lt : g4 < W.heap.size
section
variable {q bL : Nat} {W0 W : World} {ns ts : List (List Int)} {nv tv : Value} {vs us : List Value} {r : List Int} {xv : Value} {g4 c4 : Nat}
theorem grow_trans {A B C : World} {x : Option Nat} {b : Nat} (h : A.grownBy B x) (k : B.grownBy C (some b)) (hb : A.heap.size ≤ b) : A.grownBy C x :=
  ⟨k.os.trans h.os, k.tape.trans h.tape, k.output.trans h.output, Nat.le_trans h.size k.size, fun i hi hx => (k.block i (Nat.lt_of_lt_of_le hi h.size) (fun e => by have := Option.some.inj e; omega)).trans (h.block i hi hx)⟩
theorem grow_alloc {A B : World} {x : Option Nat} (h : A.grownBy B x) (o : Obj) : A.grownBy (B.alloc o) x :=
  ⟨h.os, h.tape, h.output, by have := h.size; simp; omega, fun i hi hx => (Below.heap_alloc _ _ _ (Nat.lt_of_lt_of_le hi h.size)).trans (h.block i hi hx)⟩
theorem Mid.alloc (h : Mid q bL W0 W ns ts nv tv vs us r xv g4 c4) (o : Obj) : Mid q bL W0 (W.alloc o) ns ts nv tv vs us r xv g4 c4 :=
  ⟨h.old, h.row0, h.own.alloc o, grow_alloc h.grow o, h.at_, by have := h.lt; simp; omega⟩
theorem Mid.app (h : Mid q bL W0 W ns ts nv tv vs us r xv g4 c4) (b : Nat) (hb : W0.heap.size ≤ b) (cur : Array Value) (hc : W.heap[b]? = some (.cells cur 3 (0, 0))) (wD : World) (hg : W.grownBy wD (some b)) : Mid q bL W0 wD ns ts nv tv vs us r xv g4 c4 := by
  refine ⟨h.old, h.row0, own_keep h.own fun k hk => ?_, grow_trans h.grow hg hb, h.at_, by have := h.lt; have := hg.size; omega⟩
  have hlt := (own_lt h.own k hk).2
  refine hg.block k hlt fun e => ?_
  have e := Option.some.inj e
  subst e
  rcases own_blk h.own k (fun cur' fz e2 => by rw [hc] at e2; simp only [Option.some.injEq, Obj.cells.injEq] at e2; exact absurd e2.2.1 (by decide)) with h3 | h3
  · rw [hk] at h3; cases h3
  · exact h3 hk
theorem Mid.first (h : RLst q bL W0 ns ts nv tv vs us) (hr : Rw W0 q xv r) (hb : Below W0.heap.size W0 W) (wC : World) (hown : wC.ownsRow q 31 1 (.slice (some ⟨g4, 0, none⟩) (ns.length + 1) c4) (ns.length + 1) (vs ++ [xv])) (hg : W.grownBy wC nv.ownBlock) (hat : nv.ownBlock = some g4 ∨ g4 = W.heap.size) (hlt : g4 < wC.heap.size) : Mid q bL W0 wC ns ts nv tv vs us r xv g4 c4 :=
  ⟨h, hr, hown, ⟨hg.os.trans hb.os, hg.tape.trans hb.tape, hg.output.trans hb.output, Nat.le_trans hb.size hg.size, fun i hi hx => (hg.block i (Nat.lt_of_lt_of_le hi hb.size) hx).trans (hb.block i hi)⟩, hat.imp id (fun e => by have := hb.size; omega), hlt⟩
/-- a block that lies behind W0, and what the first list's growth keeps of it -/
theorem keep_new {A C : World} (hg : A.grownBy C nv.ownBlock) (hn : ∀ k, nv.ownBlock = some k → k < W0.heap.size) (b : Nat) (hb : W0.heap.size ≤ b) (hbA : b < A.heap.size) {o : Obj} (h : A.heap[b]? = some o) : C.heap[b]? = some o :=
  (hg.block b hbA (fun e => by have := hn b e.symm; omega)).trans h
theorem RLst.nlt (h : RLst q bL W0 ns ts nv tv vs us) (k : Nat) (hk : nv.ownBlock = some k) : k < W0.heap.size := (own_lt h.on k hk).2
/-- the second list, where the first has grown -/
theorem Mid.ot (h : Mid q bL W0 W ns ts nv tv vs us r xv g4 c4) : W.ownsRow q 31 1 tv ts.length us := by
  refine own_keep h.old.ot fun k hk => ?_
  have hlt := (own_lt h.old.ot k hk).2
  refine h.grow.block k hlt fun e => ?_
  rcases h.old.ap with h3 | h3
  · rw [h3] at e; cases e
  · exact h3 (e.symm.trans hk.symm)
/-- the struct's cells -/
theorem Mid.cells (h : Mid q bL W0 W ns ts nv tv vs us r xv g4 c4) {wE : World} (hg : W.grownBy wE tv.ownBlock) : wE.heap[bL]? = some (.cells #[nv, tv] 25 (0, 0)) := by
  have hbl := (Array.getElem?_eq_some_iff.1 h.old.st).1
  have hlow := h.old.low
  have h1 : W.heap[bL]? = some (.cells #[nv, tv] 25 (0, 0)) := (h.grow.block bL hbl (fun e => by have := (own_lt h.old.on bL e.symm).1; omega)).trans h.old.st
  exact (hg.block bL (Nat.lt_of_lt_of_le hbl h.grow.size) (fun e => by have := (own_lt h.old.ot bL e.symm).1; omega)).trans h1
/-- BOTH HAVE GROWN -/
theorem Mid.done (h : Mid q bL W0 W ns ts nv tv vs us r xv g4 c4) {t : List Int} {uv : Value} (hu : Rw W q uv t) {wE : World} {g5 c5 : Nat} (hown : wE.ownsRow q 31 1 (.slice (some ⟨g5, 0, none⟩) (ts.length + 1) c5) (ts.length + 1) (us ++ [uv])) (hg : W.grownBy wE tv.ownBlock) (hat : tv.ownBlock = some g5 ∨ g5 = W.heap.size) :
    RLst q bL ((wE.setCell ⟨bL, 0, none⟩ (.slice (some ⟨g4, 0, none⟩) (ns.length + 1) c4)).setCell ⟨bL, 1, none⟩ (.slice (some ⟨g5, 0, none⟩) (ts.length + 1) c5)) (ns ++ [r]) (ts ++ [t]) (.slice (some ⟨g4, 0, none⟩) (ns.length + 1) c4) (.slice (some ⟨g5, 0, none⟩) (ts.length + 1) c5) (vs ++ [xv]) (us ++ [uv]) ∧
    Below bL W0 ((wE.setCell ⟨bL, 0, none⟩ (.slice (some ⟨g4, 0, none⟩) (ns.length + 1) c4)).setCell ⟨bL, 1, none⟩ (.slice (some ⟨g5, 0, none⟩) (ts.length + 1) c5)) := by
  have hlow := h.old.low
  have hset : ∀ (u1 u2 : Value) k, k ≠ bL → ((wE.setCell ⟨bL, 0, none⟩ u1).setCell ⟨bL, 1, none⟩ u2).heap[k]? = wE.heap[k]? := fun u1 u2 k hk => by
    rw [Below.heap_setCell _ _ _ _ (fun e => hk e), Below.heap_setCell _ _ _ _ (fun e => hk e)]
  have hz := h.grow.size
  have hg4 : q ≤ g4 := (own_lt h.own g4 rfl).1
  have hg5 : q ≤ g5 := (own_lt hown g5 rfl).1
  have hrowW : ∀ u l, Rw W0 q u l → Rw W q u l := fun u l hu => own_keep hu fun k hk => by
    refine h.grow.block k (own_lt hu k hk).2 fun e => ?_
    rcases own_ne hu h.old.on (by decide) with h3 | h3
    · rw [hk] at h3; cases h3
    · exact h3 (hk.trans e)
  have hrow : ∀ u l, Rw W q u l → Rw ((wE.setCell ⟨bL, 0, none⟩ (.slice (some ⟨g4, 0, none⟩) (ns.length + 1) c4)).setCell ⟨bL, 1, none⟩ (.slice (some ⟨g5, 0, none⟩) (ts.length + 1) c5)) q u l := fun u l hu => own_keep hu fun k hk => by
    obtain ⟨h1, h2⟩ := own_lt hu k hk
    rw [hset _ _ k (by omega)]
    refine hg.block k h2 fun e => ?_
    rcases own_ne hu h.ot (by decide) with h3 | h3
    · rw [hk] at h3; cases h3
    · exact h3 (hk.trans e)
  have htv : ∀ k, tv.ownBlock = some k → k < W0.heap.size := fun k hk => (own_lt h.old.ot k hk).2
  have h45 : g4 ≠ g5 := fun e => by
    have hl4 := h.lt
    rcases hat with h2 | h2
    · have := htv g5 h2
      rcases h.at_ with h1 | h1
      · rcases h.old.ap with h3 | h3
        · rw [h1] at h3; cases h3
        · exact h3 (h1.trans (by rw [h2, e]))
      · omega
    · omega
  refine ⟨⟨hlow, ?_, ?_, ?_, ?_, ?_, ?_⟩, ?_⟩
  · have h1 := h.cells hg
    simp [World.setCell, Array.getElem?_modify, h1]
  · rw [List.length_append]
    refine own_keep h.own fun k hk => ?_
    have hk' : k = g4 := (Option.some.inj hk).symm
    subst hk'
    rw [hset _ _ k (by omega)]
    refine hg.block k h.lt fun e => ?_
    have := htv k e.symm
    rcases h.at_ with h1 | h1
    · rcases h.old.ap with h3 | h3
      · rw [h1] at h3; cases h3
      · exact h3 (h1.trans e)
    · omega
  · rw [List.length_append]
    refine own_keep hown fun k hk => ?_
    have hk' : k = g5 := (Option.some.inj hk).symm
    rw [hset _ _ k (by omega)]
  · refine append_get ns r vs xv (by have := h.old.on.1; omega) (fun u l => Rw _ q u l) (fun i r hr => ?_) (hrow _ _ (hrowW _ _ h.row0))
    obtain ⟨u, h1, h2⟩ := h.old.rn i r hr
    exact ⟨u, h1, hrow _ _ (hrowW _ _ h2)⟩
  · refine append_get ts t us uv (by have := h.old.ot.1; omega) (fun u l => Rw _ q u l) (fun i r hr => ?_) (hrow _ _ hu)
    obtain ⟨u, h1, h2⟩ := h.old.rt i r hr
    exact ⟨u, h1, hrow _ _ (hrowW _ _ h2)⟩
  · refine .inr (fun e => h45 ?_)
    simpa [Value.ownBlock] using e
  · refine ⟨hg.os.trans h.grow.os, hg.tape.trans h.grow.tape, hg.output.trans h.grow.output, ?_, fun k hk => ?_⟩
    · have := hg.size; simp [World.setCell]; omega
    · have hbl := (Array.getElem?_eq_some_iff.1 h.old.st).1
      rw [hset _ _ k (by omega)]
      refine (hg.block k (by omega) (fun e => by have := (own_lt h.old.ot k e.symm).1; omega)).trans (h.grow.block k (by omega) (fun e => by have := (own_lt h.old.on k e.symm).1; omega))
end
end Bk
end Go.Proofs.YtdeijfkahhgojaaDoor
