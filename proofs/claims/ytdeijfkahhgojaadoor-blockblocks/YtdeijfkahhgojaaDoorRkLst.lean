/-
  The document's own table of blocks, as it grows in memory.
-/
import Derived.Test.YtdeijfkahhgojaaDoorBkLst
namespace Go.Proofs.YtdeijfkahhgojaaDoor
namespace Bk
open Go.RowKit
/-- the table of blocks, so far: its struct's block, its two lists of rows -/
structure RLst (q bL : Nat) (W : World) (ns ts : List (List Int)) (nv tv : Value) (vs us : List Value) : Prop where
  low : bL < q
  st : W.heap[bL]? = some (.cells #[nv, tv] 25 (0, 0))
  on : W.ownsRow q 31 1 nv ns.length vs
  ot : W.ownsRow q 31 1 tv ts.length us
  rn : ∀ (i : Nat) r, ns[i]? = some r → ∃ v, vs[i]? = some v ∧ Rw W q v r
  rt : ∀ (i : Nat) r, ts[i]? = some r → ∃ v, us[i]? = some v ∧ Rw W q v r
  ap : nv.ownBlock = none ∨ nv.ownBlock ≠ tv.ownBlock
theorem RLst.below {q bL : Nat} {W W' : World} {ns ts : List (List Int)} {nv tv : Value} {vs us : List Value} (h : RLst q bL W ns ts nv tv vs us) (hb : Below W.heap.size W W') : RLst q bL W' ns ts nv tv vs us := by
  refine ⟨h.low, (hb.block _ (Array.getElem?_eq_some_iff.1 h.st).1).trans h.st, own_below h.on hb, own_below h.ot hb, fun i r hr => ?_, fun i r hr => ?_, h.ap⟩
  · obtain ⟨v, h1, h2⟩ := h.rn i r hr; exact ⟨v, h1, own_below h2 hb⟩
  · obtain ⟨v, h1, h2⟩ := h.rt i r hr; exact ⟨v, h1, own_below h2 hb⟩
theorem RLst.cells {q bL : Nat} {W : World} {ns ts : List (List Int)} {nv tv : Value} {vs us : List Value} (h : RLst q bL W ns ts nv tv vs us) : W.cell? ⟨bL, 0, none⟩ = some nv ∧ W.cell? ⟨bL, 1, none⟩ = some tv ∧ W.frozen? ⟨bL, 0, none⟩ = false ∧ W.frozen? ⟨bL, 1, none⟩ = false :=
  ⟨by rw [Lib.cell_of_heap h.st]; rfl, by rw [Lib.cell_of_heap h.st]; rfl, Lib.frozen_of_heap h.st 0, Lib.frozen_of_heap h.st 1⟩
/-- one row more of where states lead -/
theorem RLst.next {q bL : Nat} {W : World} {ns ts : List (List Int)} {nv tv : Value} {vs us : List Value} (h : RLst q bL W ns ts nv tv vs us) (v : Value) (r : List Int) (hv : Rw W q v r) (o : Obj) (g cap : Nat) (wC : World)
    (hown : wC.ownsRow q 31 1 (.slice (some ⟨g, 0, none⟩) (ns.length + 1) cap) (ns.length + 1) (vs ++ [v])) (hgrow : (W.alloc o).grownBy wC nv.ownBlock) (hat : nv.ownBlock = some g ∨ g = W.heap.size + 1) :
    RLst q bL (wC.setCell ⟨bL, 0, none⟩ (.slice (some ⟨g, 0, none⟩) (ns.length + 1) cap)) (ns ++ [r]) ts (.slice (some ⟨g, 0, none⟩) (ns.length + 1) cap) tv (vs ++ [v]) us := by
  have hbl := (Array.getElem?_eq_some_iff.1 h.st).1
  have hlow := h.low
  have hone : ∀ k, k < W.heap.size → some k ≠ nv.ownBlock → k ≠ bL → (wC.setCell ⟨bL, 0, none⟩ (.slice (some ⟨g, 0, none⟩) (ns.length + 1) cap)).heap[k]? = W.heap[k]? := fun k hk hr hb =>
    (grown_set _ hgrow k (by simp; omega) hr hb).trans (Below.heap_alloc _ _ _ hk)
  have hrw : ∀ u l, Rw W q u l → Rw (wC.setCell ⟨bL, 0, none⟩ (.slice (some ⟨g, 0, none⟩) (ns.length + 1) cap)) q u l := fun u l hu => by
    refine own_keep hu fun k hk => ?_
    obtain ⟨h1, h2⟩ := own_lt hu k hk
    refine hone k h2 (fun e => ?_) (by omega)
    rcases own_ne hu h.on (by decide) with h3 | h3
    · rw [hk] at h3; cases h3
    · exact h3 (hk.trans e)
  have hnb : some bL ≠ nv.ownBlock := fun e => by have := (own_lt h.on bL e.symm).1; omega
  refine ⟨h.low, ?_, ?_, ?_, ?_, fun i r hr => ?_, ?_⟩
  · have h1 : wC.heap[bL]? = some (.cells #[nv, tv] 25 (0, 0)) := ((hgrow.block bL (by simp; omega) hnb).trans (Below.heap_alloc _ _ _ hbl)).trans h.st
    simp [World.setCell, Array.getElem?_modify, h1]
  · rw [List.length_append]
    refine own_keep hown fun k hk => Below.heap_setCell _ _ _ _ (fun e => ?_)
    have := (own_lt hown k hk).1
    have e : k = bL := e
    omega
  · refine own_keep h.ot fun k hk => ?_
    obtain ⟨h1, h2⟩ := own_lt h.ot k hk
    refine hone k h2 (fun e => ?_) (by omega)
    rcases h.ap with h3 | h3
    · rw [← e] at h3; cases h3
    · exact h3 (e.symm.trans hk.symm)
  · refine append_get ns r vs v (by have := h.on.1; omega) (fun u l => Rw _ q u l) (fun i r hr => ?_) (hrw _ _ hv)
    obtain ⟨u, h1, h2⟩ := h.rn i r hr
    exact ⟨u, h1, hrw _ _ h2⟩
  · obtain ⟨u, h1, h2⟩ := h.rt i r hr
    exact ⟨u, h1, hrw _ _ h2⟩
  · refine .inr (fun e => ?_)
    have e2 : tv.ownBlock = some g := e.symm
    obtain ⟨h1, h2⟩ := own_lt h.ot g e2
    rcases hat with h3 | h3
    · rcases h.ap with h4 | h4
      · rw [h3] at h4; cases h4
      · exact h4 (h3.trans e2.symm)
    · omega
/-- one row more of what states tell -/
theorem RLst.tells {q bL : Nat} {W : World} {ns ts : List (List Int)} {nv tv : Value} {vs us : List Value} (h : RLst q bL W ns ts nv tv vs us) (v : Value) (r : List Int) (hv : Rw W q v r) (o : Obj) (g cap : Nat) (wC : World)
    (hown : wC.ownsRow q 31 1 (.slice (some ⟨g, 0, none⟩) (ts.length + 1) cap) (ts.length + 1) (us ++ [v])) (hgrow : (W.alloc o).grownBy wC tv.ownBlock) (hat : tv.ownBlock = some g ∨ g = W.heap.size + 1) :
    RLst q bL (wC.setCell ⟨bL, 1, none⟩ (.slice (some ⟨g, 0, none⟩) (ts.length + 1) cap)) ns (ts ++ [r]) nv (.slice (some ⟨g, 0, none⟩) (ts.length + 1) cap) vs (us ++ [v]) := by
  have hbl := (Array.getElem?_eq_some_iff.1 h.st).1
  have hlow := h.low
  have hone : ∀ k, k < W.heap.size → some k ≠ tv.ownBlock → k ≠ bL → (wC.setCell ⟨bL, 1, none⟩ (.slice (some ⟨g, 0, none⟩) (ts.length + 1) cap)).heap[k]? = W.heap[k]? := fun k hk hr hb =>
    (grown_set _ hgrow k (by simp; omega) hr hb).trans (Below.heap_alloc _ _ _ hk)
  have hrw : ∀ u l, Rw W q u l → Rw (wC.setCell ⟨bL, 1, none⟩ (.slice (some ⟨g, 0, none⟩) (ts.length + 1) cap)) q u l := fun u l hu => by
    refine own_keep hu fun k hk => ?_
    obtain ⟨h1, h2⟩ := own_lt hu k hk
    refine hone k h2 (fun e => ?_) (by omega)
    rcases own_ne hu h.ot (by decide) with h3 | h3
    · rw [hk] at h3; cases h3
    · exact h3 (hk.trans e)
  have hnb : some bL ≠ tv.ownBlock := fun e => by have := (own_lt h.ot bL e.symm).1; omega
  refine ⟨h.low, ?_, ?_, ?_, fun i r hr => ?_, ?_, ?_⟩
  · have h1 : wC.heap[bL]? = some (.cells #[nv, tv] 25 (0, 0)) := ((hgrow.block bL (by simp; omega) hnb).trans (Below.heap_alloc _ _ _ hbl)).trans h.st
    simp [World.setCell, Array.getElem?_modify, h1]
  · refine own_keep h.on fun k hk => ?_
    obtain ⟨h1, h2⟩ := own_lt h.on k hk
    refine hone k h2 (fun e => ?_) (by omega)
    rcases h.ap with h3 | h3
    · rw [hk] at h3; cases h3
    · exact h3 (hk.trans e)
  · rw [List.length_append]
    refine own_keep hown fun k hk => Below.heap_setCell _ _ _ _ (fun e => ?_)
    have := (own_lt hown k hk).1
    have e : k = bL := e
    omega
  · obtain ⟨u, h1, h2⟩ := h.rn i r hr
    exact ⟨u, h1, hrw _ _ h2⟩
  · refine append_get ts r us v (by have := h.ot.1; omega) (fun u l => Rw _ q u l) (fun i r hr => ?_) (hrw _ _ hv)
    obtain ⟨u, h1, h2⟩ := h.rt i r hr
    exact ⟨u, h1, hrw _ _ h2⟩
  · rcases h.ap with h4 | h4
    · exact .inl h4
    · refine .inr (fun e => ?_)
      have e2 : nv.ownBlock = some g := e
      obtain ⟨h1, h2⟩ := own_lt h.on g e2
      rcases hat with h3 | h3
      · exact h4 (e2.trans h3.symm)
      · omega
theorem RLst.low_set {q bL : Nat} {W : World} {ns ts : List (List Int)} {nv tv : Value} {vs us : List Value} (h : RLst q bL W ns ts nv tv vs us) (b i : Nat) (u : Value) (hb : b < bL) : RLst q bL (W.setCell ⟨b, i, none⟩ u) ns ts nv tv vs us := by
  have hlow := h.low
  have key : ∀ k, bL ≤ k → (W.setCell ⟨b, i, none⟩ u).heap[k]? = W.heap[k]? := fun k hk => Below.heap_setCell _ _ _ _ (fun e => by have e : k = b := e; omega)
  have ow : ∀ {e : TypeId} {v : Value} {n : Nat} {xs : List Value}, W.ownsRow q e 1 v n xs → (W.setCell ⟨b, i, none⟩ u).ownsRow q e 1 v n xs := fun hv => own_keep hv fun k hk => key k (by have := (own_lt hv k hk).1; omega)
  refine ⟨h.low, (key _ (Nat.le_refl _)).trans h.st, ow h.on, ow h.ot, fun i r hr => ?_, fun i r hr => ?_, h.ap⟩
  · obtain ⟨v, h1, h2⟩ := h.rn i r hr; exact ⟨v, h1, ow h2⟩
  · obtain ⟨v, h1, h2⟩ := h.rt i r hr; exact ⟨v, h1, ow h2⟩
end Bk
end Go.Proofs.YtdeijfkahhgojaaDoor
