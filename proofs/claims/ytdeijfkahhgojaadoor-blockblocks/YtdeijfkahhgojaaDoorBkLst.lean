/-
  The table of blocks, as it grows in memory.
-/
import Derived.Test.YtdeijfkahhgojaaDoorBkClone
namespace Go.Proofs.YtdeijfkahhgojaaDoor
namespace Bk
open Go.RowKit
theorem own_set {W : World} {q : Nat} {e : TypeId} {n cap g : Nat} {xs : List Value} (h : W.ownsRow q e 1 (.slice (some ⟨g, 0, none⟩) n cap) n xs) (i : Nat) (u : Value) : (W.setCell ⟨g, i, none⟩ u).ownsRow q e 1 (.slice (some ⟨g, 0, none⟩) n cap) n (xs.set i u) := by
  obtain ⟨h0, h1⟩ := h
  refine ⟨by rw [List.length_set]; exact h0, ?_⟩
  rcases h1 with ⟨hx, _⟩ | ⟨g', cap', cur, hx, h2, h3, h4, h5, h6, h7⟩
  · cases hx
  · simp only [Value.slice.injEq, Option.some.injEq, Addr.mk.injEq, true_and, and_true] at hx
    obtain ⟨rfl, rfl⟩ := hx
    refine .inr ⟨g, cap, cur.setIfInBounds i u, rfl, h2, ?_, h4, h5, by simpa using h6, ?_⟩
    · simp [World.setCell, Array.getElem?_modify, h3]
    · rw [← h7, Array.toList_setIfInBounds, List.take_set]
theorem own_cell {W : World} {q : Nat} {e : TypeId} {n cap g : Nat} {xs : List Value} (h : W.ownsRow q e 1 (.slice (some ⟨g, 0, none⟩) n cap) n xs) (i : Nat) (u : Value) (hi : xs[i]? = some u) : W.cell? ⟨g, i, none⟩ = some u ∧ W.frozen? ⟨g, i, none⟩ = false := by
  rcases h.2 with ⟨hx, _⟩ | ⟨g', cap', cur, hx, h2, h3, h4, h5, h6, h7⟩
  · cases hx
  · simp only [Value.slice.injEq, Option.some.injEq, Addr.mk.injEq, true_and, and_true] at hx
    obtain ⟨rfl, rfl⟩ := hx
    exact ⟨row_cell h3 h7 hi, Lib.frozen_of_heap h3 i⟩
theorem own_addr {W : World} {q : Nat} {e : TypeId} {n : Nat} {v : Value} {xs : List Value} (h : W.ownsRow q e 1 v n xs) (hn : 0 < n) : ∃ g cap, v = .slice (some ⟨g, 0, none⟩) n cap ∧ q ≤ g ∧ g < W.heap.size := by
  rcases h.2 with ⟨_, h0⟩ | ⟨g', cap', cur, hx, h2, h3, _⟩
  · omega
  · exact ⟨g', cap', hx, h2, (Array.getElem?_eq_some_iff.1 h3).1⟩
/-- own rows of other types lie elsewhere -/
theorem own_ne {W : World} {q q' : Nat} {e e' : TypeId} {s s' : Nat} {v u : Value} {n n' : Nat} {xs xs' : List Value} (hv : W.ownsRow q e s v n xs) (hu : W.ownsRow q' e' s' u n' xs') (hne : e ≠ e') : v.ownBlock = none ∨ v.ownBlock ≠ u.ownBlock := by
  rcases hv.2 with ⟨rfl, _⟩ | ⟨g, cap, cur, rfl, _, h3, _⟩
  · exact .inl rfl
  · rcases hu.2 with ⟨rfl, _⟩ | ⟨g', cap', cur', rfl, _, h3', _⟩
    · exact .inr (by simp [Value.ownBlock])
    · refine .inr (fun e => ?_)
      simp only [Value.ownBlock, Option.some.injEq] at e
      subst e
      rw [h3] at h3'
      simp only [Option.some.injEq, Obj.cells.injEq] at h3'
      exact hne h3'.2.1
theorem own_blk {W : World} {q : Nat} {e : TypeId} {s : Nat} {v : Value} {n : Nat} {xs : List Value} (hv : W.ownsRow q e s v n xs) (b : Nat) (h : ∀ cur fz, W.heap[b]? ≠ some (.cells cur e fz)) : v.ownBlock = none ∨ v.ownBlock ≠ some b := by
  rcases hv.2 with ⟨rfl, _⟩ | ⟨g, cap, cur, rfl, _, h3, _⟩
  · exact .inl rfl
  · refine .inr (fun e => ?_)
    simp only [Value.ownBlock, Option.some.injEq] at e
    subst e
    exact h _ _ h3
/-- the table of blocks, so far: its struct's block, its two lists of rows -/
structure Lst (q bL : Nat) (W : World) (ns ts : List (List Int)) (nv tv : Value) (vs us : List Value) : Prop where
  low : bL < q
  st : W.heap[bL]? = some (.cells #[nv, tv] 24 (0, 0))
  on : W.ownsRow q 31 1 nv ns.length vs
  ot : W.ownsRow q 31 1 tv ts.length us
  rn : ∀ (i : Nat) r, ns[i]? = some r → ∃ v, vs[i]? = some v ∧ Rw W q v r
  rt : ∀ (i : Nat) r, ts[i]? = some r → ∃ v, us[i]? = some v ∧ Rw W q v r
  ap : nv.ownBlock = none ∨ nv.ownBlock ≠ tv.ownBlock
theorem Lst.below {q bL : Nat} {W W' : World} {ns ts : List (List Int)} {nv tv : Value} {vs us : List Value} (h : Lst q bL W ns ts nv tv vs us) (hb : Below W.heap.size W W') : Lst q bL W' ns ts nv tv vs us := by
  refine ⟨h.low, (hb.block _ (Array.getElem?_eq_some_iff.1 h.st).1).trans h.st, own_below h.on hb, own_below h.ot hb, fun i r hr => ?_, fun i r hr => ?_, h.ap⟩
  · obtain ⟨v, h1, h2⟩ := h.rn i r hr; exact ⟨v, h1, own_below h2 hb⟩
  · obtain ⟨v, h1, h2⟩ := h.rt i r hr; exact ⟨v, h1, own_below h2 hb⟩
theorem Lst.cells {q bL : Nat} {W : World} {ns ts : List (List Int)} {nv tv : Value} {vs us : List Value} (h : Lst q bL W ns ts nv tv vs us) : W.cell? ⟨bL, 0, none⟩ = some nv ∧ W.cell? ⟨bL, 1, none⟩ = some tv ∧ W.frozen? ⟨bL, 0, none⟩ = false ∧ W.frozen? ⟨bL, 1, none⟩ = false :=
  ⟨by rw [Lib.cell_of_heap h.st]; rfl, by rw [Lib.cell_of_heap h.st]; rfl, Lib.frozen_of_heap h.st 0, Lib.frozen_of_heap h.st 1⟩
/-- the blocks that an append and a store may turn -/
theorem grown_set {A B : World} {r : Option Nat} {bL i : Nat} (u : Value) (h : A.grownBy B r) : ∀ k, k < A.heap.size → some k ≠ r → k ≠ bL → (B.setCell ⟨bL, i, none⟩ u).heap[k]? = A.heap[k]? := fun k hk hr hb => by
  rw [Below.heap_setCell _ _ _ _ (fun e => hb e)]
  exact h.block k hk hr
theorem own_keep {A B : World} {q : Nat} {e : TypeId} {s : Nat} {v : Value} {n : Nat} {xs : List Value} (h : A.ownsRow q e s v n xs) (hk : ∀ k, v.ownBlock = some k → B.heap[k]? = A.heap[k]?) : B.ownsRow q e s v n xs := by
  refine ⟨h.1, ?_⟩
  rcases h.2 with h1 | ⟨g, cap, cur, rfl, h2, h3, h4⟩
  · exact .inl h1
  · exact .inr ⟨g, cap, cur, rfl, h2, by rw [hk g rfl]; exact h3, h4⟩
theorem own_lt {W : World} {q : Nat} {e : TypeId} {s : Nat} {v : Value} {n : Nat} {xs : List Value} (h : W.ownsRow q e s v n xs) (k : Nat) (hk : v.ownBlock = some k) : q ≤ k ∧ k < W.heap.size := by
  rcases h.2 with ⟨rfl, _⟩ | ⟨g, cap, cur, rfl, h2, h3, _⟩
  · cases hk
  · simp only [Value.ownBlock, Option.some.injEq] at hk
    subst hk
    exact ⟨h2, (Array.getElem?_eq_some_iff.1 h3).1⟩
theorem append_get {α : Type} (l : List α) (x : α) (m : List Value) (v : Value) (hl : l.length = m.length) (P : Value → α → Prop) (h : ∀ (i : Nat) r, l[i]? = some r → ∃ v, m[i]? = some v ∧ P v r) (hx : P v x) : ∀ (i : Nat) r, (l ++ [x])[i]? = some r → ∃ u, (m ++ [v])[i]? = some u ∧ P u r := by
  intro i r hi
  rcases (getElem?_snoc _ _ _ _).1 hi with hi | ⟨rfl, rfl⟩
  · obtain ⟨u, h1, h2⟩ := h i r hi
    exact ⟨u, (getElem?_snoc _ _ _ _).2 (.inl h1), h2⟩
  · exact ⟨v, (getElem?_snoc _ _ _ _).2 (.inr ⟨hl, rfl⟩), hx⟩
/-- one row more of where states lead -/
theorem Lst.next {q bL : Nat} {W : World} {ns ts : List (List Int)} {nv tv : Value} {vs us : List Value} (h : Lst q bL W ns ts nv tv vs us) (v : Value) (r : List Int) (hv : Rw W q v r) (o : Obj) (g cap : Nat) (wC : World)
    (hown : wC.ownsRow q 31 1 (.slice (some ⟨g, 0, none⟩) (ns.length + 1) cap) (ns.length + 1) (vs ++ [v])) (hgrow : (W.alloc o).grownBy wC nv.ownBlock) (hat : nv.ownBlock = some g ∨ g = W.heap.size + 1) :
    Lst q bL (wC.setCell ⟨bL, 0, none⟩ (.slice (some ⟨g, 0, none⟩) (ns.length + 1) cap)) (ns ++ [r]) ts (.slice (some ⟨g, 0, none⟩) (ns.length + 1) cap) tv (vs ++ [v]) us := by
  have hbl := (Array.getElem?_eq_some_iff.1 h.st).1
  have hlow := h.low
  have hone : ∀ k, k < W.heap.size → some k ≠ nv.ownBlock → k ≠ bL → (wC.setCell ⟨bL, 0, none⟩ (.slice (some ⟨g, 0, none⟩) (ns.length + 1) cap)).heap[k]? = W.heap[k]? := fun k hk hr hb =>
    (grown_set _ hgrow k (by simp; omega) hr hb).trans (Below.heap_alloc _ _ _ hk)
  have hrw : ∀ u l, Rw W q u l → Rw (wC.setCell ⟨bL, 0, none⟩ (.slice (some ⟨g, 0, none⟩) (ns.length + 1) cap)) q u l := fun u l hu => by
    refine own_keep hu fun k hk => ?_
    obtain ⟨h1, h2⟩ := own_lt hu k hk
    refine hone k h2 (fun e => ?_) (by omega)
    rcases own_ne hu h.on (by decide) with h3 | h3
    · rw [hk] at h3; cases h3
    · exact h3 (hk.trans e)
  have hnb : some bL ≠ nv.ownBlock := fun e => by have := (own_lt h.on bL e.symm).1; omega
  refine ⟨h.low, ?_, ?_, ?_, ?_, fun i r hr => ?_, ?_⟩
  · have h1 : wC.heap[bL]? = some (.cells #[nv, tv] 24 (0, 0)) := ((hgrow.block bL (by simp; omega) hnb).trans (Below.heap_alloc _ _ _ hbl)).trans h.st
    simp [World.setCell, Array.getElem?_modify, h1]
  · rw [List.length_append]
    refine own_keep hown fun k hk => Below.heap_setCell _ _ _ _ (fun e => ?_)
    have := (own_lt hown k hk).1
    have e : k = bL := e
    omega
  · refine own_keep h.ot fun k hk => ?_
    obtain ⟨h1, h2⟩ := own_lt h.ot k hk
    refine hone k h2 (fun e => ?_) (by omega)
    rcases h.ap with h3 | h3
    · rw [← e] at h3; cases h3
    · exact h3 (e.symm.trans hk.symm)
  · refine append_get ns r vs v (by have := h.on.1; omega) (fun u l => Rw _ q u l) (fun i r hr => ?_) (hrw _ _ hv)
    obtain ⟨u, h1, h2⟩ := h.rn i r hr
    exact ⟨u, h1, hrw _ _ h2⟩
  · obtain ⟨u, h1, h2⟩ := h.rt i r hr
    exact ⟨u, h1, hrw _ _ h2⟩
  · refine .inr (fun e => ?_)
    have e2 : tv.ownBlock = some g := e.symm
    obtain ⟨h1, h2⟩ := own_lt h.ot g e2
    rcases hat with h3 | h3
    · rcases h.ap with h4 | h4
      · rw [h3] at h4; cases h4
      · exact h4 (h3.trans e2.symm)
    · omega
/-- one row more of what states tell -/
theorem Lst.tells {q bL : Nat} {W : World} {ns ts : List (List Int)} {nv tv : Value} {vs us : List Value} (h : Lst q bL W ns ts nv tv vs us) (v : Value) (r : List Int) (hv : Rw W q v r) (o : Obj) (g cap : Nat) (wC : World)
    (hown : wC.ownsRow q 31 1 (.slice (some ⟨g, 0, none⟩) (ts.length + 1) cap) (ts.length + 1) (us ++ [v])) (hgrow : (W.alloc o).grownBy wC tv.ownBlock) (hat : tv.ownBlock = some g ∨ g = W.heap.size + 1) :
    Lst q bL (wC.setCell ⟨bL, 1, none⟩ (.slice (some ⟨g, 0, none⟩) (ts.length + 1) cap)) ns (ts ++ [r]) nv (.slice (some ⟨g, 0, none⟩) (ts.length + 1) cap) vs (us ++ [v]) := by
  have hbl := (Array.getElem?_eq_some_iff.1 h.st).1
  have hlow := h.low
  have hone : ∀ k, k < W.heap.size → some k ≠ tv.ownBlock → k ≠ bL → (wC.setCell ⟨bL, 1, none⟩ (.slice (some ⟨g, 0, none⟩) (ts.length + 1) cap)).heap[k]? = W.heap[k]? := fun k hk hr hb =>
    (grown_set _ hgrow k (by simp; omega) hr hb).trans (Below.heap_alloc _ _ _ hk)
  have hrw : ∀ u l, Rw W q u l → Rw (wC.setCell ⟨bL, 1, none⟩ (.slice (some ⟨g, 0, none⟩) (ts.length + 1) cap)) q u l := fun u l hu => by
    refine own_keep hu fun k hk => ?_
    obtain ⟨h1, h2⟩ := own_lt hu k hk
    refine hone k h2 (fun e => ?_) (by omega)
    rcases own_ne hu h.ot (by decide) with h3 | h3
    · rw [hk] at h3; cases h3
    · exact h3 (hk.trans e)
  have hnb : some bL ≠ tv.ownBlock := fun e => by have := (own_lt h.ot bL e.symm).1; omega
  refine ⟨h.low, ?_, ?_, ?_, fun i r hr => ?_, ?_, ?_⟩
  · have h1 : wC.heap[bL]? = some (.cells #[nv, tv] 24 (0, 0)) := ((hgrow.block bL (by simp; omega) hnb).trans (Below.heap_alloc _ _ _ hbl)).trans h.st
    simp [World.setCell, Array.getElem?_modify, h1]
  · refine own_keep h.on fun k hk => ?_
    obtain ⟨h1, h2⟩ := own_lt h.on k hk
    refine hone k h2 (fun e => ?_) (by omega)
    rcases h.ap with h3 | h3
    · rw [hk] at h3; cases h3
    · exact h3 (hk.trans e)
  · rw [List.length_append]
    refine own_keep hown fun k hk => Below.heap_setCell _ _ _ _ (fun e => ?_)
    have := (own_lt hown k hk).1
    have e : k = bL := e
    omega
  · obtain ⟨u, h1, h2⟩ := h.rn i r hr
    exact ⟨u, h1, hrw _ _ h2⟩
  · refine append_get ts r us v (by have := h.ot.1; omega) (fun u l => Rw _ q u l) (fun i r hr => ?_) (hrw _ _ hv)
    obtain ⟨u, h1, h2⟩ := h.rt i r hr
    exact ⟨u, h1, hrw _ _ h2⟩
  · rcases h.ap with h4 | h4
    · exact .inl h4
    · refine .inr (fun e => ?_)
      have e2 : nv.ownBlock = some g := e
      obtain ⟨h1, h2⟩ := own_lt h.on g e2
      rcases hat with h3 | h3
      · exact h4 (e2.trans h3.symm)
      · omega
theorem Lst.low_set {q bL : Nat} {W : World} {ns ts : List (List Int)} {nv tv : Value} {vs us : List Value} (h : Lst q bL W ns ts nv tv vs us) (b i : Nat) (u : Value) (hb : b < bL) : Lst q bL (W.setCell ⟨b, i, none⟩ u) ns ts nv tv vs us := by
  have hlow := h.low
  have key : ∀ k, bL ≤ k → (W.setCell ⟨b, i, none⟩ u).heap[k]? = W.heap[k]? := fun k hk => Below.heap_setCell _ _ _ _ (fun e => by have e : k = b := e; omega)
  have ow : ∀ {e : TypeId} {v : Value} {n : Nat} {xs : List Value}, W.ownsRow q e 1 v n xs → (W.setCell ⟨b, i, none⟩ u).ownsRow q e 1 v n xs := fun hv => own_keep hv fun k hk => key k (by have := (own_lt hv k hk).1; omega)
  refine ⟨h.low, (key _ (Nat.le_refl _)).trans h.st, ow h.on, ow h.ot, fun i r hr => ?_, fun i r hr => ?_, h.ap⟩
  · obtain ⟨v, h1, h2⟩ := h.rn i r hr; exact ⟨v, h1, ow h2⟩
  · obtain ⟨v, h1, h2⟩ := h.rt i r hr; exact ⟨v, h1, ow h2⟩
/-- what grew, as lists of rows -/
theorem rows_own {W : World} {q : Nat} {nv : Value} {ns : List (List Int)} {vs : List Value} (h : W.ownsRow q 31 1 nv ns.length vs) (hr : ∀ (i : Nat) r, ns[i]? = some r → ∃ v, vs[i]? = some v ∧ Rw W q v r) (hl : ns.length ≤ maxLen) (hb : ∀ r, r ∈ ns → r.length ≤ maxLen ∧ ∀ x, x ∈ r → I64 x) : Rows W nv ns := by
  rcases h.2 with ⟨hx, h0⟩ | ⟨g', cap, cur, hx, _, hcur, hcap, _, _, htk⟩
  · have : ns = [] := List.length_eq_zero_iff.1 h0
    subst this
    rw [hx]
    exact ⟨none, 0, rfl, by simp, fun k r hk => by simp at hk⟩
  · refine ⟨_, _, hx, hl, fun k r hk => ?_⟩
    obtain ⟨v, h1, h2⟩ := hr k r hk
    obtain ⟨b1, b2⟩ := hb r (List.mem_of_getElem? hk)
    exact ⟨g', 0, v, rfl, hcap, by rw [Nat.zero_add]; exact row_cell hcur htk h1, h2.ints b1 b2⟩
/-- a row of which the first have been turned -/
def mix (f : Int → Int) (l : List Int) (i : Nat) : List Int := (l.map f).take i ++ l.drop i
theorem mix_len (f : Int → Int) (l : List Int) (i : Nat) (h : i ≤ l.length) : (mix f l i).length = l.length := by simp [mix]; omega
theorem mix_get (f : Int → Int) (l : List Int) (i : Nat) (h : i < l.length) : (mix f l i)[i]? = some l[i] := by
  unfold mix
  rw [List.getElem?_append_right (by simp; omega)]
  simp [Nat.min_eq_left (Nat.le_of_lt h), h]
theorem mix_set (f : Int → Int) (l : List Int) (i : Nat) (h : i < l.length) : (mix f l i).set i (f l[i]) = mix f l (i + 1) := by
  unfold mix
  have e : ((l.map f).take i).length = i := by simp; omega
  rw [List.set_append_right _ _ (by omega), e, Nat.sub_self, List.drop_eq_getElem_cons h, List.set_cons_zero, List.take_succ_eq_append_getElem (by simpa using h)]
  simp
theorem mix_all (f : Int → Int) (l : List Int) : mix f l l.length = l.map f := by rw [mix, List.drop_length, List.append_nil, List.take_of_length_le (by simp)]
end Bk
end Go.Proofs.YtdeijfkahhgojaaDoor
