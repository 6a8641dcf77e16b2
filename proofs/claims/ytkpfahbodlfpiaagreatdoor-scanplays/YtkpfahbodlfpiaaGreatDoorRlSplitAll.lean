/-
  What the document's ProgramParse has read so far, in memory: a block with two slices, two slices of places, each row its own. A text cut at one byte, as the library cuts it: plain.
-/
import Derived.Test.YtkpfahbodlfpiaaGreatDoorRpRuneAll
import Derived.Test.YtkpfahbodlfpiaaGreatDoorRlCheck
import Derived.Test.YtkpfahbodlfpiaaGreatDoorRtBoundAll
import Derived.Lib.SplitLaws
namespace Go.Proofs.YtkpfahbodlfpiaaGreatDoor
section
open Go.RowKit
theorem own_block {W W' : World} {q : Nat} {e : TypeId} {s : Nat} {v : Value} {n : Nat} {xs : List Value} (h : W.ownsRow q e s v n xs) (hk : ∀ k, v.ownBlock = some k → W'.heap[k]? = W.heap[k]?) : W'.ownsRow q e s v n xs := by
  refine ⟨h.1, ?_⟩
  rcases h.2 with h1 | ⟨g, cap, cur, h1, h2, h3, h4⟩
  · exact .inl h1
  · exact .inr ⟨g, cap, cur, h1, h2, (hk g (by rw [h1]; rfl)).trans h3, h4⟩
/-- which blocks an expression's rows may lie in -/
def okY (q : Nat) (nv rv pv gv : Value) (g : Nat) : Prop := q ≤ g ∧ some g ≠ nv.ownBlock ∧ some g ≠ rv.ownBlock ∧ some g ≠ pv.ownBlock ∧ some g ≠ gv.ownBlock
/-- in block b lies what was read: its rows lie from block q on; all below b stands as in w0 -/
structure RdY (b q : Nat) (w0 : World) (ns : List Ld.Nme) (rs : List Ld.Rng) (ps gs : List Nat) (nv rv pv gv : Value) (vs : List Value) (W : World) : Prop where
  blk : W.heap[b]? = some (.cells #[nv, rv] 30 (0, 0))
  on : W.ownsRow q 93 3 nv ns.length (ns.flatMap nmCells)
  org : W.ownsRow q 97 3 rv rs.length ((rs.zip vs).flatMap rgCells)
  op : W.ownsRow q 3 1 pv ps.length (ps.map intV)
  og : W.ownsRow q 3 1 gv gs.length (gs.map intV)
  ap : ∀ k, pv.ownBlock = some k → gv.ownBlock = some k → False
  gnil : gs = [] → gv = .slice none 0 0
  len : vs.length = rs.length
  ex : ∀ (i : Nat) (g : Ld.Rng) (v : Value), rs[i]? = some g → vs[i]? = some v → ∃ x l p, g.cond = some x ∧ Ex.parse l = .inr x ∧ v = .pointer (some ⟨p, 0, none⟩) ∧ IsRx (okY q nv rv pv gv) W x p
  bn : ∀ n, n ∈ ns → n.name.length ≤ 20000 ∧ I64 n.kind ∧ I64 n.count
  br : ∀ g, g ∈ rs → g.name.length ≤ 20000 ∧ I64 g.kind
  lo : Below b w0 W
theorem RdY.lt {b q : Nat} {w0 : World} {ns : List Ld.Nme} {rs : List Ld.Rng} {ps gs : List Nat} {nv rv pv gv : Value} {vs : List Value} {W : World} (h : RdY b q w0 ns rs ps gs nv rv pv gv vs W) : b < W.heap.size := (Array.getElem?_eq_some_iff.1 h.blk).1
theorem RdY.below {b q : Nat} {w0 : World} {ns : List Ld.Nme} {rs : List Ld.Rng} {ps gs : List Nat} {nv rv pv gv : Value} {vs : List Value} {W W' : World} (h : RdY b q w0 ns rs ps gs nv rv pv gv vs W) (hb : Below W.heap.size W W') : RdY b q w0 ns rs ps gs nv rv pv gv vs W' :=
  ⟨(hb.block _ h.lt).trans h.blk, own_below h.on hb, own_below h.org hb, own_below h.op hb, own_below h.og hb, h.ap, h.gnil, h.len, fun i g v h1 h2 => by
    obtain ⟨x, l, p, e1, e2, e3, e4⟩ := h.ex i g v h1 h2
    exact ⟨x, l, p, e1, e2, e3, IsRx.stay (Stay.below hb) (fun _ h => h) x p e4⟩, h.bn, h.br, h.lo.trans (hb.mono (Nat.le_of_lt h.lt))⟩
/-- two rows grew, and a slice was stored in block b: all else stands -/
structure Turn (b : Nat) (W F : World) (u v : Value) : Prop where
  os : F.os = W.os
  tape : F.tape = W.tape
  output : F.output = W.output
  size : W.heap.size ≤ F.heap.size
  block : ∀ k, k < W.heap.size → k ≠ b → some k ≠ u.ownBlock → some k ≠ v.ownBlock → F.heap[k]? = W.heap[k]?
theorem Turn.of {b i : Nat} {W W1 W2 : World} {u v x : Value} (o1 o2 : Obj) (g1 : (W.alloc o1).grownBy W1 u.ownBlock) (g2 : (W1.alloc o2).grownBy W2 v.ownBlock) : Turn b W (W2.setCell ⟨b, i, none⟩ x) u v := by
  have z1 := g1.size
  have z2 := g2.size
  rw [World.size_alloc] at z1 z2
  refine ⟨g2.os.trans g1.os, g2.tape.trans g1.tape, g2.output.trans g1.output, by simp [World.setCell]; omega, fun k hk hb hu hv => ?_⟩
  rw [Below.heap_setCell _ _ _ _ (fun e => hb e), g2.block k (by rw [World.size_alloc]; omega) hv, Below.heap_alloc _ _ _ (by omega), g1.block k (by rw [World.size_alloc]; omega) hu, Below.heap_alloc _ _ _ hk]
theorem Turn.below {b : Nat} {w0 W F : World} {u v : Value} (h : Turn b W F u v) (hlo : Below b w0 W) (hbl : b < W.heap.size) (hu : ∀ k, u.ownBlock = some k → b < k) (hv : ∀ k, v.ownBlock = some k → b < k) : Below b w0 F :=
  hlo.trans ⟨h.os, h.tape, h.output, h.size, fun k hk => h.block k (by omega) (by omega) (fun e => by have := hu k e.symm; omega) (fun e => by have := hv k e.symm; omega)⟩
theorem own_new_block {W : World} {q : Nat} {e : TypeId} {s g cap m : Nat} {xs : List Value} (h : W.ownsRow q e s (.slice (some ⟨g, 0, none⟩) m cap) m xs) : ∃ c, W.heap[g]? = some (.cells c e (0, 0)) := own_tag h g rfl
/-- a name more, and its place -/
theorem RdY.name {b q : Nat} {w0 : World} {ns : List Ld.Nme} {rs : List Ld.Rng} {ps : List Nat} {nv rv pv gv : Value} {vs : List Value} {W W1 W2 : World} (h : RdY b q w0 ns rs ps [] nv rv pv gv vs W) (hbq : b < q) (hq : q ≤ W.heap.size) (n : Ld.Nme) (hn : n.name.length ≤ 20000 ∧ I64 n.kind ∧ I64 n.count) (st g cap g' cap' : Nat) (o1 o2 : Obj)
    (h1 : W1.ownsRow q 93 3 (.slice (some ⟨g, 0, none⟩) (ns.length + 1) cap) (ns.length + 1) (ns.flatMap nmCells ++ nmCells n)) (g1 : (W.alloc o1).grownBy W1 nv.ownBlock) (a1 : nv.ownBlock = some g ∨ g = W.heap.size + 1)
    (h2 : W2.ownsRow q 3 1 (.slice (some ⟨g', 0, none⟩) (ps.length + 1) cap') (ps.length + 1) (ps.map intV ++ [intV st])) (g2 : (W1.alloc o2).grownBy W2 pv.ownBlock) (a2 : pv.ownBlock = some g' ∨ g' = W1.heap.size + 1) :
    RdY b q w0 (ns ++ [n]) rs (ps ++ [st]) [] (.slice (some ⟨g, 0, none⟩) (ns.length + 1) cap) rv (.slice (some ⟨g', 0, none⟩) (ps.length + 1) cap') gv vs (W2.setCell ⟨b, 0, none⟩ (.slice (some ⟨g, 0, none⟩) (ns.length + 1) cap)) := by
  have hT : Turn b W (W2.setCell ⟨b, 0, none⟩ (.slice (some ⟨g, 0, none⟩) (ns.length + 1) cap)) nv pv := Turn.of o1 o2 g1 g2
  have hlt := h.lt
  have z1 := g1.size
  have z2 := g2.size
  rw [World.size_alloc] at z1 z2
  have hnq : ∀ k, nv.ownBlock = some k → q ≤ k := fun k e => (h.on.lt k e).1
  have hpq : ∀ k, pv.ownBlock = some k → q ≤ k := fun k e => (h.op.lt k e).1
  have hgq : q ≤ g := by rcases a1 with e | e; exact hnq g e; omega
  have hgq' : q ≤ g' := by rcases a2 with e | e; exact hpq g' e; omega
  obtain rfl := h.gnil rfl
  have hp1 : W1.ownsRow q 3 1 pv ps.length (ps.map intV) := (h.op.alloc o1).kept g1 (own_apart (h.op.alloc o1) (h.on.alloc o1) (by decide))
  have hb2 : W2.heap[b]? = some (.cells #[nv, rv] 30 (0, 0)) := by
    rw [g2.block b (by rw [World.size_alloc]; omega) (fun e => by have := hpq b e.symm; omega), Below.heap_alloc _ _ _ (by omega), g1.block b (by rw [World.size_alloc]; omega) (fun e => by have := hnq b e.symm; omega), Below.heap_alloc _ _ _ hlt]
    exact h.blk
  have hset : ∀ k, q ≤ k → (W2.setCell ⟨b, 0, none⟩ (.slice (some ⟨g, 0, none⟩) (ns.length + 1) cap)).heap[k]? = W2.heap[k]? := fun k hk => Below.heap_setCell _ _ _ _ (fun e => by have e2 : k = b := e; omega)
  refine ⟨?_, ?_, ?_, ?_, World.ownsRow_nil _ _ _ _, (fun k _ e => by cases e), (fun _ => rfl), h.len, ?_, ?_, h.br, hT.below h.lo hlt (fun k e => by have := hnq k e; omega) (fun k e => by have := hpq k e; omega)⟩
  · simp [World.setCell, Array.getElem?_modify, hb2]
  · have e1 : (ns ++ [n]).length = ns.length + 1 := by simp
    have e2 : (ns ++ [n]).flatMap nmCells = ns.flatMap nmCells ++ nmCells n := by simp
    rw [e1, e2]
    have h3 : W2.ownsRow q 93 3 (.slice (some ⟨g, 0, none⟩) (ns.length + 1) cap) (ns.length + 1) (ns.flatMap nmCells ++ nmCells n) := (h1.alloc o2).kept g2 (own_apart (h1.alloc o2) (hp1.alloc o2) (by decide))
    exact own_block h3 (fun k e => hset k (by simp only [Value.ownBlock, Option.some.injEq] at e; omega))
  · refine own_block h.org (fun k e => hT.block k (h.org.lt k e).2 (by have := (h.org.lt k e).1; omega) ?_ ?_)
    · rcases own_apart h.org h.on (by decide) with e2 | e2
      · rw [e2] at e; cases e
      · rw [e] at e2; exact e2
    · rcases own_apart h.org h.op (by decide) with e2 | e2
      · rw [e2] at e; cases e
      · rw [e] at e2; exact e2
  · have e1 : (ps ++ [st]).length = ps.length + 1 := by simp
    have e2 : (ps ++ [st]).map intV = ps.map intV ++ [intV st] := by simp
    rw [e1, e2]
    exact own_block h2 (fun k e => hset k (by simp only [Value.ownBlock, Option.some.injEq] at e; omega))
  · intro i gr v e1 e2
    obtain ⟨x, l, p, e3, e4, e5, e6⟩ := h.ex i gr v e1 e2
    refine ⟨x, l, p, e3, e4, e5, IsRx.stay (ok := fun k => okY q nv rv pv (.slice none 0 0) k ∧ k < W.heap.size) (w := W) ?_ ?_ x p (IsRx.lt x p e6)⟩
    · intro k j u hk hc
      rw [World.cell?_of_block (hT.block k hk.2 (by have := hk.1.1; omega) hk.1.2.1 hk.1.2.2.2.1)]
      exact hc
    · intro k hk
      refine ⟨hk.1.1, ?_, hk.1.2.2.1, ?_, (fun e => by cases e)⟩
      · intro e
        simp only [Value.ownBlock, Option.some.injEq] at e
        subst e
        rcases a1 with a | a
        · exact hk.1.2.1 a.symm
        · have := hk.2; omega
      · intro e
        simp only [Value.ownBlock, Option.some.injEq] at e
        subst e
        rcases a2 with a | a
        · exact hk.1.2.2.2.1 a.symm
        · have := hk.2; omega
  · intro m hm
    rw [List.mem_append] at hm
    rcases hm with hm | hm
    · exact h.bn m hm
    · simp at hm; subst hm; exact hn
/-- a rung more, and its place -/
theorem RdY.rung {b q : Nat} {w0 : World} {ns : List Ld.Nme} {rs : List Ld.Rng} {ps gs : List Nat} {nv rv pv gv : Value} {vs : List Value} {W W1 W2 : World} (h : RdY b q w0 ns rs ps gs nv rv pv gv vs W) (hbq : b < q) (hq : q ≤ W.heap.size) (k0 : Int) (nm : List UInt8) (x0 : Ex) (p0 : Nat) (l0 : List UInt8) (hk0 : nm.length ≤ 20000 ∧ I64 k0) (hp0 : Ex.parse l0 = .inr x0) (hx0 : IsRx (okY q nv rv pv gv) W x0 p0) (st g cap g' cap' : Nat) (o1 o2 : Obj)
    (h1 : W1.ownsRow q 97 3 (.slice (some ⟨g, 0, none⟩) (rs.length + 1) cap) (rs.length + 1) ((rs.zip vs).flatMap rgCells ++ [.int .i64 k0, .string ⟨nm.toArray⟩, .pointer (some ⟨p0, 0, none⟩)])) (g1 : (W.alloc o1).grownBy W1 rv.ownBlock) (a1 : rv.ownBlock = some g ∨ g = W.heap.size + 1)
    (h2 : W2.ownsRow q 3 1 (.slice (some ⟨g', 0, none⟩) (gs.length + 1) cap') (gs.length + 1) (gs.map intV ++ [intV st])) (g2 : (W1.alloc o2).grownBy W2 gv.ownBlock) (a2 : gv.ownBlock = some g' ∨ g' = W1.heap.size + 1) :
    RdY b q w0 ns (rs ++ [⟨k0, nm, some x0⟩]) ps (gs ++ [st]) nv (.slice (some ⟨g, 0, none⟩) (rs.length + 1) cap) pv (.slice (some ⟨g', 0, none⟩) (gs.length + 1) cap') (vs ++ [.pointer (some ⟨p0, 0, none⟩)]) (W2.setCell ⟨b, 1, none⟩ (.slice (some ⟨g, 0, none⟩) (rs.length + 1) cap)) := by
  have hT : Turn b W (W2.setCell ⟨b, 1, none⟩ (.slice (some ⟨g, 0, none⟩) (rs.length + 1) cap)) rv gv := Turn.of o1 o2 g1 g2
  have hlt := h.lt
  have z1 := g1.size
  have z2 := g2.size
  rw [World.size_alloc] at z1 z2
  have hnq : ∀ k, rv.ownBlock = some k → q ≤ k := fun k e => (h.org.lt k e).1
  have hpq : ∀ k, gv.ownBlock = some k → q ≤ k := fun k e => (h.og.lt k e).1
  have hgq : q ≤ g := by rcases a1 with e | e; exact hnq g e; omega
  have hgq' : q ≤ g' := by rcases a2 with e | e; exact hpq g' e; omega
  have hp1 : W1.ownsRow q 3 1 gv gs.length (gs.map intV) := (h.og.alloc o1).kept g1 (own_apart (h.og.alloc o1) (h.org.alloc o1) (by decide))
  have hb2 : W2.heap[b]? = some (.cells #[nv, rv] 30 (0, 0)) := by
    rw [g2.block b (by rw [World.size_alloc]; omega) (fun e => by have := hpq b e.symm; omega), Below.heap_alloc _ _ _ (by omega), g1.block b (by rw [World.size_alloc]; omega) (fun e => by have := hnq b e.symm; omega), Below.heap_alloc _ _ _ hlt]
    exact h.blk
  have hset : ∀ k, q ≤ k → (W2.setCell ⟨b, 1, none⟩ (.slice (some ⟨g, 0, none⟩) (rs.length + 1) cap)).heap[k]? = W2.heap[k]? := fun k hk => Below.heap_setCell _ _ _ _ (fun e => by have e2 : k = b := e; omega)
  have hex : ∀ (x : Ex) (p : Nat), IsRx (okY q nv rv pv gv) W x p → IsRx (okY q nv (.slice (some ⟨g, 0, none⟩) (rs.length + 1) cap) pv (.slice (some ⟨g', 0, none⟩) (gs.length + 1) cap')) (W2.setCell ⟨b, 1, none⟩ (.slice (some ⟨g, 0, none⟩) (rs.length + 1) cap)) x p := fun x p e6 => by
    refine IsRx.stay (ok := fun k => okY q nv rv pv gv k ∧ k < W.heap.size) (w := W) ?_ ?_ x p (IsRx.lt x p e6)
    · intro k j u hk hc
      rw [World.cell?_of_block (hT.block k hk.2 (by have := hk.1.1; omega) hk.1.2.2.1 hk.1.2.2.2.2)]
      exact hc
    · intro k hk
      refine ⟨hk.1.1, hk.1.2.1, ?_, hk.1.2.2.2.1, ?_⟩
      · intro e
        simp only [Value.ownBlock, Option.some.injEq] at e
        subst e
        rcases a1 with a | a
        · exact hk.1.2.2.1 a.symm
        · have := hk.2; omega
      · intro e
        simp only [Value.ownBlock, Option.some.injEq] at e
        subst e
        rcases a2 with a | a
        · exact hk.1.2.2.2.2 a.symm
        · have := hk.2; omega
  refine ⟨?_, ?_, ?_, ?_, ?_, ?_, (fun e => by simp at e), by simp [h.len], ?_, h.bn, ?_, hT.below h.lo hlt (fun k e => by have := hnq k e; omega) (fun k e => by have := hpq k e; omega)⟩
  · simp [World.setCell, Array.getElem?_modify, hb2]
  · refine own_block h.on (fun k e => hT.block k (h.on.lt k e).2 (by have := (h.on.lt k e).1; omega) ?_ ?_)
    · rcases own_apart h.on h.org (by decide) with e2 | e2
      · rw [e2] at e; cases e
      · rw [e] at e2; exact e2
    · rcases own_apart h.on h.og (by decide) with e2 | e2
      · rw [e2] at e; cases e
      · rw [e] at e2; exact e2
  · have e1 : (rs ++ [(⟨k0, nm, some x0⟩ : Ld.Rng)]).length = rs.length + 1 := by simp
    have e2 : ((rs ++ [(⟨k0, nm, some x0⟩ : Ld.Rng)]).zip (vs ++ [.pointer (some ⟨p0, 0, none⟩)])).flatMap rgCells = (rs.zip vs).flatMap rgCells ++ [.int .i64 k0, .string ⟨nm.toArray⟩, .pointer (some ⟨p0, 0, none⟩)] := by
      rw [List.zip_append h.len.symm]; simp [rgCells]
    rw [e1, e2]
    have h3 : W2.ownsRow q 97 3 (.slice (some ⟨g, 0, none⟩) (rs.length + 1) cap) (rs.length + 1) ((rs.zip vs).flatMap rgCells ++ [.int .i64 k0, .string ⟨nm.toArray⟩, .pointer (some ⟨p0, 0, none⟩)]) := (h1.alloc o2).kept g2 (own_apart (h1.alloc o2) (hp1.alloc o2) (by decide))
    exact own_block h3 (fun k e => hset k (by simp only [Value.ownBlock, Option.some.injEq] at e; omega))
  · refine own_block h.op (fun k e => hT.block k (h.op.lt k e).2 (by have := (h.op.lt k e).1; omega) ?_ (fun e2 => h.ap k e e2.symm))
    rcases own_apart h.op h.org (by decide) with e2 | e2
    · rw [e2] at e; cases e
    · rw [e] at e2; exact e2
  · have e1 : (gs ++ [st]).length = gs.length + 1 := by simp
    have e2 : (gs ++ [st]).map intV = gs.map intV ++ [intV st] := by simp
    rw [e1, e2]
    exact own_block h2 (fun k e => hset k (by simp only [Value.ownBlock, Option.some.injEq] at e; omega))
  · intro k e1 e2
    simp only [Value.ownBlock, Option.some.injEq] at e2
    subst e2
    rcases a2 with a | a
    · exact h.ap _ e1 a
    · have := (h.op.lt _ e1).2; omega
  · intro i gr v e1 e2
    by_cases hi : i < rs.length
    · rw [List.getElem?_append_left hi] at e1
      rw [List.getElem?_append_left (by rw [h.len]; exact hi)] at e2
      obtain ⟨x, l, p, e3, e4, e5, e6⟩ := h.ex i gr v e1 e2
      exact ⟨x, l, p, e3, e4, e5, hex x p e6⟩
    · rw [List.getElem?_append_right (by omega)] at e1
      rw [List.getElem?_append_right (by rw [h.len]; omega), h.len] at e2
      have hi0 : i - rs.length = 0 := by
        by_cases h : i - rs.length = 0
        · exact h
        · rw [List.getElem?_eq_none (by simp; omega)] at e1; cases e1
      rw [hi0] at e1 e2
      simp only [List.getElem?_cons_zero, Option.some.injEq] at e1 e2
      subst e1
      subst e2
      exact ⟨x0, l0, p0, rfl, hp0, rfl, hex x0 p0 hx0⟩
  · intro m hm
    rw [List.mem_append] at hm
    rcases hm with hm | hm
    · exact h.br m hm
    · simp at hm; subst hm; exact hk0
theorem RdY.prg {b q : Nat} {w0 : World} {ns : List Ld.Nme} {rs : List Ld.Rng} {ps gs : List Nat} {nv rv pv gv : Value} {vs : List Value} {W : World} (h : RdY b q w0 ns rs ps gs nv rv pv gv vs W) (hn : ns.length ≤ 1000000) (hr : rs.length ≤ 1000000) : IsRPrg W ⟨ns, rs⟩ (.agg #[nv, rv]) := by
  refine ⟨nv, rv, rfl, ?_, ?_⟩
  · rcases h.on.2 with ⟨rfl, h0⟩ | ⟨g, cap, cur, rfl, _, hcur, hcap, _, _, htk⟩
    · exact .inl ⟨List.length_eq_zero_iff.1 h0, _, _, rfl⟩
    · refine .inr ⟨g, cap, rfl, hcap, hn, ?_⟩
      intro i n hi
      have hc := fun j hj => flat3 nmCells (fun _ => rfl) ns i n hi j hj
      have hb := h.bn n (List.mem_of_getElem? hi)
      exact ⟨row_cell hcur htk (hc 0 (by omega)), row_cell hcur htk (hc 1 (by omega)), row_cell hcur htk (hc 2 (by omega)), by unfold maxLen; omega, hb.2⟩
  · rcases h.org.2 with ⟨rfl, h0⟩ | ⟨g, cap, cur, rfl, _, hcur, hcap, _, _, htk⟩
    · exact .inl ⟨List.length_eq_zero_iff.1 h0, _, _, rfl⟩
    · refine .inr ⟨g, cap, rfl, hcap, hr, ?_⟩
      intro i gr hi
      have hil : i < rs.length := (List.getElem?_eq_some_iff.1 hi).1
      have hvi : vs[i]? = some (vs[i]'(by rw [h.len]; exact hil)) := List.getElem?_eq_getElem _
      generalize vs[i]'(by rw [h.len]; exact hil) = v at hvi
      have hz : (rs.zip vs)[i]? = some (gr, v) := by rw [List.getElem?_zip_eq_some]; exact ⟨hi, hvi⟩
      have hc := fun j hj => flat3 rgCells (fun _ => rfl) (rs.zip vs) i (gr, v) hz j hj
      have hb := h.br gr (List.mem_of_getElem? hi)
      obtain ⟨x, l, p, e1, e2, e3, e4⟩ := h.ex i gr v hi hvi
      have hbd := Ex.parse_bnd l x e2
      refine ⟨v, row_cell hcur htk (hc 0 (by omega)), row_cell hcur htk (hc 1 (by omega)), row_cell hcur htk (hc 2 (by omega)), by unfold maxLen; omega, hb.2, ?_⟩
      rw [e1]
      exact ⟨p, e3, IsRx.stay (fun _ _ _ _ hc => hc) (fun _ _ => trivial) x p e4, by omega, by omega⟩
end
section
namespace Ld
theorem splitK_one (c : UInt8) : ∀ (s : List UInt8) (k : Nat), s.count c = k → Lib.splitK [c] 0 k s = split c s
  | [], k, h => by
    have : k = 0 := by simpa using h.symm
    subst this
    rfl
  | b :: l, k, h => by
    by_cases hb : b = c
    · subst hb
      rw [List.count_cons_self] at h
      subst h
      have hix : Lib.index (b :: l) [b] = 0 := by rw [Lib.index]; simp [List.isPrefixOf]
      rw [Lib.splitK, hix, if_neg (by decide)]
      show [] :: Lib.splitK [b] 0 (l.count b) l = _
      rw [splitK_one b l _ rfl, split, if_pos rfl]
    · have hcn : (b :: l).count c = l.count c := List.count_cons_of_ne (by simpa using hb)
      rw [hcn] at h
      have ih := splitK_one c l k h
      have hp : ([c] : List UInt8).isPrefixOf (b :: l) = false := by simp [List.isPrefixOf, Ne.symm hb]
      have hix : Lib.index (b :: l) [c] = if Lib.index l [c] == -1 then -1 else Lib.index l [c] + 1 := by rw [Lib.index, hp]; simp
      rw [split, if_neg hb, ← ih]
      cases k with
      | zero => rfl
      | succ k =>
        by_cases hm : Lib.index l [c] = -1
        · rw [Lib.splitK, hix, if_pos (beq_iff_eq.2 hm), if_pos (by decide), Lib.splitK, if_pos (beq_iff_eq.2 hm)]
        · have hge := Lib.index_ge l [c]
          obtain ⟨j, hj⟩ : ∃ j : Nat, Lib.index l [c] = j := ⟨(Lib.index l [c]).toNat, by omega⟩
          have hne : ¬ ((j : Int) == -1) = true := fun e => by have := beq_iff_eq.1 e; omega
          have hne2 : ¬ ((j : Int) + 1 == -1) = true := fun e => by have := beq_iff_eq.1 e; omega
          rw [Lib.splitK, hix, hj, if_neg hne, if_neg hne2, Lib.splitK, hj, if_neg hne]
          have e1 : ((j : Int) + 1).toNat = j + 1 := by omega
          rw [e1, Int.toNat_natCast]
          rfl
theorem splitB_one (c : UInt8) (s : ByteArray) : (Lib.splitB ⟨#[c]⟩ 0 (Lib.countB s ⟨#[c]⟩) s).map (·.data.toList) = split c s.data.toList := by
  rw [Lib.splitB_data]
  refine splitK_one c s.data.toList _ ?_
  rw [← Lib.count_one]
end Ld
end
end Go.Proofs.YtkpfahbodlfpiaaGreatDoor
