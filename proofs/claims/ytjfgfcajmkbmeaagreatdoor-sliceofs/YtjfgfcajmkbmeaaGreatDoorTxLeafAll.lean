/-
  What the document's ProgramParse has read so far, in memory: a block with two slices, two slices of places, each row its own. A text cut at one byte, as the library cuts it: plain. The walks of strings.Builder's copyCheck, WriteByte and WriteString, at a builder of the call's own; what else is there stands as it stood. The walks of the leaves' Text, of isAnd, isOr, isList, and of Text itself (its deferred closure finds nothing to recover).
-/
import Derived.Test.YtjfgfcajmkbmeaaGreatDoorRpRuneAll
import Derived.Test.YtjfgfcajmkbmeaaGreatDoorRlCheck
import Derived.Test.YtjfgfcajmkbmeaaGreatDoorRtBoundAll
import Derived.Lib.SplitLaws
import Derived.Test.YtjfgfcajmkbmeaaGreatDoorLdRepAll
import Derived.Test.YtjfgfcajmkbmeaaGreatDoorShelf
import Derived.Lib.Builder
import Derived.Lib.AppendStr
import Derived.Lib.UnsafeStr
import Derived.Lib.OthersKept
import Derived.Laws.Externs
import Derived.Test.YtjfgfcajmkbmeaaGreatDoorRdListAll
import Derived.Test.YtjfgfcajmkbmeaaGreatDoorNaEachAll
import Derived.Defers
import Derived.Recover
namespace Go.Proofs.YtjfgfcajmkbmeaaGreatDoor
section
open Go.RowKit
theorem own_block {W W' : World} {q : Nat} {e : TypeId} {s : Nat} {v : Value} {n : Nat} {xs : List Value} (h : W.ownsRow q e s v n xs) (hk : ∀ k, v.ownBlock = some k → W'.heap[k]? = W.heap[k]?) : W'.ownsRow q e s v n xs := by
  refine ⟨h.1, ?_⟩
  rcases h.2 with h1 | ⟨g, cap, cur, h1, h2, h3, h4⟩
  · exact .inl h1
  · exact .inr ⟨g, cap, cur, h1, h2, (hk g (by rw [h1]; rfl)).trans h3, h4⟩
/-- which blocks an expression's rows may lie in -/
def okY (q : Nat) (nv rv pv gv : Value) (g : Nat) : Prop := q ≤ g ∧ some g ≠ nv.ownBlock ∧ some g ≠ rv.ownBlock ∧ some g ≠ pv.ownBlock ∧ some g ≠ gv.ownBlock
/-- in block b lies what was read: its rows lie from block q on; all below b stands as in w0 -/
structure RdY (b q : Nat) (w0 : World) (ns : List Ld.Nme) (rs : List Ld.Rng) (ps gs : List Nat) (nv rv pv gv : Value) (vs : List Value) (W : World) : Prop where
  blk : W.heap[b]? = some (.cells #[nv, rv] 30 (0, 0))
  on : W.ownsRow q 58 3 nv ns.length (ns.flatMap nmCells)
  org : W.ownsRow q 72 3 rv rs.length ((rs.zip vs).flatMap rgCells)
  op : W.ownsRow q 3 1 pv ps.length (ps.map intV)
  og : W.ownsRow q 3 1 gv gs.length (gs.map intV)
  ap : ∀ k, pv.ownBlock = some k → gv.ownBlock = some k → False
  gnil : gs = [] → gv = .slice none 0 0
  len : vs.length = rs.length
  ex : ∀ (i : Nat) (g : Ld.Rng) (v : Value), rs[i]? = some g → vs[i]? = some v → ∃ x l p, g.cond = some x ∧ Ex.parse l = .inr x ∧ v = .pointer (some ⟨p, 0, none⟩) ∧ IsRx (okY q nv rv pv gv) W x p
  bn : ∀ n, n ∈ ns → n.name.length ≤ 20000 ∧ I64 n.kind ∧ I64 n.count
  br : ∀ g, g ∈ rs → g.name.length ≤ 20000 ∧ I64 g.kind
  lo : Below b w0 W
theorem RdY.lt {b q : Nat} {w0 : World} {ns : List Ld.Nme} {rs : List Ld.Rng} {ps gs : List Nat} {nv rv pv gv : Value} {vs : List Value} {W : World} (h : RdY b q w0 ns rs ps gs nv rv pv gv vs W) : b < W.heap.size := (Array.getElem?_eq_some_iff.1 h.blk).1
theorem RdY.below {b q : Nat} {w0 : World} {ns : List Ld.Nme} {rs : List Ld.Rng} {ps gs : List Nat} {nv rv pv gv : Value} {vs : List Value} {W W' : World} (h : RdY b q w0 ns rs ps gs nv rv pv gv vs W) (hb : Below W.heap.size W W') : RdY b q w0 ns rs ps gs nv rv pv gv vs W' :=
  ⟨(hb.block _ h.lt).trans h.blk, own_below h.on hb, own_below h.org hb, own_below h.op hb, own_below h.og hb, h.ap, h.gnil, h.len, fun i g v h1 h2 => by
    obtain ⟨x, l, p, e1, e2, e3, e4⟩ := h.ex i g v h1 h2
    exact ⟨x, l, p, e1, e2, e3, IsRx.stay (Stay.below hb) (fun _ h => h) x p e4⟩, h.bn, h.br, h.lo.trans (hb.mono (Nat.le_of_lt h.lt))⟩
/-- two rows grew, and a slice was stored in block b: all else stands -/
structure Turn (b : Nat) (W F : World) (u v : Value) : Prop where
  os : F.os = W.os
  tape : F.tape = W.tape
  output : F.output = W.output
  size : W.heap.size ≤ F.heap.size
  block : ∀ k, k < W.heap.size → k ≠ b → some k ≠ u.ownBlock → some k ≠ v.ownBlock → F.heap[k]? = W.heap[k]?
theorem Turn.of {b i : Nat} {W W1 W2 : World} {u v x : Value} (o1 o2 : Obj) (g1 : (W.alloc o1).grownBy W1 u.ownBlock) (g2 : (W1.alloc o2).grownBy W2 v.ownBlock) : Turn b W (W2.setCell ⟨b, i, none⟩ x) u v := by
  have z1 := g1.size
  have z2 := g2.size
  rw [World.size_alloc] at z1 z2
  refine ⟨g2.os.trans g1.os, g2.tape.trans g1.tape, g2.output.trans g1.output, by simp [World.setCell]; omega, fun k hk hb hu hv => ?_⟩
  rw [Below.heap_setCell _ _ _ _ (fun e => hb e), g2.block k (by rw [World.size_alloc]; omega) hv, Below.heap_alloc _ _ _ (by omega), g1.block k (by rw [World.size_alloc]; omega) hu, Below.heap_alloc _ _ _ hk]
theorem Turn.below {b : Nat} {w0 W F : World} {u v : Value} (h : Turn b W F u v) (hlo : Below b w0 W) (hbl : b < W.heap.size) (hu : ∀ k, u.ownBlock = some k → b < k) (hv : ∀ k, v.ownBlock = some k → b < k) : Below b w0 F :=
  hlo.trans ⟨h.os, h.tape, h.output, h.size, fun k hk => h.block k (by omega) (by omega) (fun e => by have := hu k e.symm; omega) (fun e => by have := hv k e.symm; omega)⟩
theorem own_new_block {W : World} {q : Nat} {e : TypeId} {s g cap m : Nat} {xs : List Value} (h : W.ownsRow q e s (.slice (some ⟨g, 0, none⟩) m cap) m xs) : ∃ c, W.heap[g]? = some (.cells c e (0, 0)) := own_tag h g rfl
/-- a name more, and its place -/
theorem RdY.name {b q : Nat} {w0 : World} {ns : List Ld.Nme} {rs : List Ld.Rng} {ps : List Nat} {nv rv pv gv : Value} {vs : List Value} {W W1 W2 : World} (h : RdY b q w0 ns rs ps [] nv rv pv gv vs W) (hbq : b < q) (hq : q ≤ W.heap.size) (n : Ld.Nme) (hn : n.name.length ≤ 20000 ∧ I64 n.kind ∧ I64 n.count) (st g cap g' cap' : Nat) (o1 o2 : Obj)
    (h1 : W1.ownsRow q 58 3 (.slice (some ⟨g, 0, none⟩) (ns.length + 1) cap) (ns.length + 1) (ns.flatMap nmCells ++ nmCells n)) (g1 : (W.alloc o1).grownBy W1 nv.ownBlock) (a1 : nv.ownBlock = some g ∨ g = W.heap.size + 1)
    (h2 : W2.ownsRow q 3 1 (.slice (some ⟨g', 0, none⟩) (ps.length + 1) cap') (ps.length + 1) (ps.map intV ++ [intV st])) (g2 : (W1.alloc o2).grownBy W2 pv.ownBlock) (a2 : pv.ownBlock = some g' ∨ g' = W1.heap.size + 1) :
    RdY b q w0 (ns ++ [n]) rs (ps ++ [st]) [] (.slice (some ⟨g, 0, none⟩) (ns.length + 1) cap) rv (.slice (some ⟨g', 0, none⟩) (ps.length + 1) cap') gv vs (W2.setCell ⟨b, 0, none⟩ (.slice (some ⟨g, 0, none⟩) (ns.length + 1) cap)) := by
  have hT : Turn b W (W2.setCell ⟨b, 0, none⟩ (.slice (some ⟨g, 0, none⟩) (ns.length + 1) cap)) nv pv := Turn.of o1 o2 g1 g2
  have hlt := h.lt
  have z1 := g1.size
  have z2 := g2.size
  rw [World.size_alloc] at z1 z2
  have hnq : ∀ k, nv.ownBlock = some k → q ≤ k := fun k e => (h.on.lt k e).1
  have hpq : ∀ k, pv.ownBlock = some k → q ≤ k := fun k e => (h.op.lt k e).1
  have hgq : q ≤ g := by rcases a1 with e | e; exact hnq g e; omega
  have hgq' : q ≤ g' := by rcases a2 with e | e; exact hpq g' e; omega
  obtain rfl := h.gnil rfl
  have hp1 : W1.ownsRow q 3 1 pv ps.length (ps.map intV) := (h.op.alloc o1).kept g1 (own_apart (h.op.alloc o1) (h.on.alloc o1) (by decide))
  have hb2 : W2.heap[b]? = some (.cells #[nv, rv] 30 (0, 0)) := by
    rw [g2.block b (by rw [World.size_alloc]; omega) (fun e => by have := hpq b e.symm; omega), Below.heap_alloc _ _ _ (by omega), g1.block b (by rw [World.size_alloc]; omega) (fun e => by have := hnq b e.symm; omega), Below.heap_alloc _ _ _ hlt]
    exact h.blk
  have hset : ∀ k, q ≤ k → (W2.setCell ⟨b, 0, none⟩ (.slice (some ⟨g, 0, none⟩) (ns.length + 1) cap)).heap[k]? = W2.heap[k]? := fun k hk => Below.heap_setCell _ _ _ _ (fun e => by have e2 : k = b := e; omega)
  refine ⟨?_, ?_, ?_, ?_, World.ownsRow_nil _ _ _ _, (fun k _ e => by cases e), (fun _ => rfl), h.len, ?_, ?_, h.br, hT.below h.lo hlt (fun k e => by have := hnq k e; omega) (fun k e => by have := hpq k e; omega)⟩
  · simp [World.setCell, Array.getElem?_modify, hb2]
  · have e1 : (ns ++ [n]).length = ns.length + 1 := by simp
    have e2 : (ns ++ [n]).flatMap nmCells = ns.flatMap nmCells ++ nmCells n := by simp
    rw [e1, e2]
    have h3 : W2.ownsRow q 58 3 (.slice (some ⟨g, 0, none⟩) (ns.length + 1) cap) (ns.length + 1) (ns.flatMap nmCells ++ nmCells n) := (h1.alloc o2).kept g2 (own_apart (h1.alloc o2) (hp1.alloc o2) (by decide))
    exact own_block h3 (fun k e => hset k (by simp only [Value.ownBlock, Option.some.injEq] at e; omega))
  · refine own_block h.org (fun k e => hT.block k (h.org.lt k e).2 (by have := (h.org.lt k e).1; omega) ?_ ?_)
    · rcases own_apart h.org h.on (by decide) with e2 | e2
      · rw [e2] at e; cases e
      · rw [e] at e2; exact e2
    · rcases own_apart h.org h.op (by decide) with e2 | e2
      · rw [e2] at e; cases e
      · rw [e] at e2; exact e2
  · have e1 : (ps ++ [st]).length = ps.length + 1 := by simp
    have e2 : (ps ++ [st]).map intV = ps.map intV ++ [intV st] := by simp
    rw [e1, e2]
    exact own_block h2 (fun k e => hset k (by simp only [Value.ownBlock, Option.some.injEq] at e; omega))
  · intro i gr v e1 e2
    obtain ⟨x, l, p, e3, e4, e5, e6⟩ := h.ex i gr v e1 e2
    refine ⟨x, l, p, e3, e4, e5, IsRx.stay (ok := fun k => okY q nv rv pv (.slice none 0 0) k ∧ k < W.heap.size) (w := W) ?_ ?_ x p (IsRx.lt x p e6)⟩
    · intro k j u hk hc
      rw [World.cell?_of_block (hT.block k hk.2 (by have := hk.1.1; omega) hk.1.2.1 hk.1.2.2.2.1)]
      exact hc
    · intro k hk
      refine ⟨hk.1.1, ?_, hk.1.2.2.1, ?_, (fun e => by cases e)⟩
      · intro e
        simp only [Value.ownBlock, Option.some.injEq] at e
        subst e
        rcases a1 with a | a
        · exact hk.1.2.1 a.symm
        · have := hk.2; omega
      · intro e
        simp only [Value.ownBlock, Option.some.injEq] at e
        subst e
        rcases a2 with a | a
        · exact hk.1.2.2.2.1 a.symm
        · have := hk.2; omega
  · intro m hm
    rw [List.mem_append] at hm
    rcases hm with hm | hm
    · exact h.bn m hm
    · simp at hm; subst hm; exact hn
/-- a rung more, and its place -/
theorem RdY.rung {b q : Nat} {w0 : World} {ns : List Ld.Nme} {rs : List Ld.Rng} {ps gs : List Nat} {nv rv pv gv : Value} {vs : List Value} {W W1 W2 : World} (h : RdY b q w0 ns rs ps gs nv rv pv gv vs W) (hbq : b < q) (hq : q ≤ W.heap.size) (k0 : Int) (nm : List UInt8) (x0 : Ex) (p0 : Nat) (l0 : List UInt8) (hk0 : nm.length ≤ 20000 ∧ I64 k0) (hp0 : Ex.parse l0 = .inr x0) (hx0 : IsRx (okY q nv rv pv gv) W x0 p0) (st g cap g' cap' : Nat) (o1 o2 : Obj)
    (h1 : W1.ownsRow q 72 3 (.slice (some ⟨g, 0, none⟩) (rs.length + 1) cap) (rs.length + 1) ((rs.zip vs).flatMap rgCells ++ [.int .i64 k0, .string ⟨nm.toArray⟩, .pointer (some ⟨p0, 0, none⟩)])) (g1 : (W.alloc o1).grownBy W1 rv.ownBlock) (a1 : rv.ownBlock = some g ∨ g = W.heap.size + 1)
    (h2 : W2.ownsRow q 3 1 (.slice (some ⟨g', 0, none⟩) (gs.length + 1) cap') (gs.length + 1) (gs.map intV ++ [intV st])) (g2 : (W1.alloc o2).grownBy W2 gv.ownBlock) (a2 : gv.ownBlock = some g' ∨ g' = W1.heap.size + 1) :
    RdY b q w0 ns (rs ++ [⟨k0, nm, some x0⟩]) ps (gs ++ [st]) nv (.slice (some ⟨g, 0, none⟩) (rs.length + 1) cap) pv (.slice (some ⟨g', 0, none⟩) (gs.length + 1) cap') (vs ++ [.pointer (some ⟨p0, 0, none⟩)]) (W2.setCell ⟨b, 1, none⟩ (.slice (some ⟨g, 0, none⟩) (rs.length + 1) cap)) := by
  have hT : Turn b W (W2.setCell ⟨b, 1, none⟩ (.slice (some ⟨g, 0, none⟩) (rs.length + 1) cap)) rv gv := Turn.of o1 o2 g1 g2
  have hlt := h.lt
  have z1 := g1.size
  have z2 := g2.size
  rw [World.size_alloc] at z1 z2
  have hnq : ∀ k, rv.ownBlock = some k → q ≤ k := fun k e => (h.org.lt k e).1
  have hpq : ∀ k, gv.ownBlock = some k → q ≤ k := fun k e => (h.og.lt k e).1
  have hgq : q ≤ g := by rcases a1 with e | e; exact hnq g e; omega
  have hgq' : q ≤ g' := by rcases a2 with e | e; exact hpq g' e; omega
  have hp1 : W1.ownsRow q 3 1 gv gs.length (gs.map intV) := (h.og.alloc o1).kept g1 (own_apart (h.og.alloc o1) (h.org.alloc o1) (by decide))
  have hb2 : W2.heap[b]? = some (.cells #[nv, rv] 30 (0, 0)) := by
    rw [g2.block b (by rw [World.size_alloc]; omega) (fun e => by have := hpq b e.symm; omega), Below.heap_alloc _ _ _ (by omega), g1.block b (by rw [World.size_alloc]; omega) (fun e => by have := hnq b e.symm; omega), Below.heap_alloc _ _ _ hlt]
    exact h.blk
  have hset : ∀ k, q ≤ k → (W2.setCell ⟨b, 1, none⟩ (.slice (some ⟨g, 0, none⟩) (rs.length + 1) cap)).heap[k]? = W2.heap[k]? := fun k hk => Below.heap_setCell _ _ _ _ (fun e => by have e2 : k = b := e; omega)
  have hex : ∀ (x : Ex) (p : Nat), IsRx (okY q nv rv pv gv) W x p → IsRx (okY q nv (.slice (some ⟨g, 0, none⟩) (rs.length + 1) cap) pv (.slice (some ⟨g', 0, none⟩) (gs.length + 1) cap')) (W2.setCell ⟨b, 1, none⟩ (.slice (some ⟨g, 0, none⟩) (rs.length + 1) cap)) x p := fun x p e6 => by
    refine IsRx.stay (ok := fun k => okY q nv rv pv gv k ∧ k < W.heap.size) (w := W) ?_ ?_ x p (IsRx.lt x p e6)
    · intro k j u hk hc
      rw [World.cell?_of_block (hT.block k hk.2 (by have := hk.1.1; omega) hk.1.2.2.1 hk.1.2.2.2.2)]
      exact hc
    · intro k hk
      refine ⟨hk.1.1, hk.1.2.1, ?_, hk.1.2.2.2.1, ?_⟩
      · intro e
        simp only [Value.ownBlock, Option.some.injEq] at e
        subst e
        rcases a1 with a | a
        · exact hk.1.2.2.1 a.symm
        · have := hk.2; omega
      · intro e
        simp only [Value.ownBlock, Option.some.injEq] at e
        subst e
        rcases a2 with a | a
        · exact hk.1.2.2.2.2 a.symm
        · have := hk.2; omega
  refine ⟨?_, ?_, ?_, ?_, ?_, ?_, (fun e => by simp at e), by simp [h.len], ?_, h.bn, ?_, hT.below h.lo hlt (fun k e => by have := hnq k e; omega) (fun k e => by have := hpq k e; omega)⟩
  · simp [World.setCell, Array.getElem?_modify, hb2]
  · refine own_block h.on (fun k e => hT.block k (h.on.lt k e).2 (by have := (h.on.lt k e).1; omega) ?_ ?_)
    · rcases own_apart h.on h.org (by decide) with e2 | e2
      · rw [e2] at e; cases e
      · rw [e] at e2; exact e2
    · rcases own_apart h.on h.og (by decide) with e2 | e2
      · rw [e2] at e; cases e
      · rw [e] at e2; exact e2
  · have e1 : (rs ++ [(⟨k0, nm, some x0⟩ : Ld.Rng)]).length = rs.length + 1 := by simp
    have e2 : ((rs ++ [(⟨k0, nm, some x0⟩ : Ld.Rng)]).zip (vs ++ [.pointer (some ⟨p0, 0, none⟩)])).flatMap rgCells = (rs.zip vs).flatMap rgCells ++ [.int .i64 k0, .string ⟨nm.toArray⟩, .pointer (some ⟨p0, 0, none⟩)] := by
      rw [List.zip_append h.len.symm]; simp [rgCells]
    rw [e1, e2]
    have h3 : W2.ownsRow q 72 3 (.slice (some ⟨g, 0, none⟩) (rs.length + 1) cap) (rs.length + 1) ((rs.zip vs).flatMap rgCells ++ [.int .i64 k0, .string ⟨nm.toArray⟩, .pointer (some ⟨p0, 0, none⟩)]) := (h1.alloc o2).kept g2 (own_apart (h1.alloc o2) (hp1.alloc o2) (by decide))
    exact own_block h3 (fun k e => hset k (by simp only [Value.ownBlock, Option.some.injEq] at e; omega))
  · refine own_block h.op (fun k e => hT.block k (h.op.lt k e).2 (by have := (h.op.lt k e).1; omega) ?_ (fun e2 => h.ap k e e2.symm))
    rcases own_apart h.op h.org (by decide) with e2 | e2
    · rw [e2] at e; cases e
    · rw [e] at e2; exact e2
  · have e1 : (gs ++ [st]).length = gs.length + 1 := by simp
    have e2 : (gs ++ [st]).map intV = gs.map intV ++ [intV st] := by simp
    rw [e1, e2]
    exact own_block h2 (fun k e => hset k (by simp only [Value.ownBlock, Option.some.injEq] at e; omega))
  · intro k e1 e2
    simp only [Value.ownBlock, Option.some.injEq] at e2
    subst e2
    rcases a2 with a | a
    · exact h.ap _ e1 a
    · have := (h.op.lt _ e1).2; omega
  · intro i gr v e1 e2
    by_cases hi : i < rs.length
    · rw [List.getElem?_append_left hi] at e1
      rw [List.getElem?_append_left (by rw [h.len]; exact hi)] at e2
      obtain ⟨x, l, p, e3, e4, e5, e6⟩ := h.ex i gr v e1 e2
      exact ⟨x, l, p, e3, e4, e5, hex x p e6⟩
    · rw [List.getElem?_append_right (by omega)] at e1
      rw [List.getElem?_append_right (by rw [h.len]; omega), h.len] at e2
      have hi0 : i - rs.length = 0 := by
        by_cases h : i - rs.length = 0
        · exact h
        · rw [List.getElem?_eq_none (by simp; omega)] at e1; cases e1
      rw [hi0] at e1 e2
      simp only [List.getElem?_cons_zero, Option.some.injEq] at e1 e2
      subst e1
      subst e2
      exact ⟨x0, l0, p0, rfl, hp0, rfl, hex x0 p0 hx0⟩
  · intro m hm
    rw [List.mem_append] at hm
    rcases hm with hm | hm
    · exact h.br m hm
    · simp at hm; subst hm; exact hk0
theorem RdY.prg {b q : Nat} {w0 : World} {ns : List Ld.Nme} {rs : List Ld.Rng} {ps gs : List Nat} {nv rv pv gv : Value} {vs : List Value} {W : World} (h : RdY b q w0 ns rs ps gs nv rv pv gv vs W) (hn : ns.length ≤ 1000000) (hr : rs.length ≤ 1000000) : IsRPrg W ⟨ns, rs⟩ (.agg #[nv, rv]) := by
  refine ⟨nv, rv, rfl, ?_, ?_⟩
  · rcases h.on.2 with ⟨rfl, h0⟩ | ⟨g, cap, cur, rfl, _, hcur, hcap, _, _, htk⟩
    · exact .inl ⟨List.length_eq_zero_iff.1 h0, _, _, rfl⟩
    · refine .inr ⟨g, cap, rfl, hcap, hn, ?_⟩
      intro i n hi
      have hc := fun j hj => flat3 nmCells (fun _ => rfl) ns i n hi j hj
      have hb := h.bn n (List.mem_of_getElem? hi)
      exact ⟨row_cell hcur htk (hc 0 (by omega)), row_cell hcur htk (hc 1 (by omega)), row_cell hcur htk (hc 2 (by omega)), by unfold maxLen; omega, hb.2⟩
  · rcases h.org.2 with ⟨rfl, h0⟩ | ⟨g, cap, cur, rfl, _, hcur, hcap, _, _, htk⟩
    · exact .inl ⟨List.length_eq_zero_iff.1 h0, _, _, rfl⟩
    · refine .inr ⟨g, cap, rfl, hcap, hr, ?_⟩
      intro i gr hi
      have hil : i < rs.length := (List.getElem?_eq_some_iff.1 hi).1
      have hvi : vs[i]? = some (vs[i]'(by rw [h.len]; exact hil)) := List.getElem?_eq_getElem _
      generalize vs[i]'(by rw [h.len]; exact hil) = v at hvi
      have hz : (rs.zip vs)[i]? = some (gr, v) := by rw [List.getElem?_zip_eq_some]; exact ⟨hi, hvi⟩
      have hc := fun j hj => flat3 rgCells (fun _ => rfl) (rs.zip vs) i (gr, v) hz j hj
      have hb := h.br gr (List.mem_of_getElem? hi)
      obtain ⟨x, l, p, e1, e2, e3, e4⟩ := h.ex i gr v hi hvi
      have hbd := Ex.parse_bnd l x e2
      refine ⟨v, row_cell hcur htk (hc 0 (by omega)), row_cell hcur htk (hc 1 (by omega)), row_cell hcur htk (hc 2 (by omega)), by unfold maxLen; omega, hb.2, ?_⟩
      rw [e1]
      exact ⟨p, e3, IsRx.stay (fun _ _ _ _ hc => hc) (fun _ _ => trivial) x p e4, by omega, by omega⟩
end
section
namespace Ld
theorem splitK_one (c : UInt8) : ∀ (s : List UInt8) (k : Nat), s.count c = k → Lib.splitK [c] 0 k s = split c s
  | [], k, h => by
    have : k = 0 := by simpa using h.symm
    subst this
    rfl
  | b :: l, k, h => by
    by_cases hb : b = c
    · subst hb
      rw [List.count_cons_self] at h
      subst h
      have hix : Lib.index (b :: l) [b] = 0 := by rw [Lib.index]; simp [List.isPrefixOf]
      rw [Lib.splitK, hix, if_neg (by decide)]
      show [] :: Lib.splitK [b] 0 (l.count b) l = _
      rw [splitK_one b l _ rfl, split, if_pos rfl]
    · have hcn : (b :: l).count c = l.count c := List.count_cons_of_ne (by simpa using hb)
      rw [hcn] at h
      have ih := splitK_one c l k h
      have hp : ([c] : List UInt8).isPrefixOf (b :: l) = false := by simp [List.isPrefixOf, Ne.symm hb]
      have hix : Lib.index (b :: l) [c] = if Lib.index l [c] == -1 then -1 else Lib.index l [c] + 1 := by rw [Lib.index, hp]; simp
      rw [split, if_neg hb, ← ih]
      cases k with
      | zero => rfl
      | succ k =>
        by_cases hm : Lib.index l [c] = -1
        · rw [Lib.splitK, hix, if_pos (beq_iff_eq.2 hm), if_pos (by decide), Lib.splitK, if_pos (beq_iff_eq.2 hm)]
        · have hge := Lib.index_ge l [c]
          obtain ⟨j, hj⟩ : ∃ j : Nat, Lib.index l [c] = j := ⟨(Lib.index l [c]).toNat, by omega⟩
          have hne : ¬ ((j : Int) == -1) = true := fun e => by have := beq_iff_eq.1 e; omega
          have hne2 : ¬ ((j : Int) + 1 == -1) = true := fun e => by have := beq_iff_eq.1 e; omega
          rw [Lib.splitK, hix, hj, if_neg hne, if_neg hne2, Lib.splitK, hj, if_neg hne]
          have e1 : ((j : Int) + 1).toNat = j + 1 := by omega
          rw [e1, Int.toNat_natCast]
          rfl
theorem splitB_one (c : UInt8) (s : ByteArray) : (Lib.splitB ⟨#[c]⟩ 0 (Lib.countB s ⟨#[c]⟩) s).map (·.data.toList) = split c s.data.toList := by
  rw [Lib.splitB_data]
  refine splitK_one c s.data.toList _ ?_
  rw [← Lib.count_one]
end Ld
end
section
open Go.RowKit
/-- a builder in block b that holds these bytes (as cells) -/
def Bld (b : Nat) (bs : List Value) (w : World) : Prop := Lib.IsBuilder 78 5 b b bs w
/-- all below b stands; of what lies above it all but b and the rows of bytes -/
def Kb (b : Nat) (w w' : World) : Prop := Below b w w' ∧ Lib.OthersKept 5 (some b) w w'
namespace Kb
theorem refl (b : Nat) (w : World) : Kb b w w := ⟨Below.refl _ _, Lib.OthersKept.refl _ _ _⟩
theorem trans {b : Nat} {x y z : World} (h : Kb b x y) (k : Kb b y z) : Kb b x z := ⟨h.1.trans k.1, h.2.trans k.2⟩
theorem drewN {b : Nat} {a w : World} (n : Nat) (h : Kb b a w) : Kb b a (w.drewN n) := ⟨⟨h.1.os, h.1.tape, h.1.output, h.1.size, h.1.block⟩, h.2⟩
theorem alloc {b : Nat} {a w : World} (h : Kb b a w) (hb : b ≤ w.heap.size) (o : Obj) : Kb b a (w.alloc o) := ⟨h.1.alloc hb o, h.2.alloc o⟩
theorem setCell {b : Nat} {a w : World} (h : Kb b a w) (p : Addr) (hp : p.block = b) (v : Value) : Kb b a (w.setCell p v) := ⟨h.1.setCell (by omega) v, h.2.setCell p hp v⟩
theorem grown {b : Nat} {a w w' : World} {row : Option Nat} (h : Kb b a w) (hg : w.grownBy w' row) (hb : b ≤ w.heap.size) (hr : ∀ k, row = some k → b ≤ k) (hrow : ∀ g, row = some g → ∃ c fz, w.heap[g]? = some (.cells c 5 fz)) : Kb b a w' :=
  ⟨h.1.grown hg hb hr, h.2.grown hg hrow⟩
theorem of_below {b : Nat} {w w' : World} (h : Below w.heap.size w w') (hb : b ≤ w.heap.size) : Kb b w w' :=
  ⟨h.mono hb, fun k o hk _ _ => by rw [h.block k (Array.getElem?_eq_some_iff.1 hk).1]; exact hk⟩
/-- a cell of a block that is no row of bytes -/
theorem cell {b : Nat} {w w' : World} (h : Kb b w w') {g : Nat} {c : Array Value} {t : TypeId} {fz : Nat × Nat} (hg : w.heap[g]? = some (.cells c t fz)) (hb : g ≠ b) (ht : t ≠ 5) : w'.heap[g]? = some (.cells c t fz) :=
  h.2 g _ hg (fun e => hb (Option.some.inj e)) (fun c' fz' e => ht (by injection e))
end Kb
theorem ownsRow_kind {w : World} {B : Nat} {e : TypeId} {v : Value} {n : Nat} {xs : List Value} (h : w.ownsRow B e 1 v n xs) : ∀ g, v.ownBlock = some g → ∃ c fz, w.heap[g]? = some (.cells c e fz) := by
  intro g hg
  rcases h.2 with ⟨hv, _⟩ | ⟨g', cap, cur, hv, _, hcur, _⟩
  · rw [hv] at hg; cases hg
  · rw [hv] at hg
    simp only [Value.ownBlock, Option.some.injEq] at hg
    subst hg
    exact ⟨cur, (0, 0), hcur⟩
/-- a builder in a world that has kept all that was there -/
theorem Bld.below {b : Nat} {bs : List Value} {w w' : World} (h : Bld b bs w) (hb : Below w.heap.size w w') : Bld b bs w' := by
  have key : ∀ p, Lib.BuilderAt 78 5 b b p bs w → Lib.BuilderAt 78 5 b b p bs w' := by
    rintro p ⟨h1, v, h2, h3, h4⟩
    have hlt : b < w.heap.size := (Array.getElem?_eq_some_iff.1 h2).1
    exact ⟨h1, v, by rw [hb.block b hlt]; exact h2, h3.kept (row := none) ⟨hb.os, hb.tape, hb.output, hb.size, fun k hk _ => hb.block k hk⟩ (by cases v.ownBlock <;> simp), h4⟩
  rcases h with h | h
  · exact .inl (key _ h)
  · exact .inr (key _ h)
theorem Bld.lt {b : Nat} {bs : List Value} {w : World} (h : Bld b bs w) : b < w.heap.size := by
  rcases h with h | h <;> exact h.lt
theorem Bld.drewN {b : Nat} {bs : List Value} {w : World} (n : Nat) (h : Bld b bs w) : Bld b bs (w.drewN n) := h
theorem Tryz.infoByte : (Tryz.prog.info? 5).map (fun i => (i.zero, i.size, i.bytes)) = some (some (.int .u8 0), 1, 1) := by kernel_rfl
theorem Tryz.sizeBuilder : (Tryz.prog.info? 78).map (·.size) = some 2 := by kernel_rfl
theorem Tryz.liesBuilder : liesAt Tryz.prog Tryz.prog.depth 78 (2 / Tryz.prog.cellsOf 78) 0 78 1 = true := by kernel_rfl
set_option maxHeartbeats 1000000 in
theorem copyCheck_any (b : Nat) (bs : List Value) (w : World) (h : Bld b bs w) :
    Calls Tryz.prog 81 #[.pointer (some ⟨b, 0, none⟩)] w fun e w' => e = .returned (.tuple #[]) ∧ Lib.BuilderAt 78 5 b b (.pointer (some ⟨b, 0, none⟩)) bs w' ∧ Kb b w w' := by
  obtain ⟨j, hj, hjs⟩ := Option.map_eq_some_iff.1 Tryz.sizeBuilder
  rcases h with h | h
  · have H := hide h
    have h0 := h.cell0
    have hsh := h.shape
    have hfz := h.frozen0
    have hx : (callFunc 121 #[.pointer (some ⟨b, 0, none⟩)]).run Tryz.prog w = .ok (.value (.pointer (some ⟨b, 0, none⟩))) w := by
      rw [run_callFunc_extern Tryz.func121 (by kernel_rfl) (by kernel_rfl) (by kernel_rfl) (e := Extern.AbiNoEscape.same) (by kernel_rfl), Lib.run_noEscape]
      rfl
    have hu := Lib.run_to_unsafe (P := Tryz.prog) w ⟨b, 0, none⟩ Tryz.underlying75 Tryz.underlying198 hj (by rw [hjs]; decide) hsh (Nat.zero_lt_succ 1)
    have hf := Lib.run_from_unsafe (P := Tryz.prog) w ⟨b, 0, none⟩ Tryz.underlying198 Tryz.underlying75 hj hsh Tryz.liesBuilder
    clear h hsh
    go_enter Tryz.func81, Tryz.ntmps81
    go_wp2
    go_end0
    exact ⟨rfl, H.out.used _, Kb.setCell (b := b) (Kb.refl b w) ⟨b, 0, none⟩ rfl _⟩
  · have H := hide h
    have h0 := h.cell0
    have hn := Lib.run_neq_ptr_same (P := Tryz.prog) w ⟨b, 0, none⟩ Tryz.underlying75 hj
    clear h
    go_enter Tryz.func81, Tryz.ntmps81
    go_wp2
    go_end0
    exact ⟨rfl, H.out, Kb.refl _ _⟩
theorem cell_heap {w : World} {b : Nat} {cs : Array Value} {T : TypeId} {fr : Nat × Nat} (hb : w.heap[b]? = some (.cells cs T fr)) (j : Nat) (u : Value) (hu : cs[j]? = some u) : w.cell? ⟨b, j, none⟩ = some u := by rw [Lib.cell_of_heap hb, hu]
set_option maxHeartbeats 1000000 in
theorem WriteByte_any (b : Nat) (bs : List Value) (c : Int) (w : World) (h : Bld b bs w) (hlen : bs.length ≤ 140737488355327) :
    Calls Tryz.prog 247 #[.pointer (some ⟨b, 0, none⟩), .int .u8 c] w fun e w' => e = .returned .nilIface ∧ Bld b (bs ++ [.int .u8 c]) w' ∧ Kb b w w' := by
  obtain ⟨i0, hi0, hz0, hz1, hz2⟩ := info_parts Tryz.infoByte
  have HC := hide (copyCheck_any b bs w h)
  have HLT := hide h.lt
  clear h
  go_enter Tryz.func247, Tryz.ntmps247
  go_wp2_with fail
  refine HC.out.mono ?_
  rintro e w1 ⟨rfl, h1, hk1⟩
  obtain ⟨hB, v, hbk, hown, hne⟩ := h1
  have HBK := hide hbk
  have HK := hide hk1
  have HNE := hide hne
  have hsz := hk1.1.size
  have hlt := HLT.out
  have c0 := cell_heap hbk 0 _ rfl
  have c1 := cell_heap hbk 1 _ rfl
  have HOWN := hide hown
  have HOWN2 := hide (hown.alloc (.cells #[.int .u8 c] 5))
  clear hbk hown hk1 hne hB HC
  go_wp2_with (at_builtin; refine wpList_append_own _ rfl _ _ 76 rfl b 5 i0 (.int .u8 0) 1 1 Tryz.underlying76 hi0 hz0 hz1 hz2 rfl (by decide) _ bs.length bs rfl HOWN2.out ⟨w1.heap.size, 0, none⟩ 1 1 [.int .u8 c] rfl rfl (cell_one_new _ _ _) ?c2 ?c3 ?c4 ?c5 ?_)
  case c2 => intro z hz; simp at hz; subst hz; rfl
  case c3 => unfold maxLen; omega
  case c4 => omega
  case c5 => simp; omega
  intro v' w2 hown' hgrow _
  have hb2 : w2.heap[b]? = some (.cells #[.pointer (some ⟨b, 0, none⟩), v] 78 (0, 0)) := by
    rw [hgrow.block b (by simp; omega) (fun e => HNE.out e.symm), Below.heap_alloc w1 _ b (by omega)]
    exact HBK.out
  have d0 := cell_heap hb2 0 _ rfl
  have d1 := cell_heap hb2 1 _ rfl
  have f1 : w2.frozen? ⟨b, 1, none⟩ = false := Lib.frozen_of_heap hb2 1
  have HK2 : Hid (Kb b w w2) := (HK.out.alloc (by omega) _).grown hgrow (by simp; omega) (fun k hk => (HOWN.out.lt k hk).1) (fun g hg => by
    obtain ⟨c, fz, hc⟩ := ownsRow_kind HOWN.out g hg
    exact ⟨c, fz, by rw [Below.heap_alloc w1 _ g (HOWN.out.lt g hg).2]; exact hc⟩)
  have HP : Hid (∀ p : Addr, p = ⟨b, 1, none⟩ → Lib.BuilderAt 78 5 b b (.pointer (some ⟨b, 0, none⟩)) (bs ++ [.int .u8 c]) (w2.setCell p v')) := fun p hp => by
    subst hp
    exact Lib.BuilderAt.put (Nat.le_refl _) hb2 (bs' := bs ++ [.int .u8 c]) (by simpa using hown') (by decide)
  obtain ⟨g, cap, hv'⟩ : ∃ g cap, v' = .slice (some ⟨g, 0, none⟩) (bs.length + 1) cap := by
    rcases hown'.2 with ⟨_, h0⟩ | ⟨g, cap, cur, hv, _⟩
    · omega
    · exact ⟨g, cap, hv⟩
  rw [hv'] at HP
  rw [hv']
  clear hown' hgrow hb2 hv' HOWN HOWN2 HBK HNE c0 c1
  go_wp2_with fail
  go_ret
  exact ⟨rfl, .inr (HP.out _ rfl), Kb.setCell HK2.out ⟨b, 1, none⟩ rfl _⟩
set_option maxHeartbeats 1000000 in
theorem WriteString_any (b : Nat) (bs : List Value) (s : ByteArray) (w : World) (h : Bld b bs w) (hlen : bs.length + s.size ≤ 140737488355328) :
    Calls Tryz.prog 52 #[.pointer (some ⟨b, 0, none⟩), .string s] w fun e w' => e = .returned (.tuple #[.int .i64 s.size, .nilIface]) ∧ Bld b (bs ++ Lib.strCells s) w' ∧ Kb b w w' := by
  obtain ⟨i0, hi0, hz0, hz1, hz2⟩ := info_parts Tryz.infoByte
  have HC := hide (copyCheck_any b bs w h)
  have HLT := hide h.lt
  clear h
  go_enter Tryz.func52, Tryz.ntmps52
  go_wp2_with fail
  refine HC.out.mono ?_
  rintro e w1 ⟨rfl, h1, hk1⟩
  obtain ⟨hB, v, hbk, hown, hne⟩ := h1
  have HBK := hide hbk
  have HK := hide hk1
  have HNE := hide hne
  have hsz := hk1.1.size
  have hlt := HLT.out
  have c0 := cell_heap hbk 0 _ rfl
  have c1 := cell_heap hbk 1 _ rfl
  have HOWN := hide hown
  clear hbk hown hk1 hne hB HC
  go_wp2_with (at_builtin; refine Lib.wpList_append_own_string _ rfl _ _ 76 9 rfl b 5 i0 Tryz.underlying76 Tryz.underlying9 hi0 hz0 hz1 hz2 _ bs.length bs rfl HOWN.out s rfl ?c3 ?c4 ?c5 ?_)
  case c3 => unfold maxLen; omega
  case c4 => omega
  case c5 => omega
  intro v' w2 hown' hgrow _
  have hb2 : w2.heap[b]? = some (.cells #[.pointer (some ⟨b, 0, none⟩), v] 78 (0, 0)) := by
    rw [hgrow.block b (by omega) (fun e => HNE.out e.symm)]
    exact HBK.out
  have d0 := cell_heap hb2 0 _ rfl
  have d1 := cell_heap hb2 1 _ rfl
  have f1 : w2.frozen? ⟨b, 1, none⟩ = false := Lib.frozen_of_heap hb2 1
  have HK2 : Hid (Kb b w w2) := HK.out.grown hgrow (by omega) (fun k hk => (HOWN.out.lt k hk).1) (ownsRow_kind HOWN.out)
  have HP : Hid (∀ p : Addr, p = ⟨b, 1, none⟩ → Lib.BuilderAt 78 5 b b (.pointer (some ⟨b, 0, none⟩)) (bs ++ Lib.strCells s) (w2.setCell p v')) := fun p hp => by
    subst hp
    exact Lib.BuilderAt.put (Nat.le_refl _) hb2 (bs' := bs ++ Lib.strCells s) (by simpa [Lib.strCells_length] using hown') (by decide)
  obtain ⟨ao, n', cap, hv'⟩ : ∃ ao n' cap, v' = .slice ao n' cap := by
    rcases hown'.2 with ⟨hv, _⟩ | ⟨g, cap, cur, hv, _⟩
    · exact ⟨_, _, _, hv⟩
    · exact ⟨_, _, _, hv⟩
  rw [hv'] at HP
  rw [hv']
  clear hown' hgrow hb2 hv' HOWN HBK HNE c0 c1
  go_wp2_with fail
  go_ret2
  exact ⟨rfl, .inr (HP.out _ rfl), Kb.setCell HK2.out ⟨b, 1, none⟩ rfl _⟩
end
section
open Go.RowKit
theorem Const_Text (c : Bool) (w : World) : Calls Tryz.prog 243 #[.bool c] w fun e w' => e = .returned (.string ⟨#[if c then 49 else 48]⟩) ∧ w' = w := by
  cases c
  · go_enter Tryz.func243, Tryz.ntmps243
    go_wp2
    go_ret
    exact ⟨rfl, rfl⟩
  · go_enter Tryz.func243, Tryz.ntmps243
    go_wp2
    go_ret
    exact ⟨rfl, rfl⟩
theorem Bit_Text (s : ByteArray) (w : World) : Calls Tryz.prog 256 #[.string s] w fun e w' => e = .returned (.string s) ∧ w' = w := by
  go_enter Tryz.func256, Tryz.ntmps256
  go_wp2
  go_ret
  exact ⟨rfl, rfl⟩
theorem cons_bytes (c : UInt8) (l : List UInt8) : (⟨#[c]⟩ ++ ⟨l.toArray⟩ : ByteArray) = ⟨(c :: l).toArray⟩ := by
  apply ByteArray.ext
  simp [ByteArray.data_append]
theorem Rise_Text (l : List UInt8) (hl : l.length ≤ 8) (w : World) : Calls Tryz.prog 257 #[.string ⟨l.toArray⟩] w fun e w' => e = .returned (.string ⟨(94 :: l).toArray⟩) ∧ w' = w := by
  go_enter Tryz.func257, Tryz.ntmps257
  go_wp2
  go_ret
  exact ⟨ret_str (cons_bytes _ _), rfl⟩
theorem Fall_Text (l : List UInt8) (hl : l.length ≤ 8) (w : World) : Calls Tryz.prog 258 #[.string ⟨l.toArray⟩] w fun e w' => e = .returned (.string ⟨(126 :: l).toArray⟩) ∧ w' = w := by
  go_enter Tryz.func258, Tryz.ntmps258
  go_wp2
  go_ret
  exact ⟨ret_str (cons_bytes _ _), rfl⟩
/-- the deferred closure of Text, where nothing panics -/
theorem Text_idle (p : Addr) (w : World) :
    CallsD Tryz.prog 83 #[.pointer (some p)] .returning w fun e u' w' => e = .returned (.tuple #[]) ∧ u' = .returning ∧ w' = w := by
  refine callsD_of_wpS Tryz.func83 rfl fun c₀ cs hu => ?_
  apply wpS_seq
  apply wpS_region
  simp [wpOpsS, go_sem, recoverD, hu, Tryz.ntmps83, Exit.thenS]
  refine wpS_cond (t := false) (by simp [Act.eval, Array.replicate]) ?_
  simp only [Bool.false_eq_true, if_false]
  refine wpS_of_wp (wp_skip ?_)
  cases c₀
  simp_all [bodyPostS, results, Tryz.results83]
set_option maxHeartbeats 1000000 in
set_option maxRecDepth 100000 in
/-- Text is what the type's own method says -/
theorem Text_of (T M : Nat) (y : Value) (t : ByteArray) (w : World) (hm : ∀ w : World, (method 445 T y "Text").run Tryz.prog w = .ok (M, y) w) (hent : ∀ (args : Array Value) (w : World), (callFunc M args).run Tryz.prog w = .ok (.enter M args) w)
    (hc : ∀ w2 : World, Below w.heap.size w w2 → Calls Tryz.prog M #[y] w2 fun e w' => e = .returned (.string t) ∧ Below w2.heap.size w2 w') :
    Calls Tryz.prog 55 #[.iface T y] w fun e w' => e = .returned (.string t) ∧ Below w.heap.size w w' := by
  have hmf : ∀ (fn : Fn) (first cap : Array Value) (w : World), (Instr.makeFunc fn first cap).run Tryz.prog w = .ok (.func fn first cap) w := fun _ _ _ _ => rfl
  have HC := hide hc
  clear hc
  go_enter_defers Tryz.func55, Tryz.ntmps55
  go_wp2_with fail
  refine (HC.out _ ((Below.refl _ _).alloc (Nat.le_refl _) _)).mono ?_
  rintro e w1 ⟨rfl, hb⟩
  have hsz : w.heap.size < w1.heap.size := by have := hb.size; simp at this; omega
  have hc0 : w1.cell? ⟨w.heap.size, 0, none⟩ = some (.string ⟨#[]⟩) := by rw [hb.cell (by simp)]; simp
  have hf0 : w1.frozen? ⟨w.heap.size, 0, none⟩ = false := by rw [hb.frozen (by simp)]; simp [go_sem]
  have HB : Hid (Below w.heap.size w w1) := ((Below.refl _ w).alloc (Nat.le_refl _) _).trans (hb.mono (by simp))
  clear hb HC
  go_wp2_with fail
  refine leaves_cons (f := 83) (args := #[.pointer (some ⟨w.heap.size, 0, none⟩)]) (by simp) (by simp [go_sem]) ?_
  refine (Text_idle ⟨w.heap.size, 0, none⟩ _).mono ?_
  rintro e u' w'' ⟨rfl, rfl, rfl⟩
  have hc2 : (w1.setCell ⟨w.heap.size, 0, none⟩ (.string t)).cell? ⟨w.heap.size, 0, none⟩ = some (.string t) := World.cell?_setCell_same w1 _ _ hc0
  have HX := HB.out.setCell (p := ⟨w.heap.size, 0, none⟩) (Nat.le_refl _) (.string t)
  simp [Leaves, settle, results, Tryz.results55, go_sem, hc2]
  exact HX
theorem entered_Const : Entered 243 := fun _ _ => by kernel_rfl
theorem entered_Bit : Entered 256 := fun _ _ => by kernel_rfl
theorem entered_Rise : Entered 257 := fun _ _ => by kernel_rfl
theorem entered_Fall : Entered 258 := fun _ _ => by kernel_rfl
/-- a leaf's text -/
theorem Text_leaf (ok : Nat → Prop) (x : Ex) (v : Value) (w : World) (h : IsEx ok w x v) (hk : x.kind ≤ 4) :
    Calls Tryz.prog 55 #[v] w fun e w' => e = .returned (.string ⟨x.text.toArray⟩) ∧ Below w.heap.size w w' := by
  obtain ⟨k, nm, l⟩ := x
  match k, h, hk with
  | 0, h, _ =>
    simp only [IsEx] at h
    obtain ⟨_, _, rfl⟩ := h
    refine Text_of _ 243 _ _ w (fun _ => by kernel_rfl) entered_Const (fun w2 _ => (Const_Text false w2).mono ?_)
    rintro e w' ⟨rfl, rfl⟩
    exact ⟨by simp [Ex.text], Below.refl _ _⟩
  | 1, h, _ =>
    simp only [IsEx] at h
    obtain ⟨_, _, rfl⟩ := h
    refine Text_of _ 243 _ _ w (fun _ => by kernel_rfl) entered_Const (fun w2 _ => (Const_Text true w2).mono ?_)
    rintro e w' ⟨rfl, rfl⟩
    exact ⟨by simp [Ex.text], Below.refl _ _⟩
  | 2, h, _ =>
    simp only [IsEx] at h
    obtain ⟨_, _, rfl⟩ := h
    refine Text_of _ 256 _ _ w (fun _ => by kernel_rfl) entered_Bit (fun w2 _ => (Bit_Text _ w2).mono ?_)
    rintro e w' ⟨rfl, rfl⟩
    exact ⟨by simp [Ex.text], Below.refl _ _⟩
  | 3, h, _ =>
    simp only [IsEx] at h
    obtain ⟨_, hl, rfl⟩ := h
    refine Text_of _ 257 _ _ w (fun _ => by kernel_rfl) entered_Rise (fun w2 _ => (Rise_Text _ hl w2).mono ?_)
    rintro e w' ⟨rfl, rfl⟩
    exact ⟨by simp [Ex.text], Below.refl _ _⟩
  | 4, h, _ =>
    simp only [IsEx] at h
    obtain ⟨_, hl, rfl⟩ := h
    refine Text_of _ 258 _ _ w (fun _ => by kernel_rfl) entered_Fall (fun w2 _ => (Fall_Text _ hl w2).mono ?_)
    rintro e w' ⟨rfl, rfl⟩
    exact ⟨by simp [Ex.text], Below.refl _ _⟩
/-- is an expression's value an And? -/
theorem isAnd_any (ok : Nat → Prop) (x : Ex) (v : Value) (w0 w : World) (h : IsEx ok w0 x v) : Calls Tryz.prog 183 #[v] w fun e w' => e = .returned (.bool (x.kind == 6)) ∧ w' = w := by
  obtain ⟨k, nm, l⟩ := x
  match k, h with
  | 0, h =>
    simp only [IsEx] at h
    obtain ⟨_, _, rfl⟩ := h
    go_enter Tryz.func183, Tryz.ntmps183
    go_wp2
    go_ret
    exact ⟨rfl, rfl⟩
  | 1, h =>
    simp only [IsEx] at h
    obtain ⟨_, _, rfl⟩ := h
    go_enter Tryz.func183, Tryz.ntmps183
    go_wp2
    go_ret
    exact ⟨rfl, rfl⟩
  | 2, h =>
    simp only [IsEx] at h
    obtain ⟨_, _, rfl⟩ := h
    go_enter Tryz.func183, Tryz.ntmps183
    go_wp2
    go_ret
    exact ⟨rfl, rfl⟩
  | 3, h =>
    simp only [IsEx] at h
    obtain ⟨_, _, rfl⟩ := h
    go_enter Tryz.func183, Tryz.ntmps183
    go_wp2
    go_ret
    exact ⟨rfl, rfl⟩
  | 4, h =>
    simp only [IsEx] at h
    obtain ⟨_, _, rfl⟩ := h
    go_enter Tryz.func183, Tryz.ntmps183
    go_wp2
    go_ret
    exact ⟨rfl, rfl⟩
  | 5, h =>
    simp only [IsEx] at h
    obtain ⟨_, _, u, rfl, _⟩ := h
    go_enter Tryz.func183, Tryz.ntmps183
    go_wp2
    go_ret
    exact ⟨rfl, rfl⟩
  | 6, h =>
    simp only [IsEx] at h
    obtain ⟨_, _, _, g, cap, rfl, _⟩ := h
    go_enter Tryz.func183, Tryz.ntmps183
    go_wp2
    go_ret
    exact ⟨rfl, rfl⟩
  | 7, h =>
    simp only [IsEx] at h
    obtain ⟨_, _, _, g, cap, rfl, _⟩ := h
    go_enter Tryz.func183, Tryz.ntmps183
    go_wp2
    go_ret
    exact ⟨rfl, rfl⟩
  | n + 8, h => simp only [IsEx] at h
theorem isOr_any (ok : Nat → Prop) (x : Ex) (v : Value) (w0 w : World) (h : IsEx ok w0 x v) : Calls Tryz.prog 184 #[v] w fun e w' => e = .returned (.bool (x.kind == 7)) ∧ w' = w := by
  obtain ⟨k, nm, l⟩ := x
  match k, h with
  | 0, h =>
    simp only [IsEx] at h
    obtain ⟨_, _, rfl⟩ := h
    go_enter Tryz.func184, Tryz.ntmps184
    go_wp2
    go_ret
    exact ⟨rfl, rfl⟩
  | 1, h =>
    simp only [IsEx] at h
    obtain ⟨_, _, rfl⟩ := h
    go_enter Tryz.func184, Tryz.ntmps184
    go_wp2
    go_ret
    exact ⟨rfl, rfl⟩
  | 2, h =>
    simp only [IsEx] at h
    obtain ⟨_, _, rfl⟩ := h
    go_enter Tryz.func184, Tryz.ntmps184
    go_wp2
    go_ret
    exact ⟨rfl, rfl⟩
  | 3, h =>
    simp only [IsEx] at h
    obtain ⟨_, _, rfl⟩ := h
    go_enter Tryz.func184, Tryz.ntmps184
    go_wp2
    go_ret
    exact ⟨rfl, rfl⟩
  | 4, h =>
    simp only [IsEx] at h
    obtain ⟨_, _, rfl⟩ := h
    go_enter Tryz.func184, Tryz.ntmps184
    go_wp2
    go_ret
    exact ⟨rfl, rfl⟩
  | 5, h =>
    simp only [IsEx] at h
    obtain ⟨_, _, u, rfl, _⟩ := h
    go_enter Tryz.func184, Tryz.ntmps184
    go_wp2
    go_ret
    exact ⟨rfl, rfl⟩
  | 6, h =>
    simp only [IsEx] at h
    obtain ⟨_, _, _, g, cap, rfl, _⟩ := h
    go_enter Tryz.func184, Tryz.ntmps184
    go_wp2
    go_ret
    exact ⟨rfl, rfl⟩
  | 7, h =>
    simp only [IsEx] at h
    obtain ⟨_, _, _, g, cap, rfl, _⟩ := h
    go_enter Tryz.func184, Tryz.ntmps184
    go_wp2
    go_ret
    exact ⟨rfl, rfl⟩
  | n + 8, h => simp only [IsEx] at h
theorem isList_any (ok : Nat → Prop) (x : Ex) (v : Value) (w0 w : World) (h : IsEx ok w0 x v) : Calls Tryz.prog 249 #[v] w fun e w' => e = .returned (.bool (decide (6 ≤ x.kind))) ∧ w' = w := by
  have H1 := hide (fun w => isAnd_any ok x v w0 w h)
  have H2 := hide (fun w => isOr_any ok x v w0 w h)
  have H7 := hide (IsEx.le7 x v h)
  clear h
  generalize x.kind = k at *
  cases hk : (k == 6) with
  | true =>
    rw [hk] at H1
    have e1 : k = 6 := by simpa using hk
    clear hk
    go_enter Tryz.func249, Tryz.ntmps249
    go_wp2_with (first | (go_at_call 183; refine (H1.out _).mono ?_; rintro e w' ⟨rfl, rfl⟩) | (go_at_call 184; refine (H2.out _).mono ?_; rintro e w' ⟨rfl, rfl⟩))
    go_ret
    exact ⟨ret_bool (by rw [e1]; rfl), rfl⟩
  | false =>
    rw [hk] at H1
    have e1 : ¬ k = 6 := by simpa using hk
    clear hk
    go_enter Tryz.func249, Tryz.ntmps249
    go_wp2_with (first | (go_at_call 183; refine (H1.out _).mono ?_; rintro e w' ⟨rfl, rfl⟩) | (go_at_call 184; refine (H2.out _).mono ?_; rintro e w' ⟨rfl, rfl⟩))
    go_ret
    refine ⟨ret_bool ?_, rfl⟩
    have h7 := H7.out
    by_cases e2 : k = 7
    · rw [e2]; rfl
    · have : ¬ 6 ≤ k := by omega
      simp [e2, this]
end
end Go.Proofs.YtjfgfcajmkbmeaaGreatDoor
