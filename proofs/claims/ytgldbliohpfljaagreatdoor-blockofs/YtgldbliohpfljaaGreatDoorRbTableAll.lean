/-
  What a state of the document's tells of a program's names, in their order: package scan's own rows. What stands while the document's scans are played: its state in a block of its own. The walk of the document's table of a machine.
-/
import Derived.Test.YtgldbliohpfljaaGreatDoorScTwoAll
import Derived.Test.YtgldbliohpfljaaGreatDoorRfStep
import Derived.Test.YtgldbliohpfljaaGreatDoorRfTells
import Derived.Test.YtgldbliohpfljaaGreatDoorNaEdgesAll
import Derived.Test.YtgldbliohpfljaaGreatDoorRlEdgesAll
import Derived.Test.YtgldbliohpfljaaGreatDoorRgBaseAll
import Derived.Test.YtgldbliohpfljaaGreatDoorRfMachOfAll
import Derived.Deep.RegionHeld3
namespace Go.Proofs.YtgldbliohpfljaaGreatDoor
section
namespace Rf
theorem tells_is (p : Ld.Prg) (hck : Ld.check p = none) (l : List Bool) (hl : l.length = p.names.length) : p.names.map (fun n => Sc.told p.names l n.name) = l := by
  refine List.ext_getElem (by simp [hl]) fun k h1 h2 => ?_
  have hk : k < p.names.length := by simpa using h1
  have hn := number_self p hck k hk
  rw [List.getElem_map, told_at p.names l _ (by omega), hn, Int.toNat_natCast]
  simp [h2]
theorem tells_ct (p : Ld.Prg) (hck : Ld.check p = none) (l : List Int) (hl : l.length = p.names.length) : p.names.map (fun n => toldC p.names l n.name) = l := by
  refine List.ext_getElem (by simp [hl]) fun k h1 h2 => ?_
  have hk : k < p.names.length := by simpa using h1
  have hn := number_self p hck k hk
  rw [List.getElem_map, toldC_at p.names l _ (by omega), hn, Int.toNat_natCast]
  simp [h2]
/-- after some scans -/
def after (p : Ld.Prg) (ins : List (List Bool)) : St := ins.foldl (step p) start
theorem after_succ (p : Ld.Prg) (ins : List (List Bool)) (k : Nat) (h : k < ins.length) : after p (ins.take (k + 1)) = step p (after p (ins.take k)) ins[k] := by
  unfold after
  rw [List.take_succ_eq_append_getElem h, List.foldl_append]
  rfl
/-- what the document's machine comes to is what package scan's does -/
theorem of_after (p : Ld.Prg) (hck : Ld.check p = none) : ∀ (ins : List (List Bool)), (∀ i, i ∈ ins → i.length = (Ld.kindL p.names 1).length) → of p.names (Sc.after p ins) = after p ins := by
  have key : ∀ (ins : List (List Bool)) (s : Sc.St), Sc.Bd p s → (∀ i, i ∈ ins → i.length = (Ld.kindL p.names 1).length) → of p.names (ins.foldl (Sc.step p) s) = ins.foldl (step p) (of p.names s) := by
    intro ins
    induction ins with
    | nil => intro s _ _; rfl
    | cons a r ih =>
      intro s hb hl
      rw [List.foldl_cons, List.foldl_cons, ih _ (Sc.step_bd p hck s a hb (hl a (by simp))).1 (fun i hi => hl i (by simp [hi])), of_step p hck s a hb]
  intro ins hl
  have h := key ins _ (Sc.start_bd p hck) hl
  rw [of_start] at h
  exact h
end Rf
end
section
namespace Rf
open Go.RowKit
/-- block b holds a state of the document's, made since W0 -/
def SV (b n : Nat) (W0 : World) (st : St) (W : World) : Prop := ∃ m1 m2, W.heap[b]? = some (.cells #[.map (some m1), .map (some m2)] 123 (0, 0)) ∧ StIs W (.agg #[.map (some m1), .map (some m2)]) n st ∧ Below b W0 W
theorem stored2 {W : World} {b : Nat} {x0 y0 : Value} {t : TypeId} (h : W.heap[b]? = some (.cells #[x0, y0] t (0, 0))) (x y : Value) :
    ((W.setCell ⟨b, 0, none⟩ x).setCell ⟨b, 1, none⟩ y).heap[b]? = some (.cells #[x, y] t (0, 0)) ∧ (∀ k, k ≠ b → ((W.setCell ⟨b, 0, none⟩ x).setCell ⟨b, 1, none⟩ y).heap[k]? = W.heap[k]?) ∧ Below b W ((W.setCell ⟨b, 0, none⟩ x).setCell ⟨b, 1, none⟩ y) :=
  ⟨by simp [World.setCell, Array.getElem?_modify, h], fun k hk => by
    have hne : ¬ b = k := fun e => hk e.symm
    simp [World.setCell, Array.getElem?_modify, hne], ((Below.refl b W).setCell (p := ⟨b, 0, none⟩) (Nat.le_refl _) _).setCell (p := ⟨b, 1, none⟩) (Nat.le_refl _) _⟩
theorem StIs.kept {W W' : World} {m1 m2 n : Nat} {st : St} (h : StIs W (.agg #[.map (some m1), .map (some m2)]) n st) (h1 : W'.heap[m1]? = W.heap[m1]?) (h2 : W'.heap[m2]? = W.heap[m2]?) : StIs W' (.agg #[.map (some m1), .map (some m2)]) n st := by
  obtain ⟨b1, b2, e, h3, h4, h5⟩ := h
  have e1 : b1 = m1 ∧ b2 = m2 := by
    simp only [Value.agg.injEq, List.toArray_eq_iff, List.cons.injEq, Value.map.injEq, Option.some.injEq, and_true] at e
    exact ⟨e.1.symm, e.2.symm⟩
  obtain ⟨rfl, rfl⟩ := e1
  exact ⟨b1, b2, rfl, h3.kept h1, h4.kept h2, h5⟩
/-- a new state is stored -/
theorem SV.put {b n : Nat} {W0 W : World} {st2 : St} {x0 y0 : Value} {m1 m2 : Nat} (hV : W.heap[b]? = some (.cells #[x0, y0] 123 (0, 0))) (h0 : Below b W0 W) (hs : StIs W (.agg #[.map (some m1), .map (some m2)]) n st2) :
    SV b n W0 st2 ((W.setCell ⟨b, 0, none⟩ (.map (some m1))).setCell ⟨b, 1, none⟩ (.map (some m2))) := by
  obtain ⟨q1, q2, q3⟩ := stored2 hV (.map (some m1)) (.map (some m2))
  refine ⟨m1, m2, q1, ?_, h0.trans q3⟩
  obtain ⟨b1, b2, e, h3, h4, h5⟩ := id hs
  have e1 : b1 = m1 ∧ b2 = m2 := by
    simp only [Value.agg.injEq, List.toArray_eq_iff, List.cons.injEq, Value.map.injEq, Option.some.injEq, and_true] at e
    exact ⟨e.1.symm, e.2.symm⟩
  obtain ⟨rfl, rfl⟩ := e1
  obtain ⟨es1, c1, o1⟩ := h3.obj
  obtain ⟨es2, c2, o2⟩ := h4.obj
  refine hs.kept (q2 _ (fun e => ?_)) (q2 _ (fun e => ?_))
  · subst e; rw [hV] at o1; cases o1
  · subst e; rw [hV] at o2; cases o2
theorem SV.below {b n : Nat} {W0 W W' : World} {st : St} (h : SV b n W0 st W) (hlt : b < W.heap.size) (hb : Below W.heap.size W W') : SV b n W0 st W' := by
  obtain ⟨m1, m2, h1, h2, h3⟩ := h
  exact ⟨m1, m2, (hb.block _ hlt).trans h1, h2.below hb, h3.trans (hb.mono (by omega))⟩
theorem SV.lt {b n : Nat} {W0 W : World} {st : St} (h : SV b n W0 st W) : b < W.heap.size := by
  obtain ⟨m1, m2, h1, _⟩ := h
  exact (Array.getElem?_eq_some_iff.1 h1).1
/-- at first -/
theorem SV.start {w : World} {m1 m2 : Nat} (h1 : w.ownsMap Tryz.prog 9 (plainElem Tryz.prog 4) m1 0 (.map [] : DataW Unit)) (h2 : w.ownsMap Tryz.prog 9 (plainElem Tryz.prog 3) m2 0 (.map [] : DataW Unit)) :
    SV w.heap.size 0 w start (w.alloc (.cells #[.map (some m1), .map (some m2)] 123)) := by
  have hb : Below w.heap.size w (w.alloc (.cells #[.map (some m1), .map (some m2)] 123)) := (Below.refl _ _).alloc (Nat.le_refl _) _
  exact ⟨m1, m2, heap_alloc_new _ _, ⟨m1, m2, rfl, ⟨.map [], om_below h1 hb, fun _ => rfl⟩, ⟨.map [], om_below h2 hb, fun _ => rfl⟩, fun s => by show _ ≤ (0 : Int) ∧ (0 : Int) ≤ _; omega⟩, hb⟩
theorem ints_of {q : Nat} {W : World} {u : Value} {b : List Int} (h : W.ownsRow q 3 1 u b.length (b.map iV)) (hl : ∀ c, c ∈ b → I64 c) : Ints W u b := by
  rcases h.2 with ⟨rfl, h0⟩ | ⟨g, cap, cur, rfl, _, hcur, hcap, _, _, htk⟩
  · exact .inl ⟨List.length_eq_zero_iff.1 h0, none, 0, rfl⟩
  · refine .inr ⟨g, 0, cap, rfl, hcap, fun i x hx => ?_⟩
    exact ⟨by rw [Nat.zero_add]; exact row_cell hcur htk (by rw [List.getElem?_map, hx]; rfl), hl x (List.mem_of_getElem? hx)⟩
theorem ints_st {W : World} {gi gc : Nat} {s : Sc.St} (h : StAt W gi gc s) (hl : ∀ c, c ∈ s.ct → I64 c) : Ints W (slV gc s.ct.length) s.ct := by
  by_cases h0 : s.ct = []
  · rw [h0]; exact .inl ⟨rfl, _, _, rfl⟩
  · refine .inr ⟨gc, 0, _, rfl, Nat.le_refl _, fun i x hx => ?_⟩
    obtain ⟨hi, hx2⟩ := List.getElem?_eq_some_iff.1 hx
    refine ⟨?_, hl x (List.mem_of_getElem? hx)⟩
    rw [Nat.zero_add]
    have := h.cellC i hi
    rw [this, List.getD_eq_getElem?_getD, List.getElem?_eq_getElem hi, hx2]
    rfl
/-- n cells alike -/
def cellsN (n : Nat) (v : Value) : Array Value := ⟨List.replicate n v⟩
theorem makeBN (n : Nat) (hn : n ≤ 1000000) (w : World) : (Instr.makeSlice 51 (.int .i64 (n : Int)) (.int .i64 (n : Int))).run Tryz.prog w = .ok (.slice (some ⟨w.heap.size, 0, none⟩) n n) (w.alloc (.cells (cellsN n (.bool false)) 4)) := makeBs n hn w
theorem makeIN (n : Nat) (hn : n ≤ 1000000) (w : World) : (Instr.makeSlice 36 (.int .i64 (n : Int)) (.int .i64 (n : Int))).run Tryz.prog w = .ok (.slice (some ⟨w.heap.size, 0, none⟩) n n) (w.alloc (.cells (cellsN n (.int .i64 0)) 3)) := makeIs n hn w
theorem makeBBN (n : Nat) (hn : n ≤ 1000000) (w : World) : (Instr.makeSlice 31 (.int .i64 (n : Int)) (.int .i64 (n : Int))).run Tryz.prog w = .ok (.slice (some ⟨w.heap.size, 0, none⟩) n n) (w.alloc (.cells (cellsN n (.slice none 0 0)) 51)) :=
  make_one Tryz.underlying31 Tryz.infoBools rfl (by decide) n hn w
theorem makeBB1001 (w : World) : (Instr.makeSlice 31 (.int .i64 1001) (.int .i64 1001)).run Tryz.prog w = .ok (.slice (some ⟨w.heap.size, 0, none⟩) 1001 1001) (w.alloc (.cells (cellsN 1001 (.slice none 0 0)) 51)) := makeBBN 1001 (by decide) w
/-- one row of inputs -/
theorem insAt_one {W : World} {g b k : Nat} (h1 : W.heap[g]? = some (.cells #[.slice (some ⟨b, 0, none⟩) k k] 51 (0, 0))) (h2 : W.heap[b]? = some (.cells (cellsN k (.bool false)) 4 (0, 0))) (hk : k ≤ 1000000) : InsAt W (.slice (some ⟨g, 0, none⟩) 1 1) [List.replicate k false] := by
  refine .inr ⟨g, 1, rfl, Nat.le_refl _, fun i l hl => ?_⟩
  cases i with
  | succ i => simp at hl
  | zero =>
    simp only [List.getElem?_cons_zero, Option.some.injEq] at hl
    subst hl
    refine ⟨.slice (some ⟨b, 0, none⟩) k k, by rw [Lib.cell_of_heap h1]; rfl, some ⟨b, 0, none⟩, k, by rw [List.length_replicate], by rw [List.length_replicate]; exact hk, fun j x hj => ⟨b, rfl, ?_⟩⟩
    have hjk : j < k := by have := (List.getElem?_eq_some_iff.1 hj).1; rwa [List.length_replicate] at this
    rw [List.getElem?_replicate, if_pos hjk] at hj
    rw [Lib.cell_of_heap h2]
    obtain rfl := Option.some.inj hj
    simp [cellsN, hjk]
theorem below_al (w : World) (o : Obj) : Below w.heap.size w (w.alloc o) := (Below.refl _ _).alloc (Nat.le_refl _) _
theorem lt_some {W : World} {k : Nat} {o : Obj} (h : W.heap[k]? = some o) : k < W.heap.size := (Array.getElem?_eq_some_iff.1 h).1
theorem at1 {w W : World} {o : Obj} (h : Below (w.alloc o).heap.size (w.alloc o) W) : W.heap[w.heap.size]? = some o := (h.block _ (by simp)).trans (heap_alloc_new _ _)
theorem at2 {w W : World} {o1 o2 : Obj} (h : Below ((w.alloc o1).alloc o2).heap.size ((w.alloc o1).alloc o2) W) : W.heap[w.heap.size]? = some o1 ∧ W.heap[w.heap.size + 1]? = some o2 := by
  have e := at1 h
  rw [World.size_alloc] at e
  exact ⟨at1 (then_ (below_al _ _) h), e⟩
theorem at3 {w W : World} {o1 o2 o3 : Obj} (h : Below (((w.alloc o1).alloc o2).alloc o3).heap.size (((w.alloc o1).alloc o2).alloc o3) W) : (W.heap[w.heap.size]? = some o1 ∧ W.heap[w.heap.size + 1]? = some o2) ∧ W.heap[w.heap.size + 1 + 1]? = some o3 := by
  have e := at1 h
  rw [World.size_alloc, World.size_alloc] at e
  exact ⟨at2 (then_ (below_al _ _) h), e⟩
theorem at4 {w W : World} {o1 o2 o3 o4 : Obj} (h : Below ((((w.alloc o1).alloc o2).alloc o3).alloc o4).heap.size ((((w.alloc o1).alloc o2).alloc o3).alloc o4) W) : ((W.heap[w.heap.size]? = some o1 ∧ W.heap[w.heap.size + 1]? = some o2) ∧ W.heap[w.heap.size + 1 + 1]? = some o3) ∧ W.heap[w.heap.size + 1 + 1 + 1]? = some o4 := by
  have e := at1 h
  rw [World.size_alloc, World.size_alloc, World.size_alloc] at e
  exact ⟨at3 (then_ (below_al _ _) h), e⟩
theorem un_drew {w W : World} (h : Below w.drew.heap.size w.drew W) : Below w.heap.size w W := then_ (b := w.drew) ⟨rfl, rfl, rfl, Nat.le_refl _, fun _ _ => rfl⟩ h
theorem at1d {w W : World} {o : Obj} (h : Below (w.alloc o).drew.heap.size (w.alloc o).drew W) : W.heap[w.heap.size]? = some o := at1 (un_drew h)
theorem at2d {w W : World} {o1 o2 : Obj} (h : Below ((w.alloc o1).alloc o2).drew.heap.size ((w.alloc o1).alloc o2).drew W) : W.heap[w.heap.size]? = some o1 ∧ W.heap[w.heap.size + 1]? = some o2 := at2 (un_drew h)
theorem at3d {w W : World} {o1 o2 o3 : Obj} (h : Below (((w.alloc o1).alloc o2).alloc o3).drew.heap.size (((w.alloc o1).alloc o2).alloc o3).drew W) : (W.heap[w.heap.size]? = some o1 ∧ W.heap[w.heap.size + 1]? = some o2) ∧ W.heap[w.heap.size + 1 + 1]? = some o3 := at3 (un_drew h)
theorem at4d {w W : World} {o1 o2 o3 o4 : Obj} (h : Below ((((w.alloc o1).alloc o2).alloc o3).alloc o4).drew.heap.size ((((w.alloc o1).alloc o2).alloc o3).alloc o4).drew W) : ((W.heap[w.heap.size]? = some o1 ∧ W.heap[w.heap.size + 1]? = some o2) ∧ W.heap[w.heap.size + 1 + 1]? = some o3) ∧ W.heap[w.heap.size + 1 + 1 + 1]? = some o4 := at4 (un_drew h)
theorem bools_st {W : World} {gi gc : Nat} {s : Sc.St} (h : StAt W gi gc s) (hl : s.is.length ≤ 1000000) : Bools W (slV gi s.is.length) s.is := ⟨some ⟨gi, 0, none⟩, s.is.length, rfl, hl, fun i b hb => ⟨gi, rfl, by
  obtain ⟨hi, hb2⟩ := List.getElem?_eq_some_iff.1 hb
  rw [h.cellI i hi, List.getD_eq_getElem?_getD, List.getElem?_eq_getElem hi, hb2]
  rfl⟩⟩
theorem isV_of (p : Ld.Prg) (hck : Ld.check p = none) (s : Sc.St) (hl : s.is.length = p.names.length) : isV (of p.names s) p.names = s.is.map boolV := by
  have h := tells_is p hck s.is hl
  have e : s.is.map boolV = (p.names.map (fun n => Sc.told p.names s.is n.name)).map boolV := by rw [h]
  rw [e, List.map_map]
  rfl
theorem ctV_of (p : Ld.Prg) (hck : Ld.check p = none) (s : Sc.St) (hl : s.ct.length = p.names.length) : ctV (of p.names s) p.names = s.ct.map iV := by
  have h := tells_ct p hck s.ct hl
  have e : s.ct.map iV = (p.names.map (fun n => toldC p.names s.ct n.name)).map iV := by rw [h]
  rw [e, List.map_map]
  rfl
end Rf
end
section
namespace Rf
open Go.RowKit
/-- what is told behind a scan out of each state at each input -/
def tellL (p : Ld.Prg) (ks : List Nat) (I s : Nat) : List Nat := (List.range I).map fun i => Bo.tellN (Mc.after1 p (Ld.kindL p.names 1).length s i).is ks
theorem tellL_len (p : Ld.Prg) (ks : List Nat) (I s : Nat) : (tellL p ks I s).length = I := by simp [tellL]
def tellsL (p : Ld.Prg) (ks : List Nat) (S I : Nat) : List (List Nat) := (List.range S).map (tellL p ks I)
theorem tellsL_len (p : Ld.Prg) (ks : List Nat) (S I : Nat) : (tellsL p ks S I).length = S := by simp [tellsL]
theorem asI_at (l : List Nat) (k : Nat) (h : k < l.length) : (asI l)[k]? = some ((l[k] : Nat) : Int) := by unfold asI; rw [List.getElem?_map, List.getElem?_eq_getElem h]; rfl
/-- the table while it is made: blocks ahead of it stand -/
def TT (w0 : World) (bt : Nat) (nx tv : Value) (W : World) : Prop := Below bt w0 W ∧ W.heap[bt]? = some (.cells #[nx, tv] 71 (0, 0))
theorem TT.lt {w0 W : World} {bt : Nat} {nx tv : Value} (h : TT w0 bt nx tv W) : bt < W.heap.size := (Array.getElem?_eq_some_iff.1 h.2).1
theorem TT.below {w0 W W' : World} {bt : Nat} {nx tv : Value} (h : TT w0 bt nx tv W) (hb : Below W.heap.size W W') : TT w0 bt nx tv W' :=
  ⟨h.1.trans (hb.mono (by have := h.lt; omega)), (hb.block _ h.lt).trans h.2⟩
theorem TT.set {w0 W : World} {bt : Nat} {nx tv : Value} (h : TT w0 bt nx tv W) (x : Value) : TT w0 bt nx x (W.setCell ⟨bt, 1, none⟩ x) := by
  refine ⟨h.1.setCell (p := ⟨bt, 1, none⟩) (Nat.le_refl _) _, ?_⟩
  have h2 : W.heap[bt]? = _ := h.2
  simp only [World.setCell, Array.getElem?_modify, h2, if_true, Option.map_some]
  rfl
theorem TT.grown {w0 W W1 W' : World} {bt q : Nat} {nx tv : Value} {ob : Option Nat} (h : TT w0 bt nx tv W) (hb : Below W.heap.size W W1) (hg : W1.grownBy W' ob) (hq : bt < q) (ho : ∀ g, ob = some g → q ≤ g) : TT w0 bt nx tv W' := by
  have h1 := h.below hb
  have hlt := h1.lt
  refine ⟨h1.1.trans ⟨hg.os, hg.tape, hg.output, hg.size, fun k hk => hg.block k (by omega) (fun e => by have := ho k e.symm; omega)⟩, ?_⟩
  exact (hg.block bt hlt (fun e => by have := ho bt e.symm; omega)).trans h1.2
set_option maxHeartbeats 16000000 in
set_option maxRecDepth 100000 in
theorem RTable_any (bx : Nat) (p : Ld.Prg) (nv rv nx av : Value) (S I : Nat) (ks : List Nat) (w : World) (h : RMachAt w bx nv rv S I nx) (hp : IsRPrg w p (.agg #[nv, rv])) (hL : RLaid w) (hck : Ld.check p = none) (hS : S ≤ 4096) (hI : I ≤ 64) (hnx : ∃ a n c, nx = .slice a n c) (ha : Ints w av (asI ks)) (hk12 : ks.length ≤ 12) (hks : ∀ n, n ∈ ks → n < p.names.length) :
    Calls Tryz.prog 24 #[.pointer (some ⟨bx, 0, none⟩), av] w fun e w' => Below w.heap.size w w' ∧ ∃ tv us q, e = .returned (.agg #[nx, tv]) ∧ IntR q w' tv us (tellsL p ks S I) := by
  obtain ⟨i0, hi0, hz0, hz1, hz2⟩ := info_parts Tryz.infoInt
  obtain ⟨i1, hi1, hy0, hy1, hy2⟩ := info_parts Tryz.infoIntsR
  have HCK := hide hck
  have HL := hide hL
  have HRP := hide hp
  have HMX := hide h
  have HAV := hide ha
  have HKS := hide hks
  have hbx := h.lt
  have h12 : p.names.length ≤ 12 := (Ld.check_names p hck).1
  obtain ⟨nv', rv', he, hn, hr⟩ := hp
  simp only [Value.agg.injEq, List.toArray_eq_iff, List.cons.injEq, and_true] at he
  obtain ⟨rfl, rfl⟩ := he
  have HNA := hide hn
  obtain ⟨na, nc, rfl, _⟩ := hn.slice
  obtain ⟨ra, rc, rfl, _⟩ := hr.slice
  obtain ⟨xa, xn, xc, rfl⟩ := hnx
  obtain ⟨aa, ac, rfl⟩ := ha.slice
  have hkl : (asI ks).length = ks.length := by simp [asI]
  rw [hkl] at HAV ⊢
  obtain ⟨n, hnn⟩ : ∃ n, n = p.names.length := ⟨_, rfl⟩
  obtain ⟨m, hmm⟩ : ∃ m, m = p.rungs.length := ⟨_, rfl⟩
  obtain ⟨kn, hkn⟩ : ∃ kn, kn = ks.length := ⟨_, rfl⟩
  obtain ⟨q, hqq⟩ : ∃ q, q = (Ld.kindL p.names 1).length := ⟨_, rfl⟩
  have HN := hide hnn
  have HQ := hide hqq
  have HKN := hide hkn
  rw [← hnn] at HRP HNA h12 HMX h
  rw [← hmm] at HRP HMX h
  rw [← hkn] at HAV hk12 ⊢
  have HRC := hide (fun W (hW : Below w.heap.size w W) => (HMX.out.below hW).cells)
  obtain ⟨wA, hwA⟩ : ∃ wA, wA = (w.alloc (.cells #[.slice none 0 0, .slice none 0 0] 71)).alloc (.cells #[.slice xa xn xc, .slice none 0 0] 71) := ⟨_, rfl⟩
  have hsA : wA.heap.size = w.heap.size + 1 + 1 := by rw [hwA]; simp
  have hbA : Below w.heap.size w wA := by rw [hwA]; exact ((Below.refl _ _).alloc (Nat.le_refl _) _).alloc (by simp) _
  have hA0 : wA.heap[w.heap.size]? = some (.cells #[.slice none 0 0, .slice none 0 0] 71 (0, 0)) := by rw [hwA]; exact (Below.heap_alloc _ _ _ (by simp)).trans (heap_alloc_new _ _)
  have hA1 : wA.heap[w.heap.size + 1]? = some (.cells #[.slice xa xn xc, .slice none 0 0] 71 (0, 0)) := by
    have := heap_alloc_new (w.alloc (.cells #[.slice none 0 0, .slice none 0 0] 71)) (.cells #[.slice xa xn xc, .slice none 0 0] 71)
    rw [World.size_alloc] at this
    rw [hwA]
    exact this
  have HX : Hid (∀ W, Below (w.heap.size + 1) wA W → W.heap[w.heap.size]? = some (.cells #[.slice none 0 0, .slice none 0 0] 71 (0, 0)) ∧ Below w.heap.size w W) := fun W hW =>
    ⟨(hW.block w.heap.size (by omega)).trans hA0, hbA.trans (hW.mono (by omega))⟩
  have HT0 : Hid (TT wA (w.heap.size + 1) (.slice xa xn xc) (.slice none 0 0) wA) := ⟨Below.refl _ _, hA1⟩
  have HSA' := hide hsA
  have HBAA := hide hbA
  obtain ⟨⟨c0, c1⟩, ⟨c2, c3⟩, c4⟩ := h.cells
  clear hn hr hnn hmm hkn hqq hA0 hA1 hck hL h hks ha hkl
  go_enter Tryz.func24, Tryz.ntmps24
  go_wp2_with fail
  rw [← hwA]
  clear hwA c0 c1 c2 c3 c4
  go_loopw [23] (fun i wr => ∃ (s : Nat) (ta : Option Addr) (tc : Nat) (us : List Value), s ≤ S ∧ i = .int .i64 (s : Int) ∧ Hid (TT wA (w.heap.size + 1) (.slice xa xn xc) (.slice ta s tc) wr) ∧ Hid (IntR wA.heap.size wr (.slice ta s tc) us ((tellsL p ks S I).take s))) (fun i _ => S - (intOf i).toNat)
  case atStart => exact ⟨0, none, 0, [], Nat.zero_le _, rfl, HT0.out, IntR.nil _ _⟩
  case round =>
    obtain ⟨s, ta, tc, us, hs, rfl, HTs, HR⟩ := hrel
    obtain ⟨wo, hwo⟩ : ∃ wo, wo = wr := ⟨_, rfl⟩
    subst hwo
    by_cases hlt : s < S
    · have hsi : (s : Int) < (S : Int) := by omega
      obtain ⟨_, ⟨_, c3⟩, _⟩ := HRC.out wo (HX.out wo HTs.out.1).2
      have hzo : wA.heap.size ≤ wo.heap.size := by have := HTs.out.1.size; exact this
      go_wp2_with fail
      go_loopw [30, 7] (fun i l wr => ∃ k : Nat, k ≤ I ∧ i = .int .i64 (k : Int) ∧ (∃ a c, l = .slice a k c) ∧ Hid (wr.ownsRow wo.heap.size 3 1 l k (((tellL p ks I s).take k).map intV)) ∧ Hid (Below wo.heap.size wo wr)) (fun i _ _ => I - (intOf i).toNat)
      case atStart => exact ⟨0, Nat.zero_le _, rfl, ⟨_, _, rfl⟩, World.ownsRow_nil _ _ _ _, Below.refl _ _⟩
      case round =>
        obtain ⟨k2, hk2, rfl, ⟨la, lc, rfl⟩, HO, HB⟩ := hrel
        obtain ⟨wi, hwi⟩ : ∃ wi, wi = wr := ⟨_, rfl⟩
        subst hwi
        have hzr : wo.heap.size ≤ wi.heap.size := HB.out.size
        by_cases hlt2 : k2 < I
        · have HDR : Hid (Below wi.heap.size wi wi.drew) := ⟨rfl, rfl, rfl, Nat.le_refl _, fun _ _ => rfl⟩
          have HXW : Hid (∀ W, Below wi.heap.size wi W → Below w.heap.size w W ∧ Below wo.heap.size wo W) := fun W hW => by
            have h1 := then_ HB.out hW
            exact ⟨(HX.out W (HTs.out.below h1).1).2, h1⟩
          have HKEEP : Hid (∀ W, Below wi.heap.size wi W → W.cell? ⟨bx, 0, none⟩ = some (.slice na n nc) ∧ W.cell? ⟨bx, 1, none⟩ = some (.slice ra m rc)) := fun W hW => (HRC.out W (HXW.out W hW).1).1
          have HSA : Hid (∀ W, Below wi.heap.size wi W → Calls Tryz.prog 45 #[.pointer (some ⟨bx, 0, none⟩), .int .i64 (s : Int)] W fun e w' => Below W.heap.size W w' ∧ ∃ v', e = .returned v' ∧ StIs w' v' 12 (state p s)) := fun W hW =>
            RState_any _ p _ _ _ S I s W (HMX.out.below (HXW.out W hW).1) (HRP.out.below (HXW.out W hW).1) (HL.out.below (HXW.out W hW).1) HCK.out (by omega)
          have HIN : Hid (∀ W, Below wi.heap.size wi W → Calls Tryz.prog 47 #[.pointer (some ⟨bx, 0, none⟩), .int .i64 (k2 : Int)] W fun e w' => ∃ v, e = .returned v ∧ w'.ownsRow W.heap.size 4 1 v (bitsTo k2 (Ld.kindL p.names 1).length).length ((bitsTo k2 (Ld.kindL p.names 1).length).map boolV) ∧ Below W.heap.size W w') := fun W hW => by
            rw [bitsTo_len]
            exact RInput_any _ p.names _ _ _ S I k2 W (HMX.out.below (HXW.out W hW).1) (HNA.out.below (HXW.out W hW).1) ⟨_, _, _, rfl⟩ (by omega)
          have HSTP : Hid (∀ W sv iv, Below wi.heap.size wi W → StIs W sv 12 (state p s) → Bools W iv (bitsTo k2 (Ld.kindL p.names 1).length) → Calls Tryz.prog 46 #[.agg #[.slice na n nc, .slice ra m rc], sv, iv] W fun e w' => Below W.heap.size W w' ∧ ∃ v', e = .returned v' ∧ StIs w' v' 212 (step p (state p s) (bitsTo k2 (Ld.kindL p.names 1).length))) := fun W sv iv hW hs hb =>
            Step_any p _ sv iv 12 _ _ W (HRP.out.below (HXW.out W hW).1) HCK.out hs (by omega) hb (bitsTo_len _ _)
          have HTL : Hid (∀ W sv k st, Below wi.heap.size wi W → StIs W sv k st → Calls Tryz.prog 62 #[sv, .agg #[.slice na n nc, .slice ra m rc]] W fun e w' => Below W.heap.size W w' ∧ ∃ v1 v2, e = .returned (.tuple #[v1, v2]) ∧ T2 W.heap.size w' 4 3 v1 v2 (isV st p.names) (ctV st p.names)) := fun W sv k st hW hs =>
            Tells_any p.names _ _ sv k st W (HNA.out.below (HXW.out W hW).1) ⟨_, _, _, rfl⟩ hs
          have HLR : Hid ((bitsTo (k2 : Int) (Ld.kindL p.names 1).length).length ≤ 1000000) := by
            show _ ≤ _
            rw [bitsTo_len]
            have h1 := Ld.placesTo_le (fun n => n.kind == 1) p.names p.names.length
            have h2 := HN.out
            exact Nat.le_trans h1 (by omega)
          have HBD := hide (after1_bd p HCK.out s k2)
          have HNX := hide (nxt_of p HCK.out s k2)
          have HIV : Hid (isV (step p (state p s) (bitsTo k2 (Ld.kindL p.names 1).length)) p.names = (Mc.after1 p (Ld.kindL p.names 1).length s k2).is.map boolV) := by show _ = _; rw [HNX.out]; exact isV_of p HCK.out _ HBD.out.li
          have HLI : Hid ((Mc.after1 p (Ld.kindL p.names 1).length s k2).is.length = n) := by show _ = _; rw [HBD.out.li, HN.out]
          have HSU : Hid ((tellL p ks I s).take (k2 + 1) = (tellL p ks I s).take k2 ++ [Bo.tellN (Mc.after1 p (Ld.kindL p.names 1).length s k2).is ks]) := range_take_succ (fun i => Bo.tellN (Mc.after1 p (Ld.kindL p.names 1).length s i).is ks) I k2 hlt2
          obtain ⟨c0, c1⟩ := HKEEP.out wi (Below.refl _ _)
          have hki : (k2 : Int) < (I : Int) := by omega
          generalize hA1 : (Mc.after1 p (Ld.kindL p.names 1).length s k2).is = A1 at *
          clear hA1 HBD HNX
          go_wp2_with fail
          go_region_held3 (fun W => W.cell? ⟨bx, 0, none⟩ = some (.slice na n nc) ∧ W.cell? ⟨bx, 1, none⟩ = some (.slice ra m rc)) ((refine HKEEP.out _ ?_; first | exact HDR.out | exact HC1.out | exact HC2.out | exact HC3.out | exact HC4.out | exact Below.refl _ _)) ((first
            | (go_at_call 45; (with_reducible refine (HSA.out _ HDR.out).mono ?_); rintro e wB ⟨hb, sv, rfl, hst⟩; have HC1 : Hid (Below wi.heap.size wi wB) := then_ HDR.out hb; have HST := hide hst; clear hb hst)
            | (go_at_call 47; (with_reducible refine (HIN.out _ HC1.out).mono ?_); rintro e wC ⟨iv, rfl, hown, hb⟩; have HC2 : Hid (Below wi.heap.size wi wC) := then_ HC1.out hb; have HST2 := hide (HST.out.below hb); have HBO := hide (bools_of hown HLR.out); clear hb hown)
            | (go_at_call 46; (with_reducible refine (HSTP.out _ _ _ HC2.out HST2.out HBO.out).mono ?_); rintro e wD ⟨hb, sv3, rfl, hst⟩; have HC3 : Hid (Below wi.heap.size wi wD) := then_ HC2.out hb; have HST3 := hide hst; clear hb hst)
            | (go_at_call 62; (with_reducible refine (HTL.out _ _ _ _ HC3.out HST3.out).mono ?_); rintro e wE ⟨hb, v1, v2, rfl, ht2⟩; have HC4 : Hid (Below wi.heap.size wi wE) := then_ HC3.out hb; have HT2 := hide ht2; clear hb ht2)))
          have hv1 : Bools wE v1 A1 := by
            have h := HT2.out.o1
            rw [HIV.out, List.length_map] at h
            exact bools_of h (by rw [HLI.out]; omega)
          have HV1 := hide hv1
          obtain ⟨ba, bc, rfl, _, _⟩ := hv1
          rw [HLI.out] at HV1 ⊢
          clear HT2 HST HST2 HST3 HBO HC1 HC2 HC3 c0 c1
          go_wp2_with fail
          go_loopw [54, 11] (fun i x wr3 => ∃ k : Nat, k ≤ kn ∧ i = .int .i64 (k : Int) ∧ x = .int .i64 (Bo.tellN A1 (ks.take k) : Int) ∧ wr3 = wE) (fun i _ _ => kn - (intOf i).toNat)
          case atStart => exact ⟨0, Nat.zero_le _, rfl, rfl, rfl⟩
          case round =>
            obtain ⟨k, hk, rfl, rfl, rfl⟩ := hrel
            by_cases hlt3 : k < kn
            · have hkl : k < ks.length := by rw [← HKN.out]; exact hlt3
              have hki3 : (k : Int) < (kn : Int) := by omega
              obtain ⟨ga, oa, rfl, ca⟩ := (HAV.out.below (HXW.out wr HC4.out).1).cell k _ (asI_at ks k hkl)
              have hxn : ks[k] < n := by rw [HN.out]; exact HKS.out _ (List.getElem_mem hkl)
              obtain ⟨gb, rfl, cb⟩ := Bools.at_ HV1.out (k := ks[k]) (by rw [HLI.out]; exact hxn)
              have hlk : (ks.take k).length = k := by simp; omega
              have hv := Bo.tell_lt A1 (ks.take k)
              rw [hlk] at hv
              have HS := hide (Bo.tell_succ A1 ks k hkl)
              have HP := hide (Bo.pow_wrap k (by omega))
              have hsm : Bo.tellN A1 (ks.take k) < 2 ^ 12 := Nat.lt_of_lt_of_le hv (Nat.pow_le_pow_right (by decide) (by omega))
              have hpk : 2 ^ k ≤ 2 ^ 12 := Nat.pow_le_pow_right (by decide) (by omega)
              have HG : Hid (A1.getD ks[k] false = A1[ks[k]]'(by rw [HLI.out]; exact hxn)) := by show _ = _; simp [List.getD_eq_getElem?_getD, List.getElem?_eq_getElem (show ks[k] < A1.length by rw [HLI.out]; exact hxn)]
              rw [HG.out] at HS
              generalize hT1 : Bo.tellN A1 (ks.take (k + 1)) = T1 at *
              have HT1 := hide hT1
              generalize Bo.tellN A1 (ks.take k) = T0 at *
              generalize hyb : A1[ks[k]]'(by rw [HLI.out]; exact hxn) = yb at *
              generalize hx : ks[k] = x at *
              have hxi : (x : Int) < (n : Int) := by omega
              have hx0 : (0 : Int) ≤ (x : Int) := by omega
              rw [← HG.out] at HG
              clear hT1 hlk hv hyb hx HG
              cases yb with
              | true =>
                go_wp2_with fail
                go_roundw
                case rel =>
                  refine ⟨k + 1, by omega, by go_num, ?_, trivial⟩
                  rw [HT1.out, HS.out, if_pos rfl, HP.out]
                  have e : wrap64 ((T0 : Int) + ((2 ^ k : Nat) : Int)) = ((T0 + 2 ^ k : Nat) : Int) := by
                    unfold wrap64
                    generalize (2 : Nat) ^ k = y at *
                    omega
                  rw [e]
                case measure => simp [intOf]; omega
              | false =>
                go_wp2_with fail
                go_roundw
                case rel => exact ⟨k + 1, by omega, by go_num, by rw [HT1.out, HS.out]; simp, trivial⟩
                case measure => simp [intOf]; omega
            · obtain rfl : k = kn := by omega
              have hki3 : ¬ (k : Int) < (k : Int) := by omega
              rw [List.take_of_length_le (by rw [← HKN.out]; exact Nat.le_refl _)]
              obtain ⟨xs, hxs⟩ : ∃ xs, xs = (tellL p ks I s).take k2 := ⟨_, rfl⟩
              rw [← hxs] at HO HSU
              clear hxs
              generalize Bo.tellN A1 ks = x at *
              have HONE : Hid (∀ u ∈ [Value.int .i64 (x : Int)], u.oneCell' = true) := by
                intro u hu
                simp only [List.mem_cons, List.not_mem_nil, or_false] at hu
                subst hu; rfl
              have HOE := hide (own_below HO.out HC4.out)
              go_wp2_with (at_builtin; refine wpList_append_lies _ rfl (.tmp 68) (.tmp 70) 36 rfl wo.heap.size 3 i0 _ 1 8 Tryz.underlying36 hi0 hz0 hz1 hz2 rfl (by decide) (.slice la k2 lc) k2 (xs.map intV) rfl (HOE.out.alloc _) ⟨wr.heap.size, 0, none⟩ 1 1 [.int .i64 (x : Int)] rfl rfl (World.news_of_block (heap_alloc_new wr _)) HONE.out (by decide) (by unfold maxLen; omega) (by omega) (by have := HC4.out.size; simp; omega) (wr.heap.size + 1) (by simp) ?_; intro g2 cap2 wF hown hgrow hat hltg; have HBF := hide (((HXW.out wr HC4.out).2.alloc (by have := HC4.out.size; omega) _).grown hgrow (by have := HC4.out.size; simp; omega) (fun b e => (HOE.out.lt b e).1)); have HOF := hide hown; clear hown hgrow hat)
              go_roundw
              case rel => exact ⟨k2 + 1, by omega, by go_num, ⟨_, _, rfl⟩, by rw [HSU.out, List.map_append]; exact HOF.out, HBF.out⟩
              case measure => simp [intOf]; omega
        · obtain rfl : k2 = I := by omega
          have hle : ((tellL p ks k2 s).take k2) = tellL p ks k2 s := List.take_of_length_le (by rw [tellL_len]; exact Nat.le_refl _)
          rw [hle] at HO
          have HSU : Hid ((tellsL p ks S k2).take (s + 1) = (tellsL p ks S k2).take s ++ [tellL p ks k2 s]) := range_take_succ (tellL p ks k2) S s hlt
          have HTL : Hid (((tellsL p ks S k2).take s).length = s) := by show _ = _; rw [List.length_take, tellsL_len]; omega
          have HNL : Hid ((tellL p ks k2 s).length = k2) := tellL_len p ks k2 s
          have HTr := hide (HTs.out.below HB.out)
          have HRr := hide (HR.out.below HB.out)
          obtain ⟨_, c4, _, c4f⟩ := two_cells HTr.out.2
          have HOWN : Hid (∀ o, (wi.alloc o).ownsRow wA.heap.size 36 1 (.slice ta s tc) s us) := fun o => by
            have h := HRr.out.own.alloc o
            rw [HTL.out] at h
            exact h
          have HONE : Hid (∀ u ∈ [Value.slice la k2 lc], u.oneCell' = true) := by
            intro u hu
            simp only [List.mem_cons, List.not_mem_nil, or_false] at hu
            subst hu; rfl
          have hbm : w.heap.size + 1 < wA.heap.size := by have := HSA'.out; omega
          have HFIN : Hid (∀ (o : Obj) (g2 cap : Nat) (wC : World), wC.ownsRow wA.heap.size 36 1 (.slice (some ⟨g2, 0, none⟩) (s + 1) cap) (s + 1) (us ++ [.slice la k2 lc]) → (wi.alloc o).grownBy wC (Value.slice ta s tc).ownBlock →
              (wC.cell? ⟨w.heap.size + 1, 1, none⟩ = some (.slice ta s tc) ∧ wC.frozen? ⟨w.heap.size + 1, 1, none⟩ = false) ∧ TT wA (w.heap.size + 1) (.slice xa xn xc) (.slice (some ⟨g2, 0, none⟩) (s + 1) cap) (wC.setCell ⟨w.heap.size + 1, 1, none⟩ (.slice (some ⟨g2, 0, none⟩) (s + 1) cap)) ∧ IntR wA.heap.size (wC.setCell ⟨w.heap.size + 1, 1, none⟩ (.slice (some ⟨g2, 0, none⟩) (s + 1) cap)) (.slice (some ⟨g2, 0, none⟩) (s + 1) cap) (us ++ [.slice la k2 lc]) ((tellsL p ks S k2).take (s + 1))) := by
            intro o g2 cap wC hown hgrow
            have h1 := HTr.out.grown ((Below.refl wi.heap.size wi).alloc (Nat.le_refl _) o) hgrow hbm (fun g e => ((HOWN.out o).lt g e).1)
            refine ⟨⟨(two_cells h1.2).2.1, (two_cells h1.2).2.2.2⟩, h1.set _, ?_⟩
            rw [HSU.out]
            have h2 := HRr.out.put (W' := wC) (o' := .slice (some ⟨g2, 0, none⟩) (s + 1) cap) (u := .slice la k2 lc) (b := tellL p ks k2 s) (by rw [HNL.out]; exact own_mono HO.out (by omega)) o (by rw [HTL.out]; exact hown) hgrow
            refine h2.moved (fun j hj _ => ?_)
            have hne : ¬ w.heap.size + 1 = j := by omega
            simp [World.setCell, Array.getElem?_modify, hne]
          have hki : ¬ (k2 : Int) < (k2 : Int) := by omega
          clear hle HR
          go_wp2_with (at_builtin; refine wpList_append_lies _ rfl (.tmp 74) (.tmp 76) 46 rfl wA.heap.size 36 i1 _ 1 24 Tryz.underlying46 hi1 hy0 hy1 hy2 rfl (by decide) (.slice ta s tc) s us rfl (HOWN.out _) ⟨wi.heap.size, 0, none⟩ 1 1 [.slice la k2 lc] rfl rfl (World.news_of_block (heap_alloc_new wi _)) HONE.out (by decide) (by unfold maxLen; omega) (by omega) (by simp; omega) (wi.heap.size + 1) (by simp) ?_; intro g2 cap2 wC hown hgrow hat hltg; obtain ⟨⟨z0, z1⟩, hmc, hrc⟩ := HFIN.out _ g2 cap2 wC hown hgrow; have HMC := hide hmc; have HRC2 := hide hrc; clear hown hgrow hat hmc hrc)
          go_roundw
          case rel => exact ⟨s + 1, _, _, _, by omega, by go_num, HMC.out, HRC2.out⟩
          case measure => simp [intOf]; omega
    · obtain rfl : s = S := by omega
      have hF1 := HR.out
      rw [List.take_of_length_le (by rw [tellsL_len]; exact Nat.le_refl _)] at hF1
      obtain ⟨hr0, hrw⟩ := HX.out wo HTs.out.1
      obtain ⟨a0, a1, _, _⟩ := two_cells HTs.out.2
      obtain ⟨z0, z1, z2, z3⟩ := two_cells hr0
      obtain ⟨wF, hwF⟩ : ∃ wF, wF = (wo.setCell ⟨w.heap.size, 0, none⟩ (.slice xa xn xc)).setCell ⟨w.heap.size, 1, none⟩ (.slice ta s tc) := ⟨_, rfl⟩
      have hF : wF.heap[w.heap.size]? = some (.cells #[.slice xa xn xc, .slice ta s tc] 71 (0, 0)) := by rw [hwF]; simp [World.setCell, Array.getElem?_modify, hr0]
      obtain ⟨k0, k1, _, _⟩ := two_cells hF
      have HFIN : Hid (Below w.heap.size w wF ∧ IntR wA.heap.size wF (.slice ta s tc) us (tellsL p ks s I)) := by
        refine ⟨?_, hF1.moved (fun j hj _ => ?_)⟩
        · rw [hwF]
          exact (hrw.setCell (p := ⟨w.heap.size, 0, none⟩) (Nat.le_refl _) _).setCell (p := ⟨w.heap.size, 1, none⟩) (Nat.le_refl _) _
        · have hne : ¬ w.heap.size = j := by have := HSA'.out; omega
          rw [hwF]
          simp [World.setCell, Array.getElem?_modify, hne]
      have hsi : ¬ (s : Int) < (s : Int) := by omega
      obtain ⟨_, ⟨c2, _⟩, _⟩ := HRC.out wo hrw
      clear hF hF1 hr0 HTs HR hrw
      go_wp2_with fail
      rw [← hwF]
      refine bodyPost_ret_by (v := .agg #[.slice xa xn xc, .slice ta s tc]) ?_ rfl ?_
      · simp [results, Tryz.results24, go_sem, k0, k1]
      · exact ⟨HFIN.out.1, _, rfl, _, _, HFIN.out.2⟩
end Rf
end
end Go.Proofs.YtgldbliohpfljaaGreatDoor
