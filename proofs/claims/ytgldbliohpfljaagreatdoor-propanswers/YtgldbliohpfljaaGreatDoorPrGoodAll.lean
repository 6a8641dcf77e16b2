/-
  What stands while the document's scans are played: its state in a block of its own. Rows of signs in a row of slices, made by appending; what stands where a state of the document's lies in a block of its own. The walk of package prop's Good.
-/
import Derived.Test.YtgldbliohpfljaaGreatDoorRfStep
import Derived.Test.YtgldbliohpfljaaGreatDoorRfTellsAll
import Derived.Test.YtgldbliohpfljaaGreatDoorNaEdgesAll
import Derived.Test.YtgldbliohpfljaaGreatDoorRlEdgesAll
import Derived.Test.YtgldbliohpfljaaGreatDoorRfStateMAll
import Derived.Test.YtgldbliohpfljaaGreatDoorScTwoAll
import Derived.Deep.RegionHeld3
namespace Go.Proofs.YtgldbliohpfljaaGreatDoor
section
namespace Rf
open Go.RowKit
/-- block b holds a state of the document's, made since W0 -/
def SV (b n : Nat) (W0 : World) (st : St) (W : World) : Prop := ∃ m1 m2, W.heap[b]? = some (.cells #[.map (some m1), .map (some m2)] 123 (0, 0)) ∧ StIs W (.agg #[.map (some m1), .map (some m2)]) n st ∧ Below b W0 W
theorem stored2 {W : World} {b : Nat} {x0 y0 : Value} {t : TypeId} (h : W.heap[b]? = some (.cells #[x0, y0] t (0, 0))) (x y : Value) :
    ((W.setCell ⟨b, 0, none⟩ x).setCell ⟨b, 1, none⟩ y).heap[b]? = some (.cells #[x, y] t (0, 0)) ∧ (∀ k, k ≠ b → ((W.setCell ⟨b, 0, none⟩ x).setCell ⟨b, 1, none⟩ y).heap[k]? = W.heap[k]?) ∧ Below b W ((W.setCell ⟨b, 0, none⟩ x).setCell ⟨b, 1, none⟩ y) :=
  ⟨by simp [World.setCell, Array.getElem?_modify, h], fun k hk => by
    have hne : ¬ b = k := fun e => hk e.symm
    simp [World.setCell, Array.getElem?_modify, hne], ((Below.refl b W).setCell (p := ⟨b, 0, none⟩) (Nat.le_refl _) _).setCell (p := ⟨b, 1, none⟩) (Nat.le_refl _) _⟩
theorem StIs.kept {W W' : World} {m1 m2 n : Nat} {st : St} (h : StIs W (.agg #[.map (some m1), .map (some m2)]) n st) (h1 : W'.heap[m1]? = W.heap[m1]?) (h2 : W'.heap[m2]? = W.heap[m2]?) : StIs W' (.agg #[.map (some m1), .map (some m2)]) n st := by
  obtain ⟨b1, b2, e, h3, h4, h5⟩ := h
  have e1 : b1 = m1 ∧ b2 = m2 := by
    simp only [Value.agg.injEq, List.toArray_eq_iff, List.cons.injEq, Value.map.injEq, Option.some.injEq, and_true] at e
    exact ⟨e.1.symm, e.2.symm⟩
  obtain ⟨rfl, rfl⟩ := e1
  exact ⟨b1, b2, rfl, h3.kept h1, h4.kept h2, h5⟩
/-- a new state is stored -/
theorem SV.put {b n : Nat} {W0 W : World} {st2 : St} {x0 y0 : Value} {m1 m2 : Nat} (hV : W.heap[b]? = some (.cells #[x0, y0] 123 (0, 0))) (h0 : Below b W0 W) (hs : StIs W (.agg #[.map (some m1), .map (some m2)]) n st2) :
    SV b n W0 st2 ((W.setCell ⟨b, 0, none⟩ (.map (some m1))).setCell ⟨b, 1, none⟩ (.map (some m2))) := by
  obtain ⟨q1, q2, q3⟩ := stored2 hV (.map (some m1)) (.map (some m2))
  refine ⟨m1, m2, q1, ?_, h0.trans q3⟩
  obtain ⟨b1, b2, e, h3, h4, h5⟩ := id hs
  have e1 : b1 = m1 ∧ b2 = m2 := by
    simp only [Value.agg.injEq, List.toArray_eq_iff, List.cons.injEq, Value.map.injEq, Option.some.injEq, and_true] at e
    exact ⟨e.1.symm, e.2.symm⟩
  obtain ⟨rfl, rfl⟩ := e1
  obtain ⟨es1, c1, o1⟩ := h3.obj
  obtain ⟨es2, c2, o2⟩ := h4.obj
  refine hs.kept (q2 _ (fun e => ?_)) (q2 _ (fun e => ?_))
  · subst e; rw [hV] at o1; cases o1
  · subst e; rw [hV] at o2; cases o2
theorem SV.below {b n : Nat} {W0 W W' : World} {st : St} (h : SV b n W0 st W) (hlt : b < W.heap.size) (hb : Below W.heap.size W W') : SV b n W0 st W' := by
  obtain ⟨m1, m2, h1, h2, h3⟩ := h
  exact ⟨m1, m2, (hb.block _ hlt).trans h1, h2.below hb, h3.trans (hb.mono (by omega))⟩
theorem SV.lt {b n : Nat} {W0 W : World} {st : St} (h : SV b n W0 st W) : b < W.heap.size := by
  obtain ⟨m1, m2, h1, _⟩ := h
  exact (Array.getElem?_eq_some_iff.1 h1).1
/-- at first -/
theorem SV.start {w : World} {m1 m2 : Nat} (h1 : w.ownsMap Tryz.prog 9 (plainElem Tryz.prog 4) m1 0 (.map [] : DataW Unit)) (h2 : w.ownsMap Tryz.prog 9 (plainElem Tryz.prog 3) m2 0 (.map [] : DataW Unit)) :
    SV w.heap.size 0 w start (w.alloc (.cells #[.map (some m1), .map (some m2)] 123)) := by
  have hb : Below w.heap.size w (w.alloc (.cells #[.map (some m1), .map (some m2)] 123)) := (Below.refl _ _).alloc (Nat.le_refl _) _
  exact ⟨m1, m2, heap_alloc_new _ _, ⟨m1, m2, rfl, ⟨.map [], om_below h1 hb, fun _ => rfl⟩, ⟨.map [], om_below h2 hb, fun _ => rfl⟩, fun s => by show _ ≤ (0 : Int) ∧ (0 : Int) ≤ _; omega⟩, hb⟩
theorem ints_of {q : Nat} {W : World} {u : Value} {b : List Int} (h : W.ownsRow q 3 1 u b.length (b.map iV)) (hl : ∀ c, c ∈ b → I64 c) : Ints W u b := by
  rcases h.2 with ⟨rfl, h0⟩ | ⟨g, cap, cur, rfl, _, hcur, hcap, _, _, htk⟩
  · exact .inl ⟨List.length_eq_zero_iff.1 h0, none, 0, rfl⟩
  · refine .inr ⟨g, 0, cap, rfl, hcap, fun i x hx => ?_⟩
    exact ⟨by rw [Nat.zero_add]; exact row_cell hcur htk (by rw [List.getElem?_map, hx]; rfl), hl x (List.mem_of_getElem? hx)⟩
theorem ints_st {W : World} {gi gc : Nat} {s : Sc.St} (h : StAt W gi gc s) (hl : ∀ c, c ∈ s.ct → I64 c) : Ints W (slV gc s.ct.length) s.ct := by
  by_cases h0 : s.ct = []
  · rw [h0]; exact .inl ⟨rfl, _, _, rfl⟩
  · refine .inr ⟨gc, 0, _, rfl, Nat.le_refl _, fun i x hx => ?_⟩
    obtain ⟨hi, hx2⟩ := List.getElem?_eq_some_iff.1 hx
    refine ⟨?_, hl x (List.mem_of_getElem? hx)⟩
    rw [Nat.zero_add]
    have := h.cellC i hi
    rw [this, List.getD_eq_getElem?_getD, List.getElem?_eq_getElem hi, hx2]
    rfl
/-- n cells alike -/
def cellsN (n : Nat) (v : Value) : Array Value := ⟨List.replicate n v⟩
theorem makeBN (n : Nat) (hn : n ≤ 1000000) (w : World) : (Instr.makeSlice 51 (.int .i64 (n : Int)) (.int .i64 (n : Int))).run Tryz.prog w = .ok (.slice (some ⟨w.heap.size, 0, none⟩) n n) (w.alloc (.cells (cellsN n (.bool false)) 4)) := makeBs n hn w
theorem makeIN (n : Nat) (hn : n ≤ 1000000) (w : World) : (Instr.makeSlice 36 (.int .i64 (n : Int)) (.int .i64 (n : Int))).run Tryz.prog w = .ok (.slice (some ⟨w.heap.size, 0, none⟩) n n) (w.alloc (.cells (cellsN n (.int .i64 0)) 3)) := makeIs n hn w
theorem makeBBN (n : Nat) (hn : n ≤ 1000000) (w : World) : (Instr.makeSlice 31 (.int .i64 (n : Int)) (.int .i64 (n : Int))).run Tryz.prog w = .ok (.slice (some ⟨w.heap.size, 0, none⟩) n n) (w.alloc (.cells (cellsN n (.slice none 0 0)) 51)) :=
  make_one Tryz.underlying31 Tryz.infoBools rfl (by decide) n hn w
theorem makeBB1001 (w : World) : (Instr.makeSlice 31 (.int .i64 1001) (.int .i64 1001)).run Tryz.prog w = .ok (.slice (some ⟨w.heap.size, 0, none⟩) 1001 1001) (w.alloc (.cells (cellsN 1001 (.slice none 0 0)) 51)) := makeBBN 1001 (by decide) w
/-- one row of inputs -/
theorem insAt_one {W : World} {g b k : Nat} (h1 : W.heap[g]? = some (.cells #[.slice (some ⟨b, 0, none⟩) k k] 51 (0, 0))) (h2 : W.heap[b]? = some (.cells (cellsN k (.bool false)) 4 (0, 0))) (hk : k ≤ 1000000) : InsAt W (.slice (some ⟨g, 0, none⟩) 1 1) [List.replicate k false] := by
  refine .inr ⟨g, 1, rfl, Nat.le_refl _, fun i l hl => ?_⟩
  cases i with
  | succ i => simp at hl
  | zero =>
    simp only [List.getElem?_cons_zero, Option.some.injEq] at hl
    subst hl
    refine ⟨.slice (some ⟨b, 0, none⟩) k k, by rw [Lib.cell_of_heap h1]; rfl, some ⟨b, 0, none⟩, k, by rw [List.length_replicate], by rw [List.length_replicate]; exact hk, fun j x hj => ⟨b, rfl, ?_⟩⟩
    have hjk : j < k := by have := (List.getElem?_eq_some_iff.1 hj).1; rwa [List.length_replicate] at this
    rw [List.getElem?_replicate, if_pos hjk] at hj
    rw [Lib.cell_of_heap h2]
    obtain rfl := Option.some.inj hj
    simp [cellsN, hjk]
theorem below_al (w : World) (o : Obj) : Below w.heap.size w (w.alloc o) := (Below.refl _ _).alloc (Nat.le_refl _) _
theorem lt_some {W : World} {k : Nat} {o : Obj} (h : W.heap[k]? = some o) : k < W.heap.size := (Array.getElem?_eq_some_iff.1 h).1
theorem at1 {w W : World} {o : Obj} (h : Below (w.alloc o).heap.size (w.alloc o) W) : W.heap[w.heap.size]? = some o := (h.block _ (by simp)).trans (heap_alloc_new _ _)
theorem at2 {w W : World} {o1 o2 : Obj} (h : Below ((w.alloc o1).alloc o2).heap.size ((w.alloc o1).alloc o2) W) : W.heap[w.heap.size]? = some o1 ∧ W.heap[w.heap.size + 1]? = some o2 := by
  have e := at1 h
  rw [World.size_alloc] at e
  exact ⟨at1 (then_ (below_al _ _) h), e⟩
theorem at3 {w W : World} {o1 o2 o3 : Obj} (h : Below (((w.alloc o1).alloc o2).alloc o3).heap.size (((w.alloc o1).alloc o2).alloc o3) W) : (W.heap[w.heap.size]? = some o1 ∧ W.heap[w.heap.size + 1]? = some o2) ∧ W.heap[w.heap.size + 1 + 1]? = some o3 := by
  have e := at1 h
  rw [World.size_alloc, World.size_alloc] at e
  exact ⟨at2 (then_ (below_al _ _) h), e⟩
theorem at4 {w W : World} {o1 o2 o3 o4 : Obj} (h : Below ((((w.alloc o1).alloc o2).alloc o3).alloc o4).heap.size ((((w.alloc o1).alloc o2).alloc o3).alloc o4) W) : ((W.heap[w.heap.size]? = some o1 ∧ W.heap[w.heap.size + 1]? = some o2) ∧ W.heap[w.heap.size + 1 + 1]? = some o3) ∧ W.heap[w.heap.size + 1 + 1 + 1]? = some o4 := by
  have e := at1 h
  rw [World.size_alloc, World.size_alloc, World.size_alloc] at e
  exact ⟨at3 (then_ (below_al _ _) h), e⟩
theorem un_drew {w W : World} (h : Below w.drew.heap.size w.drew W) : Below w.heap.size w W := then_ (b := w.drew) ⟨rfl, rfl, rfl, Nat.le_refl _, fun _ _ => rfl⟩ h
theorem at1d {w W : World} {o : Obj} (h : Below (w.alloc o).drew.heap.size (w.alloc o).drew W) : W.heap[w.heap.size]? = some o := at1 (un_drew h)
theorem at2d {w W : World} {o1 o2 : Obj} (h : Below ((w.alloc o1).alloc o2).drew.heap.size ((w.alloc o1).alloc o2).drew W) : W.heap[w.heap.size]? = some o1 ∧ W.heap[w.heap.size + 1]? = some o2 := at2 (un_drew h)
theorem at3d {w W : World} {o1 o2 o3 : Obj} (h : Below (((w.alloc o1).alloc o2).alloc o3).drew.heap.size (((w.alloc o1).alloc o2).alloc o3).drew W) : (W.heap[w.heap.size]? = some o1 ∧ W.heap[w.heap.size + 1]? = some o2) ∧ W.heap[w.heap.size + 1 + 1]? = some o3 := at3 (un_drew h)
theorem at4d {w W : World} {o1 o2 o3 o4 : Obj} (h : Below ((((w.alloc o1).alloc o2).alloc o3).alloc o4).drew.heap.size ((((w.alloc o1).alloc o2).alloc o3).alloc o4).drew W) : ((W.heap[w.heap.size]? = some o1 ∧ W.heap[w.heap.size + 1]? = some o2) ∧ W.heap[w.heap.size + 1 + 1]? = some o3) ∧ W.heap[w.heap.size + 1 + 1 + 1]? = some o4 := at4 (un_drew h)
theorem bools_st {W : World} {gi gc : Nat} {s : Sc.St} (h : StAt W gi gc s) (hl : s.is.length ≤ 1000000) : Bools W (slV gi s.is.length) s.is := ⟨some ⟨gi, 0, none⟩, s.is.length, rfl, hl, fun i b hb => ⟨gi, rfl, by
  obtain ⟨hi, hb2⟩ := List.getElem?_eq_some_iff.1 hb
  rw [h.cellI i hi, List.getD_eq_getElem?_getD, List.getElem?_eq_getElem hi, hb2]
  rfl⟩⟩
theorem isV_of (p : Ld.Prg) (hck : Ld.check p = none) (s : Sc.St) (hl : s.is.length = p.names.length) : isV (of p.names s) p.names = s.is.map boolV := by
  have h := tells_is p hck s.is hl
  have e : s.is.map boolV = (p.names.map (fun n => Sc.told p.names s.is n.name)).map boolV := by rw [h]
  rw [e, List.map_map]
  rfl
theorem ctV_of (p : Ld.Prg) (hck : Ld.check p = none) (s : Sc.St) (hl : s.ct.length = p.names.length) : ctV (of p.names s) p.names = s.ct.map iV := by
  have h := tells_ct p hck s.ct hl
  have e : s.ct.map iV = (p.names.map (fun n => toldC p.names s.ct n.name)).map iV := by rw [h]
  rw [e, List.map_map]
  rfl
end Rf
end
section
namespace Rf
open Go.RowKit
/-- rows of signs in a row of slices, all from block q on -/
structure BolR (q : Nat) (W : World) (o : Value) (us : List Value) (bs : List (List Bool)) : Prop where
  len : us.length = bs.length
  own : W.ownsRow q 51 1 o bs.length us
  at_ : ∀ (j : Nat) (u : Value) (b : List Bool), us[j]? = some u → bs[j]? = some b → W.ownsRow q 4 1 u b.length (b.map boolV)
theorem BolR.nil (q : Nat) (W : World) : BolR q W (.slice none 0 0) [] [] := ⟨rfl, World.ownsRow_nil _ _ _ _, fun j u b h => by simp at h⟩
theorem BolR.below {q : Nat} {W W' : World} {o : Value} {us : List Value} {bs : List (List Bool)} (h : BolR q W o us bs) (hb : Below W.heap.size W W') : BolR q W' o us bs :=
  ⟨h.len, own_below h.own hb, fun j u b h1 h2 => own_below (h.at_ j u b h1 h2) hb⟩
theorem BolR.put {q : Nat} {W W' : World} {o o' u : Value} {us : List Value} {bs : List (List Bool)} {b : List Bool} (h : BolR q W o us bs) (hu : W.ownsRow q 4 1 u b.length (b.map boolV)) (ob : Obj) (hown : W'.ownsRow q 51 1 o' (bs.length + 1) (us ++ [u])) (hg : (W.alloc ob).grownBy W' o.ownBlock) :
    BolR q W' o' (us ++ [u]) (bs ++ [b]) := by
  have hk : ∀ (u : Value) (b : List Bool), W.ownsRow q 4 1 u b.length (b.map boolV) → W'.ownsRow q 4 1 u b.length (b.map boolV) := fun u b hu =>
    (hu.alloc ob).kept hg (own_apart hu h.own (by decide))
  refine ⟨by simp [h.len], by simpa using hown, ?_⟩
  intro j x y hj hy
  by_cases hjl : j < bs.length
  · rw [List.getElem?_append_left (by rw [h.len]; exact hjl)] at hj
    rw [List.getElem?_append_left hjl] at hy
    exact hk _ _ (h.at_ j x y hj hy)
  · have hj2 : j < (bs ++ [b]).length := (List.getElem?_eq_some_iff.1 hy).1
    have : j = bs.length := by simp at hj2; omega
    subst this
    rw [List.getElem?_append_right (by rw [h.len]; exact Nat.le_refl _), h.len] at hj
    rw [List.getElem?_append_right (Nat.le_refl _)] at hy
    simp only [Nat.sub_self, List.getElem?_cons_zero, Option.some.injEq] at hj hy
    subst hj; subst hy
    exact hk _ _ hu
theorem own_rowB {W : World} {q n : Nat} {v : Value} {p : List Bool} (h : W.ownsRow q 4 1 v n (p.map boolV)) (hn : 0 < n) : ∃ b c, v = .slice (some ⟨b, 0, none⟩) n c ∧ q ≤ b ∧ n ≤ c ∧ ∀ (k : Nat) (x : Bool), p[k]? = some x → W.cell? ⟨b, k, none⟩ = some (.bool x) := by
  rcases h.2 with ⟨_, h0⟩ | ⟨g, cap, cur, rfl, hg, hcur, hcap, _, _, htk⟩
  · omega
  · exact ⟨g, cap, rfl, hg, hcap, fun k x hx => row_cell hcur htk (by rw [List.getElem?_map, hx]; rfl)⟩
/-- of each state and input a sign, in memory -/
def GoodAt (W : World) (o : Value) (S I : Nat) (row : Nat → List Bool) : Prop := ∃ b c, o = .slice (some ⟨b, 0, none⟩) S c ∧ S ≤ c ∧ ∀ s, s < S → ∃ a d, W.cell? ⟨b, s, none⟩ = some (.slice (some ⟨a, 0, none⟩) I d) ∧ I ≤ d ∧ ∀ i, i < I → W.cell? ⟨a, i, none⟩ = some (.bool ((row s).getD i false))
theorem GoodAt.below {W W' : World} {o : Value} {S I : Nat} {row : Nat → List Bool} (h : GoodAt W o S I row) (hb : Below W.heap.size W W') : GoodAt W' o S I row := by
  obtain ⟨b, c, h1, h2, h3⟩ := h
  refine ⟨b, c, h1, h2, fun s hs => ?_⟩
  obtain ⟨a, d, h4, h5, h6⟩ := h3 s hs
  exact ⟨a, d, (hb.cell (World.block_lt_of_cell? _ _ h4)).trans h4, h5, fun i hi => (hb.cell (World.block_lt_of_cell? _ _ (h6 i hi))).trans (h6 i hi)⟩
theorem BolR.goodAt {q : Nat} {W : World} {o : Value} {us : List Value} {S I : Nat} {row : Nat → List Bool} (h : BolR q W o us ((List.range S).map row)) (hS : 0 < S) (hI : 0 < I) (hr : ∀ s, (row s).length = I) : GoodAt W o S I row := by
  have hl : ((List.range S).map row).length = S := by simp
  have hown := h.own
  rw [hl] at hown
  rcases hown.2 with ⟨_, h0⟩ | ⟨g, cap, cur, rfl, _, hcur, hcap, _, _, htk⟩
  · omega
  · refine ⟨g, cap, rfl, hcap, fun s hs => ?_⟩
    have hul : s < us.length := by rw [h.len, hl]; exact hs
    have h1 := h.at_ s us[s] (row s) (List.getElem?_eq_getElem hul) (by simp [hs])
    rw [hr s] at h1
    obtain ⟨a, d, h2, _, h3, h4⟩ := own_rowB h1 hI
    refine ⟨a, d, by rw [← h2]; exact row_cell hcur htk (List.getElem?_eq_getElem hul), h3, fun i hi => ?_⟩
    have hil : i < (row s).length := by rw [hr s]; exact hi
    refine h4 i _ ?_
    rw [List.getElem?_eq_getElem hil]
    simp [hil]
/-- block b, made since w0, holds a state of the document's -/
def BX (w0 : World) (n : Nat) (st : St) (b : Nat) (W : World) : Prop := ∃ m1 m2, W.heap[b]? = some (.cells #[.map (some m1), .map (some m2)] 123 (0, 0)) ∧ StIs W (.agg #[.map (some m1), .map (some m2)]) n st ∧ Below w0.heap.size w0 W ∧ w0.heap.size ≤ b
theorem BX.below {w0 W W' : World} {n b : Nat} {st : St} (h : BX w0 n st b W) (hb : Below W.heap.size W W') : BX w0 n st b W' := by
  obtain ⟨m1, m2, h1, h2, h3, h4⟩ := h
  exact ⟨m1, m2, (hb.block _ (lt_some h1)).trans h1, h2.below hb, then_ h3 hb, h4⟩
theorem BX.new {w0 W : World} {n m1 m2 : Nat} {st : St} (hb : Below w0.heap.size w0 W) (hs : StIs W (.agg #[.map (some m1), .map (some m2)]) n st) : BX w0 n st W.heap.size (W.alloc (.cells #[.map (some m1), .map (some m2)] 123)) :=
  ⟨m1, m2, heap_alloc_new _ _, hs.below (below_al _ _), then_ hb (below_al _ _), hb.size⟩
theorem BX.put {w0 W : World} {b n m1 m2 : Nat} {st : St} {x0 y0 : Value} (hV : W.heap[b]? = some (.cells #[x0, y0] 123 (0, 0))) (hb : Below w0.heap.size w0 W) (hl : w0.heap.size ≤ b) (hs : StIs W (.agg #[.map (some m1), .map (some m2)]) n st) :
    BX w0 n st b ((W.setCell ⟨b, 0, none⟩ (.map (some m1))).setCell ⟨b, 1, none⟩ (.map (some m2))) := by
  obtain ⟨k1, k2, h1, h2, h3⟩ := SV.put (W0 := W) hV (Below.refl b W) hs
  exact ⟨k1, k2, h1, h2, hb.trans (h3.mono hl), hl⟩
end Rf
/-- what the document says of a scan is what the program's own says -/
theorem Rf.doc_good (p : Ld.Prg) (hck : Ld.check p = none) (x : Ex) (s i : Nat) : x.eval (Rf.step p (Rf.state p s) (bitsTo i (Ld.kindL p.names 1).length)).is (Rf.state p s).is = Pr.good p x s i := by
  rw [Rf.nxt_of p hck, Rf.state_is p hck]
  rfl
end
section
open Go.RowKit
@[go_sem] theorem field_is (a b : Value) (w : World) : (Instr.field 105 (.agg #[a, b]) 0).run Tryz.prog w = .ok a w := by kernel_rfl
/-- what told has made -/
structure ToldAt (W : World) (nv : Value) (ra : Option Addr) (rk rc n : Nat) (is : List Bool) (a b gi : Nat) : Prop where
  prg : W.heap[a]? = some (.cells #[nv, .slice ra rk rc] 83 (0, 0))
  lst : W.heap[b]? = some (.cells #[.slice (some ⟨gi, 0, none⟩) n n] 51 (0, 0))
  row : RowIs W gi 4 (is.map boolV)
theorem ToldAt.lt {W : World} {nv : Value} {ra : Option Addr} {rk rc n : Nat} {is : List Bool} {a b gi : Nat} (h : ToldAt W nv ra rk rc n is a b gi) : a < W.heap.size ∧ b < W.heap.size ∧ gi < W.heap.size := ⟨(Array.getElem?_eq_some_iff.1 h.prg).1, (Array.getElem?_eq_some_iff.1 h.lst).1, h.row.lt⟩
theorem ToldAt.kept {W W' : World} {nv : Value} {ra : Option Addr} {rk rc n : Nat} {is : List Bool} {a b gi : Nat} (h : ToldAt W nv ra rk rc n is a b gi) (ha : W'.heap[a]? = W.heap[a]?) (hb : W'.heap[b]? = W.heap[b]?) (hg : W'.heap[gi]? = W.heap[gi]?) : ToldAt W' nv ra rk rc n is a b gi := ⟨ha.trans h.prg, hb.trans h.lst, hg.trans h.row⟩
theorem ToldAt.tells {W : World} {nv : Value} {ra : Option Addr} {rk rc n : Nat} {is : List Bool} {a b gi : Nat} (h : ToldAt W nv ra rk rc n is a b gi) {ns : List Ld.Nme} (hn : NamesAt W nv ns) (hl : is.length = n) (hnn : n = ns.length) : E2.Tells (.func (.func 87) #[] #[.pointer (some ⟨a, 0, none⟩), .pointer (some ⟨b, 0, none⟩)]) (Sc.told ns is) W := by
  obtain ⟨a0, a1, _, _⟩ := two_cells h.prg
  refine ptells_told ns nv (.slice ra rk rc) is gi _ _ _ hn ⟨_, _, _, rfl⟩ (hl.trans hnn) a0 a1 ?_ h.row
  rw [Lib.cell_of_heap h.lst, hl]
  rfl
theorem told_made (nv : Value) (ra : Option Addr) (rk rc : Nat) (w6 : World) (is : List Bool) (gi n : Nat) (hrow : RowIs w6 gi 4 (is.map boolV)) :
    ToldAt ((w6.alloc (.cells #[nv, .slice ra rk rc] 83)).alloc (.cells #[.slice (some ⟨gi, 0, none⟩) n n] 51)) nv ra rk rc n is w6.heap.size (w6.heap.size + 1) gi := by
  obtain ⟨w7, hw7⟩ : ∃ w7, w7 = w6.alloc (.cells #[nv, .slice ra rk rc] 83) := ⟨_, rfl⟩
  have hz7 : w7.heap.size = w6.heap.size + 1 := by rw [hw7]; simp
  have hA : w7.heap[w6.heap.size]? = some (.cells #[nv, .slice ra rk rc] 83 (0, 0)) := by rw [hw7]; exact heap_alloc_new _ _
  rw [← hw7]
  have hb : Below w6.heap.size w6 (w7.alloc (.cells #[.slice (some ⟨gi, 0, none⟩) n n] 51)) := by
    have h1 : Below w6.heap.size w6 w7 := by rw [hw7]; exact (Below.refl _ _).alloc (Nat.le_refl _) _
    exact h1.alloc h1.size _
  exact ⟨(Below.heap_alloc _ _ _ (by omega)).trans hA, by rw [← hz7]; exact heap_alloc_new _ _, (hb.block _ hrow.lt).trans hrow⟩
/-- what a round of Good reads -/
def KG (bm : Nat) (nv rv : Value) (g s b I : Nat) (W : World) : Prop := W.cell? ⟨bm, 0, none⟩ = some nv ∧ W.cell? ⟨bm, 1, none⟩ = some rv ∧ W.cell? ⟨g, s, none⟩ = some (.slice (some ⟨b, 0, none⟩) I I)
theorem KG.below {bm g s b I : Nat} {nv rv : Value} {W W' : World} (h : KG bm nv rv g s b I W) (hb : Below W.heap.size W W') : KG bm nv rv g s b I W' := ⟨(hb.cell (World.block_lt_of_cell? _ _ h.1)).trans h.1, (hb.cell (World.block_lt_of_cell? _ _ h.2.1)).trans h.2.1, (hb.cell (World.block_lt_of_cell? _ _ h.2.2)).trans h.2.2⟩
theorem KG.set {bm g s b I : Nat} {nv rv : Value} {W : World} (c i : Nat) (v : Value) (h1 : bm ≠ c) (h2 : g ≠ c) (h : KG bm nv rv g s b I W) : KG bm nv rv g s b I (W.setCell ⟨c, i, none⟩ v) := ⟨cell_set_blk _ _ _ _ _ _ _ h1 h.1, cell_set_blk _ _ _ _ _ _ _ h1 h.2.1, cell_set_blk _ _ _ _ _ _ _ h2 h.2.2⟩
theorem KG.drew {bm g s b I : Nat} {nv rv : Value} {W : World} (h : KG bm nv rv g s b I W) : KG bm nv rv g s b I W.drew := h
/-- what Good comes to -/
def Gooded (w : World) (p : Ld.Prg) (x : Ex) (e : Ending) (w' : World) : Prop := Below w.heap.size w w' ∧ (if Pr.has p.names x then ∃ g us, e = .returned (.tuple #[.slice (some ⟨g, 0, none⟩) (Mc.total (Mc.parts p)) (Mc.total (Mc.parts p)), .nilIface]) ∧ us.length = Mc.total (Mc.parts p) ∧ GT w g (Mc.total (Mc.parts p)) (2 ^ (Ld.kindL p.names 1).length) us (Pr.goodRow p x (2 ^ (Ld.kindL p.names 1).length)) w' else e = .returned (.tuple #[.slice none 0 0, .iface 40 (.int .i64 7)]))
set_option maxHeartbeats 8000000 in
set_option maxRecDepth 100000 in
theorem Good_any (ok : Nat → Prop) (bm : Nat) (p : Ld.Prg) (x : Ex) (v : Value) (w : World) (hm : IsMach w bm p) (hck : Ld.check p = none) (hS : Mc.total (Mc.parts p) ≤ 4096) (hq : (Ld.kindL p.names 1).length ≤ 6) (h : IsEx ok w x v) (hlen : x.size ≤ 1000000) :
    Calls Tryz.prog 10 #[.pointer (some ⟨bm, 0, none⟩), v] w (Gooded w p x) := by
  obtain ⟨na, nk, nc, ra, rk, rc, hmv⟩ := hm.view hck hS
  obtain ⟨gN, uN, hna⟩ := hm.next
  have hI6 : 2 ^ (Ld.kindL p.names 1).length ≤ 64 := Nat.pow_le_pow_right (n := 2) (by decide) hq
  have HMV := hide hmv
  have HNA := hide hna
  have HX := hide h
  have pn := fun w a => ptrNe w a
  have hbl : bm < w.heap.size := hm.lt
  obtain ⟨p0, p1, hnm⟩ := hmv.prog w (Below.refl _ _)
  have HHN := hide (hasNames_any ok p.names _ (.slice ra rk rc) x v w hnm ⟨_, _, _, rfl⟩ h hlen)
  have HG : Hid (∀ e w', Gooded w p x e w' ↔ (Below w.heap.size w w' ∧ (if Pr.has p.names x then ∃ g us, e = .returned (.tuple #[.slice (some ⟨g, 0, none⟩) (Mc.total (Mc.parts p)) (Mc.total (Mc.parts p)), .nilIface]) ∧ us.length = Mc.total (Mc.parts p) ∧ GT w g (Mc.total (Mc.parts p)) (2 ^ (Ld.kindL p.names 1).length) us (Pr.goodRow p x (2 ^ (Ld.kindL p.names 1).length)) w' else e = .returned (.tuple #[.slice none 0 0, .iface 40 (.int .i64 7)])))) := fun _ _ => Iff.rfl
  obtain ⟨tu, yu, rfl⟩ := IsEx.iface x v h
  clear hmv hna hm hnm h
  go_enter Tryz.func10, Tryz.ntmps10
  go_wp2_with fail
  refine HHN.out.mono ?_
  rintro e w1 ⟨rfl, hb1⟩
  have HB1 := hide hb1
  cases hhas : Pr.has p.names x with
  | false =>
    have HFN : Hid (Gooded w p x (.returned (.tuple #[.slice none 0 0, .iface 40 (.int .i64 7)])) w1) := by
      refine (HG.out _ _).2 ⟨hb1, ?_⟩
      rw [hhas, if_neg Bool.false_ne_true]
    clear hb1 HHN
    go_wp2_with fail
    refine bodyPost_ret (results_tmp2 rfl _ _ _) rfl ?_
    exact HFN.out
  | true =>
    obtain ⟨S, hSS⟩ : ∃ S, S = Mc.total (Mc.parts p) := ⟨_, rfl⟩
    obtain ⟨I, hII⟩ : ∃ I, I = 2 ^ (Ld.kindL p.names 1).length := ⟨_, rfl⟩
    obtain ⟨n, hnn⟩ : ∃ n, n = p.names.length := ⟨_, rfl⟩
    have HFN : Hid (∀ g us W, us.length = S → GT w g S I us (Pr.goodRow p x I) W → Gooded w p x (.returned (.tuple #[.slice (some ⟨g, 0, none⟩) S S, .nilIface])) W) := fun g us W h1 h2 => by
      refine (HG.out _ _).2 ⟨h2.bel, ?_⟩
      rw [hhas, if_pos rfl, ← hSS, ← hII]
      exact ⟨g, us, rfl, h1, h2⟩
    have HSTA : Hid (∀ W (s : Nat), Below w.heap.size w W → s < S → Calls Tryz.prog 36 #[.pointer (some ⟨bm, 0, none⟩), .int .i64 (s : Int)] W (NewSt W (Mc.state (Mc.parts p) s))) := fun W s hW hs => HMV.out.state W s hW (by rw [← hSS]; exact hs)
    have HSEE : Hid (∀ W (s i : Nat), Below w.heap.size w W → s < S → i < I → Calls Tryz.prog 37 #[.pointer (some ⟨bm, 0, none⟩), .int .i64 (s : Int), .int .i64 (i : Int)] W fun e w' => ∃ gb, e = .returned (.tuple #[slV gb n, .nilIface]) ∧ RowIs w' gb 4 ((Mc.after1 p (Ld.kindL p.names 1).length s i).is.map boolV) ∧ W.heap.size ≤ gb ∧ Below W.heap.size W w') := fun W s i hW hs hi => by
      rw [hnn]
      exact HMV.out.sees W s i hW (by rw [← hSS]; exact hs) (by rw [← hII]; exact hi)
    rw [← hSS] at hS HNA
    rw [← hII] at hI6 HNA
    have HNN := hide hnn
    have HII := hide hII
    obtain ⟨c4, hul, hrw⟩ := HNA.out.below hb1
    have mk1 := fun w => makeBss S (by omega) w
    have mk2 := fun w => makeBs I (by omega) w
    obtain ⟨cI, hcI⟩ : ∃ c, c = List.replicate I (Value.bool false) := ⟨_, rfl⟩
    obtain ⟨cS, hcS⟩ : ∃ c, c = List.replicate S (Value.slice none 0 0) := ⟨_, rfl⟩
    rw [← hcI] at mk2
    rw [← hcS] at mk1
    have HCI := hide hcI
    obtain ⟨w2, hw2⟩ : ∃ w2, w2 = w1.alloc (.cells ⟨cS⟩ 51) := ⟨_, rfl⟩
    have HT0 : Hid (GT w w1.heap.size S I [] (Pr.goodRow p x I) w2) := by
      refine ⟨by simp, ?_, fun s b hs => by simp at hs, fun s hs => absurd hs (Nat.not_lt_zero _), hb1.size, ?_⟩
      · rw [hw2, hcS]; exact RowIs.new _ _ _
      · rw [hw2]; exact hb1.alloc hb1.size _
    have HXS : Hid (∀ W, Below w.heap.size w W → IsEx (fun _ => True) W x (.iface tu yu)) := fun W hW => IsEx.stay (Stay.below hW) (fun g _ => trivial) x _ HX.out
    have HPR : Hid (∀ W, Below w.heap.size w W → W.cell? ⟨bm, 0, none⟩ = some (.slice na nk nc) ∧ W.cell? ⟨bm, 1, none⟩ = some (.slice ra rk rc) ∧ NamesAt W (.slice na nk nc) p.names) := fun W hW => HMV.out.prog W hW
    have hb1l := HB1.out.size
    have hbl1 : bm < w1.heap.size := by omega
    clear hb1 HHN hSS hII hnn hcI hcS hrw hul HG hhas p0 p1
    go_wp2_with fail
    rw [← hw2]
    clear hw2
    go_loopw [40] (fun i wr => ∃ (s : Nat) (us : List Nat), s ≤ S ∧ i = .int .i64 (s : Int) ∧ us.length = s ∧ Hid (GT w w1.heap.size S I us (Pr.goodRow p x I) wr)) (fun i _ => S - (intOf i).toNat)
    case atStart => exact ⟨0, [], Nat.zero_le _, rfl, rfl, HT0.out⟩
    case round =>
      obtain ⟨s, us, hs, rfl, hus, HT⟩ := hrel
      by_cases hlt : s < S
      · obtain ⟨bN, hbN⟩ : ∃ b, uN[s]? = some b := ⟨_, List.getElem?_eq_getElem (by rw [HNA.out.2.1]; exact hlt)⟩
        have hna := HNA.out.below HT.out.bel
        have r0 := (hna.2.2 s bN hbN).1
        have hg := HT.out.top.lt
        have g0 := HT.out.top.cell s (.slice none 0 0) (by rw [List.getElem?_append_right (by simp; omega), List.getElem?_replicate, if_pos (by simp; omega)])
        have g1 := HT.out.top.frozen s
        have hsi : (s : Int) < (S : Int) := by omega
        obtain ⟨wN, hwN⟩ : ∃ wN, wN = (wr.setCell ⟨w1.heap.size, s, none⟩ (.slice (some ⟨wr.heap.size, 0, none⟩) I I)).alloc (.cells ⟨cI⟩ 4) := ⟨_, rfl⟩
        have HTN : Hid (GT w w1.heap.size S I (us ++ [wr.heap.size]) (fun t => if t = us.length then Rc.inTo (Pr.goodRow p x I s) 0 else Pr.goodRow p x I t) wN) := by
          have h1 := HT.out.new (by omega) (Pr.goodRow p x I s) (Pr.goodRow_len ..) cI HCI.out
          rw [hus] at h1 ⊢
          rw [hwN]
          exact h1
        have HD : Hid (∀ t : Nat, us[t]? ≠ some wr.heap.size) := fun t e => by have := (HT.out.rows t _ e).1.lt; omega
        clear hna hbN c4
        obtain ⟨wo, rfl⟩ : ∃ wo, wo = wr := ⟨_, rfl⟩
        go_upto_region 8 with fail
        rw [← hwN]
        have HK2 : Hid (∀ W, Below wN.heap.size wN W → W.cell? ⟨bm, 0, none⟩ = some (.slice na nk nc) ∧ W.cell? ⟨bm, 1, none⟩ = some (.slice ra rk rc)) := fun W hW => by
          obtain ⟨h1, h2, _⟩ := HPR.out W (HTN.out.bel.trans (hW.mono HTN.out.bel.size))
          exact ⟨h1, h2⟩
        have HBW : Hid (∀ W, Below wN.heap.size wN W → Below w.heap.size w W) := fun W hW => HTN.out.bel.trans (hW.mono HTN.out.bel.size)
        have HDA : Hid (Below wN.heap.size wN wN.drew) := ⟨rfl, rfl, rfl, Nat.le_refl _, fun _ _ => rfl⟩
        have HLS := hide (HMV.out.lens s 0).1
        rw [← HNN.out] at HLS
        have HSC : Hid (∀ W, Below wN.heap.size wN W → Calls Tryz.prog 36 #[.pointer (some ⟨bm, 0, none⟩), .int .i64 (s : Int)] W fun e w' => ∃ gi gc, e = .returned (.agg #[.slice (some ⟨gi, 0, none⟩) n n, .slice (some ⟨gc, 0, none⟩) n n]) ∧ RowIs w' gi 4 ((Mc.state (Mc.parts p) s).is.map boolV) ∧ W.heap.size ≤ gi ∧ Below W.heap.size W w') := fun W hW => by
          refine (HSTA.out W s (HBW.out W hW) hlt).mono ?_
          rintro e w' ⟨gi, gc, rfl, h1, h3, _, h2⟩
          rw [HLS.out]
          exact ⟨gi, gc, rfl, h1.rowI, h3, h2⟩
        have HWN := hide hwN
        clear hwN
        go_cut [9] (fun t wx => ∃ ta tb gi, t = .func (.func 87) #[] #[.pointer (some ⟨ta, 0, none⟩), .pointer (some ⟨tb, 0, none⟩)] ∧ ToldAt wx (.slice na nk nc) ra rk rc n (Mc.state (Mc.parts p) s).is ta tb gi ∧ (wN.heap.size ≤ ta ∧ wN.heap.size ≤ tb ∧ wN.heap.size ≤ gi) ∧ Below wN.heap.size wN wx)
        case first =>
          go_region_held3 (fun W => W.cell? ⟨bm, 0, none⟩ = some (.slice na nk nc) ∧ W.cell? ⟨bm, 1, none⟩ = some (.slice ra rk rc)) ((refine HK2.out _ ?_; repeat (first | exact HB6.out | exact HDA.out | exact Below.refl _ _ | refine Below.alloc ?_ (by first | omega | (simp; omega)) _))) ((first
            | (go_at_call 36; (with_reducible refine (HSC.out _ HDA.out).mono ?_); rintro e w6 ⟨gi, gc, rfl, hrow6, hgi6, hb6⟩; have HB6 : Hid (Below wN.heap.size wN w6) := HDA.out.trans hb6; have hz6 := HB6.out.size; have HR6 := hide hrow6; clear hrow6 hb6)
            | (go_at_call 35; (with_reducible refine (ptold_any _ _ _ _ ⟨_, _, _, rfl⟩ ⟨_, _, _, rfl⟩ ⟨_, _, _, rfl⟩).mono ?_); rintro e w7 ⟨rfl, rfl⟩)))
          all_goals go_wp2_with fail
          all_goals go_meet
          exact ⟨_, _, gi, rfl, told_made _ _ _ _ _ _ _ _ HR6.out, ⟨hz6, by omega, hgi6⟩, (HB6.out.alloc hz6 _).alloc (by simp; omega) _⟩
        case rest =>
          obtain ⟨ta, tb, gi, rfl, htl, ⟨lta, ltb, lgi⟩, hbc⟩ := hcut
          have HTL := hide htl
          have HTC := hide (HTN.out.below hbc)
          have hzN : wN.heap.size = wo.heap.size + 1 := by rw [HWN.out]; simp [World.setCell]
          have hzc := hbc.size
          clear htl hbc HSC HK2 HDA HTN HBW
          go_wp2_with fail
          go_loopw [62] (fun x_ wr => ∃ i : Nat, i ≤ I ∧ x_ = .int .i64 (i : Int) ∧ Hid (GT w w1.heap.size S I (us ++ [wo.heap.size]) (fun t => if t = us.length then Rc.inTo (Pr.goodRow p x I s) i else Pr.goodRow p x I t) wr) ∧ Hid (ToldAt wr (.slice na nk nc) ra rk rc n (Mc.state (Mc.parts p) s).is ta tb gi)) (fun x_ _ => I - (intOf x_).toNat)
          case atStart => exact ⟨0, Nat.zero_le _, rfl, HTC.out, HTL.out⟩
          case round =>
            clear HTC HTL
            obtain ⟨i, hi, rfl, HTC, HTL⟩ := hrel
            by_cases hiI : i < I
            · have hii : (i : Int) < (I : Int) := by omega
              have HSE := hide (HSEE.out wr s i HTC.out.bel hlt hiI)
              unfold slV at HSE
              go_wp2_with fail
              refine HSE.out.mono ?_
              rintro e wE ⟨gb, rfl, hrE, hgE, hbE⟩
              have HRE := hide hrE
              have HBE := hide hbE
              have HTE := hide (HTC.out.below hbE)
              obtain ⟨l1, l2, l3⟩ := HTL.out.lt
              have HLE := hide (HTL.out.kept (hbE.block _ l1) (hbE.block _ l2) (hbE.block _ l3))
              clear hrE hbE HSE
              have hgE2 := HTE.out.top.lt
              have HKE : Hid (KG bm (.slice na nk nc) (.slice ra rk rc) w1.heap.size s wo.heap.size I wE) := by
                obtain ⟨k1, k2, _⟩ := HPR.out wE HTE.out.bel
                refine ⟨k1, k2, HTE.out.top.cell s _ ?_⟩
                rw [List.getElem?_append_left (by simp; omega), List.getElem?_map, List.getElem?_append_right (by omega), hus]
                simp [slV]
              obtain ⟨hrb, hgb⟩ := HTE.out.rows us.length wo.heap.size (by rw [List.getElem?_append_right (Nat.le_refl _)]; simp)
              rw [if_pos rfl] at hrb
              have HRB := hide hrb
              have hlo := hrb.lt
              have HDA : Hid (Below wE.heap.size wE wE.drew) := ⟨rfl, rfl, rfl, Nat.le_refl _, fun _ _ => rfl⟩
              have HLI := hide ((HMV.out.lens s i).2 (by rw [← HII.out]; exact hiI))
              rw [← HNN.out] at HLI
              have HEV : Hid (∀ (W : World) (a b : Nat), Below wE.heap.size wE W → ToldAt W (.slice na nk nc) ra rk rc n (Mc.after1 p (Ld.kindL p.names 1).length s i).is a b gb → Calls Tryz.prog 38 #[.iface tu yu, .func (.func 87) #[] #[.pointer (some ⟨a, 0, none⟩), .pointer (some ⟨b, 0, none⟩)], .func (.func 87) #[] #[.pointer (some ⟨ta, 0, none⟩), .pointer (some ⟨tb, 0, none⟩)]] W fun e w' => e = .returned (.bool (Pr.good p x s i)) ∧ Below wE.heap.size wE w') := fun W a b h7 ht => by
                have h8 := HTE.out.bel.trans (h7.mono HTE.out.bel.size)
                obtain ⟨q1, q2, q3⟩ := HLE.out.lt
                refine (E2.Eval_any (fun _ => True) x _ _ _ _ _ _ (HXS.out _ h8) (ht.tells (HPR.out _ h8).2.2 HLI.out HNN.out) ((HLE.out.kept (h7.block _ q1) (h7.block _ q2) (h7.block _ q3)).tells (HPR.out _ h8).2.2 HLS.out HNN.out)).mono ?_
                rintro e w' ⟨rfl, h9⟩
                exact ⟨rfl, h7.trans (h9.mono h7.size)⟩
              have HT7 : Hid (ToldAt ((wE.alloc (.cells #[.slice na nk nc, .slice ra rk rc] 83)).alloc (.cells #[.slice (some ⟨gb, 0, none⟩) n n] 51)).drew (.slice na nk nc) ra rk rc n (Mc.after1 p (Ld.kindL p.names 1).length s i).is wE.heap.size (wE.heap.size + 1) gb) := by
                obtain ⟨u1, u2, u3⟩ := told_made (.slice na nk nc) ra rk rc wE _ gb n HRE.out
                exact ⟨u1, u2, u3⟩
              have HB7 : Hid (Below wE.heap.size wE ((wE.alloc (.cells #[.slice na nk nc, .slice ra rk rc] 83)).alloc (.cells #[.slice (some ⟨gb, 0, none⟩) n n] 51)).drew) := by
                have h7 : Below wE.heap.size wE ((wE.alloc (.cells #[.slice na nk nc, .slice ra rk rc] 83)).alloc (.cells #[.slice (some ⟨gb, 0, none⟩) n n] 51)) := ((Below.refl _ wE).alloc (Nat.le_refl _) _).alloc (by simp) _
                exact h7.trans ⟨rfl, rfl, rfl, Nat.le_refl _, fun _ _ => rfl⟩
              have hnb : bm ≠ wo.heap.size := by omega
              have hng : w1.heap.size ≠ wo.heap.size := by omega
              have hlE : wo.heap.size < wE.heap.size := hlo
              clear hrb
              go_upto_region 13 with fail
              go_region_held3 (fun W => W.cell? ⟨bm, 0, none⟩ = some (.slice na nk nc) ∧ W.cell? ⟨bm, 1, none⟩ = some (.slice ra rk rc) ∧ W.cell? ⟨w1.heap.size, s, none⟩ = some (.slice (some ⟨wo.heap.size, 0, none⟩) I I)) ((show KG bm (.slice na nk nc) (.slice ra rk rc) w1.heap.size s wo.heap.size I _; repeat (first | exact HKE.out | exact HKE.out.below HDA.out | exact HKE.out.below HB8.out | refine KG.set _ _ _ hnb hng ?_ | refine KG.drew ?_ | (refine KG.below ?_ (Below.alloc (Below.refl _ _) (Nat.le_refl _) _))))) ((first
                | (go_at_call 35; (with_reducible refine (ptold_any _ _ _ _ ⟨_, _, _, rfl⟩ ⟨_, _, _, rfl⟩ ⟨_, _, _, rfl⟩).mono ?_); rintro e w7 ⟨rfl, rfl⟩)
                | (go_at_call 38; (with_reducible refine (HEV.out _ _ _ HB7.out HT7.out).mono ?_); rintro e w8 ⟨rfl, hb8⟩; have HB8 := hide hb8; have q3 := (hb8.cell (p := ⟨wo.heap.size, i, none⟩) hlE).trans (HRB.out.cell i false (Rc.inTo_at _ _ (by rw [Pr.goodRow_len]; exact hiI))); have q4 := (hb8.frozen (p := ⟨wo.heap.size, i, none⟩) hlE).trans (RowIs.frozen HRB.out i); clear hb8)))
              have HNX : Hid (GT w w1.heap.size S I (us ++ [wo.heap.size]) (fun t => if t = us.length then Rc.inTo (Pr.goodRow p x I s) (i + 1) else Pr.goodRow p x I t) (w8.setCell ⟨wo.heap.size, i, none⟩ (.bool (Pr.good p x s i)))) := (HTE.out.below HB8.out).set HD.out (Pr.goodRow_len ..) hiI (Pr.goodRow_at _ _ _ _ _ hiI)
              have HTX : Hid (ToldAt (w8.setCell ⟨wo.heap.size, i, none⟩ (.bool (Pr.good p x s i))) (.slice na nk nc) ra rk rc n (Mc.state (Mc.parts p) s).is ta tb gi) := by
                obtain ⟨q1, q2, q3⟩ := HLE.out.lt
                refine HLE.out.kept ?_ ?_ ?_
                · rw [Below.heap_setCell _ _ _ _ (by show ta ≠ wo.heap.size; omega)]; exact HB8.out.block _ q1
                · rw [Below.heap_setCell _ _ _ _ (by show tb ≠ wo.heap.size; omega)]; exact HB8.out.block _ q2
                · rw [Below.heap_setCell _ _ _ _ (by show gi ≠ wo.heap.size; omega)]; exact HB8.out.block _ q3
              clear q3 q4
              go_wp2_with fail
              go_roundw
              case rel => exact ⟨i + 1, by omega, by go_num, HNX.out, HTX.out⟩
              case measure => simp [intOf]; omega
            · have hiI' : i = I := by omega
              have HGE : Hid (GT w w1.heap.size S I (us ++ [wo.heap.size]) (Pr.goodRow p x I) wr) := by
                have h1 := HTC.out
                have e : (fun t => if t = us.length then Rc.inTo (Pr.goodRow p x I s) i else Pr.goodRow p x I t) = Pr.goodRow p x I := by
                  funext t
                  by_cases ht : t = us.length
                  · rw [if_pos ht, ht, hus]
                    have h2 := Rc.inTo_all (Pr.goodRow p x I s)
                    rw [Pr.goodRow_len] at h2
                    rw [hiI']; exact h2
                  · rw [if_neg ht]
                rw [e] at h1
                exact h1
              go_wp2_with fail
              exact ⟨⟨s + 1, us ++ [wo.heap.size], by omega, by go_num, by simp [hus], HGE.out⟩, by simp [intOf]; omega⟩
      · have hsS : s = S := by omega
        have HE := hide (HFN.out _ us wr (by omega) HT.out)
        go_wp2_with fail
        refine bodyPost_ret (results_tmp2 rfl _ _ _) rfl ?_
        exact HE.out
end
end Go.Proofs.YtgldbliohpfljaaGreatDoor
