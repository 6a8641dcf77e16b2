/-
  Slices of slices of bools, and of states, in memory. Slices of numbers in memory. Slices of numbers, and rows of rows of bools, in memory. The document's machine in memory; the walk of its Input. The walk of the document's own Edges. (Out of NdNamed.) The walk of the document's Edges of a program.
-/
import Derived.Test.YtgldbliohpfljaaGreatDoorScStepA
import Derived.Test.YtgldbliohpfljaaGreatDoorScBoundAll
import Derived.Test.YtgldbliohpfljaaGreatDoorLdKindAll
import Derived.Test.YtgldbliohpfljaaGreatDoorRdListAll
import Derived.Test.YtgldbliohpfljaaGreatDoorScTwoAll
import Derived.Test.YtgldbliohpfljaaGreatDoorRpPieceAll
import Derived.Test.YtgldbliohpfljaaGreatDoorNdNamedAll
import Derived.Test.YtgldbliohpfljaaGreatDoorRlSplitAll
import Derived.Test.YtgldbliohpfljaaGreatDoorLdWordsAll
namespace Go.Proofs.YtgldbliohpfljaaGreatDoor
section
open Go.RowKit
theorem Tryz.infoState : (Tryz.prog.info? 105).map (fun i => (i.zero, i.size, i.bytes)) = some (some (.agg #[.slice none 0 0, .slice none 0 0]), 2, 48) := by kernel_rfl
def slV (g n : Nat) : Value := .slice (some ⟨g, 0, none⟩) n n
def stCells (n : Nat) (q : Nat × Nat) : List Value := [slV q.1 n, slV q.2 n]
/-- a slice of slices of bools -/
def InsAt (w : World) (v : Value) (ll : List (List Bool)) : Prop :=
  (ll = [] ∧ ∃ a cap, v = .slice a 0 cap) ∨ ∃ g cap, v = .slice (some ⟨g, 0, none⟩) ll.length cap ∧ ll.length ≤ cap ∧ ∀ (i : Nat) l, ll[i]? = some l → ∃ u, w.cell? ⟨g, i, none⟩ = some u ∧ Bools w u l
theorem InsAt.below {w w' : World} {v : Value} {ll : List (List Bool)} (h : InsAt w v ll) (hb : Below w.heap.size w w') : InsAt w' v ll := by
  rcases h with h | ⟨g, cap, h1, h2, h3⟩
  · exact .inl h
  · refine .inr ⟨g, cap, h1, h2, fun i l hi => ?_⟩
    obtain ⟨u, h4, h5⟩ := h3 i l hi
    exact ⟨u, (hb.cell (World.block_lt_of_cell? _ _ h4)).trans h4, h5.below hb⟩
theorem InsAt.slice {w : World} {v : Value} {ll : List (List Bool)} (h : InsAt w v ll) : ∃ a c, v = .slice a ll.length c := by
  rcases h with ⟨rfl, a, c, rfl⟩ | ⟨g, cap, rfl, _⟩
  · exact ⟨a, c, rfl⟩
  · exact ⟨_, _, rfl⟩
/-- a slice of states, each of n names -/
def StatesAt (w : World) (n : Nat) (v : Value) (ss : List Sc.St) : Prop :=
  (ss = [] ∧ ∃ a cap, v = .slice a 0 cap) ∨ ∃ g cap, v = .slice (some ⟨g, 0, none⟩) ss.length cap ∧ ss.length ≤ cap ∧ ∀ (i : Nat) s, ss[i]? = some s → ∃ gi gc, w.cell? ⟨g, i * 2, none⟩ = some (slV gi n) ∧ w.cell? ⟨g, i * 2 + 1, none⟩ = some (slV gc n) ∧ StAt w gi gc s
theorem StatesAt.below {w w' : World} {n : Nat} {v : Value} {ss : List Sc.St} (h : StatesAt w n v ss) (hb : Below w.heap.size w w') : StatesAt w' n v ss := by
  rcases h with h | ⟨g, cap, h1, h2, h3⟩
  · exact .inl h
  · refine .inr ⟨g, cap, h1, h2, fun i s hi => ?_⟩
    obtain ⟨gi, gc, h4, h5, h6⟩ := h3 i s hi
    exact ⟨gi, gc, (hb.cell (World.block_lt_of_cell? _ _ h4)).trans h4, (hb.cell (World.block_lt_of_cell? _ _ h5)).trans h5, h6.below hb⟩
theorem StatesAt.slice {w : World} {n : Nat} {v : Value} {ss : List Sc.St} (h : StatesAt w n v ss) : ∃ a c, v = .slice a ss.length c := by
  rcases h with ⟨rfl, a, c, rfl⟩ | ⟨g, cap, rfl, _⟩
  · exact ⟨a, c, rfl⟩
  · exact ⟨_, _, rfl⟩
theorem flat2 {α : Type} (f : α → List Value) (hf : ∀ a, (f a).length = 2) : ∀ (l : List α) (i : Nat) (a : α), l[i]? = some a → ∀ j, j < 2 → (l.flatMap f)[i * 2 + j]? = (f a)[j]?
  | [], i, a, h, _, _ => by simp at h
  | x :: l, 0, a, h, j, hj => by
    simp only [List.getElem?_cons_zero, Option.some.injEq] at h
    subst h
    rw [List.flatMap_cons, List.getElem?_append_left (by rw [hf]; omega)]
    congr 1; omega
  | x :: l, i + 1, a, h, j, hj => by
    have ih := flat2 f hf l i a (by simpa using h) j hj
    rw [List.flatMap_cons, List.getElem?_append_right (by rw [hf]; omega), hf]
    have : (i + 1) * 2 + j - 2 = i * 2 + j := by omega
    rw [this]; exact ih
/-- what Play comes to in memory -/
def Played (w : World) (n : Nat) (ss : List Sc.St) (e : Ending) (w' : World) : Prop := ∃ u, e = .returned (.tuple #[u, .nilIface]) ∧ StatesAt w' n u ss ∧ Below w.heap.size w w'
/-- what was played so far, in memory: the states' row lies from block q on, the last one in block b -/
structure Pl (w : World) (b q n : Nat) (l : Value) (ss : List Sc.St) (cur : Sc.St) (gs : List (Nat × Nat)) (gi gc : Nat) (W : World) : Prop where
  len : gs.length = ss.length
  own : W.ownsRow q 105 2 l ss.length (gs.flatMap (stCells n))
  at_ : ∀ (j : Nat) (g : Nat × Nat) (s : Sc.St), gs[j]? = some g → ss[j]? = some s → StAt W g.1 g.2 s
  bel : Below w.heap.size w W
  var : W.heap[b]? = some (.cells #[slV gi n, slV gc n] 105 (0, 0))
  st : StAt W gi gc cur
theorem tag_ne {W : World} {a b : Nat} {ca cb : Array Value} {ta tb : TypeId} {fa fb : Nat × Nat} (ha : W.heap[a]? = some (.cells ca ta fa)) (hb : W.heap[b]? = some (.cells cb tb fb)) (h : ta ≠ tb) : a ≠ b := by
  intro e
  subst e
  rw [ha] at hb
  simp only [Option.some.injEq, Obj.cells.injEq] at hb
  exact h hb.2.1
theorem StAt.moved {W W' : World} {gi gc : Nat} {s : Sc.St} (h : StAt W gi gc s) (h1 : W'.heap[gi]? = W.heap[gi]?) (h2 : W'.heap[gc]? = W.heap[gc]?) : StAt W' gi gc s := ⟨h1.trans h.bi, h2.trans h.bc⟩
theorem Pl.states {w : World} {b q n : Nat} {l : Value} {ss : List Sc.St} {cur : Sc.St} {gs : List (Nat × Nat)} {gi gc : Nat} {W : World} (h : Pl w b q n l ss cur gs gi gc W) : StatesAt W n l ss := by
  rcases h.own.2 with ⟨rfl, h0⟩ | ⟨g, cap, cu, rfl, _, hcur, hcap, _, _, htk⟩
  · exact .inl ⟨List.length_eq_zero_iff.1 h0, _, _, rfl⟩
  · refine .inr ⟨g, cap, rfl, hcap, fun i s hi => ?_⟩
    have hil : i < gs.length := by rw [h.len]; exact (List.getElem?_eq_some_iff.1 hi).1
    have hgi : gs[i]? = some gs[i] := List.getElem?_eq_getElem hil
    have hc := fun j hj => flat2 (stCells n) (fun _ => rfl) gs i gs[i] hgi j hj
    exact ⟨gs[i].1, gs[i].2, row_cell hcur htk (hc 0 (by omega)), row_cell hcur htk (hc 1 (by omega)), h.at_ i _ s hgi hi⟩
/-- one scan more -/
theorem Pl.next {w : World} {b q n : Nat} {l : Value} {ss : List Sc.St} {cur nxt : Sc.St} {gs : List (Nat × Nat)} {gi gc gi1 gc1 : Nat} {W W1 W2 WC : World} (h : Pl w b q n l ss cur gs gi gc W) (hwb : w.heap.size ≤ b) (hbq : b < q)
    (hb1 : Below W.heap.size W W1) (hs1 : StAt W1 gi1 gc1 nxt) (hg1 : W.heap.size ≤ gi1) (hg2 : W.heap.size ≤ gc1) (hW2 : W2 = (W1.setCell ⟨b, 0, none⟩ (slV gi1 n)).setCell ⟨b, 1, none⟩ (slV gc1 n)) (o : Obj) (g cap : Nat)
    (hown : WC.ownsRow q 105 2 (.slice (some ⟨g, 0, none⟩) (ss.length + 1) cap) (ss.length + 1) (gs.flatMap (stCells n) ++ stCells n (gi1, gc1))) (hgrow : (W2.alloc o).grownBy WC l.ownBlock) :
    Pl w b q n (.slice (some ⟨g, 0, none⟩) (ss.length + 1) cap) (ss ++ [nxt]) nxt (gs ++ [(gi1, gc1)]) gi1 gc1 WC := by
  have hbW : b < W.heap.size := (Array.getElem?_eq_some_iff.1 h.var).1
  have hz1 := hb1.size
  have hv1 : W1.heap[b]? = some (.cells #[slV gi n, slV gc n] 105 (0, 0)) := (hb1.block b hbW).trans h.var
  have h2b : W2.heap[b]? = some (.cells #[slV gi1 n, slV gc1 n] 105 (0, 0)) := by rw [hW2]; simp [World.setCell, Array.getElem?_modify, hv1]
  have h2o : ∀ k, k ≠ b → W2.heap[k]? = W1.heap[k]? := fun k hk => by rw [hW2, Below.heap_setCell _ _ _ _ (fun e => hk e), Below.heap_setCell _ _ _ _ (fun e => hk e)]
  have h2s : W2.heap.size = W1.heap.size := by rw [hW2]; simp [World.setCell]
  have hlb : ∀ k, l.ownBlock = some k → q ≤ k ∧ k < W.heap.size := fun k e => h.own.lt k e
  have hC : ∀ k, k < W2.heap.size → some k ≠ l.ownBlock → WC.heap[k]? = W2.heap[k]? := fun k hk hr => (hgrow.block k (by simp; omega) hr).trans (Below.heap_alloc _ _ _ hk)
  have hne : ∀ (k : Nat) (c : Array Value) (t : TypeId), W.heap[k]? = some (.cells c t (0, 0)) → t ≠ 105 → some k ≠ l.ownBlock := fun k c t hk ht e => by
    obtain ⟨c', hc'⟩ := own_tag h.own k e.symm
    exact tag_ne hk hc' ht rfl
  have hst : ∀ (a c : Nat) (s : Sc.St), StAt W a c s → StAt WC a c s := fun a c s hs => by
    have ha := hs.lt.1
    have hc := hs.lt.2
    refine hs.moved ?_ ?_
    · rw [hC a (by omega) (hne a _ _ hs.bi (by decide)), h2o a (tag_ne hs.bi h.var (by decide)), hb1.block a ha]
    · rw [hC c (by omega) (hne c _ _ hs.bc (by decide)), h2o c (tag_ne hs.bc h.var (by decide)), hb1.block c hc]
  have hs1l := hs1.lt
  have hnew : StAt WC gi1 gc1 nxt := by
    refine hs1.moved ?_ ?_
    · rw [hC gi1 (by omega) (fun e => by have := hlb _ e.symm; omega), h2o gi1 (by omega)]
    · rw [hC gc1 (by omega) (fun e => by have := hlb _ e.symm; omega), h2o gc1 (by omega)]
  refine ⟨by simp [h.len], ?_, ?_, ?_, ?_, hnew⟩
  · rw [List.length_append, List.flatMap_append]; simpa using hown
  · intro j x s hj hs
    by_cases hjl : j < ss.length
    · rw [List.getElem?_append_left (by rw [h.len]; exact hjl)] at hj
      rw [List.getElem?_append_left hjl] at hs
      exact hst _ _ _ (h.at_ j x s hj hs)
    · have hj2 : j < (ss ++ [nxt]).length := (List.getElem?_eq_some_iff.1 hs).1
      have : j = ss.length := by simp at hj2; omega
      subst this
      rw [List.getElem?_append_right (by rw [h.len]; exact Nat.le_refl _), h.len] at hj
      rw [List.getElem?_append_right (Nat.le_refl _)] at hs
      simp only [Nat.sub_self, List.getElem?_cons_zero, Option.some.injEq] at hj hs
      subst hj; subst hs
      exact hnew
  · have hzw := h.bel.size
    refine ⟨hgrow.os.trans (by rw [hW2]; exact hb1.os.trans h.bel.os), hgrow.tape.trans (by rw [hW2]; exact hb1.tape.trans h.bel.tape), hgrow.output.trans (by rw [hW2]; exact hb1.output.trans h.bel.output), by have := hgrow.size; simp at this; omega, fun k hk => ?_⟩
    rw [hC k (by omega) (fun e => by have := hlb _ e.symm; omega), h2o k (by omega), hb1.block k (by omega)]
    exact h.bel.block k hk
  · rw [hC b (by omega) (fun e => by have := hlb _ e.symm; omega)]; exact h2b
end
section
open Go.RowKit
/-- a slice of numbers that came in -/
def Ints (w : World) (sv : Value) (l : List Int) : Prop :=
  (l = [] ∧ ∃ a cap, sv = .slice a 0 cap) ∨ ∃ g o cap, sv = .slice (some ⟨g, o, none⟩) l.length cap ∧ l.length ≤ cap ∧ ∀ (k : Nat) x, l[k]? = some x → w.cell? ⟨g, o + k, none⟩ = some (.int .i64 x) ∧ I64 x
theorem Ints.below {w w' : World} {sv : Value} {l : List Int} (h : Ints w sv l) (hb : Below w.heap.size w w') : Ints w' sv l := by
  rcases h with h | ⟨g, o, cap, h1, h2, h3⟩
  · exact .inl h
  · exact .inr ⟨g, o, cap, h1, h2, fun k x hk => ⟨(hb.cell (World.block_lt_of_cell? _ _ (h3 k x hk).1)).trans (h3 k x hk).1, (h3 k x hk).2⟩⟩
theorem Ints.slice {w : World} {sv : Value} {l : List Int} (h : Ints w sv l) : ∃ a c, sv = .slice a l.length c := by
  rcases h with ⟨rfl, a, c, rfl⟩ | ⟨g, o, cap, rfl, _⟩
  · exact ⟨a, c, rfl⟩
  · exact ⟨_, _, rfl⟩
theorem Ints.cell {w : World} {a : Option Addr} {n c : Nat} {l : List Int} (h : Ints w (.slice a n c) l) (k : Nat) (x : Int) (hx : l[k]? = some x) : ∃ g o, a = some ⟨g, o, none⟩ ∧ w.cell? ⟨g, o + k, none⟩ = some (.int .i64 x) := by
  rcases h with ⟨h0, _⟩ | ⟨g, o, cap, h1, h2, h3⟩
  · rw [h0] at hx; simp at hx
  · simp only [Value.slice.injEq] at h1
    exact ⟨g, o, h1.1, (h3 k x hx).1⟩
end
section
open Go.RowKit
theorem Tryz.infoBool : (Tryz.prog.info? 4).map (fun i => (i.zero, i.size, i.bytes)) = some (some (.bool false), 1, 1) := by kernel_rfl
theorem Tryz.infoBools : (Tryz.prog.info? 51).map (fun i => (i.zero, i.size, i.bytes)) = some (some (.slice none 0 0), 1, 24) := by kernel_rfl
/-- rows of bools in a row of slices, all from block q on -/
structure InsR (q : Nat) (W : World) (o : Value) (us : List Value) (bs : List (List Bool)) : Prop where
  len : us.length = bs.length
  own : W.ownsRow q 51 1 o bs.length us
  at_ : ∀ (j : Nat) (u : Value) (b : List Bool), us[j]? = some u → bs[j]? = some b → W.ownsRow q 4 1 u b.length (b.map boolV)
theorem InsR.nil (q : Nat) (W : World) : InsR q W (.slice none 0 0) [] [] := ⟨rfl, World.ownsRow_nil _ _ _ _, fun j u b h => by simp at h⟩
theorem InsR.below {q : Nat} {W W' : World} {o : Value} {us : List Value} {bs : List (List Bool)} (h : InsR q W o us bs) (hb : Below W.heap.size W W') : InsR q W' o us bs :=
  ⟨h.len, own_below h.own hb, fun j u b h1 h2 => own_below (h.at_ j u b h1 h2) hb⟩
theorem bools_of {q : Nat} {W : World} {u : Value} {b : List Bool} (h : W.ownsRow q 4 1 u b.length (b.map boolV)) (hl : b.length ≤ 1000000) : Bools W u b := by
  rcases h.2 with ⟨rfl, h0⟩ | ⟨g, cap, cur, rfl, _, hcur, hcap, _, _, htk⟩
  · exact ⟨none, 0, by rw [h0], hl, fun i b hb => by rw [List.length_eq_zero_iff.1 h0] at hb; simp at hb⟩
  · exact ⟨_, _, rfl, hl, fun i x hx => ⟨g, rfl, row_cell hcur htk (by rw [List.getElem?_map, hx]; rfl)⟩⟩
theorem InsR.insAt {q : Nat} {W : World} {o : Value} {us : List Value} {bs : List (List Bool)} (h : InsR q W o us bs) (hl : ∀ b, b ∈ bs → b.length ≤ 1000000) : InsAt W o bs := by
  rcases h.own.2 with ⟨rfl, h0⟩ | ⟨g, cap, cur, rfl, _, hcur, hcap, _, _, htk⟩
  · exact .inl ⟨List.length_eq_zero_iff.1 h0, _, _, rfl⟩
  · refine .inr ⟨g, cap, rfl, hcap, fun i b hb => ?_⟩
    have hil : i < us.length := by rw [h.len]; exact (List.getElem?_eq_some_iff.1 hb).1
    exact ⟨us[i], row_cell hcur htk (List.getElem?_eq_getElem hil), bools_of (h.at_ i _ b (List.getElem?_eq_getElem hil) hb) (hl b (List.mem_of_getElem? hb))⟩
theorem InsR.put {q : Nat} {W W' : World} {o o' u : Value} {us : List Value} {bs : List (List Bool)} {b : List Bool} (h : InsR q W o us bs) (hu : W.ownsRow q 4 1 u b.length (b.map boolV)) (ob : Obj) (hown : W'.ownsRow q 51 1 o' (bs.length + 1) (us ++ [u])) (hg : (W.alloc ob).grownBy W' o.ownBlock) :
    InsR q W' o' (us ++ [u]) (bs ++ [b]) := by
  have hk : ∀ (u : Value) (b : List Bool), W.ownsRow q 4 1 u b.length (b.map boolV) → W'.ownsRow q 4 1 u b.length (b.map boolV) := fun u b hu =>
    (hu.alloc ob).kept hg (own_apart hu h.own (by decide))
  refine ⟨by simp [h.len], by simpa using hown, ?_⟩
  intro j x y hj hy
  by_cases hjl : j < bs.length
  · rw [List.getElem?_append_left (by rw [h.len]; exact hjl)] at hj
    rw [List.getElem?_append_left hjl] at hy
    exact hk _ _ (h.at_ j x y hj hy)
  · have hj2 : j < (bs ++ [b]).length := (List.getElem?_eq_some_iff.1 hy).1
    have : j = bs.length := by simp at hj2; omega
    subst this
    rw [List.getElem?_append_right (by rw [h.len]; exact Nat.le_refl _), h.len] at hj
    rw [List.getElem?_append_right (Nat.le_refl _)] at hy
    simp only [Nat.sub_self, List.getElem?_cons_zero, Option.some.injEq] at hj hy
    subst hj; subst hy
    exact hk _ _ hu
end
section
namespace Rf
open Go.RowKit
/-- the document's machine's block -/
def RMachAt (W : World) (bm : Nat) (nv rv : Value) (S I : Nat) (nx : Value) : Prop := W.heap[bm]? = some (.cells #[nv, rv, .int .i64 (S : Int), .int .i64 (I : Int), nx] 48 (0, 0))
theorem RMachAt.cells {W : World} {bm : Nat} {nv rv : Value} {S I : Nat} {nx : Value} (h : RMachAt W bm nv rv S I nx) : (W.cell? ⟨bm, 0, none⟩ = some nv ∧ W.cell? ⟨bm, 1, none⟩ = some rv) ∧ (W.cell? ⟨bm, 2, none⟩ = some (.int .i64 (S : Int)) ∧ W.cell? ⟨bm, 3, none⟩ = some (.int .i64 (I : Int))) ∧ W.cell? ⟨bm, 4, none⟩ = some nx :=
  ⟨⟨by rw [Lib.cell_of_heap h]; rfl, by rw [Lib.cell_of_heap h]; rfl⟩, ⟨by rw [Lib.cell_of_heap h]; rfl, by rw [Lib.cell_of_heap h]; rfl⟩, by rw [Lib.cell_of_heap h]; rfl⟩
theorem RMachAt.frozen {W : World} {bm : Nat} {nv rv : Value} {S I : Nat} {nx : Value} (h : RMachAt W bm nv rv S I nx) (i : Nat) : W.frozen? ⟨bm, i, none⟩ = false := Lib.frozen_of_heap h i
theorem RMachAt.below {W W' : World} {bm : Nat} {nv rv : Value} {S I : Nat} {nx : Value} (h : RMachAt W bm nv rv S I nx) (hb : Below W.heap.size W W') : RMachAt W' bm nv rv S I nx := (hb.block _ (Array.getElem?_eq_some_iff.1 h).1).trans h
theorem RMachAt.lt {W : World} {bm : Nat} {nv rv : Value} {S I : Nat} {nx : Value} (h : RMachAt W bm nv rv S I nx) : bm < W.heap.size := (Array.getElem?_eq_some_iff.1 h).1
theorem half (i : Nat) (k : Nat) : ((i / 2 ^ k : Nat) : Int) / 2 = ((i / 2 ^ (k + 1) : Nat) : Int) := by
  rw [Nat.pow_succ, ← Nat.div_div_eq_div_mul]; omega
theorem bit_at (i k : Nat) : (((i / 2 ^ k : Nat) : Int) % 2 == 1) = bitB (i : Int) k := by
  rw [Mc.bitB_eq]
  have : (i : Int) / 2 ^ k = ((i / 2 ^ k : Nat) : Int) := by simp
  rw [this]
  by_cases h : ((i / 2 ^ k : Nat) : Int) % 2 = 1
  · rw [h]; rfl
  · rw [decide_eq_false h]; simpa using h
set_option maxHeartbeats 4000000 in
set_option maxRecDepth 100000 in
theorem RInput_any (bm : Nat) (ns : List Ld.Nme) (nv rv nx : Value) (S I i : Nat) (w : World) (h : RMachAt w bm nv rv S I nx) (hn : NamesAt w nv ns) (hr : ∃ a n c, rv = .slice a n c) (hi : i ≤ 1000000) :
    Calls Tryz.prog 47 #[.pointer (some ⟨bm, 0, none⟩), .int .i64 (i : Int)] w fun e w' => ∃ v, e = .returned v ∧ w'.ownsRow w.heap.size 4 1 v (Ld.kindL ns 1).length ((bitsTo i (Ld.kindL ns 1).length).map boolV) ∧ Below w.heap.size w w' := by
  obtain ⟨i0, hi0, hz0, hz1, hz2⟩ := info_parts Tryz.infoBool
  obtain ⟨⟨c0, c1⟩, _⟩ := h.cells
  have HKI := hide (rKind_any ns nv rv 1 w hn hr)
  have hq12 : (Ld.kindL ns 1).length ≤ 1000000 := by
    have h1 := Ld.placesTo_le (fun n => n.kind == 1) ns ns.length
    obtain ⟨a, c, _, h2⟩ := hn.slice
    exact Nat.le_trans h1 h2
  obtain ⟨na, nc, rfl, _⟩ := hn.slice
  obtain ⟨ra, rn, rc, rfl⟩ := hr
  obtain ⟨q, hqq⟩ : ∃ q, q = (Ld.kindL ns 1).length := ⟨_, rfl⟩
  rw [← hqq] at hq12 HKI ⊢
  clear hn h
  go_enter Tryz.func47, Tryz.ntmps47
  go_wp2_with fail
  refine HKI.out.mono ?_
  rintro e w1 ⟨kv, rfl, hown, hb1⟩
  obtain ⟨ka, kc, rfl⟩ := own_slice hown
  have HB1 := hide hb1
  have hz1w := hb1.size
  clear hown hb1 HKI
  go_wp2_with fail
  go_loopw [5, 1, 12] (fun l iv zv wr => ∃ k : Nat, k ≤ q ∧ zv = .int .i64 (k : Int) ∧ iv = .int .i64 ((i / 2 ^ k : Nat) : Int) ∧ (∃ a c, l = .slice a k c) ∧ Hid (wr.ownsRow w.heap.size 4 1 l k ((bitsTo i k).map boolV)) ∧ Hid (Below w.heap.size w wr)) (fun _ _ zv _ => q - (intOf zv).toNat)
  case atStart => exact ⟨0, Nat.zero_le _, rfl, by simp, ⟨_, _, rfl⟩, World.ownsRow_nil _ _ _ _, HB1.out⟩
  case round =>
    obtain ⟨k, hk, rfl, rfl, ⟨la, lc, rfl⟩, HO, HB⟩ := hrel
    by_cases hlt : k < q
    · have hki : (k : Int) < (q : Int) := by omega
      have HHF := hide (half i k)
      have HBT := hide (bit_at i k)
      have hlei : i / 2 ^ k ≤ i := Nat.div_le_self _ _
      have HSU := hide (bitsTo_succ (i : Int) k)
      obtain ⟨i1, hi1⟩ : ∃ i1, i1 = i / 2 ^ (k + 1) := ⟨_, rfl⟩
      have HI1 := hide hi1
      rw [← hi1] at HHF
      clear hi1
      generalize i / 2 ^ k = i2 at *
      have hhf := HHF.out
      have HOWN : Hid (∀ o, (wr.alloc o).ownsRow w.heap.size 4 1 (.slice la k lc) k ((bitsTo i k).map boolV)) := fun o => HO.out.alloc o
      have HONE : Hid (∀ x : Bool, ∀ u ∈ [Value.bool x], u.oneCell' = true) := by
        intro x u hu
        simp only [List.mem_cons, List.not_mem_nil, or_false] at hu
        subst hu; rfl
      have hzw := HB.out.size
      have HFIN : Hid (∀ (o : Obj) (g2 cap : Nat) (wC : World), wC.ownsRow w.heap.size 4 1 (.slice (some ⟨g2, 0, none⟩) (k + 1) cap) (k + 1) ((bitsTo i k).map boolV ++ [.bool ((i2 : Int) % 2 == 1)]) → (wr.alloc o).grownBy wC (Value.slice la k lc).ownBlock →
          wC.ownsRow w.heap.size 4 1 (.slice (some ⟨g2, 0, none⟩) (k + 1) cap) (k + 1) ((bitsTo i (k + 1)).map boolV) ∧ Below w.heap.size w wC) := by
        intro o g2 cap wC hown hgrow
        rw [HSU.out, List.map_append, ← HBT.out]
        exact ⟨hown, (HB.out.alloc HB.out.size o).grown hgrow (by simp; omega) (fun j e => (HO.out.lt j e).1)⟩
      clear HBT HHF HSU
      go_wp2_with (at_builtin; refine wpList_append_lies _ rfl (.tmp 14) (.tmp 18) 51 rfl w.heap.size 4 i0 _ 1 1 Tryz.underlying51 hi0 hz0 hz1 hz2 rfl (by decide) (.slice la k lc) k ((bitsTo i k).map boolV) rfl (HOWN.out _) ⟨wr.heap.size, 0, none⟩ 1 1 [.bool ((i2 : Int) % 2 == 1)] rfl rfl (World.news_of_block (heap_alloc_new wr _)) (HONE.out _) (by decide) (by unfold maxLen; omega) (by omega) (by simp; omega) (wr.heap.size + 1) (by simp) ?_; intro g2 cap2 wC hown hgrow hat hltg; obtain ⟨hoC, hbC⟩ := HFIN.out _ g2 cap2 wC hown hgrow; have HOC := hide hoC; have HBC := hide hbC; clear hown hgrow hat hoC hbC)
      go_roundw
      case rel => exact ⟨k + 1, by omega, by go_num, by rw [← HI1.out], ⟨_, _, rfl⟩, HOC.out, HBC.out⟩
      case measure => simp [intOf]; omega
    · have hkm : k = q := by omega
      subst hkm
      go_wp2_with fail
      go_ret
      exact ⟨_, rfl, HO.out, HB.out⟩
end Rf
end
section
open Go.RowKit
set_option maxHeartbeats 1000000 in
set_option maxRecDepth 100000 in
theorem REdges_any (ok : Nat → Prop) (x : Ex) (g : Nat) (m : Int) (w : World) (h : IsRx ok w x g) (hlen : x.size ≤ 1000000) (hmp : 4 < w.heap.size) (hm : w.cell? ⟨4, 0, none⟩ = some (.int .i64 m)) :
    Calls Tryz.prog 156 #[.pointer (some ⟨g, 0, none⟩)] w fun e w' => ∃ sv, e = .returned sv ∧ Strs w' sv ((ordered (x.named false)).map toBA) ∧ Below w.heap.size w w' := by
  have HC := hide (Named_all ok false x g m w h hlen hmp hm)
  clear h hm
  go_enter Tryz.func156, Tryz.ntmps156
  go_wp2_with fail
  refine HC.out.mono ?_
  rintro e w1 ⟨sv, rfl, hs, hb⟩
  have HS := hide hs
  have HB := hide hb
  obtain ⟨a2, n2, c2, hsv2⟩ : ∃ a n c, sv = .slice a n c := by
    rcases hs with ⟨_, a, cap, h⟩ | ⟨g, o, cap, h, _⟩
    · exact ⟨_, _, _, h⟩
    · exact ⟨_, _, _, h⟩
  subst hsv2
  clear hs hb
  go_wp2_with fail
  go_ret
  exact ⟨.slice a2 n2 c2, rfl, HS.out, HB.out⟩
end
section
open Go.RowKit
namespace Ld
theorem asked_any (p : Prg) (s : List UInt8) : (asked p).contains s = p.rungs.any fun r => (asksR r).contains s := by
  rw [Bool.eq_iff_iff, List.contains_iff_mem, List.any_eq_true]
  unfold asked
  rw [List.mem_flatten]
  constructor
  · rintro ⟨l, hl, hs⟩
    obtain ⟨r, hr, rfl⟩ := List.mem_map.1 hl
    exact ⟨r, hr, List.contains_iff_mem.2 hs⟩
  · rintro ⟨r, hr, hs⟩
    exact ⟨_, List.mem_map.2 ⟨r, hr, rfl⟩, List.contains_iff_mem.1 hs⟩
theorem idx_pos (l : List (List UInt8)) (s : List UInt8) (hs : s ≠ []) : decide (0 ≤ idx l s) = l.contains s := by
  have he : s.isEmpty = false := by cases s with | nil => exact absurd rfl hs | cons a r => rfl
  unfold idx
  rw [he]
  cases hf : (l.findIdx? fun x => x == s && !false) with
  | none =>
    rw [List.findIdx?_eq_none_iff] at hf
    rw [decide_eq_false (by decide)]
    symm
    rw [Bool.eq_false_iff]
    intro hc
    have := hf s (List.contains_iff_mem.1 hc)
    simp at this
  | some k =>
    rw [List.findIdx?_eq_some_iff_getElem] at hf
    obtain ⟨h1, h2, _⟩ := hf
    rw [decide_eq_true (by show (0 : Int) ≤ ((k : Nat) : Int); omega)]
    symm
    rw [List.contains_iff_mem]
    simp at h2
    rw [← h2]
    exact List.getElem_mem h1
end Ld
set_option maxHeartbeats 8000000 in
set_option maxRecDepth 100000 in
theorem redges_any (p : Ld.Prg) (v : Value) (w : World) (h : IsRPrg w p v) (hL : RLaid w) (hck : Ld.check p = none) :
    Calls Tryz.prog 117 #[v] w fun e w' => ∃ v, e = .returned v ∧ w'.ownsRow w.heap.size 3 1 v (Ld.edges p).length ((Ld.edges p).map intV) ∧ Below w.heap.size w w' := by
  obtain ⟨nv, rv, rfl, hn, hr⟩ := h
  obtain ⟨i0, hi0, hz0, hz1, hz2⟩ := info_parts Tryz.infoInt
  have HNA := hide hn
  have HRA := hide hr
  have HL := hide hL
  have hcn := Ld.check_names p hck
  have HNE : Hid (∀ y, y ∈ p.names → y.name ≠ []) := fun y hy => Ld.name_ne _ (hcn.2.2.1 y hy).1
  have HRS : Hid (∀ r, r ∈ p.rungs → ∃ x, r.cond = some x) := fun r hr => by
    obtain ⟨_, _, _, x, hx, _⟩ := hcn.2.2.2 r hr
    exact ⟨x, hx⟩
  obtain ⟨na, nc, rfl, hln⟩ := hn.slice
  obtain ⟨ra, rc, rfl, hlr⟩ := hr.slice
  obtain ⟨n, hnn⟩ : ∃ n, n = p.names.length := ⟨_, rfl⟩
  obtain ⟨m, hmm⟩ : ∃ m, m = p.rungs.length := ⟨_, rfl⟩
  have HN := hide hnn
  have HM := hide hmm
  obtain ⟨P, hP⟩ : ∃ P : Ld.Nme → Bool, P = fun n => (Ld.asked p).contains n.name := ⟨_, rfl⟩
  have HED : Hid (Ld.edges p = Ld.placesTo P p.names n) := by show _ = _; rw [hP, hnn]; rfl
  have HPP : Hid (∀ y : Ld.Nme, P y = p.rungs.any fun r => (Ld.asksR r).contains y.name) := fun y => by rw [hP]; exact Ld.asked_any p y.name
  rw [← hnn] at HNA hln ⊢
  rw [← hmm] at HRA hlr ⊢
  rw [HED.out]
  clear hn hr hL hnn hmm hcn hck hP
  obtain ⟨wA, hwA⟩ : ∃ wA, wA = w.alloc (.cells #[.slice na n nc, .slice ra m rc] 45) := ⟨_, rfl⟩
  have hbA : Below w.heap.size w wA := by rw [hwA]; exact (Below.refl _ _).alloc (Nat.le_refl _) _
  have HPG : Hid (wA.heap[w.heap.size]? = some (.cells #[.slice na n nc, .slice ra m rc] 45 (0, 0))) := by show wA.heap[_]? = _; rw [hwA]; exact heap_alloc_new _ _
  have HBA := hide hbA
  go_enter Tryz.func117, Tryz.ntmps117
  go_wp2_with fail
  rw [← hwA]
  clear hwA hbA
  go_loopw [3, 11] (fun l i wr => ∃ k : Nat, k ≤ n ∧ i = .int .i64 (k : Int) ∧ (∃ a c, l = .slice a (Ld.placesTo P p.names k).length c) ∧ Hid (wr.ownsRow (w.heap.size + 1) 3 1 l (Ld.placesTo P p.names k).length ((Ld.placesTo P p.names k).map intV)) ∧ Hid (Below w.heap.size w wr ∧ wr.heap[w.heap.size]? = some (.cells #[.slice na n nc, .slice ra m rc] 45 (0, 0)))) (fun _ i _ => n - (intOf i).toNat)
  case atStart => exact ⟨0, Nat.zero_le _, rfl, ⟨_, _, rfl⟩, World.ownsRow_nil _ _ _ _, HBA.out, HPG.out⟩
  case round =>
    obtain ⟨k, hk, rfl, ⟨la, lc, rfl⟩, HO, HB⟩ := hrel
    have hple := Ld.placesTo_le P p.names k
    by_cases hlt : k < n
    · have hkl : k < p.names.length := by rw [← HN.out]; exact hlt
      obtain ⟨g, hga, hcap, e1, e2, e3, e4, e5, e6⟩ := (HNA.out.below HB.out.1).at_ (List.getElem?_eq_getElem hkl)
      subst hga
      have HSU := hide (Ld.placesTo_succ P p.names k hkl)
      have HYN := hide (HNE.out _ (List.getElem_mem hkl))
      have HYP := hide (HPP.out p.names[k])
      generalize p.names[k] = y at *
      obtain ⟨nm, kd, ct⟩ := y
      dsimp only at e1 e2 e3 HYN HYP
      generalize hpl : Ld.placesTo P p.names k = pl at *
      generalize hPb : P ⟨nm, kd, ct⟩ = pb at *
      clear hpl hPb e4 e5 e6
      obtain ⟨wN, hwN⟩ : ∃ wN, wN = wr.alloc (.cells #[.string ⟨nm.toArray⟩, .int .i64 kd, .int .i64 ct] 144) := ⟨_, rfl⟩
      have hbN : Below wr.heap.size wr wN := by rw [hwN]; exact (Below.refl _ _).alloc (Nat.le_refl _) _
      have lw : w.heap.size < wr.heap.size := (Array.getElem?_eq_some_iff.1 HB.out.2).1
      have HBN : Hid (Below w.heap.size w wN ∧ wN.heap[w.heap.size]? = some (.cells #[.slice (some ⟨g, 0, none⟩) n nc, .slice ra m rc] 45 (0, 0))) := ⟨HB.out.1.trans (hbN.mono HB.out.1.size), (hbN.block _ lw).trans HB.out.2⟩
      have HNB : Hid (wN.heap[wr.heap.size]? = some (.cells #[.string ⟨nm.toArray⟩, .int .i64 kd, .int .i64 ct] 144 (0, 0))) := by show wN.heap[_]? = _; rw [hwN]; exact heap_alloc_new _ _
      have HON := hide (own_below HO.out hbN)
      have q1 : (wr.alloc (.cells #[.string ⟨nm.toArray⟩, .int .i64 kd, .int .i64 ct] 144)).cell? ⟨w.heap.size, 1, none⟩ = some (.slice ra m rc) := by rw [← hwN]; exact Lib.cell_of_heap HBN.out.2 1
      have hki : (k : Int) < (n : Int) := by omega
      go_wp2_with fail
      rw [← hwN]
      clear hwN hbN q1 e1 e2 e3
      obtain ⟨wo, rfl⟩ : ∃ wo, wo = wr := ⟨_, rfl⟩
      go_loopw [3, 19] (fun l i wr => ∃ z : Nat, z ≤ m ∧ i = .int .i64 (z : Int) ∧ l = .slice la pl.length lc ∧ Hid (∀ (j : Nat) r, j < z → p.rungs[j]? = some r → (Ld.asksR r).contains nm = false) ∧ Hid (Below wN.heap.size wN wr)) (fun _ i _ => m - (intOf i).toNat)
      case atStart => exact ⟨0, Nat.zero_le _, rfl, rfl, fun j r hj => absurd hj (Nat.not_lt_zero j), Below.refl _ _⟩
      case round =>
        obtain ⟨z, hz, rfl, rfl, HNO, HBZ⟩ := hrel
        by_cases hzm : z < m
        · have hzl : z < p.rungs.length := by rw [← HM.out]; exact hzm
          have HBW : Hid (Below w.heap.size w wr) := HBN.out.1.trans (HBZ.out.mono HBN.out.1.size)
          obtain ⟨gr, hgr, hcr, v, r1, r2, r3, r4, r5, r6⟩ := (HRA.out.below HBW.out).at_ (List.getElem?_eq_getElem hzl)
          subst hgr
          obtain ⟨x, hx⟩ := HRS.out _ (List.getElem_mem hzl)
          have HON3 : Hid ((Ld.asksR p.rungs[z]).contains nm = false → ∀ (j : Nat) r, j < z + 1 → p.rungs[j]? = some r → (Ld.asksR r).contains nm = false) := fun h0 j r hj hr => by
            by_cases e : j = z
            · subst e; rw [List.getElem?_eq_getElem hzl] at hr; cases hr; exact h0
            · exact HNO.out j r (by omega) hr
          have HHIT : Hid ((Ld.asksR p.rungs[z]).contains nm = true → pb = true) := fun h0 => by
            rw [HYP.out, List.any_eq_true]
            exact ⟨_, List.getElem_mem hzl, h0⟩
          have HAR : Hid (Ld.asksR p.rungs[z] = x.named false) := by show _ = _; unfold Ld.asksR; rw [hx]
          rw [hx] at r6
          generalize p.rungs[z] = y at *
          obtain ⟨rk, rn, rcd⟩ := y
          dsimp only at r1 r2 r3
          obtain ⟨gx, rfl, hxx, hxs, _⟩ := r6
          obtain ⟨wR, hwR⟩ : ∃ wR, wR = wr.alloc (.cells #[.int .i64 rk, .string ⟨rn.toArray⟩, .pointer (some ⟨gx, 0, none⟩)] 195) := ⟨_, rfl⟩
          have hbR : Below wr.heap.size wr wR := by rw [hwR]; exact (Below.refl _ _).alloc (Nat.le_refl _) _
          have hbNR : Below wN.heap.size wN wR := HBZ.out.trans (hbR.mono HBZ.out.size)
          have HBR := hide hbNR
          have lo : wo.heap.size < wN.heap.size := (Array.getElem?_eq_some_iff.1 HNB.out).1
          have lzz := HBZ.out.size
          have s0 : wR.cell? ⟨wr.heap.size, 2, none⟩ = some (.pointer (some ⟨gx, 0, none⟩)) := by rw [hwR]; exact Lib.cell_of_heap (heap_alloc_new wr _) 2
          have s1 : wR.cell? ⟨wo.heap.size, 0, none⟩ = some (.string ⟨nm.toArray⟩) := (hbNR.cell (p := ⟨wo.heap.size, 0, none⟩) lo).trans (Lib.cell_of_heap HNB.out 0)
          have hbWR : Below w.heap.size w wR := HBW.out.trans (hbR.mono HBW.out.size)
          obtain ⟨ml, hml⟩ := (HL.out.below hbWR).len
          have HKS : Hid (∀ W, Below wR.heap.size wR W → W.cell? ⟨wr.heap.size, 2, none⟩ = some (.pointer (some ⟨gx, 0, none⟩)) ∧ W.cell? ⟨wo.heap.size, 0, none⟩ = some (.string ⟨nm.toArray⟩)) := fun W hW => ⟨(hW.cell (World.block_lt_of_cell? _ _ s0)).trans s0, (hW.cell (World.block_lt_of_cell? _ _ s1)).trans s1⟩
          have HXR : Hid (IsRx (fun _ => True) wR x gx) := IsRx.stay (Stay.below hbR) (fun _ h => h) x gx hxx
          have HED2 : Hid (Calls Tryz.prog 156 #[.pointer (some ⟨gx, 0, none⟩)] wR.drew fun e w' => ∃ sv, e = .returned sv ∧ Strs w' sv ((ordered (x.named false)).map toBA) ∧ Below wR.drew.heap.size wR.drew w') := REdges_any (fun _ => True) x gx ml wR.drew (IsRx.stay (Stay.below (below_drew1 (Below.refl _ _))) (fun _ h => h) x gx HXR.out) hxs (World.block_lt_of_cell? _ _ hml) hml
          have HDR : Hid (Below wR.heap.size wR wR.drew) := below_drew1 (Below.refl _ _)
          obtain ⟨ix, hix⟩ : ∃ ix, ix = Ld.idx (ordered (x.named false)) nm := ⟨_, rfl⟩
          have HIX : Hid (decide (0 ≤ ix) = (x.named false).contains nm) := by
            show _ = _
            rw [hix, Ld.idx_pos _ _ HYN.out, Bool.eq_iff_iff, List.contains_iff_mem, List.contains_iff_mem, mem_ordered]
          have HRX : Hid (∀ W sv, Strs W sv ((ordered (x.named false)).map toBA) → Calls Tryz.prog 111 #[sv, .string ⟨nm.toArray⟩] W fun e w' => e = .returned (.int .i64 ix) ∧ w' = W) := fun W sv hs => by rw [hix]; exact rindex_any _ _ _ _ hs
          have HWR := hide hwR
          have hzi : (z : Int) < (m : Int) := by omega
          rw [HAR.out] at HON3 HHIT
          clear hix r4 r5 hzl hx hxx hbR hbNR hbWR hml
          go_wp2_with fail
          rw [← HWR.out]
          clear hwR r1 r2 r3
          go_upto_region 8 with fail
          go_cut [29] (fun t wx => t = .bool (decide (0 ≤ ix)) ∧ Below wR.heap.size wR wx)
          case first =>
            go_region_held3 (fun W => W.cell? ⟨wr.heap.size, 2, none⟩ = some (.pointer (some ⟨gx, 0, none⟩)) ∧ W.cell? ⟨wo.heap.size, 0, none⟩ = some (.string ⟨nm.toArray⟩)) ((refine HKS.out _ ?_; first | exact HDR.out | exact HB6.out | exact Below.refl _ _)) ((first
              | (go_at_call 156; (with_reducible refine HED2.out.mono ?_); rintro e w6 ⟨sv, rfl, hss, hb6⟩; have HB6 := hide (HDR.out.trans hb6); have HSS := hide hss; obtain ⟨sa, sc, rfl, _⟩ := hss.at_; clear hb6)
              | (go_at_call 111; (with_reducible refine (HRX.out _ _ HSS.out).mono ?_); rintro e w7 ⟨rfl, hw7⟩; rw [hw7])))
            all_goals go_wp2_with fail
            all_goals go_meet
            all_goals exact ⟨rfl, HB6.out⟩
          case rest =>
            obtain ⟨rfl, hbc⟩ := hcut
            have hbc2 : Below wN.heap.size wN _ := HBR.out.trans (hbc.mono HBR.out.size)
            obtain ⟨w8, hw8⟩ : ∃ w8, w8 = wc := ⟨_, rfl⟩
            have HB8 : Hid (Below wN.heap.size wN w8) := by rw [hw8]; exact hbc2
            rw [← hw8]
            clear hbc hbc2 HED2 HRX HKS s0 s1
            have HO8 := hide (own_below HON.out HB8.out)
            have HBF : Hid (Below w.heap.size w w8 ∧ w8.heap[w.heap.size]? = some (.cells #[.slice (some ⟨g, 0, none⟩) n nc, .slice (some ⟨gr, 0, none⟩) m rc] 45 (0, 0))) := ⟨HBN.out.1.trans (HB8.out.mono HBN.out.1.size), (HB8.out.block _ (Array.getElem?_eq_some_iff.1 HBN.out.2).1).trans HBN.out.2⟩
            cases hcc : (x.named false).contains nm with
            | true =>
              have hix0 : 0 ≤ ix := of_decide_eq_true (HIX.out.trans hcc)
              have hpt := HHIT.out hcc
              rw [hpt] at HSU
              have HOWN : Hid (∀ o, (w8.alloc o).ownsRow (w.heap.size + 1) 3 1 (.slice la pl.length lc) pl.length (pl.map intV)) := fun o => HO8.out.alloc o
              have HONE : Hid (∀ u ∈ [Value.int .i64 (k : Int)], u.oneCell' = true) := by
                intro u hu
                simp only [List.mem_cons, List.not_mem_nil, or_false] at hu
                subst hu; rfl
              have hz8 := HBF.out.1.size
              have lw8 : w.heap.size < w8.heap.size := (Array.getElem?_eq_some_iff.1 HBF.out.2).1
              have HFIN : Hid (∀ (o : Obj) (g2 cap : Nat) (wA : World), wA.ownsRow (w.heap.size + 1) 3 1 (.slice (some ⟨g2, 0, none⟩) (pl.length + 1) cap) (pl.length + 1) (pl.map intV ++ [intV k]) → (w8.alloc o).grownBy wA (Value.slice la pl.length lc).ownBlock →
                  (wA.ownsRow (w.heap.size + 1) 3 1 (.slice (some ⟨g2, 0, none⟩) (pl.length + 1) cap) (Ld.placesTo P p.names (k + 1)).length ((Ld.placesTo P p.names (k + 1)).map intV) ∧ (Ld.placesTo P p.names (k + 1)).length = pl.length + 1) ∧ (Below w.heap.size w wA ∧ wA.heap[w.heap.size]? = some (.cells #[.slice (some ⟨g, 0, none⟩) n nc, .slice (some ⟨gr, 0, none⟩) m rc] 45 (0, 0)))) := by
                intro o g2 cap wA hown hgrow
                rw [HSU.out, if_pos rfl]
                refine ⟨⟨by simpa using hown, by simp⟩, ?_, ?_⟩
                · exact (HBF.out.1.alloc HBF.out.1.size o).grown hgrow (by simp; omega) (fun j e => by have := (HO8.out.lt j e).1; omega)
                · rw [hgrow.block _ (by simp; omega) (fun e => by have := (HO8.out.lt _ e.symm).1; omega), Below.heap_alloc _ _ _ lw8]
                  exact HBF.out.2
              clear HO8 hcc hpt hw8
              go_wp2_with (at_builtin; refine wpList_append_lies _ rfl (.tmp 30) (.tmp 32) 36 rfl (w.heap.size + 1) 3 i0 _ 1 8 Tryz.underlying36 hi0 hz0 hz1 hz2 rfl (by decide) (.slice la pl.length lc) pl.length (pl.map intV) rfl (HOWN.out _) ⟨w8.heap.size, 0, none⟩ 1 1 [.int .i64 (k : Int)] rfl rfl (World.news_of_block (heap_alloc_new w8 _)) HONE.out (by decide) (by unfold maxLen; omega) (by omega) (by simp; omega) (w8.heap.size + 1) (by simp) ?_; intro g2 cap2 wC hown hgrow hat hltg; obtain ⟨⟨hoC, hlC⟩, hbC⟩ := HFIN.out _ g2 cap2 wC hown hgrow; have HOC := hide hoC; have HLC := hide hlC; have HBC := hide hbC; clear hown hgrow hat hoC hlC hbC)
              exact ⟨⟨k + 1, by omega, by go_num, ⟨_, _, by rw [HLC.out]⟩, HOC.out, HBC.out⟩, by simp [intOf]; omega⟩
            | false =>
              have hix0 : ¬ 0 ≤ ix := of_decide_eq_false (HIX.out.trans hcc)
              have HF := hide (HON3.out hcc)
              clear hcc hw8
              go_wp2_with fail
              exact ⟨⟨z + 1, by omega, by go_num, rfl, HF.out, HB8.out⟩, by simp [intOf]; omega⟩
        · have hzz : z = m := by omega
          subst hzz
          have hpf : pb = false := by
            rw [HYP.out, List.any_eq_false]
            intro r hr
            obtain ⟨j, hj, e⟩ := List.getElem_of_mem hr
            rw [HNO.out j r (by rw [← HM.out] at hj; omega) (by rw [List.getElem?_eq_getElem hj, e])]
            decide
          have HSE : Hid (Ld.placesTo P p.names (k + 1) = pl) := by show _ = _; rw [HSU.out, hpf]; simp
          have HBF : Hid (Below w.heap.size w wr ∧ wr.heap[w.heap.size]? = some (.cells #[.slice (some ⟨g, 0, none⟩) n nc, .slice ra z rc] 45 (0, 0))) := ⟨HBN.out.1.trans (HBZ.out.mono HBN.out.1.size), (HBZ.out.block _ (Array.getElem?_eq_some_iff.1 HBN.out.2).1).trans HBN.out.2⟩
          clear hpf
          go_wp2_with fail
          exact ⟨⟨k + 1, by omega, by go_num, ⟨_, _, by rw [HSE.out]⟩, by rw [HSE.out]; exact own_below HON.out HBZ.out, HBF.out⟩, by simp [intOf]; omega⟩
    · have hkn : k = n := by omega
      subst hkn
      go_wp2_with fail
      go_ret
      exact ⟨_, rfl, own_mono HO.out (by omega), HB.out.1⟩
end
end Go.Proofs.YtgldbliohpfljaaGreatDoor
