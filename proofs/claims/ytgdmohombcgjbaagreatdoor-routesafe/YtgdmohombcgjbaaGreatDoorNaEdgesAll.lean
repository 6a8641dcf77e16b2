/-
  Slices of slices of bools, and of states, in memory. Slices of numbers in memory. Rows of one's own, of different types, are different ones. (Out of LdRd.) Plain mathematics: bits of numbers, lists of bools as numbers. Slices of numbers, and rows of rows of bools, in memory. Rows in memory that are filled cell by cell, and what 'make' lays; the walks of package machine's toBools, fromBools and told. The walk of Edges: the names of which an expression asks what they were, in order of bytes, each once.
-/
import Derived.Test.YtgdmohombcgjbaaGreatDoorScStepA
import Derived.Test.YtgdmohombcgjbaaGreatDoorScBoundAll
import Derived.Test.YtgdmohombcgjbaaGreatDoorLdKindAll
import Derived.Test.YtgdmohombcgjbaaGreatDoorLdNumberAll
import Derived.Test.YtgdmohombcgjbaaGreatDoorRoSafePAll
import Derived.Laws.Bits64b
import Derived.Laws.BitsLemmas
import Derived.Laws.MakeOwn
namespace Go.Proofs.YtgdmohombcgjbaaGreatDoor
section
open Go.RowKit
theorem Tryz.infoState : (Tryz.prog.info? 123).map (fun i => (i.zero, i.size, i.bytes)) = some (some (.agg #[.slice none 0 0, .slice none 0 0]), 2, 48) := by kernel_rfl
def slV (g n : Nat) : Value := .slice (some ⟨g, 0, none⟩) n n
def stCells (n : Nat) (q : Nat × Nat) : List Value := [slV q.1 n, slV q.2 n]
/-- a slice of slices of bools -/
def InsAt (w : World) (v : Value) (ll : List (List Bool)) : Prop :=
  (ll = [] ∧ ∃ a cap, v = .slice a 0 cap) ∨ ∃ g cap, v = .slice (some ⟨g, 0, none⟩) ll.length cap ∧ ll.length ≤ cap ∧ ∀ (i : Nat) l, ll[i]? = some l → ∃ u, w.cell? ⟨g, i, none⟩ = some u ∧ Bools w u l
theorem InsAt.below {w w' : World} {v : Value} {ll : List (List Bool)} (h : InsAt w v ll) (hb : Below w.heap.size w w') : InsAt w' v ll := by
  rcases h with h | ⟨g, cap, h1, h2, h3⟩
  · exact .inl h
  · refine .inr ⟨g, cap, h1, h2, fun i l hi => ?_⟩
    obtain ⟨u, h4, h5⟩ := h3 i l hi
    exact ⟨u, (hb.cell (World.block_lt_of_cell? _ _ h4)).trans h4, h5.below hb⟩
theorem InsAt.slice {w : World} {v : Value} {ll : List (List Bool)} (h : InsAt w v ll) : ∃ a c, v = .slice a ll.length c := by
  rcases h with ⟨rfl, a, c, rfl⟩ | ⟨g, cap, rfl, _⟩
  · exact ⟨a, c, rfl⟩
  · exact ⟨_, _, rfl⟩
/-- a slice of states, each of n names -/
def StatesAt (w : World) (n : Nat) (v : Value) (ss : List Sc.St) : Prop :=
  (ss = [] ∧ ∃ a cap, v = .slice a 0 cap) ∨ ∃ g cap, v = .slice (some ⟨g, 0, none⟩) ss.length cap ∧ ss.length ≤ cap ∧ ∀ (i : Nat) s, ss[i]? = some s → ∃ gi gc, w.cell? ⟨g, i * 2, none⟩ = some (slV gi n) ∧ w.cell? ⟨g, i * 2 + 1, none⟩ = some (slV gc n) ∧ StAt w gi gc s
theorem StatesAt.below {w w' : World} {n : Nat} {v : Value} {ss : List Sc.St} (h : StatesAt w n v ss) (hb : Below w.heap.size w w') : StatesAt w' n v ss := by
  rcases h with h | ⟨g, cap, h1, h2, h3⟩
  · exact .inl h
  · refine .inr ⟨g, cap, h1, h2, fun i s hi => ?_⟩
    obtain ⟨gi, gc, h4, h5, h6⟩ := h3 i s hi
    exact ⟨gi, gc, (hb.cell (World.block_lt_of_cell? _ _ h4)).trans h4, (hb.cell (World.block_lt_of_cell? _ _ h5)).trans h5, h6.below hb⟩
theorem StatesAt.slice {w : World} {n : Nat} {v : Value} {ss : List Sc.St} (h : StatesAt w n v ss) : ∃ a c, v = .slice a ss.length c := by
  rcases h with ⟨rfl, a, c, rfl⟩ | ⟨g, cap, rfl, _⟩
  · exact ⟨a, c, rfl⟩
  · exact ⟨_, _, rfl⟩
theorem flat2 {α : Type} (f : α → List Value) (hf : ∀ a, (f a).length = 2) : ∀ (l : List α) (i : Nat) (a : α), l[i]? = some a → ∀ j, j < 2 → (l.flatMap f)[i * 2 + j]? = (f a)[j]?
  | [], i, a, h, _, _ => by simp at h
  | x :: l, 0, a, h, j, hj => by
    simp only [List.getElem?_cons_zero, Option.some.injEq] at h
    subst h
    rw [List.flatMap_cons, List.getElem?_append_left (by rw [hf]; omega)]
    congr 1; omega
  | x :: l, i + 1, a, h, j, hj => by
    have ih := flat2 f hf l i a (by simpa using h) j hj
    rw [List.flatMap_cons, List.getElem?_append_right (by rw [hf]; omega), hf]
    have : (i + 1) * 2 + j - 2 = i * 2 + j := by omega
    rw [this]; exact ih
/-- what Play comes to in memory -/
def Played (w : World) (n : Nat) (ss : List Sc.St) (e : Ending) (w' : World) : Prop := ∃ u, e = .returned (.tuple #[u, .nilIface]) ∧ StatesAt w' n u ss ∧ Below w.heap.size w w'
/-- what was played so far, in memory: the states' row lies from block q on, the last one in block b -/
structure Pl (w : World) (b q n : Nat) (l : Value) (ss : List Sc.St) (cur : Sc.St) (gs : List (Nat × Nat)) (gi gc : Nat) (W : World) : Prop where
  len : gs.length = ss.length
  own : W.ownsRow q 123 2 l ss.length (gs.flatMap (stCells n))
  at_ : ∀ (j : Nat) (g : Nat × Nat) (s : Sc.St), gs[j]? = some g → ss[j]? = some s → StAt W g.1 g.2 s
  bel : Below w.heap.size w W
  var : W.heap[b]? = some (.cells #[slV gi n, slV gc n] 123 (0, 0))
  st : StAt W gi gc cur
theorem tag_ne {W : World} {a b : Nat} {ca cb : Array Value} {ta tb : TypeId} {fa fb : Nat × Nat} (ha : W.heap[a]? = some (.cells ca ta fa)) (hb : W.heap[b]? = some (.cells cb tb fb)) (h : ta ≠ tb) : a ≠ b := by
  intro e
  subst e
  rw [ha] at hb
  simp only [Option.some.injEq, Obj.cells.injEq] at hb
  exact h hb.2.1
theorem StAt.moved {W W' : World} {gi gc : Nat} {s : Sc.St} (h : StAt W gi gc s) (h1 : W'.heap[gi]? = W.heap[gi]?) (h2 : W'.heap[gc]? = W.heap[gc]?) : StAt W' gi gc s := ⟨h1.trans h.bi, h2.trans h.bc⟩
theorem Pl.states {w : World} {b q n : Nat} {l : Value} {ss : List Sc.St} {cur : Sc.St} {gs : List (Nat × Nat)} {gi gc : Nat} {W : World} (h : Pl w b q n l ss cur gs gi gc W) : StatesAt W n l ss := by
  rcases h.own.2 with ⟨rfl, h0⟩ | ⟨g, cap, cu, rfl, _, hcur, hcap, _, _, htk⟩
  · exact .inl ⟨List.length_eq_zero_iff.1 h0, _, _, rfl⟩
  · refine .inr ⟨g, cap, rfl, hcap, fun i s hi => ?_⟩
    have hil : i < gs.length := by rw [h.len]; exact (List.getElem?_eq_some_iff.1 hi).1
    have hgi : gs[i]? = some gs[i] := List.getElem?_eq_getElem hil
    have hc := fun j hj => flat2 (stCells n) (fun _ => rfl) gs i gs[i] hgi j hj
    exact ⟨gs[i].1, gs[i].2, row_cell hcur htk (hc 0 (by omega)), row_cell hcur htk (hc 1 (by omega)), h.at_ i _ s hgi hi⟩
/-- one scan more -/
theorem Pl.next {w : World} {b q n : Nat} {l : Value} {ss : List Sc.St} {cur nxt : Sc.St} {gs : List (Nat × Nat)} {gi gc gi1 gc1 : Nat} {W W1 W2 WC : World} (h : Pl w b q n l ss cur gs gi gc W) (hwb : w.heap.size ≤ b) (hbq : b < q)
    (hb1 : Below W.heap.size W W1) (hs1 : StAt W1 gi1 gc1 nxt) (hg1 : W.heap.size ≤ gi1) (hg2 : W.heap.size ≤ gc1) (hW2 : W2 = (W1.setCell ⟨b, 0, none⟩ (slV gi1 n)).setCell ⟨b, 1, none⟩ (slV gc1 n)) (o : Obj) (g cap : Nat)
    (hown : WC.ownsRow q 123 2 (.slice (some ⟨g, 0, none⟩) (ss.length + 1) cap) (ss.length + 1) (gs.flatMap (stCells n) ++ stCells n (gi1, gc1))) (hgrow : (W2.alloc o).grownBy WC l.ownBlock) :
    Pl w b q n (.slice (some ⟨g, 0, none⟩) (ss.length + 1) cap) (ss ++ [nxt]) nxt (gs ++ [(gi1, gc1)]) gi1 gc1 WC := by
  have hbW : b < W.heap.size := (Array.getElem?_eq_some_iff.1 h.var).1
  have hz1 := hb1.size
  have hv1 : W1.heap[b]? = some (.cells #[slV gi n, slV gc n] 123 (0, 0)) := (hb1.block b hbW).trans h.var
  have h2b : W2.heap[b]? = some (.cells #[slV gi1 n, slV gc1 n] 123 (0, 0)) := by rw [hW2]; simp [World.setCell, Array.getElem?_modify, hv1]
  have h2o : ∀ k, k ≠ b → W2.heap[k]? = W1.heap[k]? := fun k hk => by rw [hW2, Below.heap_setCell _ _ _ _ (fun e => hk e), Below.heap_setCell _ _ _ _ (fun e => hk e)]
  have h2s : W2.heap.size = W1.heap.size := by rw [hW2]; simp [World.setCell]
  have hlb : ∀ k, l.ownBlock = some k → q ≤ k ∧ k < W.heap.size := fun k e => h.own.lt k e
  have hC : ∀ k, k < W2.heap.size → some k ≠ l.ownBlock → WC.heap[k]? = W2.heap[k]? := fun k hk hr => (hgrow.block k (by simp; omega) hr).trans (Below.heap_alloc _ _ _ hk)
  have hne : ∀ (k : Nat) (c : Array Value) (t : TypeId), W.heap[k]? = some (.cells c t (0, 0)) → t ≠ 123 → some k ≠ l.ownBlock := fun k c t hk ht e => by
    obtain ⟨c', hc'⟩ := own_tag h.own k e.symm
    exact tag_ne hk hc' ht rfl
  have hst : ∀ (a c : Nat) (s : Sc.St), StAt W a c s → StAt WC a c s := fun a c s hs => by
    have ha := hs.lt.1
    have hc := hs.lt.2
    refine hs.moved ?_ ?_
    · rw [hC a (by omega) (hne a _ _ hs.bi (by decide)), h2o a (tag_ne hs.bi h.var (by decide)), hb1.block a ha]
    · rw [hC c (by omega) (hne c _ _ hs.bc (by decide)), h2o c (tag_ne hs.bc h.var (by decide)), hb1.block c hc]
  have hs1l := hs1.lt
  have hnew : StAt WC gi1 gc1 nxt := by
    refine hs1.moved ?_ ?_
    · rw [hC gi1 (by omega) (fun e => by have := hlb _ e.symm; omega), h2o gi1 (by omega)]
    · rw [hC gc1 (by omega) (fun e => by have := hlb _ e.symm; omega), h2o gc1 (by omega)]
  refine ⟨by simp [h.len], ?_, ?_, ?_, ?_, hnew⟩
  · rw [List.length_append, List.flatMap_append]; simpa using hown
  · intro j x s hj hs
    by_cases hjl : j < ss.length
    · rw [List.getElem?_append_left (by rw [h.len]; exact hjl)] at hj
      rw [List.getElem?_append_left hjl] at hs
      exact hst _ _ _ (h.at_ j x s hj hs)
    · have hj2 : j < (ss ++ [nxt]).length := (List.getElem?_eq_some_iff.1 hs).1
      have : j = ss.length := by simp at hj2; omega
      subst this
      rw [List.getElem?_append_right (by rw [h.len]; exact Nat.le_refl _), h.len] at hj
      rw [List.getElem?_append_right (Nat.le_refl _)] at hs
      simp only [Nat.sub_self, List.getElem?_cons_zero, Option.some.injEq] at hj hs
      subst hj; subst hs
      exact hnew
  · have hzw := h.bel.size
    refine ⟨hgrow.os.trans (by rw [hW2]; exact hb1.os.trans h.bel.os), hgrow.tape.trans (by rw [hW2]; exact hb1.tape.trans h.bel.tape), hgrow.output.trans (by rw [hW2]; exact hb1.output.trans h.bel.output), by have := hgrow.size; simp at this; omega, fun k hk => ?_⟩
    rw [hC k (by omega) (fun e => by have := hlb _ e.symm; omega), h2o k (by omega), hb1.block k (by omega)]
    exact h.bel.block k hk
  · rw [hC b (by omega) (fun e => by have := hlb _ e.symm; omega)]; exact h2b
end
section
open Go.RowKit
/-- a slice of numbers that came in -/
def Ints (w : World) (sv : Value) (l : List Int) : Prop :=
  (l = [] ∧ ∃ a cap, sv = .slice a 0 cap) ∨ ∃ g o cap, sv = .slice (some ⟨g, o, none⟩) l.length cap ∧ l.length ≤ cap ∧ ∀ (k : Nat) x, l[k]? = some x → w.cell? ⟨g, o + k, none⟩ = some (.int .i64 x) ∧ I64 x
theorem Ints.below {w w' : World} {sv : Value} {l : List Int} (h : Ints w sv l) (hb : Below w.heap.size w w') : Ints w' sv l := by
  rcases h with h | ⟨g, o, cap, h1, h2, h3⟩
  · exact .inl h
  · exact .inr ⟨g, o, cap, h1, h2, fun k x hk => ⟨(hb.cell (World.block_lt_of_cell? _ _ (h3 k x hk).1)).trans (h3 k x hk).1, (h3 k x hk).2⟩⟩
theorem Ints.slice {w : World} {sv : Value} {l : List Int} (h : Ints w sv l) : ∃ a c, sv = .slice a l.length c := by
  rcases h with ⟨rfl, a, c, rfl⟩ | ⟨g, o, cap, rfl, _⟩
  · exact ⟨a, c, rfl⟩
  · exact ⟨_, _, rfl⟩
theorem Ints.cell {w : World} {a : Option Addr} {n c : Nat} {l : List Int} (h : Ints w (.slice a n c) l) (k : Nat) (x : Int) (hx : l[k]? = some x) : ∃ g o, a = some ⟨g, o, none⟩ ∧ w.cell? ⟨g, o + k, none⟩ = some (.int .i64 x) := by
  rcases h with ⟨h0, _⟩ | ⟨g, o, cap, h1, h2, h3⟩
  · rw [h0] at hx; simp at hx
  · simp only [Value.slice.injEq] at h1
    exact ⟨g, o, h1.1, (h3 k x hx).1⟩
end
section
open Go.RowKit
theorem own_apart {W : World} {q : Nat} {e e' : TypeId} {s s' : Nat} {v v' : Value} {n n' : Nat} {xs xs' : List Value} (h : W.ownsRow q e s v n xs) (h' : W.ownsRow q e' s' v' n' xs') (hne : e ≠ e') : v.ownBlock = none ∨ v.ownBlock ≠ v'.ownBlock := by
  cases hv : v.ownBlock with
  | none => exact .inl rfl
  | some g =>
    right
    intro e2
    obtain ⟨c, h1⟩ := own_tag h g hv
    obtain ⟨c', h2⟩ := own_tag h' g e2.symm
    rw [h1] at h2
    simp only [Option.some.injEq, Obj.cells.injEq] at h2
    exact hne h2.2.1
end
section
def bitB (x : Int) (k : Nat) : Bool := bits BinOp.and .i64 (x / 2 ^ k) 1 == 1
def bitsTo (x : Int) (k : Nat) : List Bool := (List.range k).map (bitB x)
theorem bitsTo_len (x : Int) (k : Nat) : (bitsTo x k).length = k := by simp [bitsTo]
theorem bitsTo_succ (x : Int) (k : Nat) : bitsTo x (k + 1) = bitsTo x k ++ [bitB x k] := by simp [bitsTo, List.range_succ]
namespace Mc
theorem bits_one (a : Int) : bits BinOp.and .i64 a 1 = a % 2 := by
  show IntKind.i64.wrap ((BitVec.ofInt 64 a &&& BitVec.ofInt 64 1).toNat : Int) = _
  have h1 : (BitVec.ofInt 64 1).toNat = 1 := by decide
  rw [BitVec.toNat_and, h1, Nat.and_one_is_mod, BitVec.toNat_ofInt]
  have h2 : (((a % ((2 ^ 64 : Nat) : Int)).toNat % 2 : Nat) : Int) = a % 2 := by
    have : (0 : Int) ≤ a % ((2 ^ 64 : Nat) : Int) := Int.emod_nonneg _ (by decide)
    omega
  rw [h2, IntKind.wrap_i64]
  have h3 := Int.emod_nonneg a (show (2 : Int) ≠ 0 by decide)
  have h4 := Int.emod_lt_of_pos a (show (0 : Int) < 2 by decide)
  omega
theorem bitB_eq (x : Int) (k : Nat) : bitB x k = decide (x / 2 ^ k % 2 = 1) := by
  unfold bitB
  rw [bits_one]
  rfl
theorem bitB_mod (x : Int) (q k : Nat) (hk : k < q) : bitB (x % 2 ^ q) k = bitB x k := by
  rw [bitB_eq, bitB_eq]
  have h : x % 2 ^ q / 2 ^ k % 2 = x / 2 ^ k % 2 := by
    obtain ⟨d, rfl⟩ : ∃ d, q = k + 1 + d := ⟨q - (k + 1), by omega⟩
    have e : (2 : Int) ^ (k + 1 + d) = 2 ^ k * (2 * 2 ^ d) := by rw [Int.pow_add, Int.pow_succ, Int.mul_assoc]
    rw [e]
    have hp : (0 : Int) < 2 ^ k := Int.pow_pos (by decide)
    have hx := Int.emod_add_mul_ediv x (2 ^ k * (2 * 2 ^ d))
    generalize x / (2 ^ k * (2 * 2 ^ d)) = c at hx
    generalize x % (2 ^ k * (2 * 2 ^ d)) = r at hx ⊢
    rw [← hx, show r + 2 ^ k * (2 * 2 ^ d) * c = r + 2 ^ k * (2 * (2 ^ d * c)) by rw [Int.mul_assoc, Int.mul_assoc], Int.add_mul_ediv_left _ _ (by omega)]
    omega
  rw [h]
theorem bitsTo_mod (x : Int) (q : Nat) : bitsTo (x % 2 ^ q) q = bitsTo x q := by
  unfold bitsTo
  apply List.map_congr_left
  intro k hk
  exact bitB_mod x q k (List.mem_range.1 hk)
/-- bools as a number: bit k is the k-th -/
def val : List Bool → Nat
  | [] => 0
  | b :: r => (if b then 1 else 0) + 2 * val r
theorem val_lt : ∀ l : List Bool, val l < 2 ^ l.length
  | [] => by simp [val]
  | b :: r => by
    have := val_lt r
    simp only [val, List.length_cons, Nat.pow_succ]
    split <;> omega
theorem val_snoc : ∀ (l : List Bool) (b : Bool), val (l ++ [b]) = val l + (if b then 2 ^ l.length else 0)
  | [], b => by simp [val]
  | a :: r, b => by
    rw [List.cons_append, val, val, val_snoc r b, List.length_cons, Nat.pow_succ]
    split <;> split <;> omega
theorem val_bit : ∀ (l : List Bool) (k : Nat), bitB (val l : Int) k = l.getD k false
  | [], k => by rw [bitB_eq]; simp [val]
  | b :: r, 0 => by
    rw [bitB_eq]
    cases b <;> simp [val] <;> omega
  | b :: r, k + 1 => by
    have ih := val_bit r k
    rw [bitB_eq] at ih ⊢
    have e : ((val (b :: r) : Nat) : Int) / 2 ^ (k + 1) = (val r : Int) / 2 ^ k := by
      rw [Int.pow_succ, Int.mul_comm, ← Int.ediv_ediv_of_nonneg (by decide)]
      congr 1
      cases b <;> simp [val] <;> omega
    rw [e]
    simpa using ih
theorem val_back (l : List Bool) : bitsTo (val l) l.length = l := by
  apply ext_getD (by rw [bitsTo_len])
  intro k hk
  rw [bitsTo_len] at hk
  rw [← val_bit l k]
  simp [bitsTo, hk]
theorem or_pow (v k : Nat) (hv : v < 2 ^ k) (hk : k < 62) : bits BinOp.or .i64 (v : Int) (2 ^ k : Nat) = ((v + 2 ^ k : Nat) : Int) := by
  have hp : 2 ^ k ≤ 2 ^ 61 := Nat.pow_le_pow_right (by decide) (by omega)
  have h1 : (BitVec.ofInt 64 (v : Int)).toNat = v := by
    rw [BitVec.ofInt_natCast, BitVec.toNat_ofNat]; exact Nat.mod_eq_of_lt (by omega)
  have h2 : (BitVec.ofInt 64 ((2 ^ k : Nat) : Int)).toNat = 2 ^ k := by
    rw [BitVec.ofInt_natCast, BitVec.toNat_ofNat]; exact Nat.mod_eq_of_lt (by omega)
  show IntKind.i64.wrap ((BitVec.ofInt 64 (v : Int) ||| BitVec.ofInt 64 ((2 ^ k : Nat) : Int)).toNat : Int) = _
  have h3 : v ||| 2 ^ k = v + 2 ^ k := by
    have := Nat.two_pow_add_eq_or_of_lt hv 1
    rw [Nat.mul_one] at this
    rw [Nat.or_comm, ← this, Nat.add_comm]
  rw [BitVec.toNat_or, h1, h2, h3, IntKind.wrap_i64]
  omega
end Mc
end
section
open Go.RowKit
theorem Tryz.infoBool : (Tryz.prog.info? 4).map (fun i => (i.zero, i.size, i.bytes)) = some (some (.bool false), 1, 1) := by kernel_rfl
theorem Tryz.infoBools : (Tryz.prog.info? 84).map (fun i => (i.zero, i.size, i.bytes)) = some (some (.slice none 0 0), 1, 24) := by kernel_rfl
/-- rows of bools in a row of slices, all from block q on -/
structure InsR (q : Nat) (W : World) (o : Value) (us : List Value) (bs : List (List Bool)) : Prop where
  len : us.length = bs.length
  own : W.ownsRow q 84 1 o bs.length us
  at_ : ∀ (j : Nat) (u : Value) (b : List Bool), us[j]? = some u → bs[j]? = some b → W.ownsRow q 4 1 u b.length (b.map boolV)
theorem InsR.nil (q : Nat) (W : World) : InsR q W (.slice none 0 0) [] [] := ⟨rfl, World.ownsRow_nil _ _ _ _, fun j u b h => by simp at h⟩
theorem InsR.below {q : Nat} {W W' : World} {o : Value} {us : List Value} {bs : List (List Bool)} (h : InsR q W o us bs) (hb : Below W.heap.size W W') : InsR q W' o us bs :=
  ⟨h.len, own_below h.own hb, fun j u b h1 h2 => own_below (h.at_ j u b h1 h2) hb⟩
theorem bools_of {q : Nat} {W : World} {u : Value} {b : List Bool} (h : W.ownsRow q 4 1 u b.length (b.map boolV)) (hl : b.length ≤ 1000000) : Bools W u b := by
  rcases h.2 with ⟨rfl, h0⟩ | ⟨g, cap, cur, rfl, _, hcur, hcap, _, _, htk⟩
  · exact ⟨none, 0, by rw [h0], hl, fun i b hb => by rw [List.length_eq_zero_iff.1 h0] at hb; simp at hb⟩
  · exact ⟨_, _, rfl, hl, fun i x hx => ⟨g, rfl, row_cell hcur htk (by rw [List.getElem?_map, hx]; rfl)⟩⟩
theorem InsR.insAt {q : Nat} {W : World} {o : Value} {us : List Value} {bs : List (List Bool)} (h : InsR q W o us bs) (hl : ∀ b, b ∈ bs → b.length ≤ 1000000) : InsAt W o bs := by
  rcases h.own.2 with ⟨rfl, h0⟩ | ⟨g, cap, cur, rfl, _, hcur, hcap, _, _, htk⟩
  · exact .inl ⟨List.length_eq_zero_iff.1 h0, _, _, rfl⟩
  · refine .inr ⟨g, cap, rfl, hcap, fun i b hb => ?_⟩
    have hil : i < us.length := by rw [h.len]; exact (List.getElem?_eq_some_iff.1 hb).1
    exact ⟨us[i], row_cell hcur htk (List.getElem?_eq_getElem hil), bools_of (h.at_ i _ b (List.getElem?_eq_getElem hil) hb) (hl b (List.mem_of_getElem? hb))⟩
theorem InsR.put {q : Nat} {W W' : World} {o o' u : Value} {us : List Value} {bs : List (List Bool)} {b : List Bool} (h : InsR q W o us bs) (hu : W.ownsRow q 4 1 u b.length (b.map boolV)) (ob : Obj) (hown : W'.ownsRow q 84 1 o' (bs.length + 1) (us ++ [u])) (hg : (W.alloc ob).grownBy W' o.ownBlock) :
    InsR q W' o' (us ++ [u]) (bs ++ [b]) := by
  have hk : ∀ (u : Value) (b : List Bool), W.ownsRow q 4 1 u b.length (b.map boolV) → W'.ownsRow q 4 1 u b.length (b.map boolV) := fun u b hu =>
    (hu.alloc ob).kept hg (own_apart hu h.own (by decide))
  refine ⟨by simp [h.len], by simpa using hown, ?_⟩
  intro j x y hj hy
  by_cases hjl : j < bs.length
  · rw [List.getElem?_append_left (by rw [h.len]; exact hjl)] at hj
    rw [List.getElem?_append_left hjl] at hy
    exact hk _ _ (h.at_ j x y hj hy)
  · have hj2 : j < (bs ++ [b]).length := (List.getElem?_eq_some_iff.1 hy).1
    have : j = bs.length := by simp at hj2; omega
    subst this
    rw [List.getElem?_append_right (by rw [h.len]; exact Nat.le_refl _), h.len] at hj
    rw [List.getElem?_append_right (Nat.le_refl _)] at hy
    simp only [Nat.sub_self, List.getElem?_cons_zero, Option.some.injEq] at hj hy
    subst hj; subst hy
    exact hk _ _ hu
end
section
open Go.RowKit
/-- block g is this row -/
def RowIs (W : World) (g : Nat) (t : TypeId) (l : List Value) : Prop := W.heap[g]? = some (.cells ⟨l⟩ t (0, 0))
theorem RowIs.lt {W : World} {g : Nat} {t : TypeId} {l : List Value} (h : RowIs W g t l) : g < W.heap.size := (Array.getElem?_eq_some_iff.1 h).1
theorem RowIs.below {W W' : World} {g : Nat} {t : TypeId} {l : List Value} (h : RowIs W g t l) (hb : Below W.heap.size W W') : RowIs W' g t l := (hb.block _ h.lt).trans h
theorem RowIs.belowN {n : Nat} {W W' : World} {g : Nat} {t : TypeId} {l : List Value} (h : RowIs W g t l) (hb : Below n W W') (hg : g < n) : RowIs W' g t l := (hb.block _ hg).trans h
theorem RowIs.cell {W : World} {g : Nat} {t : TypeId} {l : List Value} (h : RowIs W g t l) (i : Nat) (v : Value) (hi : l[i]? = some v) : W.cell? ⟨g, i, none⟩ = some v := by
  rw [Lib.cell_of_heap h]; simpa using hi
theorem RowIs.frozen {W : World} {g : Nat} {t : TypeId} {l : List Value} (h : RowIs W g t l) (i : Nat) : W.frozen? ⟨g, i, none⟩ = false := Lib.frozen_of_heap h i
theorem RowIs.set {W : World} {g : Nat} {t : TypeId} {l : List Value} (h : RowIs W g t l) (i : Nat) (v : Value) : RowIs (W.setCell ⟨g, i, none⟩ v) g t (l.set i v) := by
  unfold RowIs at *
  simp [World.setCell, Array.getElem?_modify, h]
theorem RowIs.other {W : World} {g : Nat} {t : TypeId} {l : List Value} (h : RowIs W g t l) (b i : Nat) (v : Value) (hb : g ≠ b) : RowIs (W.setCell ⟨b, i, none⟩ v) g t l := (Below.heap_setCell _ _ _ _ (fun e => hb e)).trans h
theorem RowIs.new (W : World) (t : TypeId) (l : List Value) : RowIs (W.alloc (.cells ⟨l⟩ t)) W.heap.size t l := heap_alloc_new _ _
theorem RowIs.alloc {W : World} {g : Nat} {t : TypeId} {l : List Value} (h : RowIs W g t l) (o : Obj) : RowIs (W.alloc o) g t l := (Below.heap_alloc _ _ _ h.lt).trans h
theorem RowIs.drew {W : World} {g : Nat} {t : TypeId} {l : List Value} (h : RowIs W g t l) : RowIs W.drew g t l := h
/-- the next one of a row that is filled from the head -/
theorem fill_set {α : Type} (a : List α) (z v : α) (n : Nat) (h : a.length < n) : (a ++ List.replicate (n - a.length) z).set a.length v = (a ++ [v]) ++ List.replicate (n - (a ++ [v]).length) z := by
  obtain ⟨d, hd⟩ : ∃ d, n - a.length = d + 1 := ⟨n - a.length - 1, by omega⟩
  have e : n - (a ++ [v]).length = d := by simp; omega
  rw [e, hd, List.set_append_right _ _ (Nat.le_refl _), Nat.sub_self, List.replicate_succ, List.set_cons_zero]
  simp
theorem mcells_one (z : Value) (n : Nat) : madeCells #[z] (n * 1) = ⟨List.replicate n z⟩ := by
  apply Array.ext'
  simp only [madeCells, Nat.mul_one, Array.toList_map, Array.toList_range]
  apply List.ext_getElem
  · simp
  · intro i h1 h2
    simp [Nat.mod_one]
/-- 'make' of so many of one cell each -/
theorem make_one {t e : TypeId} {z : Value} {bytes : Nat} (hu : Tryz.prog.underlying t = some (.slice e)) (hinfo : (Tryz.prog.info? e).map (fun i => (i.zero, i.size, i.bytes)) = some (some z, 1, bytes)) (hz : z.cells = #[z]) (hb : bytes ≤ 1000) (n : Nat) (hn : n ≤ 1000000) (w : World) :
    (Instr.makeSlice t (.int .i64 (n : Int)) (.int .i64 (n : Int))).run Tryz.prog w = .ok (.slice (some ⟨w.heap.size, 0, none⟩) n n) (w.alloc (.cells ⟨List.replicate n z⟩ e)) := by
  obtain ⟨i0, hi0, hz0, hz1, hz2⟩ := info_parts hinfo
  have hbb : (i0.bytes : Int) * (n : Int) ≤ 281474976710656 := by
    rw [hz2]
    have : bytes * n ≤ 1000 * 1000000 := Nat.mul_le_mul hb hn
    have h2 : ((bytes * n : Nat) : Int) ≤ 1000 * 1000000 := by omega
    rw [Int.natCast_mul] at h2
    omega
  have h := run_makeSlice (P := Tryz.prog) w t e i0 z hu hi0 hz0 .i64 .i64 n n (by omega) (Int.le_refl _) (by rw [hz1]; omega) hbb (by omega)
  rw [hz, hz1, show ((n : Int)).toNat = n by omega, mcells_one] at h
  exact h
theorem makeBs (n : Nat) (hn : n ≤ 1000000) (w : World) : (Instr.makeSlice 84 (.int .i64 (n : Int)) (.int .i64 (n : Int))).run Tryz.prog w = .ok (.slice (some ⟨w.heap.size, 0, none⟩) n n) (w.alloc (.cells ⟨List.replicate n (.bool false)⟩ 4)) :=
  make_one Tryz.underlying84 Tryz.infoBool rfl (by decide) n hn w
theorem makeIs (n : Nat) (hn : n ≤ 1000000) (w : World) : (Instr.makeSlice 41 (.int .i64 (n : Int)) (.int .i64 (n : Int))).run Tryz.prog w = .ok (.slice (some ⟨w.heap.size, 0, none⟩) n n) (w.alloc (.cells ⟨List.replicate n (.int .i64 0)⟩ 3)) :=
  make_one Tryz.underlying41 Tryz.infoInt rfl (by decide) n hn w
set_option maxHeartbeats 4000000 in
set_option maxRecDepth 100000 in
theorem toBools_any (x : Int) (many : Nat) (w : World) (hm : many ≤ 60) :
    Calls Tryz.prog 84 #[.int .i64 x, .int .i64 (many : Int)] w fun e w' => ∃ g, e = .returned (slV g many) ∧ RowIs w' g 4 ((bitsTo x many).map boolV) ∧ w.heap.size ≤ g ∧ Below w.heap.size w w' := by
  have mk := fun w => makeBs many (by omega) w
  obtain ⟨cb, hcb⟩ : ∃ cb, cb = List.replicate many (Value.bool false) := ⟨_, rfl⟩
  obtain ⟨w1, hw1⟩ : ∃ w1, w1 = w.alloc (.cells ⟨cb⟩ 4) := ⟨_, rfl⟩
  have HR1 : Hid (RowIs w1 w.heap.size 4 (((bitsTo x 0).map boolV) ++ List.replicate (many - ((bitsTo x 0).map boolV).length) (.bool false))) := by
    show RowIs w1 w.heap.size 4 (List.replicate many (.bool false))
    rw [hw1, ← hcb]; exact RowIs.new _ _ _
  rw [← hcb] at mk
  clear hcb
  have HB1 : Hid (Below w.heap.size w w1) := by rw [hw1]; exact (Below.refl _ _).alloc (Nat.le_refl _) _
  go_enter Tryz.func84, Tryz.ntmps84
  go_wp2_with fail
  rw [← hw1]
  clear hw1
  go_loopw [10] (fun i wr => ∃ k : Nat, k ≤ many ∧ i = .int .i64 (k : Int) ∧ Hid (RowIs wr w.heap.size 4 (((bitsTo x k).map boolV) ++ List.replicate (many - ((bitsTo x k).map boolV).length) (.bool false))) ∧ Hid (Below w.heap.size w wr)) (fun i _ => many - (intOf i).toNat)
  case atStart => exact ⟨0, Nat.zero_le _, rfl, HR1.out, HB1.out⟩
  case round =>
    obtain ⟨k, hk, rfl, HR, HB⟩ := hrel
    have hlk : ((bitsTo x k).map boolV).length = k := by simp [bitsTo_len]
    by_cases hlt : k < many
    · have c0 : wr.cell? ⟨w.heap.size, k, none⟩ = some (.bool false) := HR.out.cell k _ (by rw [List.getElem?_append_right (by omega), List.getElem?_replicate, if_pos (by omega)])
      have f0 := HR.out.frozen k
      have HN : Hid (RowIs (wr.setCell ⟨w.heap.size, k, none⟩ (.bool (bitB x k))) w.heap.size 4 (((bitsTo x (k + 1)).map boolV) ++ List.replicate (many - ((bitsTo x (k + 1)).map boolV).length) (.bool false))) := by
        have h1 := HR.out.set k (.bool (bitB x k))
        have h2 := fill_set ((bitsTo x k).map boolV) (.bool false) (.bool (bitB x k)) many (by omega)
        rw [hlk] at h2
        rw [hlk, h2] at h1
        rw [bitsTo_succ, List.map_append]
        exact h1
      have HBN : Hid (Below w.heap.size w (wr.setCell ⟨w.heap.size, k, none⟩ (.bool (bitB x k)))) := HB.out.setCell (p := ⟨w.heap.size, k, none⟩) (Nat.le_refl _) _
      unfold bitB at HN HBN
      clear hlk
      go_wp2_with fail
      go_roundw
      case rel => exact ⟨k + 1, by omega, by go_num, HN.out, HBN.out⟩
      case measure => simp [intOf]; omega
    · have hkm : k = many := by omega
      subst hkm
      go_wp2_with fail
      go_ret
      refine ⟨w.heap.size, rfl, ?_, Nat.le_refl _, HB.out⟩
      have h1 := HR.out
      rw [hlk, Nat.sub_self, List.replicate_zero, List.append_nil] at h1
      exact h1
set_option linter.unusedSimpArgs false
set_option maxHeartbeats 4000000 in
set_option maxRecDepth 100000 in
theorem fromBools_any (l : List Bool) (g : Nat) (w : World) (hr : RowIs w g 4 (l.map boolV)) (hl : l.length ≤ 60) :
    Calls Tryz.prog 58 #[slV g l.length] w fun e w' => e = .returned (.int .i64 (Mc.val l : Int)) ∧ w' = w := by
  have HR := hide hr
  obtain ⟨n, hn⟩ : ∃ n, n = l.length := ⟨_, rfl⟩
  have HN := hide hn
  have hg := hr.lt
  rw [← hn] at hl ⊢
  clear hn hr
  unfold slV
  go_enter Tryz.func58, Tryz.ntmps58
  go_wp2_with fail
  go_loopw [3, 8] (fun m i wr => ∃ k : Nat, k ≤ n ∧ i = .int .i64 (k : Int) ∧ m = .int .i64 (Mc.val (l.take k) : Int) ∧ wr = w) (fun _ i _ => n - (intOf i).toNat)
  case atStart => exact ⟨0, Nat.zero_le _, rfl, rfl, rfl⟩
  case round =>
    obtain ⟨k, hk, rfl, rfl, rfl⟩ := hrel
    by_cases hlt : k < n
    · have hkl : k < l.length := by rw [← HN.out]; exact hlt
      have c0 : wr.cell? ⟨g, k, none⟩ = some (.bool l[k]) := HR.out.cell k _ (by rw [List.getElem?_map, List.getElem?_eq_getElem hkl]; rfl)
      have HT := hide (List.take_succ_eq_append_getElem hkl)
      have hlk : (l.take k).length = k := by simp; omega
      have hv := Mc.val_lt (l.take k)
      rw [hlk] at hv
      have HV := hide (Mc.val_snoc (l.take k) l[k])
      have HOR := hide (Mc.or_pow (Mc.val (l.take k)) k hv (by omega))
      have hp : (2 : Nat) ^ k ≤ 2 ^ 60 := Nat.pow_le_pow_right (by decide) (by omega)
      have HP : Hid (wrap64 ((2 : Int) ^ k) = ((2 ^ k : Nat) : Int)) := by
        show wrap64 _ = _
        unfold wrap64
        have e : ((2 : Int) ^ k) = ((2 ^ k : Nat) : Int) := by rw [Int.natCast_pow]; rfl
        rw [e]
        omega
      have HLK := hide hlk
      clear hlk
      generalize l[k] = b at *
      cases b with
      | true =>
        go_wp2_with fail
        go_roundw
        case rel => exact ⟨k + 1, by omega, by go_num, by rw [HP.out, HOR.out, HT.out, HV.out, if_pos rfl, HLK.out], trivial⟩
        case measure => simp [intOf]; omega
      | false =>
        go_wp2_with fail
        go_roundw
        case rel => exact ⟨k + 1, by omega, by go_num, by rw [HT.out, HV.out]; simp, trivial⟩
        case measure => simp [intOf]; omega
    · have hkn : k = n := by omega
      subst hkn
      go_wp2_with fail
      go_ret
      rw [List.take_of_length_le (by rw [← HN.out]; exact Nat.le_refl _)]
      exact ⟨rfl, rfl⟩
theorem told_any' (of : Int) (cnt is : Bool) (ct : Int) (w : World) :
    Calls Tryz.prog 87 #[.agg #[.int .i64 of, .bool cnt], .bool is, .int .i64 ct] w fun e w' => e = .returned (.int .i64 (if cnt then ct else if is && decide (1 < of) then 1 else 0)) ∧ w' = w.alloc (.cells #[.int .i64 of, .bool cnt] 117) := by
  by_cases h : 1 < of
  all_goals
    cases cnt <;> cases is
  all_goals
    go_enter Tryz.func87, Tryz.ntmps87
    go_wp2_with fail
    go_ret
    first | exact ⟨by simp [h], rfl⟩ | exact ⟨by simp, rfl⟩
end
section
open Go.RowKit
open Go.Sort
set_option maxHeartbeats 1000000 in
set_option maxRecDepth 100000 in
theorem edges1_any : Gathers 105 (fun e => e) := by
  refine ⟨fun _ _ => by kernel_rfl, ?_⟩
  intro p nm edge ns w h hlen
  cases edge with
  | false =>
    have H := hide h
    clear h
    go_enter Tryz.func105, Tryz.ntmps105
    go_wp2_with fail
    go_end0
    exact ⟨rfl, by simpa using H.out, Kn.refl _ _⟩
  | true =>
    obtain ⟨i0, hi0, hz0, hz1, hz2⟩ := info_parts Tryz.infoStr
    obtain ⟨v, hp, ho⟩ := h.ex
    have HP := hide hp
    have HO := hide ho
    have HO2 := hide (ho.alloc (.cells #[.string ⟨nm.toArray⟩] 9))
    have hlt := h.lt
    have c0 : w.cell? ⟨p, 0, none⟩ = some v := by rw [Lib.cell_of_heap hp]; rfl
    have hv0 : ∃ a n c, v = .slice a n c := by
      rcases ho.2 with ⟨hv, _⟩ | ⟨g, cap, cur, hv, _⟩
      · exact ⟨_, _, _, hv⟩
      · exact ⟨_, _, _, hv⟩
    clear h hp ho
    obtain ⟨a, n, c, rfl⟩ := hv0
    go_enter Tryz.func105, Tryz.ntmps105
    go_wp2_with (at_builtin; refine wpList_append_own _ rfl _ _ 154 rfl (p + 1) 9 i0 (.string ⟨#[]⟩) 1 16 Tryz.underlying154 hi0 hz0 hz1 hz2 rfl (by decide) _ ns.length (ns.map strV) rfl HO2.out ⟨w.heap.size, 0, none⟩ 1 1 [.string ⟨nm.toArray⟩] rfl rfl (cell_one_new _ _ _) ?c2 ?c3 ?c4 ?c5 ?_)
    case c2 => intro z hz; simp at hz; subst hz; rfl
    case c3 => unfold maxLen; omega
    case c4 => omega
    case c5 => simp; omega
    intro v' w2 hown' hgrow _
    have hput := St.put HP.out HO.out hown' hgrow
    have HB2 := hide hput.1
    have HK2 := hide hput.2.1
    have HS2 := hide hput.2.2
    have d0 : w2.cell? ⟨p, 0, none⟩ = some (.slice a n c) := by rw [Lib.cell_of_heap hput.1]; rfl
    have f0 : w2.frozen? ⟨p, 0, none⟩ = false := Lib.frozen_of_heap hput.1 0
    obtain ⟨g, cap, hv'⟩ : ∃ g cap, v' = .slice (some ⟨g, 0, none⟩) (ns.length + 1) cap := by
      rcases hown'.2 with ⟨_, h0⟩ | ⟨g, cap, cur, hv, _⟩
      · omega
      · exact ⟨g, cap, hv⟩
    rw [hv'] at HS2
    rw [hv']
    clear hown' hgrow hv' hput HO HO2 HP c0 HB2
    go_wp2_with fail
    go_end0
    exact ⟨rfl, HS2.out, HK2.out.setCell ⟨p, 0, none⟩ rfl _⟩
set_option maxHeartbeats 1000000 in
set_option maxRecDepth 100000 in
theorem Edges_any (ok : Nat → Prop) (x : Ex) (v : Value) (w : World) (h : IsEx ok w x v) (hlen : x.size ≤ 1000000) :
    Calls Tryz.prog 80 #[v] w fun e w' => ∃ sv, e = .returned sv ∧ Strs w' sv ((ordered (x.named false)).map toBA) ∧ Below w.heap.size w w' := by
  have hmf : ∀ (fn : Fn) (first cap : Array Value) (w : World), (Instr.makeFunc fn first cap).run Tryz.prog w = .ok (.func fn first cap) w := fun _ _ _ _ => rfl
  have hb : Below w.heap.size w (w.alloc (.cells #[.slice none 0 0] 154)) := (Below.refl _ w).alloc (Nat.le_refl _) _
  have hx : IsEx (fun g => g < w.heap.size) (w.alloc (.cells #[.slice none 0 0] 154)) x v := IsEx.stay (Stay.below hb) (fun g hg => hg.2) x v (IsEx.lt x v h)
  have hst : St w.heap.size [] (w.alloc (.cells #[.slice none 0 0] 154)) := ⟨_, heap_alloc_new w _, World.ownsRow_nil _ _ _ _⟩
  have HC := hide (each_any 105 false _ edges1_any rfl rfl x w.heap.size v [] _ hx hst (by simpa using hlen))
  have HB := hide hb
  have HNL := hide (Ex.named_le false x)
  obtain ⟨tu, yu, hiu⟩ := IsEx.iface x v h
  subst hiu
  clear h hb hx hst
  go_enter Tryz.func80, Tryz.ntmps80
  go_wp2_with fail
  refine HC.out.mono ?_
  rintro e w1 ⟨rfl, hs, hk⟩
  rw [List.nil_append] at hs
  obtain ⟨sv, hp, ho⟩ := hs.ex
  have HO := hide ho
  have c0 : w1.cell? ⟨w.heap.size, 0, none⟩ = some sv := by rw [Lib.cell_of_heap hp]; rfl
  have HI := hide (inOrder_any _ sv _ w1 ho (by have := HNL.out; omega))
  have HB1 := hide (HB.out.trans hk.1)
  obtain ⟨a, n, c, hsv⟩ : ∃ a n c, sv = .slice a n c := by
    rcases ho.2 with ⟨hv, _⟩ | ⟨g, cap, cur, hv, _⟩
    · exact ⟨_, _, _, hv⟩
    · exact ⟨_, _, _, hv⟩
  subst hsv
  clear hs hk hp ho HC
  go_wp2_with fail
  refine HI.out.mono ?_
  rintro e w2 ⟨sv2, rfl, hs2, hg2⟩
  have HS2 := hide hs2
  have HB2 := hide (HB1.out.grown hg2 HB1.out.size (fun k hk => by have := (HO.out.lt k hk).1; omega))
  obtain ⟨a2, n2, c2, hsv2⟩ : ∃ a n c, sv2 = .slice a n c := by
    rcases hs2 with ⟨_, a, cap, h⟩ | ⟨g, o, cap, h, _⟩
    · exact ⟨_, _, _, h⟩
    · exact ⟨_, _, _, h⟩
  subst hsv2
  clear hs2 hg2 HI
  go_wp2_with fail
  go_ret
  exact ⟨.slice a2 n2 c2, rfl, HS2.out, HB2.out⟩
end
end Go.Proofs.YtgdmohombcgjbaaGreatDoor
