/-
  The states of a machine's numbers lie within their bounds; a row of bools is bools. Rows of numbers in a row of slices; the document's machine while it is made. Slices of slices of numbers in memory; the walk of the statements' own sameLists, at what is the same. The walk of the statements' own great: how many states and inputs a program has. The document's state of a number, part by part (plain).
-/
import Derived.Test.YtkpfahbodlfpiaaGreatDoorMcFlAll
import Derived.Test.YtkpfahbodlfpiaaGreatDoorRlEdgesAll
import Derived.Test.YtkpfahbodlfpiaaGreatDoorNaEdgesAll
import Derived.Test.YtkpfahbodlfpiaaGreatDoorRdListAll
import Derived.Test.YtkpfahbodlfpiaaGreatDoorRfMathAll
import Derived.Deep.RegionHeld3
import Derived.Test.YtkpfahbodlfpiaaGreatDoorScTwoAll
namespace Go.Proofs.YtkpfahbodlfpiaaGreatDoor
section
open Go.RowKit
theorem Mc.state_bd (p : Ld.Prg) (hck : Ld.check p = none) (m : Nat) : Sc.Bd p (Mc.state (Mc.parts p) m) := by
  refine ⟨(Mc.stateI_len _ _).trans (Mc.parts_len p), (Mc.stateC_len _ _).trans (Mc.parts_len p), fun k hk => ?_⟩
  have hkp : k < (Mc.parts p).length := by rw [Mc.parts_len]; exact hk
  obtain ⟨e1, e2⟩ := Mc.stateI_at (Mc.parts p) m k hkp
  have e3 : (Mc.parts p)[k] = Mc.part p k := by have := Mc.parts_at p k hk; rw [List.getElem?_eq_getElem hkp] at this; exact Option.some.inj this
  rw [e3] at e1 e2
  show 0 ≤ (Mc.stateC (Mc.parts p) m).getD k 0 ∧ (Mc.stateC (Mc.parts p) m).getD k 0 ≤ p.names[k].count ∧ (3 ≤ p.names[k].kind → (Mc.stateI (Mc.parts p) m).getD k false = ((Mc.stateC (Mc.parts p) m).getD k 0 == p.names[k].count))
  rw [List.getD_eq_getElem?_getD, List.getD_eq_getElem?_getD, e1, e2]
  simp only [Option.getD_some]
  generalize Mc.rest (Mc.parts p) m k = r
  obtain ⟨m1, m2, m3, m4⟩ := Sc.may p hck k hk
  have hP : (p.names[k].kind = 3 ∨ p.names[k].kind = 4 → Mc.part p k = (p.names[k].count.toNat + 1, true)) ∧ (¬ (p.names[k].kind = 3 ∨ p.names[k].kind = 4) → (Mc.part p k).2 = false) := by
    unfold Mc.part
    rw [List.getElem?_eq_getElem hk]
    simp only
    refine ⟨fun h => if_pos h, fun h => ?_⟩
    rw [if_neg h]
    split <;> (try split) <;> rfl
  generalize Mc.part p k = P at hP
  by_cases h : p.names[k].kind = 3 ∨ p.names[k].kind = 4
  · obtain ⟨c1, c2⟩ := m3 (by omega)
    obtain ⟨c, hc⟩ : ∃ c : Nat, p.names[k].count = (c : Int) := ⟨p.names[k].count.toNat, by omega⟩
    have hP1 := hP.1 h
    rw [hc] at hP1 c1 c2 ⊢
    subst hP1
    simp only [if_true, Int.toNat_natCast, Nat.add_sub_cancel]
    have hr : r % (c + 1) < c + 1 := Nat.mod_lt _ (by omega)
    refine ⟨by omega, by omega, fun _ => ?_⟩
    have : 1 < c + 1 := by omega
    rw [decide_eq_true this, Bool.true_and, Bool.eq_iff_iff]
    simp only [decide_eq_true_eq, beq_iff_eq]
    omega
  · have hk0 := m4 (by omega)
    rw [hP.2 h, hk0]
    exact ⟨by simp, by simp, fun h3 => by omega⟩
theorem Mc.state_ct (p : Ld.Prg) (hck : Ld.check p = none) (s : Sc.St) (hb : Sc.Bd p s) : ∀ c, c ∈ s.ct → 0 ≤ c ∧ c ≤ 7 := by
  intro c hc
  obtain ⟨k, hk, rfl⟩ := List.getElem_of_mem hc
  have hk' : k < p.names.length := by rw [← hb.lc]; exact hk
  obtain ⟨h1, h2, _⟩ := hb.at_ k hk'
  rw [List.getD_eq_getElem?_getD, List.getElem?_eq_getElem hk] at h1 h2
  simp only [Option.getD_some] at h1 h2
  obtain ⟨m1, m2, m3, m4⟩ := Sc.may p hck k hk'
  refine ⟨h1, ?_⟩
  by_cases h : 3 ≤ p.names[k].kind
  · have := m3 h; omega
  · have := m4 (by omega); omega
theorem bools_row {W : World} {g : Nat} {l : List Bool} (h : RowIs W g 4 (l.map boolV)) (hl : l.length ≤ 1000000) : Bools W (slV g l.length) l :=
  ⟨some ⟨g, 0, none⟩, l.length, rfl, hl, fun i b hi => ⟨g, rfl, h.cell i _ (by rw [List.getElem?_map, hi]; rfl)⟩⟩
theorem StAt.rowI {W : World} {gi gc : Nat} {s : Sc.St} (h : StAt W gi gc s) : RowIs W gi 4 (s.is.map boolV) := h.bi
theorem StAt.kept {W W' : World} {gi gc : Nat} {s : Sc.St} (h : StAt W gi gc s) (h1 : W'.heap[gi]? = W.heap[gi]?) (h2 : W'.heap[gc]? = W.heap[gc]?) : StAt W' gi gc s := ⟨h1.trans h.bi, h2.trans h.bc⟩
end
section
namespace Rf
open Go.RowKit
theorem Tryz.infoIntsR : (Tryz.prog.info? 22).map (fun i => (i.zero, i.size, i.bytes)) = some (some (.slice none 0 0), 1, 24) := by kernel_rfl
/-- rows of numbers in a row of slices, all from block q on -/
structure IntR (q : Nat) (W : World) (o : Value) (us : List Value) (bs : List (List Nat)) : Prop where
  len : us.length = bs.length
  own : W.ownsRow q 22 1 o bs.length us
  at_ : ∀ (j : Nat) (u : Value) (b : List Nat), us[j]? = some u → bs[j]? = some b → W.ownsRow q 3 1 u b.length (b.map intV)
theorem IntR.nil (q : Nat) (W : World) : IntR q W (.slice none 0 0) [] [] := ⟨rfl, World.ownsRow_nil _ _ _ _, fun j u b h => by simp at h⟩
theorem IntR.below {q : Nat} {W W' : World} {o : Value} {us : List Value} {bs : List (List Nat)} (h : IntR q W o us bs) (hb : Below W.heap.size W W') : IntR q W' o us bs :=
  ⟨h.len, own_below h.own hb, fun j u b h1 h2 => own_below (h.at_ j u b h1 h2) hb⟩
theorem IntR.moved {q : Nat} {W W' : World} {o : Value} {us : List Value} {bs : List (List Nat)} (h : IntR q W o us bs) (hk : ∀ k, q ≤ k → k < W.heap.size → W'.heap[k]? = W.heap[k]?) : IntR q W' o us bs :=
  ⟨h.len, own_moved h.own hk, fun j u b h1 h2 => own_moved (h.at_ j u b h1 h2) hk⟩
theorem IntR.put {q : Nat} {W W' : World} {o o' u : Value} {us : List Value} {bs : List (List Nat)} {b : List Nat} (h : IntR q W o us bs) (hu : W.ownsRow q 3 1 u b.length (b.map intV)) (ob : Obj) (hown : W'.ownsRow q 22 1 o' (bs.length + 1) (us ++ [u])) (hg : (W.alloc ob).grownBy W' o.ownBlock) :
    IntR q W' o' (us ++ [u]) (bs ++ [b]) := by
  have hk : ∀ (u : Value) (b : List Nat), W.ownsRow q 3 1 u b.length (b.map intV) → W'.ownsRow q 3 1 u b.length (b.map intV) := fun u b hu =>
    (hu.alloc ob).kept hg (own_apart hu h.own (by decide))
  refine ⟨by simp [h.len], by simpa using hown, ?_⟩
  intro j x y hj hy
  by_cases hjl : j < bs.length
  · rw [List.getElem?_append_left (by rw [h.len]; exact hjl)] at hj
    rw [List.getElem?_append_left hjl] at hy
    exact hk _ _ (h.at_ j x y hj hy)
  · have hj2 : j < (bs ++ [b]).length := (List.getElem?_eq_some_iff.1 hy).1
    have : j = bs.length := by simp at hj2; omega
    subst this
    rw [List.getElem?_append_right (by rw [h.len]; exact Nat.le_refl _), h.len] at hj
    rw [List.getElem?_append_right (Nat.le_refl _)] at hy
    simp only [Nat.sub_self, List.getElem?_cons_zero, Option.some.injEq] at hj hy
    subst hj; subst hy
    exact hk _ _ hu
/-- the machine's block while it is made: blocks ahead of it stand -/
def MM (wA : World) (bm : Nat) (nv rv : Value) (S I : Nat) (nx : Value) (W : World) : Prop := Below bm wA W ∧ RMachAt W bm nv rv S I nx
theorem MM.below {wA W W' : World} {bm S I : Nat} {nv rv nx : Value} (h : MM wA bm nv rv S I nx W) (hb : Below W.heap.size W W') : MM wA bm nv rv S I nx W' :=
  ⟨h.1.trans (hb.mono (by have := h.2.lt; omega)), h.2.below hb⟩
theorem MM.set {wA W : World} {bm S I S' I' : Nat} {nv rv nx nx' : Value} (h : MM wA bm nv rv S I nx W) (i : Nat) (x : Value)
    (hx : #[nv, rv, .int .i64 (S : Int), .int .i64 (I : Int), nx].setIfInBounds i x = #[nv, rv, .int .i64 (S' : Int), .int .i64 (I' : Int), nx']) : MM wA bm nv rv S' I' nx' (W.setCell ⟨bm, i, none⟩ x) := by
  refine ⟨h.1.setCell (p := ⟨bm, i, none⟩) (Nat.le_refl _) _, ?_⟩
  have h2 : W.heap[bm]? = _ := h.2
  show (W.setCell ⟨bm, i, none⟩ x).heap[bm]? = _
  have hlt := h.2.lt
  simp only [World.setCell, Array.getElem?_modify, h2, if_true, Option.map_some]
  rw [← hx]
  rfl
theorem MM.grown {wA W W1 W' : World} {bm S I q : Nat} {nv rv nx : Value} {ob : Option Nat} (h : MM wA bm nv rv S I nx W) (hb : Below W.heap.size W W1) (hg : W1.grownBy W' ob) (hq : bm < q) (ho : ∀ g, ob = some g → q ≤ g) : MM wA bm nv rv S I nx W' := by
  have h1 := h.below hb
  have hlt := h1.2.lt
  refine ⟨h1.1.trans ⟨hg.os, hg.tape, hg.output, hg.size, fun k hk => hg.block k (by omega) (fun e => by have := ho k e.symm; omega)⟩, ?_⟩
  exact (hg.block bm hlt (fun e => by have := ho bm e.symm; omega)).trans h1.2
theorem cell_of_block {W W' : World} {k i : Nat} (h : W'.heap[k]? = W.heap[k]?) (f : Option Nat) : W'.cell? ⟨k, i, f⟩ = W.cell? ⟨k, i, f⟩ := by
  unfold World.cell?
  rw [h]
/-- where the document's scan leads to -/
def nxt (p : Ld.Prg) (s i : Nat) : Nat := number p (step p (state p s) (bitsTo i (Ld.kindL p.names 1).length))
theorem nxt_of (p : Ld.Prg) (hck : Ld.check p = none) (s i : Nat) : step p (state p s) (bitsTo i (Ld.kindL p.names 1).length) = of p.names (Mc.after1 p (Ld.kindL p.names 1).length s i) := by
  unfold Mc.after1
  rw [state_is p hck, of_step p hck _ _ (Mc.state_bd p hck s)]
theorem nxt_is (p : Ld.Prg) (hck : Ld.check p = none) (s i : Nat) : nxt p s i = Mc.number (Mc.parts p) (Mc.after1 p (Ld.kindL p.names 1).length s i).is (Mc.after1 p (Ld.kindL p.names 1).length s i).ct := by
  unfold nxt
  rw [nxt_of p hck, number_is p hck]
theorem after1_bd (p : Ld.Prg) (hck : Ld.check p = none) (s i : Nat) : Sc.Bd p (Mc.after1 p (Ld.kindL p.names 1).length s i) := by
  unfold Mc.after1
  exact (Sc.step_bd p hck _ _ (Mc.state_bd p hck s) (by rw [bitsTo_len])).1
theorem nxt_small (p : Ld.Prg) (hck : Ld.check p = none) (s i : Nat) (hS : Mc.total (Mc.parts p) ≤ 4096) : (∀ j, j ≤ p.names.length → numAt p (step p (state p s) (bitsTo i (Ld.kindL p.names 1).length)) j ≤ 1000000) ∧ ∀ k (hk : k < p.names.length), 3 ≤ p.names[k].kind → 0 ≤ (step p (state p s) (bitsTo i (Ld.kindL p.names 1).length)).ct p.names[k].name := by
  rw [nxt_of p hck]
  have hb := after1_bd p hck s i
  refine ⟨fun j hj => by have := numAt_le p hck _ hb j hj; omega, fun k hk _ => ?_⟩
  have h1 := toldC_at p.names (Mc.after1 p (Ld.kindL p.names 1).length s i).ct p.names[k].name (by rw [number_self p hck k hk]; omega)
  rw [number_self p hck k hk, Int.toNat_natCast] at h1
  show 0 ≤ toldC p.names _ _
  rw [h1]
  have hkl : k < (Mc.after1 p (Ld.kindL p.names 1).length s i).ct.length := by rw [hb.lc]; exact hk
  have h2 := Mc.state_ct p hck _ hb _ (List.getElem_mem hkl)
  rw [List.getD_eq_getElem?_getD, List.getElem?_eq_getElem hkl]
  exact h2.1
def nextL (p : Ld.Prg) (I s : Nat) : List Nat := (List.range I).map (nxt p s)
theorem nextL_len (p : Ld.Prg) (I s : Nat) : (nextL p I s).length = I := by simp [nextL]
def nextsL (p : Ld.Prg) (S I : Nat) : List (List Nat) := (List.range S).map (nextL p I)
theorem nextsL_len (p : Ld.Prg) (S I : Nat) : (nextsL p S I).length = S := by simp [nextsL]
theorem range_take_succ {β : Type} (f : Nat → β) (n k : Nat) (h : k < n) : ((List.range n).map f).take (k + 1) = ((List.range n).map f).take k ++ [f k] := by
  rw [List.take_succ_eq_append_getElem (by simpa using h)]
  simp
/-- the document's machine of a program -/
def IsRMach (W : World) (bm : Nat) (p : Ld.Prg) : Prop := ∃ nv rv nx us q, RMachAt W bm nv rv (Mc.total (Mc.parts p)) (2 ^ (Ld.kindL p.names 1).length) nx ∧ IsRPrg W p (.agg #[nv, rv]) ∧ IntR q W nx us (nextsL p (Mc.total (Mc.parts p)) (2 ^ (Ld.kindL p.names 1).length))
theorem IsRMach.below {W W' : World} {bm : Nat} {p : Ld.Prg} (h : IsRMach W bm p) (hb : Below W.heap.size W W') : IsRMach W' bm p := by
  obtain ⟨nv, rv, nx, us, q, h1, h2, h3⟩ := h
  exact ⟨nv, rv, nx, us, q, h1.below hb, h2.below hb, h3.below hb⟩
end Rf
end
section
namespace Rf
open Go.RowKit
def RowsI (W : World) (v : Value) (L : List (List Int)) : Prop :=
  (L = [] ∧ ∃ a cap, v = .slice a 0 cap) ∨ ∃ g cap, v = .slice (some ⟨g, 0, none⟩) L.length cap ∧ L.length ≤ cap ∧ ∀ (k : Nat) r, L[k]? = some r → ∃ u, W.cell? ⟨g, k, none⟩ = some u ∧ Ints W u r
theorem RowsI.below {W W' : World} {v : Value} {L : List (List Int)} (h : RowsI W v L) (hb : Below W.heap.size W W') : RowsI W' v L := by
  rcases h with h | ⟨g, cap, h1, h2, h3⟩
  · exact .inl h
  · refine .inr ⟨g, cap, h1, h2, fun k r hr => ?_⟩
    obtain ⟨u, h4, h5⟩ := h3 k r hr
    exact ⟨u, (hb.cell (World.block_lt_of_cell? _ _ h4)).trans h4, h5.below hb⟩
theorem RowsI.slice {W : World} {v : Value} {L : List (List Int)} (h : RowsI W v L) : ∃ a c, v = .slice a L.length c := by
  rcases h with ⟨rfl, a, c, rfl⟩ | ⟨g, cap, h1, _⟩
  · exact ⟨a, c, rfl⟩
  · exact ⟨_, _, h1⟩
theorem RowsI.at_ {W : World} {a : Option Addr} {n c : Nat} {L : List (List Int)} (h : RowsI W (.slice a n c) L) (k : Nat) (r : List Int) (hr : L[k]? = some r) : ∃ g u, a = some ⟨g, 0, none⟩ ∧ n ≤ c ∧ W.cell? ⟨g, k, none⟩ = some u ∧ Ints W u r := by
  rcases h with ⟨h0, _⟩ | ⟨g, cap, h1, h2, h3⟩
  · rw [h0] at hr; simp at hr
  · simp only [Value.slice.injEq] at h1
    obtain ⟨u, h4, h5⟩ := h3 k r hr
    exact ⟨g, u, h1.1, by rw [h1.2.1, h1.2.2]; exact h2, h4, h5⟩
def asI (l : List Nat) : List Int := l.map fun i : Nat => (i : Int)
theorem ints_nat {W : World} {q : Nat} {v : Value} {l : List Nat} (h : W.ownsRow q 3 1 v l.length (l.map intV)) (hl : ∀ i, i ∈ l → i ≤ 1000000) : Ints W v (asI l) := by
  rcases h.2 with ⟨rfl, h0⟩ | ⟨g, cap, cur, rfl, _, hcur, hcap, _, _, htk⟩
  · exact .inl ⟨by rw [List.length_eq_zero_iff.1 h0]; rfl, _, _, rfl⟩
  · refine .inr ⟨g, 0, cap, by simp [asI], by simpa [asI] using hcap, fun k x hx => ?_⟩
    unfold asI at hx
    rw [List.getElem?_map] at hx
    cases hk : l[k]? with
    | none => rw [hk] at hx; cases hx
    | some i =>
      rw [hk] at hx
      simp only [Option.map_some, Option.some.injEq] at hx
      subst hx
      have := hl i (List.mem_of_getElem? hk)
      exact ⟨by rw [Nat.zero_add]; exact row_cell hcur htk (by rw [List.getElem?_map, hk]; rfl), by unfold I64; omega⟩
theorem IntR.rowsI {q : Nat} {W : World} {o : Value} {us : List Value} {bs : List (List Nat)} (h : IntR q W o us bs) (hl : ∀ b, b ∈ bs → ∀ i, i ∈ b → i ≤ 1000000) : RowsI W o (bs.map asI) := by
  rcases h.own.2 with ⟨rfl, h0⟩ | ⟨g, cap, cur, rfl, _, hcur, hcap, _, _, htk⟩
  · exact .inl ⟨by rw [List.length_eq_zero_iff.1 h0]; rfl, _, _, rfl⟩
  · refine .inr ⟨g, cap, by simp, by simpa using hcap, fun i b hb => ?_⟩
    rw [List.getElem?_map] at hb
    cases hk : bs[i]? with
    | none => rw [hk] at hb; cases hb
    | some x =>
      rw [hk] at hb
      simp only [Option.map_some, Option.some.injEq] at hb
      subst hb
      have hil : i < us.length := by rw [h.len]; exact (List.getElem?_eq_some_iff.1 hk).1
      exact ⟨us[i], row_cell hcur htk (List.getElem?_eq_getElem hil), ints_nat (h.at_ i _ x (List.getElem?_eq_getElem hil) hk) (hl x (List.mem_of_getElem? hk))⟩
/-- a table of rows tells lists -/
theorem LL.rowsI {W : World} {g m n lo : Nat} {us : List Nat} {rows : Nat → List Value} {L : List (List Nat)} (h : LL W g 22 3 m n lo us rows) (hul : us.length = m) (hm : L.length = m) (hr : ∀ (s : Nat) (r : List Nat), L[s]? = some r → rows s = r.map intV ∧ r.length = n) (hl : ∀ b, b ∈ L → ∀ i, i ∈ b → i ≤ 1000000) : RowsI W (slV g m) (L.map asI) := by
  refine .inr ⟨g, m, by simp [slV, hm], by simp [hm], fun i b hb => ?_⟩
  rw [List.getElem?_map] at hb
  cases hk : L[i]? with
  | none => rw [hk] at hb; cases hb
  | some x =>
    rw [hk] at hb
    simp only [Option.map_some, Option.some.injEq] at hb
    subst hb
    have hil : i < us.length := by have := (List.getElem?_eq_some_iff.1 hk).1; omega
    obtain ⟨e1, e2⟩ := hr i x hk
    have hc := h.cell i us[i] (List.getElem?_eq_getElem hil)
    refine ⟨_, hc, ?_⟩
    have hrow := (h.row i us[i] (List.getElem?_eq_getElem hil)).1
    rw [e1] at hrow
    refine .inr ⟨us[i], 0, n, by simp [slV, asI, e2], by simp [asI, e2], fun k y hy => ?_⟩
    unfold asI at hy
    rw [List.getElem?_map] at hy
    cases hk2 : x[k]? with
    | none => rw [hk2] at hy; cases hy
    | some j =>
      rw [hk2] at hy
      simp only [Option.map_some, Option.some.injEq] at hy
      subst hy
      have := hl x (List.mem_of_getElem? hk) j (List.mem_of_getElem? hk2)
      exact ⟨by rw [Nat.zero_add]; exact hrow.cell k _ (by rw [List.getElem?_map, hk2]; rfl), by unfold I64; omega⟩
set_option maxHeartbeats 4000000 in
set_option maxRecDepth 100000 in
theorem lsameL_any (L : List (List Int)) (u v : Value) (w : World) (hu : RowsI w u L) (hv : RowsI w v L) (hl : L.length ≤ 1000000) (hr : ∀ r, r ∈ L → r.length ≤ 1000000) :
    Calls Tryz.prog 21 #[u, v] w fun e w' => e = .returned (.bool true) ∧ Below w.heap.size w w' := by
  have HU := hide hu
  have HV := hide hv
  have HR := hide hr
  obtain ⟨n, hn⟩ : ∃ n, n = L.length := ⟨_, rfl⟩
  have HN := hide hn
  obtain ⟨ua, uc, rfl⟩ := hu.slice
  obtain ⟨va, vc, rfl⟩ := hv.slice
  rw [← hn] at HU HV hl ⊢
  clear hu hv hn hr
  go_enter Tryz.func21, Tryz.ntmps21
  go_wp2_with fail
  go_loopw [5] (fun i wr => ∃ k : Nat, k ≤ n ∧ i = .int .i64 (k : Int) ∧ Hid (Below w.heap.size w wr)) (fun i _ => n - (intOf i).toNat)
  case atStart => exact ⟨0, Nat.zero_le _, rfl, Below.refl _ _⟩
  case round =>
    obtain ⟨k, hk, rfl, HB⟩ := hrel
    by_cases hlt : k < n
    · have hkl : k < L.length := by rw [← HN.out]; exact hlt
      have hx := List.getElem?_eq_getElem hkl
      obtain ⟨g1, y1, rfl, hc1, c1, i1⟩ := (HU.out.below HB.out).at_ k _ hx
      obtain ⟨g2, y2, rfl, hc2, c2, i2⟩ := (HV.out.below HB.out).at_ k _ hx
      obtain ⟨u1, d1, rfl⟩ := i1.slice
      obtain ⟨u2, d2, rfl⟩ := i2.slice
      have HD : Hid (Below wr.heap.size wr wr.drew) := ⟨rfl, rfl, rfl, Nat.le_refl _, fun _ _ => rfl⟩
      have HRL := hide (HR.out _ (List.getElem_mem hkl))
      have HC := hide (fun W (hW : Below wr.heap.size wr W) => lsameI_any L[k] _ _ W (i1.below hW) (i2.below hW) HRL.out)
      have HK : Hid (∀ W, Below wr.heap.size wr W → W.cell? ⟨g1, k, none⟩ = some (.slice u1 L[k].length d1) ∧ W.cell? ⟨g2, k, none⟩ = some (.slice u2 L[k].length d2)) := fun W hW => ⟨(hW.cell (World.block_lt_of_cell? _ _ c1)).trans c1, (hW.cell (World.block_lt_of_cell? _ _ c2)).trans c2⟩
      have hki : (k : Int) < (n : Int) := by omega
      clear hx i1 i2 HRL
      generalize L[k].length = q at *
      go_wp2_with fail
      go_region_held3 (fun W => W.cell? ⟨g1, k, none⟩ = some (.slice u1 q d1) ∧ W.cell? ⟨g2, k, none⟩ = some (.slice u2 q d2)) ((refine HK.out _ ?_; first | exact HD.out | exact HB2.out | exact Below.refl _ _)) ((go_at_call 14; (with_reducible refine (HC.out _ HD.out).mono ?_); rintro e w2 ⟨rfl, hb2⟩; have HB2 : Hid (Below wr.heap.size wr w2) := HD.out.trans (hb2.mono HD.out.size); clear hb2))
      go_wp2_with fail
      go_roundw
      case rel => exact ⟨k + 1, by omega, by go_num, HB.out.trans (HB2.out.mono HB.out.size)⟩
      case measure => simp [intOf]; omega
    · have hkn : k = n := by omega
      subst hkn
      go_wp2_with fail
      go_ret
      exact ⟨rfl, HB.out⟩
end Rf
end
section
namespace Rf
open Go.RowKit
def refused (p : Ld.Prg) : Bool := decide (4096 < Mc.total (Mc.parts p)) || decide (6 < (Ld.kindL p.names 1).length)
def much (p : Ld.Prg) (most : Nat) : Bool := !refused p && (decide (most < Mc.total (Mc.parts p)) || decide (4 < (Ld.kindL p.names 1).length))
set_option maxHeartbeats 8000000 in
set_option maxRecDepth 100000 in
theorem great_any (p : Ld.Prg) (v : Value) (most : Nat) (w : World) (h : IsRPrg w p v) (hL : RLaid w) (hck : Ld.check p = none) :
    Calls Tryz.prog 18 #[v, .int .i64 (most : Int)] w fun e w' => e = .returned (.tuple #[.bool (refused p), .bool (much p most)]) ∧ Below w.heap.size w w' := by
  have HCK := hide hck
  have HRP := hide h
  have hqle : (Ld.kindL p.names 1).length ≤ 12 := Nat.le_trans (Ld.placesTo_le _ _ _) (Ld.check_names p hck).1
  obtain ⟨nv, rv, rfl, hn, hr⟩ := h
  have HNA := hide hn
  obtain ⟨na, nc, rfl, _⟩ := hn.slice
  obtain ⟨ra, rc, rfl, _⟩ := hr.slice
  obtain ⟨n, hnn⟩ : ∃ n, n = p.names.length := ⟨_, rfl⟩
  obtain ⟨m, hmm⟩ : ∃ m, m = p.rungs.length := ⟨_, rfl⟩
  obtain ⟨q, hqq⟩ : ∃ q, q = (Ld.kindL p.names 1).length := ⟨_, rfl⟩
  have h12 : n ≤ 12 := by rw [hnn]; exact (Ld.check_names p hck).1
  have HN := hide hnn
  have HQ := hide hqq
  rw [← hqq] at hqle
  rw [← hnn] at HRP HNA ⊢
  rw [← hmm] at HRP ⊢
  obtain ⟨wA, hwA⟩ : ∃ wA, wA = w.alloc (.cells #[.slice na n nc, .slice ra m rc] 30) := ⟨_, rfl⟩
  have hbA : Below w.heap.size w wA := by rw [hwA]; exact (Below.refl _ _).alloc (Nat.le_refl _) _
  have hsA : wA.heap.size = w.heap.size + 1 := by rw [hwA]; simp
  have hA : wA.heap[w.heap.size]? = some (.cells #[.slice na n nc, .slice ra m rc] 30 (0, 0)) := by rw [hwA]; exact heap_alloc_new _ _
  have HX : Hid (∀ W, Below wA.heap.size wA W → (W.cell? ⟨w.heap.size, 0, none⟩ = some (.slice na n nc) ∧ W.cell? ⟨w.heap.size, 1, none⟩ = some (.slice ra m rc)) ∧ Below w.heap.size w W) := fun W hW => by
    have e0 := (hW.block w.heap.size (by omega)).trans hA
    exact ⟨⟨by rw [Lib.cell_of_heap e0]; rfl, by rw [Lib.cell_of_heap e0]; rfl⟩, hbA.trans (hW.mono hbA.size)⟩
  have HPA := hide (Parts_any p _ wA (HRP.out.below hbA) (hL.below hbA) hck)
  have HKI : Hid (∀ W, Below wA.heap.size wA W → Calls Tryz.prog 7 #[.agg #[.slice na n nc, .slice ra m rc], .int .i64 1] W fun e w' => ∃ v, e = .returned v ∧ w'.ownsRow W.heap.size 3 1 v q ((Ld.kindL p.names 1).map intV) ∧ Below W.heap.size W w') := fun W hW => by
    rw [HQ.out]
    exact rKind_any p.names _ _ 1 W (HNA.out.below (HX.out W hW).2) ⟨_, _, _, rfl⟩
  have HCT := hide (capT_all p hck)
  rw [hwA] at HPA
  rw [← hnn] at HPA HCT
  have HWA := hide hwA
  clear hn hr hnn hmm hqq hwA hbA hA hck hL hsA
  go_enter Tryz.func18, Tryz.ntmps18
  go_wp2_with fail
  refine HPA.out.mono ?_
  rintro e w2 ⟨ev, rfl, hev, hb2⟩
  rw [← HWA.out] at hev hb2
  have HB2 := hide hb2
  have HEV := hide hev
  obtain ⟨ea, ec, rfl⟩ := own_slice hev
  clear hev hb2 HPA
  go_wp2_with fail
  go_loopw [6, 7] (fun nv i wr => ∃ k : Nat, k ≤ n ∧ i = .int .i64 (k : Int) ∧ nv = .int .i64 (capT p k : Int) ∧ Hid (Below w2.heap.size w2 wr)) (fun _ i _ => n - (intOf i).toNat)
  case atStart => exact ⟨0, Nat.zero_le _, rfl, by simp [capT], Below.refl _ _⟩
  case round =>
    obtain ⟨k, hk, rfl, rfl, HB⟩ := hrel
    by_cases hlt : k < n
    · have hkl : k < p.names.length := by rw [← HN.out]; exact hlt
      have hkp : k < (partsL p).length := by rw [partsL_len]; exact hkl
      obtain ⟨ge, rfl, _, hec, _, ce⟩ := own_int (by have h := own_below HEV.out HB.out; rw [HN.out, ← partsL_len] at h; exact h) hkp
      have hpk := partsL_at p k hkl
      rw [List.getElem?_eq_getElem hkp] at hpk
      have hpk := Option.some.inj hpk
      rw [hpk] at ce
      have hp8 := part_le p HCK.out k hkl
      have HSU : Hid (capT p (k + 1) = if 0 < part p k ∧ capT p k ≤ 4096 then capT p k * part p k else capT p k) := rfl
      have hec' : n ≤ ec := by rw [HN.out, ← partsL_len]; exact hec
      generalize part p k = pk at *
      generalize capT p k = ck at *
      clear hec
      have hki : (k : Int) < (n : Int) := by omega
      by_cases hc : ck ≤ 4096
      · have hci : (ck : Int) ≤ 4096 := by omega
        by_cases h0 : pk = 0
        · subst h0
          have HS0 : Hid (capT p (k + 1) = ck) := by show _ = _; rw [HSU.out, if_neg (by omega)]
          go_wp2_with fail
          go_roundw
          case rel => exact ⟨k + 1, by omega, by go_num, by rw [HS0.out], HB.out⟩
          case measure => simp [intOf]; omega
        · have hpi : (0 : Int) < (pk : Int) := by omega
          have HS0 : Hid (capT p (k + 1) = ck * pk) := by show _ = _; rw [HSU.out, if_pos ⟨by omega, hc⟩]
          have h9 : ck * pk ≤ 4096 * 8 := Nat.mul_le_mul hc hp8
          obtain ⟨t, ht⟩ : ∃ t : Nat, t = ck * pk := ⟨_, rfl⟩
          have hti : (ck : Int) * (pk : Int) = (t : Int) := by rw [ht]; simp
          rw [← ht] at h9 HS0
          clear ht
          go_wp2_with fail
          go_roundw
          case rel => exact ⟨k + 1, by omega, by go_num, by rw [HS0.out], HB.out⟩
          case measure => simp [intOf]; omega
      · have hci : ¬ (ck : Int) ≤ 4096 := by omega
        have HS0 : Hid (capT p (k + 1) = ck) := by show _ = _; rw [HSU.out, if_neg (by omega)]
        by_cases h0 : pk = 0
        · subst h0
          go_wp2_with fail
          go_roundw
          case rel => exact ⟨k + 1, by omega, by go_num, by rw [HS0.out], HB.out⟩
          case measure => simp [intOf]; omega
        · have hpi : (0 : Int) < (pk : Int) := by omega
          go_wp2_with fail
          go_roundw
          case rel => exact ⟨k + 1, by omega, by go_num, by rw [HS0.out], HB.out⟩
          case measure => simp [intOf]; omega
    · obtain rfl : k = n := by omega
      have HB3 : Hid (Below wA.heap.size wA wr) := then_ HB2.out HB.out
      obtain ⟨⟨c0, c1⟩, hbw⟩ := HX.out wr HB3.out
      rcases HCT.out with ⟨h3, h4⟩ | ⟨h3, h4, h5⟩
      · have HRE : Hid (refused p = decide (6 < q)) := by show _ = _; unfold refused; rw [← h4, ← HQ.out, decide_eq_false (by omega : ¬ 4096 < capT p k)]; rfl
        have HMU : Hid (much p most = (!decide (6 < q) && (decide (most < capT p k) || decide (4 < q)))) := by show _ = _; unfold much; rw [HRE.out, ← h4, ← HQ.out]
        have HK1 := hide (HKI.out wr HB3.out)
        have g1 : ¬ (4096 : Int) < (capT p k : Int) := by omega
        generalize capT p k = ck at *
        clear h4 hbw HCT
        go_wp2_with fail
        refine HK1.out.mono ?_
        rintro e w3 ⟨kv, rfl, hown, hb3⟩
        obtain ⟨ka, kc, rfl⟩ := own_slice hown
        have HB4 : Hid (Below wA.heap.size wA w3) := then_ HB3.out hb3
        obtain ⟨⟨d0, d1⟩, hbw3⟩ := HX.out w3 HB4.out
        have HBW3 := hide hbw3
        have HK2 := hide (HKI.out w3 HB4.out)
        clear hown hb3 hbw3 c0 c1 HK1
        by_cases h6 : 6 < q
        · have h6i : (6 : Int) < (q : Int) := by omega
          have HR : Hid (refused p = true ∧ much p most = false) := ⟨by rw [HRE.out]; simpa using h6, by rw [HMU.out]; simp [h6]⟩
          go_wp2_with fail
          refine bodyPost_ret (results_tmp2 rfl _ _ _) rfl ?_
          exact ⟨by rw [HR.out.1, HR.out.2]; first | rfl | (simp [h6i]; omega) | simp [h6i], HBW3.out⟩
        · have h6i : ¬ (6 : Int) < (q : Int) := by omega
          by_cases hm : most < ck
          · have hmi : (most : Int) < (ck : Int) := by omega
            have HR : Hid (refused p = false ∧ much p most = true) := ⟨by rw [HRE.out]; simpa using h6, by rw [HMU.out]; simp [h6, hm]⟩
            go_wp2_with fail
            refine bodyPost_ret (results_tmp2 rfl _ _ _) rfl ?_
            exact ⟨by rw [HR.out.1, HR.out.2]; first | rfl | (simp [h6i]; omega) | simp [h6i], HBW3.out⟩
          · have hmi : ¬ (most : Int) < (ck : Int) := by omega
            have HR : Hid (refused p = false ∧ much p most = decide (4 < q)) := ⟨by rw [HRE.out]; simpa using h6, by rw [HMU.out]; simp [h6, hm]⟩
            go_wp2_with fail
            refine HK2.out.mono ?_
            rintro e w4 ⟨kv, rfl, hown, hb4⟩
            obtain ⟨ka2, kc2, rfl⟩ := own_slice hown
            have HBW4 : Hid (Below w.heap.size w w4) := then_ HBW3.out hb4
            clear hown hb4 HK2
            by_cases h44 : 4 < q
            · have h4i : (4 : Int) < (q : Int) := by omega
              go_wp2_with fail
              refine bodyPost_ret (results_tmp2 rfl _ _ _) rfl ?_
              exact ⟨by rw [HR.out.1, HR.out.2]; first | rfl | (simp [h44]; omega) | simp [h44], HBW4.out⟩
            · have h4i : ¬ (4 : Int) < (q : Int) := by omega
              go_wp2_with fail
              refine bodyPost_ret (results_tmp2 rfl _ _ _) rfl ?_
              exact ⟨by rw [HR.out.1, HR.out.2]; first | rfl | (simp [h44]; omega) | simp [h44], HBW4.out⟩
      · have HR : Hid (refused p = true ∧ much p most = false) := by
          have h1 : refused p = true := by unfold refused; simp [h4]
          exact ⟨h1, by unfold much; rw [h1]; rfl⟩
        have g1 : (4096 : Int) < (capT p k : Int) := by omega
        have HBW := hide hbw
        generalize capT p k = ck at *
        clear h4 hbw HCT
        go_wp2_with fail
        refine bodyPost_ret (results_tmp2 rfl _ _ _) rfl ?_
        exact ⟨by rw [HR.out.1, HR.out.2]; first | rfl | (simp [h6i]; omega) | simp [h6i], HBW.out⟩
end Rf
end
section
namespace Rf
/-- behind the first j parts: what is left of the number, and the state so far -/
def stTo (p : Ld.Prg) (n : Nat) : Nat → Nat × St
  | 0 => (n, start)
  | j + 1 => if part p j = 0 then stTo p n j else ((stTo p n j).1 / part p j, put p j ((stTo p n j).1 % part p j) (stTo p n j).2)
theorem stTo_none (p : Ld.Prg) (n j : Nat) (h : part p j = 0) : stTo p n (j + 1) = stTo p n j := by rw [stTo, if_pos h]
theorem stTo_some (p : Ld.Prg) (n j : Nat) (h : part p j ≠ 0) : stTo p n (j + 1) = ((stTo p n j).1 / part p j, put p j ((stTo p n j).1 % part p j) (stTo p n j).2) := by rw [stTo, if_neg h]
theorem stTo_le (p : Ld.Prg) (n : Nat) : ∀ j, (stTo p n j).1 ≤ n
  | 0 => Nat.le_refl _
  | j + 1 => by
    have ih := stTo_le p n j
    rw [stTo]
    split
    · exact ih
    · exact Nat.le_trans (Nat.div_le_self _ _) ih
theorem stateF_to (p : Ld.Prg) (n : Nat) : ∀ (m j : Nat), stateF p (List.range' j m) (stTo p n j).1 (stTo p n j).2 = (stTo p n (j + m)).2
  | 0, j => rfl
  | m + 1, j => by
    have ih := stateF_to p n m (j + 1)
    rw [List.range'_succ, stateF]
    rw [show j + (m + 1) = j + 1 + m by omega, ← ih]
    by_cases h : part p j = 0
    · rw [if_pos h, stTo_none p n j h]
    · rw [if_neg h, stTo_some p n j h]
theorem stTo_all (p : Ld.Prg) (n : Nat) : (stTo p n p.names.length).2 = state p n := by
  have h := stateF_to p n p.names.length 0
  rw [Nat.zero_add] at h
  rw [← h]
  unfold state
  rw [List.range_eq_range']
  rfl
end Rf
end
end Go.Proofs.YtkpfahbodlfpiaaGreatDoor
