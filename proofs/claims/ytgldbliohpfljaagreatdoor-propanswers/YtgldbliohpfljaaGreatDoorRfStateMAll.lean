/-
  What package machine's fill has laid, between its rounds. The states of a machine's numbers lie within their bounds; a row of bools is bools. Rows of numbers in a row of slices; the document's machine while it is made. The document's state of a number, part by part (plain).
-/
import Derived.Test.YtgldbliohpfljaaGreatDoorMcOffAll
import Derived.Test.YtgldbliohpfljaaGreatDoorRlEdgesAll
import Derived.Test.YtgldbliohpfljaaGreatDoorNaEdgesAll
import Derived.Test.YtgldbliohpfljaaGreatDoorRdListAll
import Derived.Test.YtgldbliohpfljaaGreatDoorScTwoAll
namespace Go.Proofs.YtgldbliohpfljaaGreatDoor
section
open Go.RowKit
/-- the state after a scan out of state s at input i -/
def Mc.after1 (p : Ld.Prg) (q s i : Nat) : Sc.St := Sc.step p (Mc.state (Mc.parts p) s) (bitsTo i q)
def Mc.nextRow (p : Ld.Prg) (q I s : Nat) : List Value := (List.range I).map fun i => Value.int .i64 (Mc.number (Mc.parts p) (Mc.after1 p q s i).is (Mc.after1 p q s i).ct : Int)
def Mc.seesRow (p : Ld.Prg) (q I s : Nat) : List Value := (List.range I).map fun i => Value.int .i64 (Mc.val (Mc.after1 p q s i).is : Int)
theorem Mc.nextRow_length (p : Ld.Prg) (q I s : Nat) : (Mc.nextRow p q I s).length = I := by simp [Mc.nextRow]
theorem Mc.seesRow_length (p : Ld.Prg) (q I s : Nat) : (Mc.seesRow p q I s).length = I := by simp [Mc.seesRow]
theorem Mc.nextRow_at (p : Ld.Prg) (q I s i : Nat) (h : i < I) : (Mc.nextRow p q I s)[i]? = some (Value.int .i64 (Mc.number (Mc.parts p) (Mc.after1 p q s i).is (Mc.after1 p q s i).ct : Int)) := by simp [Mc.nextRow, h]
theorem Mc.seesRow_at (p : Ld.Prg) (q I s i : Nat) (h : i < I) : (Mc.seesRow p q I s)[i]? = some (Value.int .i64 (Mc.val (Mc.after1 p q s i).is : Int)) := by simp [Mc.seesRow, h]
/-- s rows of both tables are laid -/
structure Fl (W0 : World) (gN gS S I : Nat) (p : Ld.Prg) (q : Nat) (W : World) (s : Nat) : Prop where
  tabs : ∃ uN uS : List Nat, (uN.length = s ∧ uS.length = s) ∧ LL W gN 36 3 S I W0.heap.size uN (Mc.nextRow p q I) ∧ LL W gS 36 3 S I W0.heap.size uS (Mc.seesRow p q I)
  old : ∀ k, k < W0.heap.size → k ≠ gN → k ≠ gS → W.heap[k]? = W0.heap[k]?
  size : W0.heap.size ≤ W.heap.size
  os : W.os = W0.os ∧ W.tape = W0.tape ∧ W.output = W0.output
theorem Fl.start {W0 wc : World} {bm : Nat} {nv rv pv : Value} {S I gN gS q : Nat} {p : Ld.Prg} (h : Made2 W0 bm nv rv pv S I gN gS wc) : Fl wc gN gS S I p q wc 0 :=
  ⟨⟨[], [], ⟨rfl, rfl⟩, LL.empty h.nx, LL.empty h.se⟩, fun _ _ _ _ => rfl, Nat.le_refl _, rfl, rfl, rfl⟩
theorem Fl.mach {W0 W : World} {gN gS S I q s bm : Nat} {p : Ld.Prg} (h : Fl W0 gN gS S I p q W s) {nv rv nx pv sv : Value} {S' I' : Nat} (hm : MachAt W0 bm nv rv S' I' nx pv sv) (hN : bm ≠ gN) (hS : bm ≠ gS) : MachAt W bm nv rv S' I' nx pv sv := (h.old bm (Array.getElem?_eq_some_iff.1 hm).1 hN hS).trans hm
theorem Fl.row {W0 W : World} {gN gS S I q s g : Nat} {p : Ld.Prg} {t : TypeId} {l : List Value} (h : Fl W0 gN gS S I p q W s) (hr : RowIs W0 g t l) (hN : g ≠ gN) (hS : g ≠ gS) : RowIs W g t l := (h.old g hr.lt hN hS).trans hr
/-- the rows of state s are made, i of their cells are laid -/
structure Fi (V : World) (gN gS S I a b s : Nat) (cN cS rN rS : List Value) (W : World) (i : Nat) : Prop where
  tN : RowIs W gN 36 (cN.set s (slV a I))
  tS : RowIs W gS 36 (cS.set s (slV b I))
  lN : RowIs W a 3 (rN.take i ++ List.replicate (I - i) (.int .i64 0))
  lS : RowIs W b 3 (rS.take i ++ List.replicate (I - i) (.int .i64 0))
  ln : V.heap.size ≤ a ∧ V.heap.size ≤ b ∧ a ≠ b
  old : ∀ k, k < V.heap.size → k ≠ gN → k ≠ gS → W.heap[k]? = V.heap[k]?
  size : V.heap.size + 2 ≤ W.heap.size
  os : W.os = V.os ∧ W.tape = V.tape ∧ W.output = V.output
theorem fi_of {V : World} {gN gS S I s : Nat} {cN cS : List Value} (rN rS : List Value) (hN : RowIs V gN 36 cN) (hS : RowIs V gS 36 cS) (hne : gN ≠ gS) (a b : Nat) (hab : (a = V.heap.size ∧ b = V.heap.size + 1) ∨ (a = V.heap.size + 1 ∧ b = V.heap.size)) (c : List Value) (hc : c = List.replicate I (.int .i64 0)) :
    Fi V gN gS S I a b s cN cS rN rS ((((V.setCell ⟨gN, s, none⟩ (slV a I)).setCell ⟨gS, s, none⟩ (slV b I)).alloc (.cells ⟨c⟩ 3)).alloc (.cells ⟨c⟩ 3)).drew 0 := by
  have hl := hN.lt
  have hl2 := hS.lt
  obtain ⟨W1, hW1⟩ : ∃ W1, W1 = (V.setCell ⟨gN, s, none⟩ (slV a I)).setCell ⟨gS, s, none⟩ (slV b I) := ⟨_, rfl⟩
  have h1 : RowIs W1 gN 36 (cN.set s (slV a I)) := by rw [hW1]; exact (hN.set s _).other gS s _ hne
  have h2 : RowIs W1 gS 36 (cS.set s (slV b I)) := by rw [hW1]; exact (hS.other gN s _ (Ne.symm hne)).set s _
  have hz : W1.heap.size = V.heap.size := by rw [hW1]; simp [World.setCell]
  have ho : ∀ k, k ≠ gN → k ≠ gS → W1.heap[k]? = V.heap[k]? := fun k hk hk2 => by rw [hW1, Below.heap_setCell _ _ _ _ (fun e => hk2 e), Below.heap_setCell _ _ _ _ (fun e => hk e)]
  have hos : W1.os = V.os ∧ W1.tape = V.tape ∧ W1.output = V.output := by rw [hW1]; exact ⟨rfl, rfl, rfl⟩
  rw [← hW1]
  clear hW1
  have n1 : RowIs ((W1.alloc (.cells ⟨c⟩ 3)).alloc (.cells ⟨c⟩ 3)).drew V.heap.size 3 (List.replicate I (.int .i64 0)) := by
    rw [← hc, ← hz]; exact (RowIs.new W1 3 c).alloc _
  have n2 : RowIs ((W1.alloc (.cells ⟨c⟩ 3)).alloc (.cells ⟨c⟩ 3)).drew (V.heap.size + 1) 3 (List.replicate I (.int .i64 0)) := by
    have := RowIs.new (W1.alloc (.cells ⟨c⟩ 3)) 3 c
    rw [World.size_alloc, hz] at this
    rw [← hc]; exact this
  have hold : ∀ k, k < V.heap.size → ((W1.alloc (.cells ⟨c⟩ 3)).alloc (.cells ⟨c⟩ 3)).drew.heap[k]? = W1.heap[k]? := fun k hk => (Below.heap_alloc (W1.alloc (.cells ⟨c⟩ 3)) _ k (by simp; omega)).trans (Below.heap_alloc W1 _ k (by omega))
  rcases hab with ⟨rfl, rfl⟩ | ⟨rfl, rfl⟩
  · exact ⟨(hold gN hl).trans h1, (hold gS hl2).trans h2, by simpa using n1, by simpa using n2, ⟨Nat.le_refl _, by omega, by omega⟩, fun k hk hne hne2 => (hold k hk).trans (ho k hne hne2), by simp; omega, hos⟩
  · exact ⟨(hold gN hl).trans h1, (hold gS hl2).trans h2, by simpa using n2, by simpa using n1, ⟨by omega, Nat.le_refl _, by omega⟩, fun k hk hne hne2 => (hold k hk).trans (ho k hne hne2), by simp; omega, hos⟩
theorem Fi.mach {V W : World} {gN gS S I a b s i bm : Nat} {cN cS rN rS : List Value} (h : Fi V gN gS S I a b s cN cS rN rS W i) {nv rv nx pv sv : Value} {S' I' : Nat} (hm : MachAt V bm nv rv S' I' nx pv sv) (hN : bm ≠ gN) (hS : bm ≠ gS) : MachAt W bm nv rv S' I' nx pv sv := (h.old bm (Array.getElem?_eq_some_iff.1 hm).1 hN hS).trans hm
theorem Fi.row {V W : World} {gN gS S I a b s i g : Nat} {cN cS rN rS : List Value} {t : TypeId} {l : List Value} (h : Fi V gN gS S I a b s cN cS rN rS W i) (hr : RowIs V g t l) (hN : g ≠ gN) (hS : g ≠ gS) : RowIs W g t l := (h.old g hr.lt hN hS).trans hr
theorem Fi.below {V W W' : World} {gN gS S I a b s i : Nat} {cN cS rN rS : List Value} (h : Fi V gN gS S I a b s cN cS rN rS W i) (hb : Below W.heap.size W W') : Fi V gN gS S I a b s cN cS rN rS W' i :=
  ⟨h.tN.below hb, h.tS.below hb, h.lN.below hb, h.lS.below hb, h.ln, fun k hk h1 h2 => (hb.block k (by have := h.size; omega)).trans (h.old k hk h1 h2), Nat.le_trans h.size hb.size, hb.os.trans h.os.1, hb.tape.trans h.os.2.1, hb.output.trans h.os.2.2⟩
theorem row_next {rN : List Value} {I i : Nat} {v z : Value} (hl : rN.length = I) (hi : i < I) (hv : rN[i]? = some v) : (rN.take i ++ List.replicate (I - i) z).set i v = rN.take (i + 1) ++ List.replicate (I - (i + 1)) z := by
  have h1 : (rN.take i).length = i := by rw [List.length_take]; omega
  have h2 := fill_set (rN.take i) z v I (by omega)
  rw [h1] at h2
  rw [h2, List.take_add_one, hv]
  simp [h1]
/-- one more cell of both rows -/
theorem Fi.put {V W W' : World} {gN gS S I a b s i : Nat} {cN cS rN rS : List Value} {x y : Value} (h : Fi V gN gS S I a b s cN cS rN rS W i) (hi : i < I) (hNl : rN.length = I) (hSl : rS.length = I) (hx : rN[i]? = some x) (hy : rS[i]? = some y) (hgN : gN < V.heap.size) (hgS : gS < V.heap.size)
    (hk : ∀ k, k < W.heap.size → W'.heap[k]? = ((W.setCell ⟨a, i, none⟩ x).setCell ⟨b, i, none⟩ y).heap[k]?) (hz : W.heap.size ≤ W'.heap.size) (hos : W'.os = W.os ∧ W'.tape = W.tape ∧ W'.output = W.output) : Fi V gN gS S I a b s cN cS rN rS W' (i + 1) := by
  obtain ⟨h1, h2, h3⟩ := h.ln
  refine ⟨(hk gN h.tN.lt).trans ((h.tN.other a i x (by omega)).other b i y (by omega)), (hk gS h.tS.lt).trans ((h.tS.other a i x (by omega)).other b i y (by omega)), ?_, ?_, h.ln, fun k hkk e1 e2 => ?_, Nat.le_trans h.size hz, hos.1.trans h.os.1, hos.2.1.trans h.os.2.1, hos.2.2.trans h.os.2.2⟩
  · have := (h.lN.set i x).other b i y h3
    rw [row_next hNl hi hx] at this
    exact (hk a h.lN.lt).trans this
  · have := (h.lS.other a i x (Ne.symm h3)).set i y
    rw [row_next hSl hi hy] at this
    exact (hk b h.lS.lt).trans this
  · have := h.size
    rw [hk k (by omega), Below.heap_setCell _ _ _ _ (fun e => by simp at e; omega), Below.heap_setCell _ _ _ _ (fun e => by simp at e; omega)]
    exact h.old k hkk e1 e2
/-- the rows are whole: a state more -/
theorem Fl.next {W0 V W : World} {gN gS S I q s a b : Nat} {p : Ld.Prg} {cN cS : List Value} (h : Fl W0 gN gS S I p q V s) (hs : s < S) (hgN : gN < W0.heap.size) (hgS : gS < W0.heap.size) (hcN : RowIs V gN 36 cN) (hcS : RowIs V gS 36 cS) (hi : Fi V gN gS S I a b s cN cS (Mc.nextRow p q I s) (Mc.seesRow p q I s) W I) : Fl W0 gN gS S I p q W (s + 1) := by
  obtain ⟨⟨uN, uS, ⟨hlN, hlS⟩, hN, hS⟩, hold, hsz, hos⟩ := h
  have key : ∀ (g g' c : Nat) (u : List Nat) (cc : List Value) (rows : Nat → List Value), u.length = s → g < W0.heap.size → V.heap.size ≤ c → LL V g 36 3 S I W0.heap.size u rows → RowIs V g 36 cc → RowIs W g 36 (cc.set s (slV c I)) → RowIs W c 3 (rows s) → LL W g 36 3 S I W0.heap.size (u ++ [c]) rows := by
    intro g g' c u cc rows hu hg hc hll hcc htop hrow
    have e1 : cc = (u.map fun b => slV b I) ++ List.replicate (S - u.length) (.slice none 0 0) := by
      have := hcc.symm.trans hll.top
      simpa using this
    have h2 := fill_set (u.map fun b => slV b I) (.slice none 0 0) (slV c I) S (by simpa [hu] using hs)
    rw [List.length_map, hu] at h2
    rw [e1, hu, h2] at htop
    refine ⟨by simpa using htop, fun j x hj => ?_⟩
    by_cases hjl : j < u.length
    · rw [List.getElem?_append_left hjl] at hj
      obtain ⟨h3, h4⟩ := hll.row j x hj
      exact ⟨(hi.old x h3.lt (by omega) (by omega)).trans h3, h4⟩
    · rw [List.getElem?_append_right (by omega)] at hj
      have hj2 : j - u.length < [c].length := (List.getElem?_eq_some_iff.1 hj).1
      have : j = u.length := by simp at hj2; omega
      subst this
      rw [Nat.sub_self] at hj
      simp only [List.getElem?_cons_zero, Option.some.injEq] at hj
      subst hj
      rw [hu]
      exact ⟨hrow, by omega⟩
  have r1 := hi.lN
  have r2 := hi.lS
  rw [Nat.sub_self, List.take_of_length_le (by rw [Mc.nextRow_length]; exact Nat.le_refl _)] at r1
  rw [Nat.sub_self, List.take_of_length_le (by rw [Mc.seesRow_length]; exact Nat.le_refl _)] at r2
  refine ⟨⟨uN ++ [a], uS ++ [b], ⟨by simp [hlN], by simp [hlS]⟩, key gN gS a uN cN _ hlN hgN hi.ln.1 hN hcN hi.tN (by simpa using r1), key gS gN b uS cS _ hlS hgS hi.ln.2.1 hS hcS hi.tS (by simpa using r2)⟩, fun k hk e1 e2 => (hi.old k (by omega) e1 e2).trans (hold k hk e1 e2), by have := hi.size; omega, hi.os.1.trans hos.1, hi.os.2.1.trans hos.2.1, hi.os.2.2.trans hos.2.2⟩
theorem Fl.tops {W0 W : World} {gN gS S I q s : Nat} {p : Ld.Prg} (h : Fl W0 gN gS S I p q W s) (hs : s < S) : ∃ cN cS, RowIs W gN 36 cN ∧ RowIs W gS 36 cS ∧ W.cell? ⟨gN, s, none⟩ = some (.slice none 0 0) ∧ W.frozen? ⟨gN, s, none⟩ = false ∧ W.cell? ⟨gS, s, none⟩ = some (.slice none 0 0) ∧ W.frozen? ⟨gS, s, none⟩ = false := by
  obtain ⟨⟨uN, uS, ⟨hlN, hlS⟩, hN, hS⟩, -, -, -⟩ := h
  have a := hN.next (by omega)
  have b := hS.next (by omega)
  rw [hlN] at a
  rw [hlS] at b
  exact ⟨_, _, hN.top, hS.top, a.1, a.2, b.1, b.2⟩
/-- three cells of the machine -/
def K3 (W : World) (bm k gN gS S : Nat) : Prop := W.cell? ⟨bm, 3, none⟩ = some (.int .i64 (k : Int)) ∧ W.cell? ⟨bm, 4, none⟩ = some (slV gN S) ∧ W.cell? ⟨bm, 6, none⟩ = some (slV gS S)
theorem cell_set_blk (W : World) (b i g j : Nat) (x v : Value) (hij : b ≠ g) (h : W.cell? ⟨b, i, none⟩ = some v) : (W.setCell ⟨g, j, none⟩ x).cell? ⟨b, i, none⟩ = some v := (World.cell?_setCell_other W ⟨g, j, none⟩ ⟨b, i, none⟩ x (by intro e; exact hij (congrArg Addr.block e).symm)).trans h
theorem k3_alloc {W : World} {bm k gN gS S : Nat} (o : Obj) (h : K3 W bm k gN gS S) : K3 (W.alloc o) bm k gN gS S := ⟨cell_alloc_keep _ _ _ _ h.1, cell_alloc_keep _ _ _ _ h.2.1, cell_alloc_keep _ _ _ _ h.2.2⟩
theorem k3_set {W : World} {bm k gN gS S : Nat} (g j : Nat) (x : Value) (hg : bm ≠ g) (h : K3 W bm k gN gS S) : K3 (W.setCell ⟨g, j, none⟩ x) bm k gN gS S := ⟨cell_set_blk _ _ _ _ _ _ _ hg h.1, cell_set_blk _ _ _ _ _ _ _ hg h.2.1, cell_set_blk _ _ _ _ _ _ _ hg h.2.2⟩
theorem RowIs.ne {W : World} {a b : Nat} {t t' : TypeId} {l l' : List Value} (h : RowIs W a t l) (h' : RowIs W b t' l') (ht : t ≠ t') : a ≠ b := by
  rintro rfl
  have := h.symm.trans h'
  simp only [Option.some.injEq, Obj.cells.injEq] at this
  exact ht this.2.1
theorem MachAt.row {W : World} {bm : Nat} {nv rv : Value} {S I : Nat} {nx pv sv : Value} (h : MachAt W bm nv rv S I nx pv sv) : RowIs W bm 102 [nv, rv, .int .i64 (S : Int), .int .i64 (I : Int), nx, pv, sv] := h
/-- what stands through fill's rounds -/
structure Std (bm : Nat) (p : Ld.Prg) (nv rv : Value) (g gN gS gI S I q lo : Nat) (us : List Nat) (W : World) : Prop where
  mach : MachAt W bm nv rv S I (slV gN S) (slV g p.names.length) (slV gS S)
  prg : IsPrg W p (.agg #[nv, rv])
  row : RowIs W g 234 ((Mc.parts p).flatMap ptCells)
  ins : LL W gI 51 4 I q lo us (fun i => (bitsTo i q).map boolV)
theorem off_nils {W : World} {g n : Nat} {t : TypeId} (h : RowIs W g t (List.replicate n (.slice none 0 0))) : Off W g := off_row h fun u hu => by
  rw [List.eq_of_mem_replicate hu]
  exact ⟨fun _ e => by simp at e, fun _ _ e => by simp at e⟩
theorem Std.old {bm : Nat} {p : Ld.Prg} {nv rv : Value} {g gN gS gI S I q lo : Nat} {us : List Nat} {W0 W : World} (h : Std bm p nv rv g gN gS gI S I q lo us W0) (hN : RowIs W0 gN 36 (List.replicate S (.slice none 0 0))) (hS : RowIs W0 gS 36 (List.replicate S (.slice none 0 0)))
    (hk : ∀ k, k < W0.heap.size → k ≠ gN → k ≠ gS → W.heap[k]? = W0.heap[k]?) : Std bm p nv rv g gN gS gI S I q lo us W := by
  have mv : ∀ {b : Nat} {t : TypeId} {l : List Value}, RowIs W0 b t l → t ≠ 36 → RowIs W b t l := fun hr ht => (hk _ hr.lt (hr.ne hN ht) (hr.ne hS ht)).trans hr
  refine ⟨mv h.mach.row (by decide), ?_, mv h.row (by decide), ⟨mv h.ins.top (by decide), fun j b hj => ⟨mv (h.ins.row j b hj).1 (by decide), (h.ins.row j b hj).2⟩⟩⟩
  refine h.prg.offB (B := fun b => b = gN ∨ b = gS) ?_ (fun k hk1 hb => hk k hk1 (fun e => hb (.inl e)) (fun e => hb (.inr e)))
  rintro b (rfl | rfl)
  · exact off_nils hN
  · exact off_nils hS
theorem Std.made {wr wc : World} {bm : Nat} {p : Ld.Prg} {nv rv : Value} {g gN gS gI S I q lo : Nat} {us : List Nat} (h : Made2 wr bm nv rv (slV g p.names.length) S I gN gS wc) (hm : MachAt wr bm nv rv S I (.slice none 0 0) (slV g p.names.length) (.slice none 0 0)) (hp : IsPrg wr p (.agg #[nv, rv])) (hr : RowIs wr g 234 ((Mc.parts p).flatMap ptCells)) (hi : LL wr gI 51 4 I q lo us (fun i => (bitsTo i q).map boolV)) : Std bm p nv rv g gN gS gI S I q lo us wc := by
  have mv : ∀ {b : Nat} {t : TypeId} {l : List Value}, RowIs wr b t l → t ≠ 102 → RowIs wc b t l := fun hr ht => (h.old _ hr.lt (hr.ne hm.row ht)).trans hr
  refine ⟨h.mach, ?_, mv hr (by decide), ⟨mv hi.top (by decide), fun j b hj => ⟨mv (hi.row j b hj).1 (by decide), (hi.row j b hj).2⟩⟩⟩
  refine hp.offB (B := fun b => b = bm) ?_ (fun k hk1 hb => h.old k hk1 hb)
  rintro b rfl
  obtain ⟨nv', rv', he, hn, hrr⟩ := hp
  obtain ⟨na, nk, nc, h1⟩ := slice_of hn
  obtain ⟨ra, rk, rc, h2⟩ := slice_ofR hrr
  simp only [Value.agg.injEq] at he
  have e1 : nv = nv' := Option.some.inj (congrArg (fun a : Array Value => a[0]?) he)
  have e2 : rv = rv' := Option.some.inj (congrArg (fun a : Array Value => a[1]?) he)
  refine off_row hm.row fun u hu => ?_
  simp only [List.mem_cons, List.not_mem_nil, or_false] at hu
  rcases hu with rfl | rfl | rfl | rfl | rfl | rfl | rfl <;> (refine ⟨fun _ e => ?_, fun _ _ e => ?_⟩ <;> simp [e1, e2, h1, h2, slV] at e)
end
section
open Go.RowKit
theorem Mc.state_bd (p : Ld.Prg) (hck : Ld.check p = none) (m : Nat) : Sc.Bd p (Mc.state (Mc.parts p) m) := by
  refine ⟨(Mc.stateI_len _ _).trans (Mc.parts_len p), (Mc.stateC_len _ _).trans (Mc.parts_len p), fun k hk => ?_⟩
  have hkp : k < (Mc.parts p).length := by rw [Mc.parts_len]; exact hk
  obtain ⟨e1, e2⟩ := Mc.stateI_at (Mc.parts p) m k hkp
  have e3 : (Mc.parts p)[k] = Mc.part p k := by have := Mc.parts_at p k hk; rw [List.getElem?_eq_getElem hkp] at this; exact Option.some.inj this
  rw [e3] at e1 e2
  show 0 ≤ (Mc.stateC (Mc.parts p) m).getD k 0 ∧ (Mc.stateC (Mc.parts p) m).getD k 0 ≤ p.names[k].count ∧ (3 ≤ p.names[k].kind → (Mc.stateI (Mc.parts p) m).getD k false = ((Mc.stateC (Mc.parts p) m).getD k 0 == p.names[k].count))
  rw [List.getD_eq_getElem?_getD, List.getD_eq_getElem?_getD, e1, e2]
  simp only [Option.getD_some]
  generalize Mc.rest (Mc.parts p) m k = r
  obtain ⟨m1, m2, m3, m4⟩ := Sc.may p hck k hk
  have hP : (p.names[k].kind = 3 ∨ p.names[k].kind = 4 → Mc.part p k = (p.names[k].count.toNat + 1, true)) ∧ (¬ (p.names[k].kind = 3 ∨ p.names[k].kind = 4) → (Mc.part p k).2 = false) := by
    unfold Mc.part
    rw [List.getElem?_eq_getElem hk]
    simp only
    refine ⟨fun h => if_pos h, fun h => ?_⟩
    rw [if_neg h]
    split <;> (try split) <;> rfl
  generalize Mc.part p k = P at hP
  by_cases h : p.names[k].kind = 3 ∨ p.names[k].kind = 4
  · obtain ⟨c1, c2⟩ := m3 (by omega)
    obtain ⟨c, hc⟩ : ∃ c : Nat, p.names[k].count = (c : Int) := ⟨p.names[k].count.toNat, by omega⟩
    have hP1 := hP.1 h
    rw [hc] at hP1 c1 c2 ⊢
    subst hP1
    simp only [if_true, Int.toNat_natCast, Nat.add_sub_cancel]
    have hr : r % (c + 1) < c + 1 := Nat.mod_lt _ (by omega)
    refine ⟨by omega, by omega, fun _ => ?_⟩
    have : 1 < c + 1 := by omega
    rw [decide_eq_true this, Bool.true_and, Bool.eq_iff_iff]
    simp only [decide_eq_true_eq, beq_iff_eq]
    omega
  · have hk0 := m4 (by omega)
    rw [hP.2 h, hk0]
    exact ⟨by simp, by simp, fun h3 => by omega⟩
theorem Mc.state_ct (p : Ld.Prg) (hck : Ld.check p = none) (s : Sc.St) (hb : Sc.Bd p s) : ∀ c, c ∈ s.ct → 0 ≤ c ∧ c ≤ 7 := by
  intro c hc
  obtain ⟨k, hk, rfl⟩ := List.getElem_of_mem hc
  have hk' : k < p.names.length := by rw [← hb.lc]; exact hk
  obtain ⟨h1, h2, _⟩ := hb.at_ k hk'
  rw [List.getD_eq_getElem?_getD, List.getElem?_eq_getElem hk] at h1 h2
  simp only [Option.getD_some] at h1 h2
  obtain ⟨m1, m2, m3, m4⟩ := Sc.may p hck k hk'
  refine ⟨h1, ?_⟩
  by_cases h : 3 ≤ p.names[k].kind
  · have := m3 h; omega
  · have := m4 (by omega); omega
theorem bools_row {W : World} {g : Nat} {l : List Bool} (h : RowIs W g 4 (l.map boolV)) (hl : l.length ≤ 1000000) : Bools W (slV g l.length) l :=
  ⟨some ⟨g, 0, none⟩, l.length, rfl, hl, fun i b hi => ⟨g, rfl, h.cell i _ (by rw [List.getElem?_map, hi]; rfl)⟩⟩
theorem StAt.rowI {W : World} {gi gc : Nat} {s : Sc.St} (h : StAt W gi gc s) : RowIs W gi 4 (s.is.map boolV) := h.bi
theorem StAt.kept {W W' : World} {gi gc : Nat} {s : Sc.St} (h : StAt W gi gc s) (h1 : W'.heap[gi]? = W.heap[gi]?) (h2 : W'.heap[gc]? = W.heap[gc]?) : StAt W' gi gc s := ⟨h1.trans h.bi, h2.trans h.bc⟩
end
section
namespace Rf
open Go.RowKit
theorem Tryz.infoIntsR : (Tryz.prog.info? 36).map (fun i => (i.zero, i.size, i.bytes)) = some (some (.slice none 0 0), 1, 24) := by kernel_rfl
/-- rows of numbers in a row of slices, all from block q on -/
structure IntR (q : Nat) (W : World) (o : Value) (us : List Value) (bs : List (List Nat)) : Prop where
  len : us.length = bs.length
  own : W.ownsRow q 36 1 o bs.length us
  at_ : ∀ (j : Nat) (u : Value) (b : List Nat), us[j]? = some u → bs[j]? = some b → W.ownsRow q 3 1 u b.length (b.map intV)
theorem IntR.nil (q : Nat) (W : World) : IntR q W (.slice none 0 0) [] [] := ⟨rfl, World.ownsRow_nil _ _ _ _, fun j u b h => by simp at h⟩
theorem IntR.below {q : Nat} {W W' : World} {o : Value} {us : List Value} {bs : List (List Nat)} (h : IntR q W o us bs) (hb : Below W.heap.size W W') : IntR q W' o us bs :=
  ⟨h.len, own_below h.own hb, fun j u b h1 h2 => own_below (h.at_ j u b h1 h2) hb⟩
theorem IntR.moved {q : Nat} {W W' : World} {o : Value} {us : List Value} {bs : List (List Nat)} (h : IntR q W o us bs) (hk : ∀ k, q ≤ k → k < W.heap.size → W'.heap[k]? = W.heap[k]?) : IntR q W' o us bs :=
  ⟨h.len, own_moved h.own hk, fun j u b h1 h2 => own_moved (h.at_ j u b h1 h2) hk⟩
theorem IntR.put {q : Nat} {W W' : World} {o o' u : Value} {us : List Value} {bs : List (List Nat)} {b : List Nat} (h : IntR q W o us bs) (hu : W.ownsRow q 3 1 u b.length (b.map intV)) (ob : Obj) (hown : W'.ownsRow q 36 1 o' (bs.length + 1) (us ++ [u])) (hg : (W.alloc ob).grownBy W' o.ownBlock) :
    IntR q W' o' (us ++ [u]) (bs ++ [b]) := by
  have hk : ∀ (u : Value) (b : List Nat), W.ownsRow q 3 1 u b.length (b.map intV) → W'.ownsRow q 3 1 u b.length (b.map intV) := fun u b hu =>
    (hu.alloc ob).kept hg (own_apart hu h.own (by decide))
  refine ⟨by simp [h.len], by simpa using hown, ?_⟩
  intro j x y hj hy
  by_cases hjl : j < bs.length
  · rw [List.getElem?_append_left (by rw [h.len]; exact hjl)] at hj
    rw [List.getElem?_append_left hjl] at hy
    exact hk _ _ (h.at_ j x y hj hy)
  · have hj2 : j < (bs ++ [b]).length := (List.getElem?_eq_some_iff.1 hy).1
    have : j = bs.length := by simp at hj2; omega
    subst this
    rw [List.getElem?_append_right (by rw [h.len]; exact Nat.le_refl _), h.len] at hj
    rw [List.getElem?_append_right (Nat.le_refl _)] at hy
    simp only [Nat.sub_self, List.getElem?_cons_zero, Option.some.injEq] at hj hy
    subst hj; subst hy
    exact hk _ _ hu
/-- the machine's block while it is made: blocks ahead of it stand -/
def MM (wA : World) (bm : Nat) (nv rv : Value) (S I : Nat) (nx : Value) (W : World) : Prop := Below bm wA W ∧ RMachAt W bm nv rv S I nx
theorem MM.below {wA W W' : World} {bm S I : Nat} {nv rv nx : Value} (h : MM wA bm nv rv S I nx W) (hb : Below W.heap.size W W') : MM wA bm nv rv S I nx W' :=
  ⟨h.1.trans (hb.mono (by have := h.2.lt; omega)), h.2.below hb⟩
theorem MM.set {wA W : World} {bm S I S' I' : Nat} {nv rv nx nx' : Value} (h : MM wA bm nv rv S I nx W) (i : Nat) (x : Value)
    (hx : #[nv, rv, .int .i64 (S : Int), .int .i64 (I : Int), nx].setIfInBounds i x = #[nv, rv, .int .i64 (S' : Int), .int .i64 (I' : Int), nx']) : MM wA bm nv rv S' I' nx' (W.setCell ⟨bm, i, none⟩ x) := by
  refine ⟨h.1.setCell (p := ⟨bm, i, none⟩) (Nat.le_refl _) _, ?_⟩
  have h2 : W.heap[bm]? = _ := h.2
  show (W.setCell ⟨bm, i, none⟩ x).heap[bm]? = _
  have hlt := h.2.lt
  simp only [World.setCell, Array.getElem?_modify, h2, if_true, Option.map_some]
  rw [← hx]
  rfl
theorem MM.grown {wA W W1 W' : World} {bm S I q : Nat} {nv rv nx : Value} {ob : Option Nat} (h : MM wA bm nv rv S I nx W) (hb : Below W.heap.size W W1) (hg : W1.grownBy W' ob) (hq : bm < q) (ho : ∀ g, ob = some g → q ≤ g) : MM wA bm nv rv S I nx W' := by
  have h1 := h.below hb
  have hlt := h1.2.lt
  refine ⟨h1.1.trans ⟨hg.os, hg.tape, hg.output, hg.size, fun k hk => hg.block k (by omega) (fun e => by have := ho k e.symm; omega)⟩, ?_⟩
  exact (hg.block bm hlt (fun e => by have := ho bm e.symm; omega)).trans h1.2
theorem cell_of_block {W W' : World} {k i : Nat} (h : W'.heap[k]? = W.heap[k]?) (f : Option Nat) : W'.cell? ⟨k, i, f⟩ = W.cell? ⟨k, i, f⟩ := by
  unfold World.cell?
  rw [h]
/-- where the document's scan leads to -/
def nxt (p : Ld.Prg) (s i : Nat) : Nat := number p (step p (state p s) (bitsTo i (Ld.kindL p.names 1).length))
theorem nxt_of (p : Ld.Prg) (hck : Ld.check p = none) (s i : Nat) : step p (state p s) (bitsTo i (Ld.kindL p.names 1).length) = of p.names (Mc.after1 p (Ld.kindL p.names 1).length s i) := by
  unfold Mc.after1
  rw [state_is p hck, of_step p hck _ _ (Mc.state_bd p hck s)]
theorem nxt_is (p : Ld.Prg) (hck : Ld.check p = none) (s i : Nat) : nxt p s i = Mc.number (Mc.parts p) (Mc.after1 p (Ld.kindL p.names 1).length s i).is (Mc.after1 p (Ld.kindL p.names 1).length s i).ct := by
  unfold nxt
  rw [nxt_of p hck, number_is p hck]
theorem after1_bd (p : Ld.Prg) (hck : Ld.check p = none) (s i : Nat) : Sc.Bd p (Mc.after1 p (Ld.kindL p.names 1).length s i) := by
  unfold Mc.after1
  exact (Sc.step_bd p hck _ _ (Mc.state_bd p hck s) (by rw [bitsTo_len])).1
theorem nxt_small (p : Ld.Prg) (hck : Ld.check p = none) (s i : Nat) (hS : Mc.total (Mc.parts p) ≤ 4096) : (∀ j, j ≤ p.names.length → numAt p (step p (state p s) (bitsTo i (Ld.kindL p.names 1).length)) j ≤ 1000000) ∧ ∀ k (hk : k < p.names.length), 3 ≤ p.names[k].kind → 0 ≤ (step p (state p s) (bitsTo i (Ld.kindL p.names 1).length)).ct p.names[k].name := by
  rw [nxt_of p hck]
  have hb := after1_bd p hck s i
  refine ⟨fun j hj => by have := numAt_le p hck _ hb j hj; omega, fun k hk _ => ?_⟩
  have h1 := toldC_at p.names (Mc.after1 p (Ld.kindL p.names 1).length s i).ct p.names[k].name (by rw [number_self p hck k hk]; omega)
  rw [number_self p hck k hk, Int.toNat_natCast] at h1
  show 0 ≤ toldC p.names _ _
  rw [h1]
  have hkl : k < (Mc.after1 p (Ld.kindL p.names 1).length s i).ct.length := by rw [hb.lc]; exact hk
  have h2 := Mc.state_ct p hck _ hb _ (List.getElem_mem hkl)
  rw [List.getD_eq_getElem?_getD, List.getElem?_eq_getElem hkl]
  exact h2.1
def nextL (p : Ld.Prg) (I s : Nat) : List Nat := (List.range I).map (nxt p s)
theorem nextL_len (p : Ld.Prg) (I s : Nat) : (nextL p I s).length = I := by simp [nextL]
def nextsL (p : Ld.Prg) (S I : Nat) : List (List Nat) := (List.range S).map (nextL p I)
theorem nextsL_len (p : Ld.Prg) (S I : Nat) : (nextsL p S I).length = S := by simp [nextsL]
theorem range_take_succ {β : Type} (f : Nat → β) (n k : Nat) (h : k < n) : ((List.range n).map f).take (k + 1) = ((List.range n).map f).take k ++ [f k] := by
  rw [List.take_succ_eq_append_getElem (by simpa using h)]
  simp
/-- the document's machine of a program -/
def IsRMach (W : World) (bm : Nat) (p : Ld.Prg) : Prop := ∃ nv rv nx us q, RMachAt W bm nv rv (Mc.total (Mc.parts p)) (2 ^ (Ld.kindL p.names 1).length) nx ∧ IsRPrg W p (.agg #[nv, rv]) ∧ IntR q W nx us (nextsL p (Mc.total (Mc.parts p)) (2 ^ (Ld.kindL p.names 1).length))
theorem IsRMach.below {W W' : World} {bm : Nat} {p : Ld.Prg} (h : IsRMach W bm p) (hb : Below W.heap.size W W') : IsRMach W' bm p := by
  obtain ⟨nv, rv, nx, us, q, h1, h2, h3⟩ := h
  exact ⟨nv, rv, nx, us, q, h1.below hb, h2.below hb, h3.below hb⟩
end Rf
end
section
namespace Rf
/-- behind the first j parts: what is left of the number, and the state so far -/
def stTo (p : Ld.Prg) (n : Nat) : Nat → Nat × St
  | 0 => (n, start)
  | j + 1 => if part p j = 0 then stTo p n j else ((stTo p n j).1 / part p j, put p j ((stTo p n j).1 % part p j) (stTo p n j).2)
theorem stTo_none (p : Ld.Prg) (n j : Nat) (h : part p j = 0) : stTo p n (j + 1) = stTo p n j := by rw [stTo, if_pos h]
theorem stTo_some (p : Ld.Prg) (n j : Nat) (h : part p j ≠ 0) : stTo p n (j + 1) = ((stTo p n j).1 / part p j, put p j ((stTo p n j).1 % part p j) (stTo p n j).2) := by rw [stTo, if_neg h]
theorem stTo_le (p : Ld.Prg) (n : Nat) : ∀ j, (stTo p n j).1 ≤ n
  | 0 => Nat.le_refl _
  | j + 1 => by
    have ih := stTo_le p n j
    rw [stTo]
    split
    · exact ih
    · exact Nat.le_trans (Nat.div_le_self _ _) ih
theorem stateF_to (p : Ld.Prg) (n : Nat) : ∀ (m j : Nat), stateF p (List.range' j m) (stTo p n j).1 (stTo p n j).2 = (stTo p n (j + m)).2
  | 0, j => rfl
  | m + 1, j => by
    have ih := stateF_to p n m (j + 1)
    rw [List.range'_succ, stateF]
    rw [show j + (m + 1) = j + 1 + m by omega, ← ih]
    by_cases h : part p j = 0
    · rw [if_pos h, stTo_none p n j h]
    · rw [if_neg h, stTo_some p n j h]
theorem stTo_all (p : Ld.Prg) (n : Nat) : (stTo p n p.names.length).2 = state p n := by
  have h := stateF_to p n p.names.length 0
  rw [Nat.zero_add] at h
  rw [← h]
  unfold state
  rw [List.range_eq_range']
  rfl
end Rf
end
end Go.Proofs.YtgldbliohpfljaaGreatDoor
