/-
  What package machine's fill has laid, between its rounds. The states of a machine's numbers lie within their bounds; a row of bools is bools. What a round of fill's inner loop lays.
-/
import Derived.Test.YtgdmohombcgjbaaGreatDoorMcOffAll
namespace Go.Proofs.YtgdmohombcgjbaaGreatDoor
section
open Go.RowKit
/-- the state after a scan out of state s at input i -/
def Mc.after1 (p : Ld.Prg) (q s i : Nat) : Sc.St := Sc.step p (Mc.state (Mc.parts p) s) (bitsTo i q)
def Mc.nextRow (p : Ld.Prg) (q I s : Nat) : List Value := (List.range I).map fun i => Value.int .i64 (Mc.number (Mc.parts p) (Mc.after1 p q s i).is (Mc.after1 p q s i).ct : Int)
def Mc.seesRow (p : Ld.Prg) (q I s : Nat) : List Value := (List.range I).map fun i => Value.int .i64 (Mc.val (Mc.after1 p q s i).is : Int)
theorem Mc.nextRow_length (p : Ld.Prg) (q I s : Nat) : (Mc.nextRow p q I s).length = I := by simp [Mc.nextRow]
theorem Mc.seesRow_length (p : Ld.Prg) (q I s : Nat) : (Mc.seesRow p q I s).length = I := by simp [Mc.seesRow]
theorem Mc.nextRow_at (p : Ld.Prg) (q I s i : Nat) (h : i < I) : (Mc.nextRow p q I s)[i]? = some (Value.int .i64 (Mc.number (Mc.parts p) (Mc.after1 p q s i).is (Mc.after1 p q s i).ct : Int)) := by simp [Mc.nextRow, h]
theorem Mc.seesRow_at (p : Ld.Prg) (q I s i : Nat) (h : i < I) : (Mc.seesRow p q I s)[i]? = some (Value.int .i64 (Mc.val (Mc.after1 p q s i).is : Int)) := by simp [Mc.seesRow, h]
/-- s rows of both tables are laid -/
structure Fl (W0 : World) (gN gS S I : Nat) (p : Ld.Prg) (q : Nat) (W : World) (s : Nat) : Prop where
  tabs : ∃ uN uS : List Nat, (uN.length = s ∧ uS.length = s) ∧ LL W gN 41 3 S I W0.heap.size uN (Mc.nextRow p q I) ∧ LL W gS 41 3 S I W0.heap.size uS (Mc.seesRow p q I)
  old : ∀ k, k < W0.heap.size → k ≠ gN → k ≠ gS → W.heap[k]? = W0.heap[k]?
  size : W0.heap.size ≤ W.heap.size
  os : W.os = W0.os ∧ W.tape = W0.tape ∧ W.output = W0.output
theorem Fl.start {W0 wc : World} {bm : Nat} {nv rv pv : Value} {S I gN gS q : Nat} {p : Ld.Prg} (h : Made2 W0 bm nv rv pv S I gN gS wc) : Fl wc gN gS S I p q wc 0 :=
  ⟨⟨[], [], ⟨rfl, rfl⟩, LL.empty h.nx, LL.empty h.se⟩, fun _ _ _ _ => rfl, Nat.le_refl _, rfl, rfl, rfl⟩
theorem Fl.mach {W0 W : World} {gN gS S I q s bm : Nat} {p : Ld.Prg} (h : Fl W0 gN gS S I p q W s) {nv rv nx pv sv : Value} {S' I' : Nat} (hm : MachAt W0 bm nv rv S' I' nx pv sv) (hN : bm ≠ gN) (hS : bm ≠ gS) : MachAt W bm nv rv S' I' nx pv sv := (h.old bm (Array.getElem?_eq_some_iff.1 hm).1 hN hS).trans hm
theorem Fl.row {W0 W : World} {gN gS S I q s g : Nat} {p : Ld.Prg} {t : TypeId} {l : List Value} (h : Fl W0 gN gS S I p q W s) (hr : RowIs W0 g t l) (hN : g ≠ gN) (hS : g ≠ gS) : RowIs W g t l := (h.old g hr.lt hN hS).trans hr
/-- the rows of state s are made, i of their cells are laid -/
structure Fi (V : World) (gN gS S I a b s : Nat) (cN cS rN rS : List Value) (W : World) (i : Nat) : Prop where
  tN : RowIs W gN 41 (cN.set s (slV a I))
  tS : RowIs W gS 41 (cS.set s (slV b I))
  lN : RowIs W a 3 (rN.take i ++ List.replicate (I - i) (.int .i64 0))
  lS : RowIs W b 3 (rS.take i ++ List.replicate (I - i) (.int .i64 0))
  ln : V.heap.size ≤ a ∧ V.heap.size ≤ b ∧ a ≠ b
  old : ∀ k, k < V.heap.size → k ≠ gN → k ≠ gS → W.heap[k]? = V.heap[k]?
  size : V.heap.size + 2 ≤ W.heap.size
  os : W.os = V.os ∧ W.tape = V.tape ∧ W.output = V.output
theorem fi_of {V : World} {gN gS S I s : Nat} {cN cS : List Value} (rN rS : List Value) (hN : RowIs V gN 41 cN) (hS : RowIs V gS 41 cS) (hne : gN ≠ gS) (a b : Nat) (hab : (a = V.heap.size ∧ b = V.heap.size + 1) ∨ (a = V.heap.size + 1 ∧ b = V.heap.size)) (c : List Value) (hc : c = List.replicate I (.int .i64 0)) :
    Fi V gN gS S I a b s cN cS rN rS ((((V.setCell ⟨gN, s, none⟩ (slV a I)).setCell ⟨gS, s, none⟩ (slV b I)).alloc (.cells ⟨c⟩ 3)).alloc (.cells ⟨c⟩ 3)).drew 0 := by
  have hl := hN.lt
  have hl2 := hS.lt
  obtain ⟨W1, hW1⟩ : ∃ W1, W1 = (V.setCell ⟨gN, s, none⟩ (slV a I)).setCell ⟨gS, s, none⟩ (slV b I) := ⟨_, rfl⟩
  have h1 : RowIs W1 gN 41 (cN.set s (slV a I)) := by rw [hW1]; exact (hN.set s _).other gS s _ hne
  have h2 : RowIs W1 gS 41 (cS.set s (slV b I)) := by rw [hW1]; exact (hS.other gN s _ (Ne.symm hne)).set s _
  have hz : W1.heap.size = V.heap.size := by rw [hW1]; simp [World.setCell]
  have ho : ∀ k, k ≠ gN → k ≠ gS → W1.heap[k]? = V.heap[k]? := fun k hk hk2 => by rw [hW1, Below.heap_setCell _ _ _ _ (fun e => hk2 e), Below.heap_setCell _ _ _ _ (fun e => hk e)]
  have hos : W1.os = V.os ∧ W1.tape = V.tape ∧ W1.output = V.output := by rw [hW1]; exact ⟨rfl, rfl, rfl⟩
  rw [← hW1]
  clear hW1
  have n1 : RowIs ((W1.alloc (.cells ⟨c⟩ 3)).alloc (.cells ⟨c⟩ 3)).drew V.heap.size 3 (List.replicate I (.int .i64 0)) := by
    rw [← hc, ← hz]; exact (RowIs.new W1 3 c).alloc _
  have n2 : RowIs ((W1.alloc (.cells ⟨c⟩ 3)).alloc (.cells ⟨c⟩ 3)).drew (V.heap.size + 1) 3 (List.replicate I (.int .i64 0)) := by
    have := RowIs.new (W1.alloc (.cells ⟨c⟩ 3)) 3 c
    rw [World.size_alloc, hz] at this
    rw [← hc]; exact this
  have hold : ∀ k, k < V.heap.size → ((W1.alloc (.cells ⟨c⟩ 3)).alloc (.cells ⟨c⟩ 3)).drew.heap[k]? = W1.heap[k]? := fun k hk => (Below.heap_alloc (W1.alloc (.cells ⟨c⟩ 3)) _ k (by simp; omega)).trans (Below.heap_alloc W1 _ k (by omega))
  rcases hab with ⟨rfl, rfl⟩ | ⟨rfl, rfl⟩
  · exact ⟨(hold gN hl).trans h1, (hold gS hl2).trans h2, by simpa using n1, by simpa using n2, ⟨Nat.le_refl _, by omega, by omega⟩, fun k hk hne hne2 => (hold k hk).trans (ho k hne hne2), by simp; omega, hos⟩
  · exact ⟨(hold gN hl).trans h1, (hold gS hl2).trans h2, by simpa using n2, by simpa using n1, ⟨by omega, Nat.le_refl _, by omega⟩, fun k hk hne hne2 => (hold k hk).trans (ho k hne hne2), by simp; omega, hos⟩
theorem Fi.mach {V W : World} {gN gS S I a b s i bm : Nat} {cN cS rN rS : List Value} (h : Fi V gN gS S I a b s cN cS rN rS W i) {nv rv nx pv sv : Value} {S' I' : Nat} (hm : MachAt V bm nv rv S' I' nx pv sv) (hN : bm ≠ gN) (hS : bm ≠ gS) : MachAt W bm nv rv S' I' nx pv sv := (h.old bm (Array.getElem?_eq_some_iff.1 hm).1 hN hS).trans hm
theorem Fi.row {V W : World} {gN gS S I a b s i g : Nat} {cN cS rN rS : List Value} {t : TypeId} {l : List Value} (h : Fi V gN gS S I a b s cN cS rN rS W i) (hr : RowIs V g t l) (hN : g ≠ gN) (hS : g ≠ gS) : RowIs W g t l := (h.old g hr.lt hN hS).trans hr
theorem Fi.below {V W W' : World} {gN gS S I a b s i : Nat} {cN cS rN rS : List Value} (h : Fi V gN gS S I a b s cN cS rN rS W i) (hb : Below W.heap.size W W') : Fi V gN gS S I a b s cN cS rN rS W' i :=
  ⟨h.tN.below hb, h.tS.below hb, h.lN.below hb, h.lS.below hb, h.ln, fun k hk h1 h2 => (hb.block k (by have := h.size; omega)).trans (h.old k hk h1 h2), Nat.le_trans h.size hb.size, hb.os.trans h.os.1, hb.tape.trans h.os.2.1, hb.output.trans h.os.2.2⟩
theorem row_next {rN : List Value} {I i : Nat} {v z : Value} (hl : rN.length = I) (hi : i < I) (hv : rN[i]? = some v) : (rN.take i ++ List.replicate (I - i) z).set i v = rN.take (i + 1) ++ List.replicate (I - (i + 1)) z := by
  have h1 : (rN.take i).length = i := by rw [List.length_take]; omega
  have h2 := fill_set (rN.take i) z v I (by omega)
  rw [h1] at h2
  rw [h2, List.take_add_one, hv]
  simp [h1]
/-- one more cell of both rows -/
theorem Fi.put {V W W' : World} {gN gS S I a b s i : Nat} {cN cS rN rS : List Value} {x y : Value} (h : Fi V gN gS S I a b s cN cS rN rS W i) (hi : i < I) (hNl : rN.length = I) (hSl : rS.length = I) (hx : rN[i]? = some x) (hy : rS[i]? = some y) (hgN : gN < V.heap.size) (hgS : gS < V.heap.size)
    (hk : ∀ k, k < W.heap.size → W'.heap[k]? = ((W.setCell ⟨a, i, none⟩ x).setCell ⟨b, i, none⟩ y).heap[k]?) (hz : W.heap.size ≤ W'.heap.size) (hos : W'.os = W.os ∧ W'.tape = W.tape ∧ W'.output = W.output) : Fi V gN gS S I a b s cN cS rN rS W' (i + 1) := by
  obtain ⟨h1, h2, h3⟩ := h.ln
  refine ⟨(hk gN h.tN.lt).trans ((h.tN.other a i x (by omega)).other b i y (by omega)), (hk gS h.tS.lt).trans ((h.tS.other a i x (by omega)).other b i y (by omega)), ?_, ?_, h.ln, fun k hkk e1 e2 => ?_, Nat.le_trans h.size hz, hos.1.trans h.os.1, hos.2.1.trans h.os.2.1, hos.2.2.trans h.os.2.2⟩
  · have := (h.lN.set i x).other b i y h3
    rw [row_next hNl hi hx] at this
    exact (hk a h.lN.lt).trans this
  · have := (h.lS.other a i x (Ne.symm h3)).set i y
    rw [row_next hSl hi hy] at this
    exact (hk b h.lS.lt).trans this
  · have := h.size
    rw [hk k (by omega), Below.heap_setCell _ _ _ _ (fun e => by simp at e; omega), Below.heap_setCell _ _ _ _ (fun e => by simp at e; omega)]
    exact h.old k hkk e1 e2
/-- the rows are whole: a state more -/
theorem Fl.next {W0 V W : World} {gN gS S I q s a b : Nat} {p : Ld.Prg} {cN cS : List Value} (h : Fl W0 gN gS S I p q V s) (hs : s < S) (hgN : gN < W0.heap.size) (hgS : gS < W0.heap.size) (hcN : RowIs V gN 41 cN) (hcS : RowIs V gS 41 cS) (hi : Fi V gN gS S I a b s cN cS (Mc.nextRow p q I s) (Mc.seesRow p q I s) W I) : Fl W0 gN gS S I p q W (s + 1) := by
  obtain ⟨⟨uN, uS, ⟨hlN, hlS⟩, hN, hS⟩, hold, hsz, hos⟩ := h
  have key : ∀ (g g' c : Nat) (u : List Nat) (cc : List Value) (rows : Nat → List Value), u.length = s → g < W0.heap.size → V.heap.size ≤ c → LL V g 41 3 S I W0.heap.size u rows → RowIs V g 41 cc → RowIs W g 41 (cc.set s (slV c I)) → RowIs W c 3 (rows s) → LL W g 41 3 S I W0.heap.size (u ++ [c]) rows := by
    intro g g' c u cc rows hu hg hc hll hcc htop hrow
    have e1 : cc = (u.map fun b => slV b I) ++ List.replicate (S - u.length) (.slice none 0 0) := by
      have := hcc.symm.trans hll.top
      simpa using this
    have h2 := fill_set (u.map fun b => slV b I) (.slice none 0 0) (slV c I) S (by simpa [hu] using hs)
    rw [List.length_map, hu] at h2
    rw [e1, hu, h2] at htop
    refine ⟨by simpa using htop, fun j x hj => ?_⟩
    by_cases hjl : j < u.length
    · rw [List.getElem?_append_left hjl] at hj
      obtain ⟨h3, h4⟩ := hll.row j x hj
      exact ⟨(hi.old x h3.lt (by omega) (by omega)).trans h3, h4⟩
    · rw [List.getElem?_append_right (by omega)] at hj
      have hj2 : j - u.length < [c].length := (List.getElem?_eq_some_iff.1 hj).1
      have : j = u.length := by simp at hj2; omega
      subst this
      rw [Nat.sub_self] at hj
      simp only [List.getElem?_cons_zero, Option.some.injEq] at hj
      subst hj
      rw [hu]
      exact ⟨hrow, by omega⟩
  have r1 := hi.lN
  have r2 := hi.lS
  rw [Nat.sub_self, List.take_of_length_le (by rw [Mc.nextRow_length]; exact Nat.le_refl _)] at r1
  rw [Nat.sub_self, List.take_of_length_le (by rw [Mc.seesRow_length]; exact Nat.le_refl _)] at r2
  refine ⟨⟨uN ++ [a], uS ++ [b], ⟨by simp [hlN], by simp [hlS]⟩, key gN gS a uN cN _ hlN hgN hi.ln.1 hN hcN hi.tN (by simpa using r1), key gS gN b uS cS _ hlS hgS hi.ln.2.1 hS hcS hi.tS (by simpa using r2)⟩, fun k hk e1 e2 => (hi.old k (by omega) e1 e2).trans (hold k hk e1 e2), by have := hi.size; omega, hi.os.1.trans hos.1, hi.os.2.1.trans hos.2.1, hi.os.2.2.trans hos.2.2⟩
theorem Fl.tops {W0 W : World} {gN gS S I q s : Nat} {p : Ld.Prg} (h : Fl W0 gN gS S I p q W s) (hs : s < S) : ∃ cN cS, RowIs W gN 41 cN ∧ RowIs W gS 41 cS ∧ W.cell? ⟨gN, s, none⟩ = some (.slice none 0 0) ∧ W.frozen? ⟨gN, s, none⟩ = false ∧ W.cell? ⟨gS, s, none⟩ = some (.slice none 0 0) ∧ W.frozen? ⟨gS, s, none⟩ = false := by
  obtain ⟨⟨uN, uS, ⟨hlN, hlS⟩, hN, hS⟩, -, -, -⟩ := h
  have a := hN.next (by omega)
  have b := hS.next (by omega)
  rw [hlN] at a
  rw [hlS] at b
  exact ⟨_, _, hN.top, hS.top, a.1, a.2, b.1, b.2⟩
/-- three cells of the machine -/
def K3 (W : World) (bm k gN gS S : Nat) : Prop := W.cell? ⟨bm, 3, none⟩ = some (.int .i64 (k : Int)) ∧ W.cell? ⟨bm, 4, none⟩ = some (slV gN S) ∧ W.cell? ⟨bm, 6, none⟩ = some (slV gS S)
theorem cell_set_blk (W : World) (b i g j : Nat) (x v : Value) (hij : b ≠ g) (h : W.cell? ⟨b, i, none⟩ = some v) : (W.setCell ⟨g, j, none⟩ x).cell? ⟨b, i, none⟩ = some v := (World.cell?_setCell_other W ⟨g, j, none⟩ ⟨b, i, none⟩ x (by intro e; exact hij (congrArg Addr.block e).symm)).trans h
theorem k3_alloc {W : World} {bm k gN gS S : Nat} (o : Obj) (h : K3 W bm k gN gS S) : K3 (W.alloc o) bm k gN gS S := ⟨cell_alloc_keep _ _ _ _ h.1, cell_alloc_keep _ _ _ _ h.2.1, cell_alloc_keep _ _ _ _ h.2.2⟩
theorem k3_set {W : World} {bm k gN gS S : Nat} (g j : Nat) (x : Value) (hg : bm ≠ g) (h : K3 W bm k gN gS S) : K3 (W.setCell ⟨g, j, none⟩ x) bm k gN gS S := ⟨cell_set_blk _ _ _ _ _ _ _ hg h.1, cell_set_blk _ _ _ _ _ _ _ hg h.2.1, cell_set_blk _ _ _ _ _ _ _ hg h.2.2⟩
theorem RowIs.ne {W : World} {a b : Nat} {t t' : TypeId} {l l' : List Value} (h : RowIs W a t l) (h' : RowIs W b t' l') (ht : t ≠ t') : a ≠ b := by
  rintro rfl
  have := h.symm.trans h'
  simp only [Option.some.injEq, Obj.cells.injEq] at this
  exact ht this.2.1
theorem MachAt.row {W : World} {bm : Nat} {nv rv : Value} {S I : Nat} {nx pv sv : Value} (h : MachAt W bm nv rv S I nx pv sv) : RowIs W bm 75 [nv, rv, .int .i64 (S : Int), .int .i64 (I : Int), nx, pv, sv] := h
/-- what stands through fill's rounds -/
structure Std (bm : Nat) (p : Ld.Prg) (nv rv : Value) (g gN gS gI S I q lo : Nat) (us : List Nat) (W : World) : Prop where
  mach : MachAt W bm nv rv S I (slV gN S) (slV g p.names.length) (slV gS S)
  prg : IsPrg W p (.agg #[nv, rv])
  row : RowIs W g 117 ((Mc.parts p).flatMap ptCells)
  ins : LL W gI 84 4 I q lo us (fun i => (bitsTo i q).map boolV)
theorem off_nils {W : World} {g n : Nat} {t : TypeId} (h : RowIs W g t (List.replicate n (.slice none 0 0))) : Off W g := off_row h fun u hu => by
  rw [List.eq_of_mem_replicate hu]
  exact ⟨fun _ e => by simp at e, fun _ _ e => by simp at e⟩
theorem Std.old {bm : Nat} {p : Ld.Prg} {nv rv : Value} {g gN gS gI S I q lo : Nat} {us : List Nat} {W0 W : World} (h : Std bm p nv rv g gN gS gI S I q lo us W0) (hN : RowIs W0 gN 41 (List.replicate S (.slice none 0 0))) (hS : RowIs W0 gS 41 (List.replicate S (.slice none 0 0)))
    (hk : ∀ k, k < W0.heap.size → k ≠ gN → k ≠ gS → W.heap[k]? = W0.heap[k]?) : Std bm p nv rv g gN gS gI S I q lo us W := by
  have mv : ∀ {b : Nat} {t : TypeId} {l : List Value}, RowIs W0 b t l → t ≠ 41 → RowIs W b t l := fun hr ht => (hk _ hr.lt (hr.ne hN ht) (hr.ne hS ht)).trans hr
  refine ⟨mv h.mach.row (by decide), ?_, mv h.row (by decide), ⟨mv h.ins.top (by decide), fun j b hj => ⟨mv (h.ins.row j b hj).1 (by decide), (h.ins.row j b hj).2⟩⟩⟩
  refine h.prg.offB (B := fun b => b = gN ∨ b = gS) ?_ (fun k hk1 hb => hk k hk1 (fun e => hb (.inl e)) (fun e => hb (.inr e)))
  rintro b (rfl | rfl)
  · exact off_nils hN
  · exact off_nils hS
theorem Std.made {wr wc : World} {bm : Nat} {p : Ld.Prg} {nv rv : Value} {g gN gS gI S I q lo : Nat} {us : List Nat} (h : Made2 wr bm nv rv (slV g p.names.length) S I gN gS wc) (hm : MachAt wr bm nv rv S I (.slice none 0 0) (slV g p.names.length) (.slice none 0 0)) (hp : IsPrg wr p (.agg #[nv, rv])) (hr : RowIs wr g 117 ((Mc.parts p).flatMap ptCells)) (hi : LL wr gI 84 4 I q lo us (fun i => (bitsTo i q).map boolV)) : Std bm p nv rv g gN gS gI S I q lo us wc := by
  have mv : ∀ {b : Nat} {t : TypeId} {l : List Value}, RowIs wr b t l → t ≠ 75 → RowIs wc b t l := fun hr ht => (h.old _ hr.lt (hr.ne hm.row ht)).trans hr
  refine ⟨h.mach, ?_, mv hr (by decide), ⟨mv hi.top (by decide), fun j b hj => ⟨mv (hi.row j b hj).1 (by decide), (hi.row j b hj).2⟩⟩⟩
  refine hp.offB (B := fun b => b = bm) ?_ (fun k hk1 hb => h.old k hk1 hb)
  rintro b rfl
  obtain ⟨nv', rv', he, hn, hrr⟩ := hp
  obtain ⟨na, nk, nc, h1⟩ := slice_of hn
  obtain ⟨ra, rk, rc, h2⟩ := slice_ofR hrr
  simp only [Value.agg.injEq] at he
  have e1 : nv = nv' := Option.some.inj (congrArg (fun a : Array Value => a[0]?) he)
  have e2 : rv = rv' := Option.some.inj (congrArg (fun a : Array Value => a[1]?) he)
  refine off_row hm.row fun u hu => ?_
  simp only [List.mem_cons, List.not_mem_nil, or_false] at hu
  rcases hu with rfl | rfl | rfl | rfl | rfl | rfl | rfl <;> (refine ⟨fun _ e => ?_, fun _ _ e => ?_⟩ <;> simp [e1, e2, h1, h2, slV] at e)
end
section
open Go.RowKit
theorem Mc.state_bd (p : Ld.Prg) (hck : Ld.check p = none) (m : Nat) : Sc.Bd p (Mc.state (Mc.parts p) m) := by
  refine ⟨(Mc.stateI_len _ _).trans (Mc.parts_len p), (Mc.stateC_len _ _).trans (Mc.parts_len p), fun k hk => ?_⟩
  have hkp : k < (Mc.parts p).length := by rw [Mc.parts_len]; exact hk
  obtain ⟨e1, e2⟩ := Mc.stateI_at (Mc.parts p) m k hkp
  have e3 : (Mc.parts p)[k] = Mc.part p k := by have := Mc.parts_at p k hk; rw [List.getElem?_eq_getElem hkp] at this; exact Option.some.inj this
  rw [e3] at e1 e2
  show 0 ≤ (Mc.stateC (Mc.parts p) m).getD k 0 ∧ (Mc.stateC (Mc.parts p) m).getD k 0 ≤ p.names[k].count ∧ (3 ≤ p.names[k].kind → (Mc.stateI (Mc.parts p) m).getD k false = ((Mc.stateC (Mc.parts p) m).getD k 0 == p.names[k].count))
  rw [List.getD_eq_getElem?_getD, List.getD_eq_getElem?_getD, e1, e2]
  simp only [Option.getD_some]
  generalize Mc.rest (Mc.parts p) m k = r
  obtain ⟨m1, m2, m3, m4⟩ := Sc.may p hck k hk
  have hP : (p.names[k].kind = 3 ∨ p.names[k].kind = 4 → Mc.part p k = (p.names[k].count.toNat + 1, true)) ∧ (¬ (p.names[k].kind = 3 ∨ p.names[k].kind = 4) → (Mc.part p k).2 = false) := by
    unfold Mc.part
    rw [List.getElem?_eq_getElem hk]
    simp only
    refine ⟨fun h => if_pos h, fun h => ?_⟩
    rw [if_neg h]
    split <;> (try split) <;> rfl
  generalize Mc.part p k = P at hP
  by_cases h : p.names[k].kind = 3 ∨ p.names[k].kind = 4
  · obtain ⟨c1, c2⟩ := m3 (by omega)
    obtain ⟨c, hc⟩ : ∃ c : Nat, p.names[k].count = (c : Int) := ⟨p.names[k].count.toNat, by omega⟩
    have hP1 := hP.1 h
    rw [hc] at hP1 c1 c2 ⊢
    subst hP1
    simp only [if_true, Int.toNat_natCast, Nat.add_sub_cancel]
    have hr : r % (c + 1) < c + 1 := Nat.mod_lt _ (by omega)
    refine ⟨by omega, by omega, fun _ => ?_⟩
    have : 1 < c + 1 := by omega
    rw [decide_eq_true this, Bool.true_and, Bool.eq_iff_iff]
    simp only [decide_eq_true_eq, beq_iff_eq]
    omega
  · have hk0 := m4 (by omega)
    rw [hP.2 h, hk0]
    exact ⟨by simp, by simp, fun h3 => by omega⟩
theorem Mc.state_ct (p : Ld.Prg) (hck : Ld.check p = none) (s : Sc.St) (hb : Sc.Bd p s) : ∀ c, c ∈ s.ct → 0 ≤ c ∧ c ≤ 7 := by
  intro c hc
  obtain ⟨k, hk, rfl⟩ := List.getElem_of_mem hc
  have hk' : k < p.names.length := by rw [← hb.lc]; exact hk
  obtain ⟨h1, h2, _⟩ := hb.at_ k hk'
  rw [List.getD_eq_getElem?_getD, List.getElem?_eq_getElem hk] at h1 h2
  simp only [Option.getD_some] at h1 h2
  obtain ⟨m1, m2, m3, m4⟩ := Sc.may p hck k hk'
  refine ⟨h1, ?_⟩
  by_cases h : 3 ≤ p.names[k].kind
  · have := m3 h; omega
  · have := m4 (by omega); omega
theorem bools_row {W : World} {g : Nat} {l : List Bool} (h : RowIs W g 4 (l.map boolV)) (hl : l.length ≤ 1000000) : Bools W (slV g l.length) l :=
  ⟨some ⟨g, 0, none⟩, l.length, rfl, hl, fun i b hi => ⟨g, rfl, h.cell i _ (by rw [List.getElem?_map, hi]; rfl)⟩⟩
theorem StAt.rowI {W : World} {gi gc : Nat} {s : Sc.St} (h : StAt W gi gc s) : RowIs W gi 4 (s.is.map boolV) := h.bi
theorem StAt.kept {W W' : World} {gi gc : Nat} {s : Sc.St} (h : StAt W gi gc s) (h1 : W'.heap[gi]? = W.heap[gi]?) (h2 : W'.heap[gc]? = W.heap[gc]?) : StAt W' gi gc s := ⟨h1.trans h.bi, h2.trans h.bc⟩
end
section
open Go.RowKit
/-- the state that Do has made lies behind a pointer -/
def D7 (V : World) (n : Nat) (st : Sc.St) (t7 : Value) (W : World) : Prop := ∃ b7 gi gc, t7 = .pointer (some ⟨b7, 0, none⟩) ∧ W.heap[b7]? = some (.cells #[.slice (some ⟨gi, 0, none⟩) n n, .slice (some ⟨gc, 0, none⟩) n n] 123 (0, 0)) ∧ StAt W gi gc st ∧ (V.heap.size ≤ b7 ∧ V.heap.size ≤ gi ∧ V.heap.size ≤ gc) ∧ Below V.heap.size V W
theorem d7_a {V W : World} {n gi gc : Nat} {st : Sc.St} (hs : StAt W gi gc st) (hb : Below V.heap.size V W) (h1 : V.heap.size ≤ gi) (h2 : V.heap.size ≤ gc) : D7 V n st (.pointer (some ⟨W.heap.size, 0, none⟩)) (W.alloc (.cells #[.slice (some ⟨gi, 0, none⟩) n n, .slice (some ⟨gc, 0, none⟩) n n] 123)) :=
  ⟨_, gi, gc, rfl, heap_alloc_new _ _, hs.kept (Below.heap_alloc _ _ _ hs.lt.1) (Below.heap_alloc _ _ _ hs.lt.2), ⟨hb.size, h1, h2⟩, hb.alloc hb.size _⟩
theorem d7_b {V W : World} {n gi gc : Nat} {st : Sc.St} (ht : W.heap[V.heap.size]? = some (.cells #[.slice none 0 0, .slice none 0 0] 123 (0, 0))) (hs : StAt W gi gc st) (hb : Below V.heap.size V W) (h1 : V.heap.size < gi) (h2 : V.heap.size < gc) : D7 V n st (.pointer (some ⟨V.heap.size, 0, none⟩)) ((W.setCell ⟨V.heap.size, 0, none⟩ (.slice (some ⟨gi, 0, none⟩) n n)).setCell ⟨V.heap.size, 1, none⟩ (.slice (some ⟨gc, 0, none⟩) n n)) :=
  ⟨_, gi, gc, rfl, by simp [World.setCell, Array.getElem?_modify, ht], hs.kept (by rw [Below.heap_setCell _ _ _ _ (by dsimp only; omega), Below.heap_setCell _ _ _ _ (by dsimp only; omega)]) (by rw [Below.heap_setCell _ _ _ _ (by dsimp only; omega), Below.heap_setCell _ _ _ _ (by dsimp only; omega)]), ⟨Nat.le_refl _, by omega, by omega⟩, Below.setCell (Below.setCell hb (Nat.le_refl _) _) (Nat.le_refl _) _⟩
/-- a round is done -/
def D8 (V0 : World) (gN gS S I a b s : Nat) (cN cS rN rS : List Value) (V : World) (i : Nat) (W : World) : Prop := Fi V0 gN gS S I a b s cN cS rN rS W (i + 1) ∧ V.heap.size ≤ W.heap.size ∧ ∀ j, j < V.heap.size → j ≠ a → j ≠ b → W.heap[j]? = V.heap[j]?
theorem d8_ab {V0 V W : World} {gN gS S I a b s i : Nat} {cN cS rN rS : List Value} {x y : Value} (h : Fi V0 gN gS S I a b s cN cS rN rS V i) (hb : Below V.heap.size V W) (hi : i < I) (hNl : rN.length = I) (hSl : rS.length = I) (hx : rN[i]? = some x) (hy : rS[i]? = some y) (hgN : gN < V0.heap.size) (hgS : gS < V0.heap.size) :
    D8 V0 gN gS S I a b s cN cS rN rS V i ((W.setCell ⟨a, i, none⟩ x).setCell ⟨b, i, none⟩ y) := by
  refine ⟨(h.below hb).put hi hNl hSl hx hy hgN hgS (fun _ _ => rfl) (by simp [World.setCell]) ⟨rfl, rfl, rfl⟩, by have := hb.size; simpa [World.setCell] using this, fun j hj h1 h2 => ?_⟩
  rw [Below.heap_setCell _ _ _ _ (fun e => h2 e), Below.heap_setCell _ _ _ _ (fun e => h1 e)]
  exact hb.block j hj
theorem d8_ba {V0 V W : World} {gN gS S I a b s i : Nat} {cN cS rN rS : List Value} {x y : Value} (h : Fi V0 gN gS S I a b s cN cS rN rS V i) (hb : Below V.heap.size V W) (hi : i < I) (hNl : rN.length = I) (hSl : rS.length = I) (hx : rN[i]? = some x) (hy : rS[i]? = some y) (hgN : gN < V0.heap.size) (hgS : gS < V0.heap.size) :
    D8 V0 gN gS S I a b s cN cS rN rS V i ((W.setCell ⟨b, i, none⟩ y).setCell ⟨a, i, none⟩ x) := by
  have hab := h.ln.2.2
  refine ⟨(h.below hb).put hi hNl hSl hx hy hgN hgS (fun k _ => ?_) (by simp [World.setCell]) ⟨rfl, rfl, rfl⟩, by have := hb.size; simpa [World.setCell] using this, fun j hj h1 h2 => ?_⟩
  · by_cases ha : k = a
    · subst ha
      rw [Below.heap_setCell (W.setCell ⟨k, i, none⟩ x) _ _ _ (by dsimp only; exact hab)]
      exact setCell_congr _ _ (Below.heap_setCell _ _ _ _ (by dsimp only; exact hab))
    · rw [Below.heap_setCell (W.setCell ⟨b, i, none⟩ y) _ _ _ (fun e => ha e)]
      exact setCell_congr _ _ (Below.heap_setCell _ _ _ _ (fun e => ha e)).symm
  · rw [Below.heap_setCell _ _ _ _ (fun e => h1 e), Below.heap_setCell _ _ _ _ (fun e => h2 e)]
    exact hb.block j hj
theorem Fi.cells {V W : World} {gN gS S I a b s i : Nat} {cN cS rN rS : List Value} (h : Fi V gN gS S I a b s cN cS rN rS W i) (hs : s < cN.length) (hs2 : s < cS.length) (hi : i < I) (hNl : rN.length = I) (hSl : rS.length = I) :
    W.cell? ⟨gN, s, none⟩ = some (slV a I) ∧ W.cell? ⟨gS, s, none⟩ = some (slV b I) ∧ (W.cell? ⟨a, i, none⟩ = some (.int .i64 0) ∧ W.frozen? ⟨a, i, none⟩ = false) ∧ W.cell? ⟨b, i, none⟩ = some (.int .i64 0) ∧ W.frozen? ⟨b, i, none⟩ = false := by
  have hr : ∀ (r : List Value), r.length = I → (r.take i ++ List.replicate (I - i) (Value.int .i64 0))[i]? = some (.int .i64 0) := fun r hl => by
    have h1 : (r.take i).length = i := by rw [List.length_take]; omega
    rw [List.getElem?_append_right (by omega), h1, Nat.sub_self, List.getElem?_replicate, if_pos (by omega)]
  exact ⟨h.tN.cell s _ (List.getElem?_set_self hs), h.tS.cell s _ (List.getElem?_set_self hs2), ⟨h.lN.cell i _ (hr rN hNl), h.lN.frozen i⟩, h.lS.cell i _ (hr rS hSl), h.lS.frozen i⟩
theorem RowIs.len_of {W : World} {g i : Nat} {t : TypeId} {l : List Value} {v : Value} (h : RowIs W g t l) (hc : W.cell? ⟨g, i, none⟩ = some v) : i < l.length := by
  rw [Lib.cell_of_heap h] at hc
  exact (Array.getElem?_eq_some_iff.1 hc).1
/-- the cells that a round of the inner loop reads -/
def K7 (bm g n gN gS S s a b I b7 gi gc : Nat) (W : World) : Prop := W.cell? ⟨bm, 4, none⟩ = some (.slice (some ⟨gN, 0, none⟩) S S) ∧ W.cell? ⟨bm, 6, none⟩ = some (.slice (some ⟨gS, 0, none⟩) S S) ∧ W.cell? ⟨bm, 5, none⟩ = some (.slice (some ⟨g, 0, none⟩) n n) ∧ W.cell? ⟨gN, s, none⟩ = some (.slice (some ⟨a, 0, none⟩) I I) ∧ W.cell? ⟨gS, s, none⟩ = some (.slice (some ⟨b, 0, none⟩) I I) ∧ W.cell? ⟨b7, 0, none⟩ = some (.slice (some ⟨gi, 0, none⟩) n n) ∧ W.cell? ⟨b7, 1, none⟩ = some (.slice (some ⟨gc, 0, none⟩) n n)
theorem K7.below {bm g n gN gS S s a b I b7 gi gc : Nat} {V W : World} (h : K7 bm g n gN gS S s a b I b7 gi gc V) (hb : Below V.heap.size V W) : K7 bm g n gN gS S s a b I b7 gi gc W := by
  have key : ∀ (p : Addr) v, V.cell? p = some v → W.cell? p = some v := fun p v hv => (hb.cell (World.block_lt_of_cell? _ _ hv)).trans hv
  exact ⟨key _ _ h.1, key _ _ h.2.1, key _ _ h.2.2.1, key _ _ h.2.2.2.1, key _ _ h.2.2.2.2.1, key _ _ h.2.2.2.2.2.1, key _ _ h.2.2.2.2.2.2⟩
theorem K7.set {bm g n gN gS S s a b I b7 gi gc : Nat} {W : World} (c j : Nat) (x : Value) (e1 : bm ≠ c) (e2 : gN ≠ c) (e3 : gS ≠ c) (e4 : b7 ≠ c) (h : K7 bm g n gN gS S s a b I b7 gi gc W) : K7 bm g n gN gS S s a b I b7 gi gc (W.setCell ⟨c, j, none⟩ x) :=
  ⟨cell_set_blk _ _ _ _ _ _ _ e1 h.1, cell_set_blk _ _ _ _ _ _ _ e1 h.2.1, cell_set_blk _ _ _ _ _ _ _ e1 h.2.2.1, cell_set_blk _ _ _ _ _ _ _ e2 h.2.2.2.1, cell_set_blk _ _ _ _ _ _ _ e3 h.2.2.2.2.1, cell_set_blk _ _ _ _ _ _ _ e4 h.2.2.2.2.2.1, cell_set_blk _ _ _ _ _ _ _ e4 h.2.2.2.2.2.2⟩
/-- what fill has done -/
def Filled (w : World) (bm : Nat) (p : Ld.Prg) (nv rv : Value) (g S I q : Nat) (e : Ending) (w' : World) : Prop := e = .returned (.tuple #[]) ∧ ∃ gN gS lo uN uS, MachAt w' bm nv rv S I (slV gN S) (slV g p.names.length) (slV gS S) ∧ ((uN.length = S ∧ uS.length = S) ∧ LL w' gN 41 3 S I lo uN (Mc.nextRow p q I) ∧ LL w' gS 41 3 S I lo uS (Mc.seesRow p q I)) ∧ (IsPrg w' p (.agg #[nv, rv]) ∧ RowIs w' g 117 ((Mc.parts p).flatMap ptCells)) ∧ (∀ k, k < w.heap.size → k ≠ bm → w'.heap[k]? = w.heap[k]?) ∧ w.heap.size ≤ w'.heap.size ∧ w'.os = w.os ∧ w'.tape = w.tape ∧ w'.output = w.output
theorem filled_of {w wr wc W : World} {bm : Nat} {p : Ld.Prg} {nv rv : Value} {g gN gS gI S I q lo : Nat} {us : List Nat} (hB : Below w.heap.size w wr) (hm : Made2 wr bm nv rv (slV g p.names.length) S I gN gS wc) (hf : Fl wc gN gS S I p q W S) (hs : Std bm p nv rv g gN gS gI S I q lo us W) : Filled w bm p nv rv g S I q (.returned (.tuple #[])) W := by
  obtain ⟨uN, uS, h1, h2, h3⟩ := hf.tabs
  obtain ⟨n1, n2, _⟩ := hm.ln
  have hz := hB.size
  have hz2 := hm.size
  have hz3 := hf.size
  exact ⟨rfl, gN, gS, _, uN, uS, hs.mach, ⟨h1, h2, h3⟩, ⟨hs.prg, hs.row⟩, fun k hk hne => (hf.old k (by omega) (by omega) (by omega)).trans ((hm.old k (by omega) hne).trans (hB.block k hk)), by omega, hf.os.1.trans (hm.os.1.trans hB.os), hf.os.2.1.trans (hm.os.2.1.trans hB.tape), hf.os.2.2.trans (hm.os.2.2.trans hB.output)⟩
end
end Go.Proofs.YtgdmohombcgjbaaGreatDoor
