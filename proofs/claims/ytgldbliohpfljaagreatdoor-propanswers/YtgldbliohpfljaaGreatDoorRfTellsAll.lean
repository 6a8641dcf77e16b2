/-
  The first of a list of bools, the others false. What stands in memory while package prop's Good is filled: a table of rows of bools. A machine's table, state by state. The sizes of a machine in memory. (Out of KeFew.) The walk of package machine's Sees. (Out of McSees.) The walk of package machine's State. What package prop asks of a machine: its program, its states, what it sees, and whether an expression is good at a state and an input. What a state of the document's tells of a program's names, in their order: package scan's own rows. Two own rows that grow side by side, in blocks of their own. Laws for a statement whose operations Go may carry out in more than one order, gone through by hand: an operation is taken first, passed by, or comes up. The walk of the document's Tells: what names are and how far they count, in their order.
-/
import Derived.Test.YtgldbliohpfljaaGreatDoorRcNextAll
import Derived.Test.YtgldbliohpfljaaGreatDoorPcKnownAll
import Derived.Test.YtgldbliohpfljaaGreatDoorPrSearchAll
import Derived.Test.YtgldbliohpfljaaGreatDoorRfStateMAll
import Derived.Test.YtgldbliohpfljaaGreatDoorLwMachsAll
import Derived.Test.YtgldbliohpfljaaGreatDoorScTwoAll
import Derived.Test.YtgldbliohpfljaaGreatDoorNaEdgesAll
import Derived.Test.YtgldbliohpfljaaGreatDoorScStepA
import Derived.Test.YtgldbliohpfljaaGreatDoorRows
import Derived.WalkKit
import Derived.Deep.AppendLies
import Derived.Deep.RegionHeld3
import Derived.Test.YtgldbliohpfljaaGreatDoorLdKindAll
import Derived.Test.YtgldbliohpfljaaGreatDoorRlEdgesAll
namespace Go.Proofs.YtgldbliohpfljaaGreatDoor
section
open Go.RowKit
namespace Rc
/-- the first k of a list, the others false -/
def inTo (l : List Bool) (k : Nat) : List Bool := l.take k ++ List.replicate (l.length - k) false
theorem inTo_len (l : List Bool) (k : Nat) (hk : k ≤ l.length) : (inTo l k).length = l.length := by simp [inTo]; omega
theorem inTo_zero (l : List Bool) : inTo l 0 = List.replicate l.length false := by simp [inTo]
theorem inTo_all (l : List Bool) : inTo l l.length = l := by simp [inTo]
theorem inTo_set (l : List Bool) (k : Nat) (hk : k < l.length) (x : Bool) (hx : l[k]? = some x) : (inTo l k).set k x = inTo l (k + 1) := by
  have h := fill_set (l.take k) false x l.length (by rw [List.length_take]; omega)
  have e : (l.take k).length = k := by rw [List.length_take]; omega
  rw [e] at h
  unfold inTo
  rw [h]
  obtain ⟨_, e2⟩ := List.getElem?_eq_some_iff.1 hx
  rw [List.take_succ_eq_append_getElem hk, e2]
  congr 2
  simp
  omega
theorem inTo_at (l : List Bool) (k : Nat) (hk : k < l.length) : (inTo l k)[k]? = some false := by
  unfold inTo
  rw [List.getElem?_append_right (by rw [List.length_take]; omega), List.getElem?_replicate, if_pos (by rw [List.length_take]; omega)]
end Rc
end
section
open Go.RowKit
/-- a table of rows of bools that a call has made: those that are there, the others nil -/
structure GT (w : World) (g S I : Nat) (us : List Nat) (row : Nat → List Bool) (W : World) : Prop where
  few : us.length ≤ S
  top : RowIs W g 51 (us.map (fun b => slV b I) ++ List.replicate (S - us.length) (.slice none 0 0))
  rows : ∀ (s b : Nat), us[s]? = some b → BRow W b (row s) [] ∧ g < b
  len : ∀ s, s < us.length → (row s).length = I
  lo : w.heap.size ≤ g
  bel : Below w.heap.size w W
theorem GT.below {w W W' : World} {g S I : Nat} {us : List Nat} {row : Nat → List Bool} (h : GT w g S I us row W) (hb : Below W.heap.size W W') : GT w g S I us row W' :=
  ⟨h.few, RowIs.below h.top hb, fun s b hs => ⟨(h.rows s b hs).1.below hb, (h.rows s b hs).2⟩, h.len, h.lo, h.bel.trans (hb.mono h.bel.size)⟩
/-- one row more, all false -/
theorem GT.new {w W : World} {g S I : Nat} {us : List Nat} {row : Nat → List Bool} (h : GT w g S I us row W) (hk : us.length < S) (l : List Bool) (hl : l.length = I) (cS : List Value) (hc : cS = List.replicate I (.bool false)) : GT w g S I (us ++ [W.heap.size]) (fun s => if s = us.length then Rc.inTo l 0 else row s) ((W.setCell ⟨g, us.length, none⟩ (.slice (some ⟨W.heap.size, 0, none⟩) I I)).alloc (.cells ⟨cS⟩ 4)) := by
  have hg : g < W.heap.size := h.top.lt
  have hz : (W.setCell ⟨g, us.length, none⟩ (.slice (some ⟨W.heap.size, 0, none⟩) I I)).heap.size = W.heap.size := by simp [World.setCell]
  refine ⟨by simp; omega, ?_, ?_, ?_, h.lo, ?_⟩
  · have h1 := (h.top.set us.length (.slice (some ⟨W.heap.size, 0, none⟩) I I)).alloc (.cells ⟨cS⟩ 4)
    have h2 := fill_set (us.map (fun b => slV b I)) (.slice none 0 0) (slV W.heap.size I) S (by simpa using hk)
    rw [List.length_map] at h2
    unfold slV at h1 h2 ⊢
    rw [h2] at h1
    rw [List.map_append, List.length_append]
    simpa using h1
  · intro s b hs
    by_cases hsl : s < us.length
    · rw [List.getElem?_append_left hsl] at hs
      obtain ⟨h1, h2⟩ := h.rows s b hs
      rw [if_neg (by omega)]
      exact ⟨RowIs.alloc (RowIs.other h1 g us.length _ (by omega)) _, h2⟩
    · have hse : s = us.length := by
        have := (List.getElem?_eq_some_iff.1 hs).1
        simp at this
        omega
      subst hse
      rw [List.getElem?_append_right (Nat.le_refl _)] at hs
      simp at hs
      subst hs
      rw [if_pos rfl]
      refine ⟨?_, hg⟩
      have h1 := RowIs.new (W.setCell ⟨g, us.length, none⟩ (.slice (some ⟨W.heap.size, 0, none⟩) I I)) 4 cS
      rw [hz] at h1
      unfold BRow
      rw [Rc.inTo_zero, hl, List.append_nil, List.map_replicate]
      rw [hc] at h1 ⊢
      exact h1
  · intro s hs
    split
    · rw [Rc.inTo_len _ _ (Nat.zero_le _)]; exact hl
    · refine h.len s ?_
      simp at hs
      omega
  · have h1 : Below w.heap.size w (W.setCell ⟨g, us.length, none⟩ (.slice (some ⟨W.heap.size, 0, none⟩) I I)) := h.bel.setCell (p := ⟨g, us.length, none⟩) h.lo _
    exact h1.alloc h1.size _
/-- one more of the last row -/
theorem GT.set {w W : World} {g S I b i : Nat} {us : List Nat} {row : Nat → List Bool} {l : List Bool} {x : Bool} (h : GT w g S I (us ++ [b]) (fun s => if s = us.length then Rc.inTo l i else row s) W) (hd : ∀ s : Nat, us[s]? ≠ some b) (hl : l.length = I) (hi : i < I) (hx : l[i]? = some x) : GT w g S I (us ++ [b]) (fun s => if s = us.length then Rc.inTo l (i + 1) else row s) (W.setCell ⟨b, i, none⟩ (.bool x)) := by
  obtain ⟨h1, h2⟩ := h.rows us.length b (by rw [List.getElem?_append_right (Nat.le_refl _)]; simp)
  rw [if_pos rfl] at h1
  refine ⟨h.few, RowIs.other h.top b i _ (by omega), ?_, ?_, h.lo, h.bel.setCell (p := ⟨b, i, none⟩) (by show w.heap.size ≤ b; have := h.lo; omega) _⟩
  · intro s c hs
    by_cases hsl : s < us.length
    · obtain ⟨h3, h4⟩ := h.rows s c hs
      rw [List.getElem?_append_left hsl] at hs
      rw [if_neg (by omega)] at h3 ⊢
      exact ⟨RowIs.other h3 b i _ (fun e => hd s (e ▸ hs)), h4⟩
    · have hse : s = us.length := by
        have := (List.getElem?_eq_some_iff.1 hs).1
        simp at this
        omega
      subst hse
      rw [List.getElem?_append_right (Nat.le_refl _)] at hs
      simp at hs
      subst hs
      rw [if_pos rfl]
      have h5 := h1.set i x (by rw [Rc.inTo_len _ _ (by omega)]; omega)
      rw [Rc.inTo_set l i (by omega) x hx] at h5
      exact ⟨h5, h2⟩
  · intro s hs
    split
    · rw [Rc.inTo_len _ _ (by omega)]; exact hl
    · have := h.len s hs
      rw [if_neg (by assumption)] at this
      exact this
end
section
open Go.RowKit
theorem IsMach.next {W : World} {bm : Nat} {p : Ld.Prg} (h : IsMach W bm p) : ∃ gN uN, NextAt W bm (Mc.total (Mc.parts p)) (2 ^ (Ld.kindL p.names 1).length) (Mc.nexts p) gN uN := by
  obtain ⟨nv, rv, g, gN, gS, lo, uN, uS, h1, ⟨⟨h2, _⟩, h3, _⟩, _⟩ := h
  refine ⟨gN, uN, h1.cells.2.2.1, h2, fun s b hs => ⟨h3.cell s b hs, fun i x hx => ?_⟩⟩
  have hr := (h3.row s b hs).1
  rw [Mc.nexts_row] at hr
  exact hr.cell i _ (by rw [List.getElem?_map, hx]; rfl)
end
section
open Go.RowKit
/-- the table and the sizes of a machine, as one reads them -/
theorem IsMach.sizes {W : World} {bm : Nat} {p : Ld.Prg} (h : IsMach W bm p) : W.cell? ⟨bm, 2, none⟩ = some (.int .i64 (Mc.total (Mc.parts p) : Int)) ∧ W.cell? ⟨bm, 3, none⟩ = some (.int .i64 ((2 ^ (Ld.kindL p.names 1).length : Nat) : Int)) := by
  obtain ⟨nv, rv, g, gN, gS, lo, uN, uS, h1, _⟩ := h
  exact ⟨h1.cells.2.1.1, h1.cells.2.1.2⟩
end
section
open Go.RowKit
set_option maxHeartbeats 2000000 in
set_option maxRecDepth 100000 in
/-- what is seen behind a scan: bits of a number of the table -/
theorem Sees_any (bm : Nat) (n : Nat) (nv rv nx : Value) (S I g gS lo s i x : Nat) (us : List Nat) (rows : Nat → List Value) (w : World) (h : MachAt w bm nv rv S I nx (slV g n) (slV gS S)) (ht : LL w gS 36 3 S I lo us rows) (hul : us.length = S) (hs : s < S) (hi : i < I) (hn : n ≤ 12) (hx : (rows s)[i]? = some (.int .i64 (x : Int))) :
    Calls Tryz.prog 37 #[.pointer (some ⟨bm, 0, none⟩), .int .i64 (s : Int), .int .i64 (i : Int)] w fun e w' => ∃ gb, e = .returned (.tuple #[slV gb n, .nilIface]) ∧ RowIs w' gb 4 ((bitsTo x n).map boolV) ∧ w.heap.size ≤ gb ∧ Below w.heap.size w w' := by
  obtain ⟨⟨c0, c1⟩, ⟨c2, c3⟩, c4, c5, c6⟩ := h.cells
  obtain ⟨b, hb⟩ : ∃ b, us[s]? = some b := ⟨_, List.getElem?_eq_getElem (by omega)⟩
  have r0 := ht.cell s b hb
  have r1 := (ht.row s b hb).1.cell i _ hx
  have HTB := hide (fun W => toBools_any (x : Int) n W (by omega))
  have pn := fun w a => ptrNe w a
  have hs' : (s : Int) < (S : Int) := by omega
  have hi' : (i : Int) < (I : Int) := by omega
  have hs0 : ¬ ((s : Int) < 0) := by omega
  have hi0 : ¬ ((i : Int) < 0) := by omega
  unfold slV at c5 c6 r0
  clear h c0 c1 c2 c3 c4 ht hb hul hx
  go_enter Tryz.func37, Tryz.ntmps37
  go_wp2_with fail
  have HK : Hid (∀ W, Below w.heap.size w W → W.cell? ⟨bm, 5, none⟩ = some (.slice (some ⟨g, 0, none⟩) n n) ∧ W.cell? ⟨bm, 6, none⟩ = some (.slice (some ⟨gS, 0, none⟩) S S) ∧ W.cell? ⟨gS, s, none⟩ = some (.slice (some ⟨b, 0, none⟩) I I) ∧ W.cell? ⟨b, i, none⟩ = some (.int .i64 (x : Int))) := fun W hW =>
    have key : ∀ (p : Addr) v, w.cell? p = some v → W.cell? p = some v := fun p v hv => (hW.cell (World.block_lt_of_cell? _ _ hv)).trans hv
    ⟨key _ _ c5, key _ _ c6, key _ _ r0, key _ _ r1⟩
  have HDA : Hid (Below w.heap.size w w.drew) := ⟨rfl, rfl, rfl, Nat.le_refl _, fun _ _ => rfl⟩
  go_region_held3 (fun W => W.cell? ⟨bm, 5, none⟩ = some (.slice (some ⟨g, 0, none⟩) n n) ∧ W.cell? ⟨bm, 6, none⟩ = some (.slice (some ⟨gS, 0, none⟩) S S) ∧ W.cell? ⟨gS, s, none⟩ = some (.slice (some ⟨b, 0, none⟩) I I) ∧ W.cell? ⟨b, i, none⟩ = some (.int .i64 (x : Int))) ((refine HK.out _ ?_; first | exact HDA.out | exact HB2.out | exact Below.refl _ _)) ((go_at_call 89; (with_reducible refine (HTB.out _).mono ?_); rintro e w2 ⟨gb, rfl, hrow, hg, hb2⟩; have HB2 : Hid (Below w.heap.size w w2) := HDA.out.trans hb2; have HROW := hide hrow; clear hrow))
  have hg' : w.heap.size ≤ gb := hg
  clear hb2 hg
  go_wp2_with fail
  refine bodyPost_ret (results_tmp2 rfl _ _ _) rfl ?_
  exact ⟨gb, rfl, HROW.out, hg', HB2.out⟩
end
section
open Go.RowKit
theorem set2_row {W : World} {b : Nat} {x0 y0 : Value} {t : TypeId} (h : W.heap[b]? = some (.cells #[x0, y0] t (0, 0))) (x y : Value) : ((W.setCell ⟨b, 0, none⟩ x).setCell ⟨b, 1, none⟩ y).cell? ⟨b, 0, none⟩ = some x ∧ ((W.setCell ⟨b, 0, none⟩ x).setCell ⟨b, 1, none⟩ y).cell? ⟨b, 1, none⟩ = some y := by
  have h1 : ((W.setCell ⟨b, 0, none⟩ x).setCell ⟨b, 1, none⟩ y).heap[b]? = some (.cells #[x, y] t (0, 0)) := by simp [World.setCell, Array.getElem?_modify, h]
  exact ⟨Lib.cell_of_heap h1 0, Lib.cell_of_heap h1 1⟩
set_option maxHeartbeats 2000000 in
set_option maxRecDepth 100000 in
theorem MState_any (bm : Nat) (p : Ld.Prg) (nv rv nx sv : Value) (S I m g : Nat) (w : World) (h : MachAt w bm nv rv S I nx (slV g p.names.length) sv) (hr : RowIs w g 234 ((Mc.parts p).flatMap ptCells)) (hm : m < S) (hS : S ≤ 4096) (hck : Ld.check p = none) :
    Calls Tryz.prog 36 #[.pointer (some ⟨bm, 0, none⟩), .int .i64 (m : Int)] w (NewSt w (Mc.state (Mc.parts p) m)) := by
  obtain ⟨⟨c0, c1⟩, ⟨c2, c3⟩, c4, c5, c6⟩ := h.cells
  obtain ⟨wz, hwz⟩ : ∃ wz, wz = w.alloc (.cells #[.slice none 0 0, .slice none 0 0] 105) := ⟨_, rfl⟩
  have hbz : Below w.heap.size w wz := by rw [hwz]; exact (Below.refl _ _).alloc (Nat.le_refl _) _
  have hzz : wz.heap.size = w.heap.size + 1 := by rw [hwz]; simp
  have hZ : wz.heap[w.heap.size]? = some (.cells #[.slice none 0 0, .slice none 0 0] 105 (0, 0)) := by rw [hwz]; exact heap_alloc_new _ _
  have HST := hide (state_any (Mc.parts p) g m wz (hr.below hbz) (by rw [Mc.parts_len]; exact (Ld.check_names p hck).1) (Mc.parts_ok p) (Mc.parts_le p hck) (by omega))
  rw [Mc.parts_len] at HST
  have hbm : bm < w.heap.size := (Array.getElem?_eq_some_iff.1 h).1
  have HBZ := hide hbz
  rw [hwz] at HST
  have HWZ := hide hwz
  have pn := fun w a => ptrNe w a
  have hm' : (m : Int) < (S : Int) := by omega
  have hm0 : ¬ ((m : Int) < 0) := by omega
  clear h hr c0 c1 c3 c4 c6 hbz hwz
  go_enter Tryz.func36, Tryz.ntmps36
  go_wp2_with fail
  refine HST.out.mono ?_
  rintro e w1 ⟨gi, gc, rfl, hst, h1, h2, hb⟩
  rw [← HWZ.out] at h1 h2 hb
  have hA1 := (hb.block _ (by omega)).trans hZ
  obtain ⟨z0, z1, z2, z3⟩ := two_cells hA1
  have HS2 := hide (fun x y => set2_row hA1 x y)
  have hz1 := hb.size
  have HS1 := hide hst
  have HB1 := hide hb
  clear hst hb HST hZ hA1
  generalize hn : (Mc.state (Mc.parts p) m).is.length = n
  unfold stV
  go_wp2_with fail
  refine bodyPost_ret_by (v := stV gi gc n) ?_ rfl ?_
  · obtain ⟨y0, y1⟩ := HS2.out (.slice (some ⟨gi, 0, none⟩) n n) (.slice (some ⟨gc, 0, none⟩) n n)
    simp [results, Tryz.results36, go_sem, stV, y0, y1]
  · refine ⟨gi, gc, by rw [hn], ?_, by omega, by omega, ?_⟩
    · refine HS1.out.kept ?_ ?_
      · rw [Below.heap_setCell _ _ _ _ (by dsimp only; omega), Below.heap_setCell _ _ _ _ (by dsimp only; omega)]
      · rw [Below.heap_setCell _ _ _ _ (by dsimp only; omega), Below.heap_setCell _ _ _ _ (by dsimp only; omega)]
    · exact Below.setCell (Below.setCell (HBZ.out.trans (HB1.out.mono HBZ.out.size)) (Nat.le_refl _) _) (Nat.le_refl _) _
end
section
open Go.RowKit
namespace Pr
/-- an expression behind the scan at a state and an input -/
def good (p : Ld.Prg) (x : Ex) (s i : Nat) : Bool := x.eval (Sc.told p.names (Mc.after1 p (Ld.kindL p.names 1).length s i).is) (Sc.told p.names (Mc.state (Mc.parts p) s).is)
def goodRow (p : Ld.Prg) (x : Ex) (I s : Nat) : List Bool := (List.range I).map (good p x s)
theorem goodRow_len (p : Ld.Prg) (x : Ex) (I s : Nat) : (goodRow p x I s).length = I := by simp [goodRow]
theorem goodRow_at (p : Ld.Prg) (x : Ex) (I s i : Nat) (h : i < I) : (goodRow p x I s)[i]? = some (good p x s i) := by simp [goodRow, h]
end Pr
/-- what a machine answers, in each world behind -/
structure MView (w : World) (bm : Nat) (p : Ld.Prg) (na : Option Addr) (nk nc : Nat) (ra : Option Addr) (rk rc : Nat) : Prop where
  prog : ∀ W, Below w.heap.size w W → W.cell? ⟨bm, 0, none⟩ = some (.slice na nk nc) ∧ W.cell? ⟨bm, 1, none⟩ = some (.slice ra rk rc) ∧ NamesAt W (.slice na nk nc) p.names
  state : ∀ W (s : Nat), Below w.heap.size w W → s < Mc.total (Mc.parts p) → Calls Tryz.prog 36 #[.pointer (some ⟨bm, 0, none⟩), .int .i64 (s : Int)] W (NewSt W (Mc.state (Mc.parts p) s))
  sees : ∀ W (s i : Nat), Below w.heap.size w W → s < Mc.total (Mc.parts p) → i < 2 ^ (Ld.kindL p.names 1).length → Calls Tryz.prog 37 #[.pointer (some ⟨bm, 0, none⟩), .int .i64 (s : Int), .int .i64 (i : Int)] W fun e w' => ∃ gb, e = .returned (.tuple #[slV gb p.names.length, .nilIface]) ∧ RowIs w' gb 4 ((Mc.after1 p (Ld.kindL p.names 1).length s i).is.map boolV) ∧ W.heap.size ≤ gb ∧ Below W.heap.size W w'
  lens : ∀ s i, (Mc.state (Mc.parts p) s).is.length = p.names.length ∧ (i < 2 ^ (Ld.kindL p.names 1).length → (Mc.after1 p (Ld.kindL p.names 1).length s i).is.length = p.names.length)
theorem IsMach.view {w : World} {bm : Nat} {p : Ld.Prg} (h : IsMach w bm p) (hck : Ld.check p = none) (hS : Mc.total (Mc.parts p) ≤ 4096) : ∃ na nk nc ra rk rc, MView w bm p na nk nc ra rk rc := by
  obtain ⟨nv, rv, g, gN, gS, lo, uN, uS, h1, ⟨⟨hN1, hN2⟩, h3, h4⟩, h5, h6⟩ := h
  obtain ⟨⟨c0, c1⟩, _⟩ := h1.cells
  have hbl : bm < w.heap.size := World.block_lt_of_cell? _ _ c0
  obtain ⟨nv', rv', he, hn, hr⟩ := h5
  simp only [Value.agg.injEq, List.toArray_eq_iff, List.cons.injEq, and_true] at he
  obtain ⟨rfl, rfl⟩ := he
  obtain ⟨na, nk, nc, rfl⟩ := slice_of hn
  obtain ⟨ra, rk, rc, rfl⟩ := slice_ofR hr
  have hls : ∀ s, (Mc.state (Mc.parts p) s).is.length = p.names.length := fun s => (Mc.stateI_len _ _).trans (Mc.parts_len p)
  have hla : ∀ s i, (Mc.after1 p (Ld.kindL p.names 1).length s i).is.length = p.names.length := fun s i => (Sc.step_bd p hck _ (bitsTo i (Ld.kindL p.names 1).length) (Mc.state_bd p hck s) (by rw [bitsTo_len])).1.li
  refine ⟨na, nk, nc, ra, rk, rc, fun W hW => ⟨(hW.cell (p := ⟨bm, 0, none⟩) hbl).trans c0, (hW.cell (p := ⟨bm, 1, none⟩) hbl).trans c1, hn.below hW⟩, fun W s hW hs => ?_, fun W s i hW hs hi => ?_, fun s i => ⟨hls s, fun _ => hla s i⟩⟩
  · exact MState_any bm p _ _ _ _ _ _ s g W (h1.below hW) (h6.below hW) hs hS hck
  · have h7 := Sees_any bm p.names.length _ _ _ _ _ g gS lo s i (Mc.val (Mc.after1 p (Ld.kindL p.names 1).length s i).is) uS _ W (h1.below hW) (h4.below hW) hN2 hs hi (Ld.check_names p hck).1 (Mc.seesRow_at _ _ _ _ _ hi)
    have e := Mc.val_back (Mc.after1 p (Ld.kindL p.names 1).length s i).is
    rw [hla s i] at e
    rw [e] at h7
    exact h7
end
section
namespace Rf
theorem tells_is (p : Ld.Prg) (hck : Ld.check p = none) (l : List Bool) (hl : l.length = p.names.length) : p.names.map (fun n => Sc.told p.names l n.name) = l := by
  refine List.ext_getElem (by simp [hl]) fun k h1 h2 => ?_
  have hk : k < p.names.length := by simpa using h1
  have hn := number_self p hck k hk
  rw [List.getElem_map, told_at p.names l _ (by omega), hn, Int.toNat_natCast]
  simp [h2]
theorem tells_ct (p : Ld.Prg) (hck : Ld.check p = none) (l : List Int) (hl : l.length = p.names.length) : p.names.map (fun n => toldC p.names l n.name) = l := by
  refine List.ext_getElem (by simp [hl]) fun k h1 h2 => ?_
  have hk : k < p.names.length := by simpa using h1
  have hn := number_self p hck k hk
  rw [List.getElem_map, toldC_at p.names l _ (by omega), hn, Int.toNat_natCast]
  simp [h2]
/-- after some scans -/
def after (p : Ld.Prg) (ins : List (List Bool)) : St := ins.foldl (step p) start
theorem after_succ (p : Ld.Prg) (ins : List (List Bool)) (k : Nat) (h : k < ins.length) : after p (ins.take (k + 1)) = step p (after p (ins.take k)) ins[k] := by
  unfold after
  rw [List.take_succ_eq_append_getElem h, List.foldl_append]
  rfl
/-- what the document's machine comes to is what package scan's does -/
theorem of_after (p : Ld.Prg) (hck : Ld.check p = none) : ∀ (ins : List (List Bool)), (∀ i, i ∈ ins → i.length = (Ld.kindL p.names 1).length) → of p.names (Sc.after p ins) = after p ins := by
  have key : ∀ (ins : List (List Bool)) (s : Sc.St), Sc.Bd p s → (∀ i, i ∈ ins → i.length = (Ld.kindL p.names 1).length) → of p.names (ins.foldl (Sc.step p) s) = ins.foldl (step p) (of p.names s) := by
    intro ins
    induction ins with
    | nil => intro s _ _; rfl
    | cons a r ih =>
      intro s hb hl
      rw [List.foldl_cons, List.foldl_cons, ih _ (Sc.step_bd p hck s a hb (hl a (by simp))).1 (fun i hi => hl i (by simp [hi])), of_step p hck s a hb]
  intro ins hl
  have h := key ins _ (Sc.start_bd p hck) hl
  rw [of_start] at h
  exact h
end Rf
end
section
namespace Rf
open Go.RowKit
/-- two own rows, in blocks of their own -/
structure T2 (q : Nat) (W : World) (t1 t2 : TypeId) (v1 v2 : Value) (l1 l2 : List Value) : Prop where
  o1 : W.ownsRow q t1 1 v1 l1.length l1
  o2 : W.ownsRow q t2 1 v2 l2.length l2
  d12 : ∀ g, v1.ownBlock = some g → v2.ownBlock ≠ some g
theorem T2.rot {q : Nat} {W : World} {t1 t2 : TypeId} {v1 v2 : Value} {l1 l2 : List Value} (h : T2 q W t1 t2 v1 v2 l1 l2) : T2 q W t2 t1 v2 v1 l2 l1 := ⟨h.o2, h.o1, fun g e1 e2 => h.d12 g e2 e1⟩
theorem T2.below {q : Nat} {W W' : World} {t1 t2 : TypeId} {v1 v2 : Value} {l1 l2 : List Value} (h : T2 q W t1 t2 v1 v2 l1 l2) (hb : Below W.heap.size W W') : T2 q W' t1 t2 v1 v2 l1 l2 := ⟨own_below h.o1 hb, own_below h.o2 hb, h.d12⟩
theorem own_lt {W : World} {q : Nat} {e : TypeId} {s : Nat} {v : Value} {n : Nat} {xs : List Value} (h : W.ownsRow q e s v n xs) {g : Nat} (hg : v.ownBlock = some g) : q ≤ g ∧ g < W.heap.size := by
  rcases h.2 with ⟨h1, _⟩ | ⟨g', cap, cur, h1, h2, h3, _⟩
  · rw [h1] at hg; cases hg
  · rw [h1] at hg
    cases hg
    exact ⟨h2, (Array.getElem?_eq_some_iff.1 h3).1⟩
/-- the first has grown, behind what was laid new -/
theorem T2.app {q : Nat} {W Wx W' : World} {t1 t2 : TypeId} {v1 v2 : Value} {l1 l2 : List Value} {p : Value} {n g cap : Nat} (h : T2 q W t1 t2 v1 v2 l1 l2) (hq : q ≤ W.heap.size) (hn : l1.length = n) (hx : Below W.heap.size W Wx)
    (ho : W'.ownsRow q t1 1 (.slice (some ⟨g, 0, none⟩) (n + 1) cap) (n + 1) (l1 ++ [p])) (hg : Wx.grownBy W' v1.ownBlock) (hat : v1.ownBlock = some g ∨ W.heap.size ≤ g) :
    T2 q W' t1 t2 (.slice (some ⟨g, 0, none⟩) (n + 1) cap) v2 (l1 ++ [p]) l2 ∧ Below q W W' ∧ ∀ b, b < Wx.heap.size → W.heap.size ≤ b → W'.heap[b]? = Wx.heap[b]? := by
  subst hn
  have hxs := hx.size
  have hs := hg.size
  refine ⟨⟨by rw [List.length_append]; exact ho, ?_, fun g' e1 e2 => ?_⟩, ⟨hg.os.trans hx.os, hg.tape.trans hx.tape, hg.output.trans hx.output, by omega, fun k hk => ?_⟩, fun b hb hb2 => hg.block b hb (fun e => by have := (own_lt h.o1 e.symm).2; omega)⟩
  · refine (own_below h.o2 hx).kept hg ?_
    cases hv1 : v1.ownBlock with
    | none => cases hvv : v2.ownBlock with
      | none => exact .inl rfl
      | some k => exact .inr (by intro e; cases e)
    | some k => exact .inr (h.d12 k hv1)
  · have e3 : g = g' := by simpa [Value.ownBlock] using e1
    subst e3
    rcases hat with h1 | h1
    · exact h.d12 g h1 e2
    · have := (own_lt h.o2 e2).2
      omega
  · refine (hg.block k (by omega) (fun e => ?_)).trans (hx.block k (by omega))
    have := (own_lt h.o1 e.symm).1
    omega
end Rf
end
section
namespace Rg
open Go.RowKit
section
variable {P : Program} {md : Region.Mode} {ops : Array Oper} {Q : Exit → Act → World → Prop} {S : World → Prop}
theorem wpOp_in {i : Nat} {o : Oper} {K : Act → World → Prop} {a : Act} {w : World} (ho : ops[i]? = some o) (hw : Region.wanted o (yielded ops a.tmps) = true) (h : o.wp P a w K Q) : wpOp P ops Q i K a w := by
  unfold wpOp
  rw [ho]
  simp only [hw, if_true]
  exact .inl h
theorem wpOp_k {i : Nat} {o : Oper} {K : Act → World → Prop} {a : Act} {w : World} (ho : ops[i]? = some o) (hw : Region.wanted o (yielded ops a.tmps) = true) (h : ∀ K' : Act → World → Prop, (∀ a w, K a w → K' a w) → o.wp P a w K' Q) : wpOp P ops Q i K a w := wpOp_in ho hw (h K fun _ _ h => h)
theorem take_at (i d : Nat) (v : Value) {oi : Oper} {fuel : Nat} {listed : Array Bool} {tm : Array Value} {df : _} {w : World} (hi : ops[i]? = some oi) (hd : oi.dst = some d) (hs : Region.noSelect ops = true) (hf : Region.free md ops listed i = true) (hr : (Region.ready md ops listed).contains i = true) (hQ : ∀ c a w, ¬ Q (.panic c) a w) (hS : S w) (hy : YieldsIf P ops S oi v ⟨tm, df⟩) (h : wpAnyH P md ops Q S fuel (listed.setIfInBounds i true) ⟨tm.setIfInBounds d v, df⟩ w) : wpAnyH P md ops Q S (fuel + 1) listed ⟨tm, df⟩ w := by
  refine wpAnyH_take hi hs hf hr (fun c a w h => (hQ c _ w h).elim) hy hS ?_
  rw [hd]
  exact h
theorem skip_at (i d j : Nat) (want : Bool) {oi : Oper} {fuel : Nat} {listed : Array Bool} {tm : Array Value} {df : _} {w : World} (hi : ops[i]? = some oi) (hd : oi.dst = some d) (hg : oi.guard = some (j, want)) (hj : yielded ops tm j = some (!want)) (hs : Region.noSelect ops = true) (hf : Region.free md ops listed i = true) (hr : (Region.ready md ops listed).contains i = true) (hQ : ∀ c a w, ¬ Q (.panic c) a w) (hS : S w) (h : wpAnyH P md ops Q S fuel (listed.setIfInBounds i true) ⟨tm.setIfInBounds d undef, df⟩ w) : wpAnyH P md ops Q S (fuel + 1) listed ⟨tm, df⟩ w := by
  refine take_at i d undef hi hd hs hf hr hQ hS (Or.inr ⟨?_, rfl⟩) h
  unfold Region.wanted
  rw [hg]
  show (yielded ops tm j == some want) = false
  rw [hj]
  cases want <;> rfl
theorem skipU_at (i d j : Nat) (want : Bool) {oi : Oper} {fuel : Nat} {listed : Array Bool} {tm : Array Value} {df : _} {w : World} (hi : ops[i]? = some oi) (hd : oi.dst = some d) (hg : oi.guard = some (j, want)) (hj : yielded ops tm j = none) (hs : Region.noSelect ops = true) (hf : Region.free md ops listed i = true) (hr : (Region.ready md ops listed).contains i = true) (hQ : ∀ c a w, ¬ Q (.panic c) a w) (hS : S w) (h : wpAnyH P md ops Q S fuel (listed.setIfInBounds i true) ⟨tm.setIfInBounds d undef, df⟩ w) : wpAnyH P md ops Q S (fuel + 1) listed ⟨tm, df⟩ w := by
  refine take_at i d undef hi hd hs hf hr hQ hS (Or.inr ⟨?_, rfl⟩) h
  unfold Region.wanted
  rw [hg]
  show (yielded ops tm j == some want) = false
  rw [hj]
  rfl
theorem wpOp_skip (i d j : Nat) (want : Bool) {o : Oper} {K : Act → World → Prop} {tm : Array Value} {df : _} {w : World} (ho : ops[i]? = some o) (hd : o.dst = some d) (hg : o.guard = some (j, want)) (hj : yielded ops tm j = some (!want)) (h : K ⟨tm.setIfInBounds d undef, df⟩ w) : wpOp P ops Q i K ⟨tm, df⟩ w := by
  have hw : Region.wanted o (yielded ops tm) = false := by
    unfold Region.wanted
    rw [hg]
    show (yielded ops tm j == some want) = false
    rw [hj]
    cases want <;> rfl
  unfold wpOp
  rw [ho]
  simp only [hw]
  rw [hd]
  exact h
/-- those that may come up, one by one -/
theorem ready_at {rs : List Nat} {f : Nat} {l : Array Bool} {a : Act} {w : World} (hr : Region.ready md ops l = rs) (hne : rs ≠ []) (h : ∀ i ∈ rs, wpOp P ops Q i (fun a' w' => S w' ∧ wpAnyH P md ops Q S f (l.setIfInBounds i true) a' w') a w) : wpAnyH P md ops Q S (f + 1) l a w :=
  ⟨fun h0 => absurd (hr ▸ h0) hne, hr ▸ h⟩
theorem ready_one {i : Nat} {f : Nat} {l : Array Bool} {a : Act} {w : World} (hr : Region.ready md ops l = [i]) (h : wpOp P ops Q i (fun a' w' => S w' ∧ wpAnyH P md ops Q S f (l.setIfInBounds i true) a' w') a w) : wpAnyH P md ops Q S (f + 1) l a w :=
  ready_at hr (by simp) (fun j hj => by obtain rfl := List.mem_singleton.1 hj; exact h)
theorem ready_two {i j : Nat} {f : Nat} {l : Array Bool} {a : Act} {w : World} (hr : Region.ready md ops l = [i, j]) (h : wpOp P ops Q i (fun a' w' => S w' ∧ wpAnyH P md ops Q S f (l.setIfInBounds i true) a' w') a w) (h2 : wpOp P ops Q j (fun a' w' => S w' ∧ wpAnyH P md ops Q S f (l.setIfInBounds j true) a' w') a w) : wpAnyH P md ops Q S (f + 1) l a w :=
  ready_at hr (by simp) (fun k hk => by
    rcases List.mem_cons.1 hk with rfl | hk
    · exact h
    · obtain rfl := List.mem_singleton.1 hk; exact h2)
end
end Rg
end
section
namespace Rf
open Go.RowKit Go.Maps
def isV (st : St) (ns : List Ld.Nme) : List Value := ns.map fun n => .bool (st.is n.name)
def ctV (st : St) (ns : List Ld.Nme) : List Value := ns.map fun n => .int .i64 (st.ct n.name)
theorem isV_succ (st : St) (ns : List Ld.Nme) (k : Nat) (h : k < ns.length) : isV st (ns.take (k + 1)) = isV st (ns.take k) ++ [.bool (st.is ns[k].name)] := by
  unfold isV; rw [List.take_succ_eq_append_getElem h, List.map_append]; rfl
theorem ctV_succ (st : St) (ns : List Ld.Nme) (k : Nat) (h : k < ns.length) : ctV st (ns.take (k + 1)) = ctV st (ns.take k) ++ [.int .i64 (st.ct ns[k].name)] := by
  unfold ctV; rw [List.take_succ_eq_append_getElem h, List.map_append]; rfl
/-- what the round of Tells reads -/
def TK (W : World) (b0 b1 b2 bn n : Nat) (st : St) (nm : List UInt8) : Prop :=
  (W.cell? ⟨b0, 0, none⟩ = some (.map (some b1)) ∧ W.cell? ⟨b0, 1, none⟩ = some (.map (some b2)) ∧ W.cell? ⟨bn, 0, none⟩ = some (.string ⟨nm.toArray⟩)) ∧ BM W b1 n st.is ∧ IM W b2 n st.ct
theorem TK.below {W W' : World} {b0 b1 b2 bn n : Nat} {st : St} {nm : List UInt8} (h : TK W b0 b1 b2 bn n st nm) (hb : Below W.heap.size W W') : TK W' b0 b1 b2 bn n st nm := by
  obtain ⟨⟨h1, h2, h3⟩, h4, h5⟩ := h
  have k : ∀ p v, W.cell? p = some v → W'.cell? p = some v := fun p v e => (hb.cell (World.block_lt_of_cell? _ _ e)).trans e
  exact ⟨⟨k _ _ h1, k _ _ h2, k _ _ h3⟩, h4.below hb, h5.below hb⟩
theorem TK.grow {W W' : World} {q b0 b1 b2 bn n : Nat} {st : St} {nm : List UInt8} {ob : Option Nat} (h : TK W b0 b1 b2 bn n st nm) (hg : W.grownBy W' ob) (hq : b0 < q ∧ b1 < q ∧ b2 < q) (ho : ∀ g, ob = some g → q ≤ g ∧ g < bn) : TK W' b0 b1 b2 bn n st nm := by
  obtain ⟨⟨h1, h2, h3⟩, h4, h5⟩ := h
  have k : ∀ b, b < W.heap.size → b < q ∨ b = bn → W'.heap[b]? = W.heap[b]? := fun b hb hx => hg.block b hb (fun e => by have := ho b e.symm; omega)
  have c : ∀ b i v, b < q ∨ b = bn → W.cell? ⟨b, i, none⟩ = some v → W'.cell? ⟨b, i, none⟩ = some v := fun b i v hx e => by
    rw [World.cell?_of_block (k b (World.block_lt_of_cell? _ _ e) hx)]; exact e
  exact ⟨⟨c _ _ _ (.inl hq.1) h1, c _ _ _ (.inl hq.1) h2, c _ _ _ (.inr rfl) h3⟩, h4.kept (k _ h4.lt (.inl hq.2.1)), h5.kept (k _ h5.lt (.inl hq.2.2))⟩
def TKS (b0 b1 b2 bn : Nat) (st : St) (nm : List UInt8) (W : World) : Prop :=
  (W.cell? ⟨b0, 0, none⟩ = some (.map (some b1)) ∧ W.cell? ⟨b0, 1, none⟩ = some (.map (some b2))) ∧ W.cell? ⟨bn, 0, none⟩ = some (.string ⟨nm.toArray⟩) ∧
  (Instr.lookup 120 (.map (some b1)) (.string ⟨nm.toArray⟩) false).run Tryz.prog W = .ok (.bool (st.is nm)) W ∧ (Instr.lookup 121 (.map (some b2)) (.string ⟨nm.toArray⟩) false).run Tryz.prog W = .ok (.int .i64 (st.ct nm)) W
theorem TK.s {W : World} {b0 b1 b2 bn n : Nat} {st : St} {nm : List UInt8} (h : TK W b0 b1 b2 bn n st nm) (hn : nm.length ≤ maxLen) : TKS b0 b1 b2 bn st nm W :=
  ⟨⟨h.1.1, h.1.2.1⟩, h.1.2.2, h.2.1.look nm hn, h.2.2.look nm hn⟩
set_option linter.unusedSimpArgs false in
set_option maxHeartbeats 4000000 in
set_option maxRecDepth 100000 in
theorem Tells_any (ns : List Ld.Nme) (nv rv sv : Value) (n : Nat) (st : St) (w : World) (hn : NamesAt w nv ns) (hr : ∃ a n c, rv = .slice a n c) (hs : StIs w sv n st) :
    Calls Tryz.prog 62 #[sv, .agg #[nv, rv]] w fun e w' => Below w.heap.size w w' ∧ ∃ v1 v2, e = .returned (.tuple #[v1, v2]) ∧ T2 w.heap.size w' 4 3 v1 v2 (isV st ns) (ctV st ns) := by
  obtain ⟨ra, rn, rc, rfl⟩ := hr
  obtain ⟨b1, b2, rfl, h1, h2, hct⟩ := hs
  have HNA := hide hn
  have HM1 := hide h1
  have HM2 := hide h2
  obtain ⟨na, nc, rfl, hlen⟩ := hn.slice
  obtain ⟨m, hmm⟩ : ∃ m, m = ns.length := ⟨_, rfl⟩
  have HM := hide hmm
  rw [← hmm] at HNA hlen ⊢
  obtain ⟨wA, hwA⟩ : ∃ wA, wA = w.alloc (.cells #[.map (some b1), .map (some b2)] 123) := ⟨_, rfl⟩
  obtain ⟨wB, hwB⟩ : ∃ wB, wB = wA.alloc (.cells #[.slice na m nc, .slice ra rn rc] 45) := ⟨_, rfl⟩
  have zA : wA.heap.size = w.heap.size + 1 := by rw [hwA]; simp
  have zB : wB.heap.size = w.heap.size + 1 + 1 := by rw [hwB]; simp [zA]
  have bA : Below w.heap.size w wA := by rw [hwA]; exact (Below.refl _ _).alloc (Nat.le_refl _) _
  have bB : Below wA.heap.size wA wB := by rw [hwB]; exact (Below.refl _ _).alloc (Nat.le_refl _) _
  have HBB : Hid (Below w.heap.size w wB) := then_ bA bB
  have k0 : wB.heap[w.heap.size]? = some (.cells #[.map (some b1), .map (some b2)] 123 (0, 0)) := by
    rw [bB.block _ (by omega), hwA]; exact heap_alloc_new _ _
  have k1 : wB.heap[w.heap.size + 1]? = some (.cells #[.slice na m nc, .slice ra rn rc] 45 (0, 0)) := by
    rw [hwB, ← zA]; exact heap_alloc_new _ _
  have HBX : Hid (∀ W, Below wB.heap.size wB W → (W.cell? ⟨w.heap.size, 0, none⟩ = some (.map (some b1)) ∧ W.cell? ⟨w.heap.size, 1, none⟩ = some (.map (some b2))) ∧ (W.cell? ⟨w.heap.size + 1, 0, none⟩ = some (.slice na m nc) ∧ W.cell? ⟨w.heap.size + 1, 1, none⟩ = some (.slice ra rn rc))) := fun W h => by
    have e0 := (h.block w.heap.size (by omega)).trans k0
    have e1 := (h.block (w.heap.size + 1) (by omega)).trans k1
    refine ⟨⟨?_, ?_⟩, ⟨?_, ?_⟩⟩
    · rw [Lib.cell_of_heap e0]; rfl
    · rw [Lib.cell_of_heap e0]; rfl
    · rw [Lib.cell_of_heap e1]; rfl
    · rw [Lib.cell_of_heap e1]; rfl
  obtain ⟨⟨c0, c1⟩, ⟨c2, c3⟩⟩ := HBX.out wB (Below.refl _ _)
  have HWB : Hid (wB = (w.alloc (.cells #[.map (some b1), .map (some b2)] 123)).alloc (.cells #[.slice na m nc, .slice ra rn rc] 45)) := by rw [hwB, hwA]; rfl
  rw [HWB.out] at c0 c1 c2 c3
  clear hn h1 h2 hct hmm bA bB k0 k1 hwA hwB
  go_enter Tryz.func62, Tryz.ntmps62
  go_wp2_with fail
  rw [← HWB.out]
  go_loopw [6, 7, 13] (fun v1 v2 i wr => ∃ k : Nat, k ≤ m ∧ i = .int .i64 (k : Int) ∧ (∃ a c, v1 = .slice a k c) ∧ (∃ a c, v2 = .slice a k c) ∧ Hid (T2 wB.heap.size wr 4 3 v1 v2 (isV st (ns.take k)) (ctV st (ns.take k))) ∧ Hid (Below wB.heap.size wB wr)) (fun _ _ i _ => m - (intOf i).toNat)
  case atStart => exact ⟨0, Nat.zero_le _, rfl, ⟨_, _, rfl⟩, ⟨_, _, rfl⟩, ⟨World.ownsRow_nil _ _ _ _, World.ownsRow_nil _ _ _ _, fun g e => by cases e⟩, Below.refl _ _⟩
  case round =>
    obtain ⟨k, hk, rfl, ⟨a1, cc1, rfl⟩, ⟨a2, cc2, rfl⟩, HT, HB⟩ := hrel
    have hzB := HB.out.size
    by_cases hlt : k < m
    · have hkl : k < ns.length := by rw [← HM.out]; exact hlt
      obtain ⟨gN, rfl, hcp, e1, e2, e3, hnl, _, _⟩ := (HNA.out.below (HBB.out.trans (HB.out.mono HBB.out.size))).at_ (List.getElem?_eq_getElem hkl)
      have HIS := hide (isV_succ st ns k hkl)
      have HCS := hide (ctV_succ st ns k hkl)
      have hki : (k : Int) < (m : Int) := by omega
      generalize ns[k] = y at *
      obtain ⟨nm, kd, ct⟩ := y
      dsimp only at e1 e2 e3 hnl HIS HCS
      have HLI : Hid ((isV st (ns.take k)).length = k) := by have := HM.out; show _ = _; simp [isV]; omega
      have HLC : Hid ((ctV st (ns.take k)).length = k) := by have := HM.out; show _ = _; simp [ctV]; omega
      have hkb : k < 1000000 := by omega
      obtain ⟨i1, hi1, hz10, hz11, hz12⟩ := info_parts Tryz.infoBool
      obtain ⟨i2, hi2, hz20, hz21, hz22⟩ := info_parts Tryz.infoInt
      have hbw : Below w.heap.size w wr := HBB.out.trans (HB.out.mono HBB.out.size)
      have HNM : Hid (nm.length ≤ maxLen) := hnl
      obtain ⟨⟨x0, x1⟩, _⟩ := HBX.out wr HB.out
      obtain ⟨wN, hwN⟩ : ∃ wN, wN = wr.alloc (.cells #[.string ⟨nm.toArray⟩, .int .i64 kd, .int .i64 ct] 144) := ⟨_, rfl⟩
      have hbN : Below wr.heap.size wr wN := by rw [hwN]; exact (Below.refl _ _).alloc (Nat.le_refl _) _
      have hzN : wN.heap.size = wr.heap.size + 1 := by rw [hwN]; simp
      have hnb : wN.cell? ⟨wr.heap.size, 0, none⟩ = some (.string ⟨nm.toArray⟩) := by rw [hwN]; exact Lib.cell_of_heap (heap_alloc_new wr _) 0
      have hkeep : ∀ p v, wr.cell? p = some v → wN.cell? p = some v := fun p v e => (hbN.cell (World.block_lt_of_cell? _ _ e)).trans e
      have HTK : Hid (TK wN w.heap.size b1 b2 wr.heap.size n st nm) := ⟨⟨hkeep _ _ x0, hkeep _ _ x1, hnb⟩, (HM1.out.below hbw).below hbN, (HM2.out.below hbw).below hbN⟩
      have HQ : Hid (w.heap.size < wB.heap.size ∧ b1 < wB.heap.size ∧ b2 < wB.heap.size) := by
        have h1 := HM1.out.lt
        have h2 := HM2.out.lt
        refine ⟨?_, ?_, ?_⟩ <;> omega
      have HO1 : Hid (∀ g, (Value.slice a1 k cc1).ownBlock = some g → wB.heap.size ≤ g ∧ g < wr.heap.size) := fun g e => own_lt HT.out.o1 e
      have HO2 : Hid (∀ g, (Value.slice a2 k cc2).ownBlock = some g → wB.heap.size ≤ g ∧ g < wr.heap.size) := fun g e => own_lt HT.out.o2 e
      have HBN := hide hbN
      have HDN : Hid (Below wr.heap.size wr wN.drew) := ⟨hbN.os, hbN.tape, hbN.output, hbN.size, hbN.block⟩
      have HWN := hide hwN
      have HZN := hide hzN
      have HONE : Hid (∀ v : Value, v.oneCell' = true → ∀ u ∈ [v], u.oneCell' = true) := fun v hv u hu => by
        obtain rfl := List.mem_singleton.1 hu
        exact hv
      generalize isV st (ns.take k) = l1 at *
      generalize ctV st (ns.take k) = l2 at *
      have HFIN : Hid (∀ W g1 k1 g2 k2, T2 wB.heap.size W 4 3 (.slice (some ⟨g1, 0, none⟩) (k + 1) k1) (.slice (some ⟨g2, 0, none⟩) (k + 1) k2) (l1 ++ [.bool (st.is nm)]) (l2 ++ [.int .i64 (st.ct nm)]) → T2 wB.heap.size W 4 3 (.slice (some ⟨g1, 0, none⟩) (k + 1) k1) (.slice (some ⟨g2, 0, none⟩) (k + 1) k2) (isV st (ns.take (k + 1))) (ctV st (ns.take (k + 1)))) := fun W g1 k1 g2 k2 h => by rw [HIS.out, HCS.out]; exact h
      clear hbw hbN hzN hnb hkeep hwN x0 x1
      go_wp2_with fail
      rw [← HWN.out]
      clear HWN
      refine wp_region_noPanic ?_
      refine wp_region_held_drew (S := TKS w.heap.size b1 b2 wr.heap.size st nm) (by kernel_rfl) ((TK.below (W' := wN.drew) HTK.out ⟨rfl, rfl, rfl, Nat.le_refl _, fun _ _ => rfl⟩).s HNM.out) (fun hHeld => ?_)
      refine Rg.take_at 0 17 (.slice a1 k cc1) rfl rfl (by kernel_rfl) (by kernel_rfl) (by kernel_rfl) (fun _ _ _ h => h) hHeld (Or.inl ⟨by rfl, ?_⟩) ?_
      · rintro Z ⟨⟨z0, z1⟩, z2, z3, z4⟩
        go_simp
      try simp only [List.setIfInBounds_toArray, List.set_cons_zero, List.set_cons_succ]
      refine Rg.take_at 1 18 (.pointer (some ⟨w.heap.size, 0, none⟩)) rfl rfl (by kernel_rfl) (by kernel_rfl) (by kernel_rfl) (fun _ _ _ h => h) hHeld (Or.inl ⟨by rfl, ?_⟩) ?_
      · rintro Z ⟨⟨z0, z1⟩, z2, z3, z4⟩
        go_simp
      try simp only [List.setIfInBounds_toArray, List.set_cons_zero, List.set_cons_succ]
      refine Rg.take_at 2 19 (.map (some b1)) rfl rfl (by kernel_rfl) (by kernel_rfl) (by kernel_rfl) (fun _ _ _ h => h) hHeld (Or.inl ⟨by rfl, ?_⟩) ?_
      · rintro Z ⟨⟨z0, z1⟩, z2, z3, z4⟩
        go_simp
      try simp only [List.setIfInBounds_toArray, List.set_cons_zero, List.set_cons_succ]
      refine Rg.take_at 3 20 (.pointer (some ⟨wr.heap.size, 0, none⟩)) rfl rfl (by kernel_rfl) (by kernel_rfl) (by kernel_rfl) (fun _ _ _ h => h) hHeld (Or.inl ⟨by rfl, ?_⟩) ?_
      · rintro Z ⟨⟨z0, z1⟩, z2, z3, z4⟩
        go_simp
      try simp only [List.setIfInBounds_toArray, List.set_cons_zero, List.set_cons_succ]
      refine Rg.take_at 4 21 (.string ⟨nm.toArray⟩) rfl rfl (by kernel_rfl) (by kernel_rfl) (by kernel_rfl) (fun _ _ _ h => h) hHeld (Or.inl ⟨by rfl, ?_⟩) ?_
      · rintro Z ⟨⟨z0, z1⟩, z2, z3, z4⟩
        go_simp
      try simp only [List.setIfInBounds_toArray, List.set_cons_zero, List.set_cons_succ]
      refine Rg.take_at 5 22 (.bool (st.is nm)) rfl rfl (by kernel_rfl) (by kernel_rfl) (by kernel_rfl) (fun _ _ _ h => h) hHeld (Or.inl ⟨by rfl, ?_⟩) ?_
      · rintro Z ⟨⟨z0, z1⟩, z2, z3, z4⟩
        go_simp
      try simp only [List.setIfInBounds_toArray, List.set_cons_zero, List.set_cons_succ]
      refine Rg.take_at 8 25 (.slice a2 k cc2) rfl rfl (by kernel_rfl) (by kernel_rfl) (by kernel_rfl) (fun _ _ _ h => h) hHeld (Or.inl ⟨by rfl, ?_⟩) ?_
      · rintro Z ⟨⟨z0, z1⟩, z2, z3, z4⟩
        go_simp
      try simp only [List.setIfInBounds_toArray, List.set_cons_zero, List.set_cons_succ]
      refine Rg.take_at 9 26 (.pointer (some ⟨w.heap.size, 1, none⟩)) rfl rfl (by kernel_rfl) (by kernel_rfl) (by kernel_rfl) (fun _ _ _ h => h) hHeld (Or.inl ⟨by rfl, ?_⟩) ?_
      · rintro Z ⟨⟨z0, z1⟩, z2, z3, z4⟩
        go_simp
      try simp only [List.setIfInBounds_toArray, List.set_cons_zero, List.set_cons_succ]
      refine Rg.take_at 10 27 (.map (some b2)) rfl rfl (by kernel_rfl) (by kernel_rfl) (by kernel_rfl) (fun _ _ _ h => h) hHeld (Or.inl ⟨by rfl, ?_⟩) ?_
      · rintro Z ⟨⟨z0, z1⟩, z2, z3, z4⟩
        go_simp
      try simp only [List.setIfInBounds_toArray, List.set_cons_zero, List.set_cons_succ]
      refine Rg.take_at 11 28 (.pointer (some ⟨wr.heap.size, 0, none⟩)) rfl rfl (by kernel_rfl) (by kernel_rfl) (by kernel_rfl) (fun _ _ _ h => h) hHeld (Or.inl ⟨by rfl, ?_⟩) ?_
      · rintro Z ⟨⟨z0, z1⟩, z2, z3, z4⟩
        go_simp
      try simp only [List.setIfInBounds_toArray, List.set_cons_zero, List.set_cons_succ]
      refine Rg.take_at 12 29 (.string ⟨nm.toArray⟩) rfl rfl (by kernel_rfl) (by kernel_rfl) (by kernel_rfl) (fun _ _ _ h => h) hHeld (Or.inl ⟨by rfl, ?_⟩) ?_
      · rintro Z ⟨⟨z0, z1⟩, z2, z3, z4⟩
        go_simp
      try simp only [List.setIfInBounds_toArray, List.set_cons_zero, List.set_cons_succ]
      refine Rg.take_at 13 30 (.int .i64 (st.ct nm)) rfl rfl (by kernel_rfl) (by kernel_rfl) (by kernel_rfl) (fun _ _ _ h => h) hHeld (Or.inl ⟨by rfl, ?_⟩) ?_
      · rintro Z ⟨⟨z0, z1⟩, z2, z3, z4⟩
        go_simp
      try simp only [List.setIfInBounds_toArray, List.set_cons_zero, List.set_cons_succ]
      obtain ⟨wD, hwD⟩ : ∃ wD, wD = wN.drew := ⟨_, rfl⟩
      have HTD : Hid (TK wD w.heap.size b1 b2 wr.heap.size n st nm) := by rw [hwD]; exact TK.below (W' := wN.drew) HTK.out ⟨rfl, rfl, rfl, Nat.le_refl _, fun _ _ => rfl⟩
      rw [← hwD] at HDN ⊢
      have hzD : wr.heap.size ≤ wD.heap.size := by rw [hwD]; have := HZN.out; show wr.heap.size ≤ wN.heap.size; omega
      clear hwD hHeld HTK
      have HA1 : Hid (∀ (X W1 : World) (g1 k1 : Nat), Below wr.heap.size wr X → TK X w.heap.size b1 b2 wr.heap.size n st nm → W1.ownsRow wB.heap.size 4 1 (.slice (some ⟨g1, 0, none⟩) (k + 1) k1) (k + 1) (l1 ++ [.bool (st.is nm)]) → X.grownBy W1 (Value.slice a1 k cc1).ownBlock → ((Value.slice a1 k cc1).ownBlock = some g1 ∨ g1 = X.heap.size) →
          T2 wB.heap.size W1 4 3 (.slice (some ⟨g1, 0, none⟩) (k + 1) k1) (.slice a2 k cc2) (l1 ++ [.bool (st.is nm)]) l2 ∧ Below wB.heap.size wr W1 ∧ TK W1 w.heap.size b1 b2 wr.heap.size n st nm ∧ ∀ b, b < X.heap.size → wr.heap.size ≤ b → W1.heap[b]? = X.heap[b]?) := fun X W1 g1 k1 hX hK h1 h2 h3 => by
        have hz := hX.size
        obtain ⟨x1, x2, x3⟩ := HT.out.app hzB HLI.out hX h1 h2 (h3.imp id (fun e => by omega))
        exact ⟨x1, x2, hK.grow h2 HQ.out HO1.out, x3⟩
      have HA2 : Hid (∀ (W1 X W2 : World) (g1 k1 g2 k2 : Nat), T2 wB.heap.size W1 4 3 (.slice (some ⟨g1, 0, none⟩) (k + 1) k1) (.slice a2 k cc2) (l1 ++ [.bool (st.is nm)]) l2 → Below wB.heap.size wr W1 → Below W1.heap.size W1 X → TK X w.heap.size b1 b2 wr.heap.size n st nm → W2.ownsRow wB.heap.size 3 1 (.slice (some ⟨g2, 0, none⟩) (k + 1) k2) (k + 1) (l2 ++ [.int .i64 (st.ct nm)]) → X.grownBy W2 (Value.slice a2 k cc2).ownBlock → ((Value.slice a2 k cc2).ownBlock = some g2 ∨ W1.heap.size ≤ g2) →
          T2 wB.heap.size W2 4 3 (.slice (some ⟨g1, 0, none⟩) (k + 1) k1) (.slice (some ⟨g2, 0, none⟩) (k + 1) k2) (isV st (ns.take (k + 1))) (ctV st (ns.take (k + 1))) ∧ Below wB.heap.size wB W2 ∧ TK W2 w.heap.size b1 b2 wr.heap.size n st nm) := fun W1 X W2 g1 k1 g2 k2 hT hB hX hK h1 h2 h3 => by
        have hz1 := hB.size
        obtain ⟨x1, x2, x3⟩ := hT.rot.app (by omega) HLC.out hX h1 h2 h3
        exact ⟨HFIN.out _ _ _ _ _ x1.rot, HB.out.trans (hB.trans x2), hK.grow h2 HQ.out HO2.out⟩
      have HOW1 : Hid (∀ X, Below wr.heap.size wr X → X.ownsRow wB.heap.size 4 1 (.slice a1 k cc1) k l1) := fun X hX => by have h := own_below HT.out.o1 hX; rw [HLI.out] at h; exact h
      have HOW2 : Hid (∀ (W1 X : World) (g1 k1 : Nat), T2 wB.heap.size W1 4 3 (.slice (some ⟨g1, 0, none⟩) (k + 1) k1) (.slice a2 k cc2) (l1 ++ [.bool (st.is nm)]) l2 → Below W1.heap.size W1 X → X.ownsRow wB.heap.size 3 1 (.slice a2 k cc2) k l2) := fun W1 X g1 k1 hT hX => by have h := own_below hT.o2 hX; rw [HLC.out] at h; exact h
      have HAL : Hid (∀ (X : World) (o : Obj), Below wr.heap.size wr X → Below wr.heap.size wr (X.alloc o)) := fun X o h => h.alloc h.size o
      have HTA : Hid (∀ (X : World) (o : Obj), TK X w.heap.size b1 b2 wr.heap.size n st nm → TK (X.alloc o) w.heap.size b1 b2 wr.heap.size n st nm) := fun X o h => h.below ((Below.refl _ _).alloc (Nat.le_refl _) _)
      clear HIS HCS
      refine Rg.ready_two (i := 6) (j := 14) (by kernel_rfl) ?_ ?_
      · refine Rg.wpOp_k rfl (by rfl) (fun K' hK => ?_)
        go_simp
        refine hK _ _ ?_
        clear hK K'
        have HB6 := hide (HAL.out wD (.cells #[.bool (st.is nm)] 4) HDN.out)
        have HT6 := hide (HTA.out wD (.cells #[.bool (st.is nm)] 4) HTD.out)
        refine ⟨HT6.out.s HNM.out, ?_⟩
        try simp only [Act.put, List.setIfInBounds_toArray, List.set_cons_zero, List.set_cons_succ]
        refine Rg.ready_two (i := 7) (j := 14) (by kernel_rfl) ?_ ?_
        · have HBX := HB6
          have HTX := HT6
          have HZX : Hid (wB.heap.size ≤ (wD.alloc (.cells #[.bool (st.is nm)] 4)).heap.size) := by show _ ≤ _; simp; omega
          refine Rg.wpOp_k rfl (by rfl) (fun K' hK => ?_)
          refine wp_append_lies _ (.tmp 17) (.tmp 23) 51 rfl wB.heap.size 4 i1 _ 1 1 Tryz.underlying51 hi1 hz10 hz11 hz12 rfl (by decide) (.slice a1 k cc1) k l1 rfl (HOW1.out _ HBX.out) ⟨wD.heap.size, 0, none⟩ 1 1 [.bool (st.is nm)] rfl rfl (World.news_of_block (heap_alloc_new wD _)) (HONE.out _ rfl) (by decide) (by unfold maxLen; omega) (by omega) HZX.out _ rfl ?_
          intro g1 k1 W1 hown hgrow hat hltg
          obtain ⟨x1, x2, x3, x4⟩ := HA1.out _ W1 g1 k1 HBX.out HTX.out hown hgrow hat
          have HT1 := hide x1
          have HB1 := hide x2
          have HK1 := hide x3
          have HX4 := hide x4
          clear hown hgrow hat hltg x1 x2 x3 x4
          refine hK _ _ ?_
          clear hK K'
          refine ⟨HK1.out.s HNM.out, ?_⟩
          try simp only [Act.put, List.setIfInBounds_toArray, List.set_cons_zero, List.set_cons_succ]
          refine Rg.ready_one (i := 14) (by kernel_rfl) ?_
          refine Rg.wpOp_k rfl (by rfl) (fun K' hK => ?_)
          go_simp
          refine hK _ _ ?_
          clear hK K'
          have HBY : Hid (Below W1.heap.size W1 (W1.alloc (.cells #[.int .i64 (st.ct nm)] 3))) := (Below.refl _ _).alloc (Nat.le_refl _) _
          have HKY := hide (HTA.out W1 (.cells #[.int .i64 (st.ct nm)] 3) HK1.out)
          have HZY : Hid (wB.heap.size ≤ (W1.alloc (.cells #[.int .i64 (st.ct nm)] 3)).heap.size) := by have := HB1.out.size; show _ ≤ _; simp; omega
          refine ⟨HKY.out.s HNM.out, ?_⟩
          try simp only [Act.put, List.setIfInBounds_toArray, List.set_cons_zero, List.set_cons_succ]
          refine Rg.ready_one (i := 15) (by kernel_rfl) ?_
          refine Rg.wpOp_k rfl (by rfl) (fun K' hK => ?_)
          refine wp_append_lies _ (.tmp 25) (.tmp 31) 36 rfl wB.heap.size 3 i2 _ 1 8 Tryz.underlying36 hi2 hz20 hz21 hz22 rfl (by decide) (.slice a2 k cc2) k l2 rfl (HOW2.out W1 _ g1 k1 HT1.out HBY.out) ⟨W1.heap.size, 0, none⟩ 1 1 [.int .i64 (st.ct nm)] rfl rfl (World.news_of_block (heap_alloc_new W1 _)) (HONE.out _ rfl) (by decide) (by unfold maxLen; omega) (by omega) HZY.out _ rfl ?_
          intro g2 k2 W2 hown hgrow hat hltg
          obtain ⟨x1, x2, x3⟩ := HA2.out W1 _ W2 g1 k1 g2 k2 HT1.out HB1.out HBY.out HKY.out hown hgrow (hat.imp id (fun e => by have := HBY.out.size; omega))
          have HT2 := hide x1
          have HB2 := hide x2
          have hHeld := x3.s HNM.out
          clear hown hgrow hat hltg x1 x2 x3
          refine hK _ _ ?_
          clear hK K'
          refine ⟨hHeld, ?_⟩
          try simp only [Act.put, List.setIfInBounds_toArray, List.set_cons_zero, List.set_cons_succ]
          refine Rg.take_at 16 6 (.slice (some ⟨g1, 0, none⟩) (k + 1) k1) rfl rfl (by kernel_rfl) (by kernel_rfl) (by kernel_rfl) (fun _ _ _ h => h) hHeld (Or.inl ⟨by rfl, ?_⟩) ?_
          · rintro Z ⟨⟨z0, z1⟩, z2, z3, z4⟩
            go_simp
          try simp only [List.setIfInBounds_toArray, List.set_cons_zero, List.set_cons_succ]
          refine Rg.take_at 17 7 (.slice (some ⟨g2, 0, none⟩) (k + 1) k2) rfl rfl (by kernel_rfl) (by kernel_rfl) (by kernel_rfl) (fun _ _ _ h => h) hHeld (Or.inl ⟨by rfl, ?_⟩) ?_
          · rintro Z ⟨⟨z0, z1⟩, z2, z3, z4⟩
            go_simp
          try simp only [List.setIfInBounds_toArray, List.set_cons_zero, List.set_cons_succ]
          refine wpAnyH_done (by kernel_rfl) ?_ _
          refine NoPanic.normal ?_
          go_wp2_with fail
          go_roundw
          case rel => exact ⟨k + 1, by omega, by go_num, ⟨_, _, rfl⟩, ⟨_, _, rfl⟩, HT2.out, HB2.out⟩
          case measure => simp [intOf]; omega
        · refine Rg.wpOp_k rfl (by rfl) (fun K' hK => ?_)
          go_simp
          refine hK _ _ ?_
          clear hK K'
          have HBX := hide (HAL.out _ (.cells #[.int .i64 (st.ct nm)] 3) HB6.out)
          have HTX := hide (HTA.out _ (.cells #[.int .i64 (st.ct nm)] 3) HT6.out)
          have HZX : Hid (wB.heap.size ≤ ((wD.alloc (.cells #[.bool (st.is nm)] 4)).alloc (.cells #[.int .i64 (st.ct nm)] 3)).heap.size) := by show _ ≤ _; simp; omega
          refine ⟨HTX.out.s HNM.out, ?_⟩
          try simp only [Act.put, List.setIfInBounds_toArray, List.set_cons_zero, List.set_cons_succ]
          refine Rg.ready_one (i := 7) (by kernel_rfl) ?_
          refine Rg.wpOp_k rfl (by rfl) (fun K' hK => ?_)
          refine wp_append_lies _ (.tmp 17) (.tmp 23) 51 rfl wB.heap.size 4 i1 _ 1 1 Tryz.underlying51 hi1 hz10 hz11 hz12 rfl (by decide) (.slice a1 k cc1) k l1 rfl (HOW1.out _ HBX.out) ⟨wD.heap.size, 0, none⟩ 1 1 [.bool (st.is nm)] rfl rfl (World.news_of_block ((Below.heap_alloc (wD.alloc (.cells #[.bool (st.is nm)] 4)) _ wD.heap.size (by simp)).trans (heap_alloc_new wD _))) (HONE.out _ rfl) (by decide) (by unfold maxLen; omega) (by omega) HZX.out _ rfl ?_
          intro g1 k1 W1 hown hgrow hat hltg
          obtain ⟨x1, x2, x3, x4⟩ := HA1.out _ W1 g1 k1 HBX.out HTX.out hown hgrow hat
          have HT1 := hide x1
          have HB1 := hide x2
          have HK1 := hide x3
          have HX4 := hide x4
          clear hown hgrow hat hltg x1 x2 x3 x4
          refine hK _ _ ?_
          clear hK K'
          refine ⟨HK1.out.s HNM.out, ?_⟩
          try simp only [Act.put, List.setIfInBounds_toArray, List.set_cons_zero, List.set_cons_succ]
          have HBY : Hid (Below W1.heap.size W1 W1) := Below.refl _ _
          have HKY := HK1
          have HZY : Hid (wB.heap.size ≤ W1.heap.size) := by have := HB1.out.size; show _ ≤ _; omega
          have HN2 : Hid (W1.heap[wD.heap.size + 1]? = some (.cells #[.int .i64 (st.ct nm)] 3 (0, 0))) := by
            show _ = _
            rw [HX4.out _ (by simp; try omega) (by omega)]
            have h := heap_alloc_new (wD.alloc (.cells #[.bool (st.is nm)] 4)) (.cells #[.int .i64 (st.ct nm)] 3)
            rw [World.size_alloc] at h
            exact h
          refine Rg.ready_one (i := 15) (by kernel_rfl) ?_
          refine Rg.wpOp_k rfl (by rfl) (fun K' hK => ?_)
          refine wp_append_lies _ (.tmp 25) (.tmp 31) 36 rfl wB.heap.size 3 i2 _ 1 8 Tryz.underlying36 hi2 hz20 hz21 hz22 rfl (by decide) (.slice a2 k cc2) k l2 rfl (HOW2.out W1 _ g1 k1 HT1.out HBY.out) ⟨wD.heap.size + 1, 0, none⟩ 1 1 [.int .i64 (st.ct nm)] rfl rfl (World.news_of_block (HN2.out)) (HONE.out _ rfl) (by decide) (by unfold maxLen; omega) (by omega) HZY.out _ rfl ?_
          intro g2 k2 W2 hown hgrow hat hltg
          obtain ⟨x1, x2, x3⟩ := HA2.out W1 _ W2 g1 k1 g2 k2 HT1.out HB1.out HBY.out HKY.out hown hgrow (hat.imp id (fun e => by have := HBY.out.size; omega))
          have HT2 := hide x1
          have HB2 := hide x2
          have hHeld := x3.s HNM.out
          clear hown hgrow hat hltg x1 x2 x3
          refine hK _ _ ?_
          clear hK K'
          refine ⟨hHeld, ?_⟩
          try simp only [Act.put, List.setIfInBounds_toArray, List.set_cons_zero, List.set_cons_succ]
          refine Rg.take_at 16 6 (.slice (some ⟨g1, 0, none⟩) (k + 1) k1) rfl rfl (by kernel_rfl) (by kernel_rfl) (by kernel_rfl) (fun _ _ _ h => h) hHeld (Or.inl ⟨by rfl, ?_⟩) ?_
          · rintro Z ⟨⟨z0, z1⟩, z2, z3, z4⟩
            go_simp
          try simp only [List.setIfInBounds_toArray, List.set_cons_zero, List.set_cons_succ]
          refine Rg.take_at 17 7 (.slice (some ⟨g2, 0, none⟩) (k + 1) k2) rfl rfl (by kernel_rfl) (by kernel_rfl) (by kernel_rfl) (fun _ _ _ h => h) hHeld (Or.inl ⟨by rfl, ?_⟩) ?_
          · rintro Z ⟨⟨z0, z1⟩, z2, z3, z4⟩
            go_simp
          try simp only [List.setIfInBounds_toArray, List.set_cons_zero, List.set_cons_succ]
          refine wpAnyH_done (by kernel_rfl) ?_ _
          refine NoPanic.normal ?_
          go_wp2_with fail
          go_roundw
          case rel => exact ⟨k + 1, by omega, by go_num, ⟨_, _, rfl⟩, ⟨_, _, rfl⟩, HT2.out, HB2.out⟩
          case measure => simp [intOf]; omega
      · refine Rg.wpOp_k rfl (by rfl) (fun K' hK => ?_)
        go_simp
        refine hK _ _ ?_
        clear hK K'
        have HB6 := hide (HAL.out wD (.cells #[.int .i64 (st.ct nm)] 3) HDN.out)
        have HT6 := hide (HTA.out wD (.cells #[.int .i64 (st.ct nm)] 3) HTD.out)
        refine ⟨HT6.out.s HNM.out, ?_⟩
        try simp only [Act.put, List.setIfInBounds_toArray, List.set_cons_zero, List.set_cons_succ]
        refine Rg.ready_one (i := 6) (by kernel_rfl) ?_
        refine Rg.wpOp_k rfl (by rfl) (fun K' hK => ?_)
        go_simp
        refine hK _ _ ?_
        clear hK K'
        have HBX := hide (HAL.out _ (.cells #[.bool (st.is nm)] 4) HB6.out)
        have HTX := hide (HTA.out _ (.cells #[.bool (st.is nm)] 4) HT6.out)
        have HZX : Hid (wB.heap.size ≤ ((wD.alloc (.cells #[.int .i64 (st.ct nm)] 3)).alloc (.cells #[.bool (st.is nm)] 4)).heap.size) := by show _ ≤ _; simp; omega
        refine ⟨HTX.out.s HNM.out, ?_⟩
        try simp only [Act.put, List.setIfInBounds_toArray, List.set_cons_zero, List.set_cons_succ]
        refine Rg.ready_one (i := 7) (by kernel_rfl) ?_
        have HN1 : Hid (((wD.alloc (.cells #[.int .i64 (st.ct nm)] 3)).alloc (.cells #[.bool (st.is nm)] 4)).heap[wD.heap.size + 1]? = some (.cells #[.bool (st.is nm)] 4 (0, 0))) := by
          show _ = _
          have h := heap_alloc_new (wD.alloc (.cells #[.int .i64 (st.ct nm)] 3)) (.cells #[.bool (st.is nm)] 4)
          rw [World.size_alloc] at h
          exact h
        refine Rg.wpOp_k rfl (by rfl) (fun K' hK => ?_)
        refine wp_append_lies _ (.tmp 17) (.tmp 23) 51 rfl wB.heap.size 4 i1 _ 1 1 Tryz.underlying51 hi1 hz10 hz11 hz12 rfl (by decide) (.slice a1 k cc1) k l1 rfl (HOW1.out _ HBX.out) ⟨wD.heap.size + 1, 0, none⟩ 1 1 [.bool (st.is nm)] rfl rfl (World.news_of_block (HN1.out)) (HONE.out _ rfl) (by decide) (by unfold maxLen; omega) (by omega) HZX.out _ rfl ?_
        intro g1 k1 W1 hown hgrow hat hltg
        obtain ⟨x1, x2, x3, x4⟩ := HA1.out _ W1 g1 k1 HBX.out HTX.out hown hgrow hat
        have HT1 := hide x1
        have HB1 := hide x2
        have HK1 := hide x3
        have HX4 := hide x4
        clear hown hgrow hat hltg x1 x2 x3 x4
        refine hK _ _ ?_
        clear hK K'
        refine ⟨HK1.out.s HNM.out, ?_⟩
        try simp only [Act.put, List.setIfInBounds_toArray, List.set_cons_zero, List.set_cons_succ]
        have HBY : Hid (Below W1.heap.size W1 W1) := Below.refl _ _
        have HKY := HK1
        have HZY : Hid (wB.heap.size ≤ W1.heap.size) := by have := HB1.out.size; show _ ≤ _; omega
        have HN2 : Hid (W1.heap[wD.heap.size]? = some (.cells #[.int .i64 (st.ct nm)] 3 (0, 0))) := by
          show _ = _
          rw [HX4.out _ (by simp; try omega) (by omega)]
          exact (Below.heap_alloc (wD.alloc (.cells #[.int .i64 (st.ct nm)] 3)) _ wD.heap.size (by simp)).trans (heap_alloc_new wD _)
        refine Rg.ready_one (i := 15) (by kernel_rfl) ?_
        refine Rg.wpOp_k rfl (by rfl) (fun K' hK => ?_)
        refine wp_append_lies _ (.tmp 25) (.tmp 31) 36 rfl wB.heap.size 3 i2 _ 1 8 Tryz.underlying36 hi2 hz20 hz21 hz22 rfl (by decide) (.slice a2 k cc2) k l2 rfl (HOW2.out W1 _ g1 k1 HT1.out HBY.out) ⟨wD.heap.size, 0, none⟩ 1 1 [.int .i64 (st.ct nm)] rfl rfl (World.news_of_block (HN2.out)) (HONE.out _ rfl) (by decide) (by unfold maxLen; omega) (by omega) HZY.out _ rfl ?_
        intro g2 k2 W2 hown hgrow hat hltg
        obtain ⟨x1, x2, x3⟩ := HA2.out W1 _ W2 g1 k1 g2 k2 HT1.out HB1.out HBY.out HKY.out hown hgrow (hat.imp id (fun e => by have := HBY.out.size; omega))
        have HT2 := hide x1
        have HB2 := hide x2
        have hHeld := x3.s HNM.out
        clear hown hgrow hat hltg x1 x2 x3
        refine hK _ _ ?_
        clear hK K'
        refine ⟨hHeld, ?_⟩
        try simp only [Act.put, List.setIfInBounds_toArray, List.set_cons_zero, List.set_cons_succ]
        refine Rg.take_at 16 6 (.slice (some ⟨g1, 0, none⟩) (k + 1) k1) rfl rfl (by kernel_rfl) (by kernel_rfl) (by kernel_rfl) (fun _ _ _ h => h) hHeld (Or.inl ⟨by rfl, ?_⟩) ?_
        · rintro Z ⟨⟨z0, z1⟩, z2, z3, z4⟩
          go_simp
        try simp only [List.setIfInBounds_toArray, List.set_cons_zero, List.set_cons_succ]
        refine Rg.take_at 17 7 (.slice (some ⟨g2, 0, none⟩) (k + 1) k2) rfl rfl (by kernel_rfl) (by kernel_rfl) (by kernel_rfl) (fun _ _ _ h => h) hHeld (Or.inl ⟨by rfl, ?_⟩) ?_
        · rintro Z ⟨⟨z0, z1⟩, z2, z3, z4⟩
          go_simp
        try simp only [List.setIfInBounds_toArray, List.set_cons_zero, List.set_cons_succ]
        refine wpAnyH_done (by kernel_rfl) ?_ _
        refine NoPanic.normal ?_
        go_wp2_with fail
        go_roundw
        case rel => exact ⟨k + 1, by omega, by go_num, ⟨_, _, rfl⟩, ⟨_, _, rfl⟩, HT2.out, HB2.out⟩
        case measure => simp [intOf]; omega
    · have hkm : k = m := by omega
      subst hkm
      rw [HM.out, List.take_length] at HT
      go_wp2_with fail
      go_ret2
      have HF : Hid (T2 w.heap.size wr 4 3 (.slice a1 ns.length cc1) (.slice a2 ns.length cc2) (isV st ns) (ctV st ns)) := ⟨own_mono HT.out.o1 (by omega), own_mono HT.out.o2 (by omega), HT.out.d12⟩
      rw [← HM.out] at HF
      exact ⟨HBB.out.trans (HB.out.mono HBB.out.size), _, _, rfl, HF.out⟩
end Rf
end
end Go.Proofs.YtgldbliohpfljaaGreatDoor
