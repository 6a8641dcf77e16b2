/-
  The first of a list of bools, the others false. What stands in memory while package prop's Good is filled: a table of rows of bools. A machine's table, state by state. The sizes of a machine in memory. (Out of KeFew.) The walks of package machine's State and Sees. What package prop asks of a machine: its program, its states, what it sees, and whether an expression is good at a state and an input. The walk of package prop's Good.
-/
import Derived.Test.YtgdmohombcgjbaaGreatDoorRcNextAll
import Derived.Test.YtgdmohombcgjbaaGreatDoorPrSearchAll
import Derived.Test.YtgdmohombcgjbaaGreatDoorMcD7All
import Derived.Deep.RegionHeld3
namespace Go.Proofs.YtgdmohombcgjbaaGreatDoor
section
open Go.RowKit
namespace Rc
/-- the first k of a list, the others false -/
def inTo (l : List Bool) (k : Nat) : List Bool := l.take k ++ List.replicate (l.length - k) false
theorem inTo_len (l : List Bool) (k : Nat) (hk : k ≤ l.length) : (inTo l k).length = l.length := by simp [inTo]; omega
theorem inTo_zero (l : List Bool) : inTo l 0 = List.replicate l.length false := by simp [inTo]
theorem inTo_all (l : List Bool) : inTo l l.length = l := by simp [inTo]
theorem inTo_set (l : List Bool) (k : Nat) (hk : k < l.length) (x : Bool) (hx : l[k]? = some x) : (inTo l k).set k x = inTo l (k + 1) := by
  have h := fill_set (l.take k) false x l.length (by rw [List.length_take]; omega)
  have e : (l.take k).length = k := by rw [List.length_take]; omega
  rw [e] at h
  unfold inTo
  rw [h]
  obtain ⟨_, e2⟩ := List.getElem?_eq_some_iff.1 hx
  rw [List.take_succ_eq_append_getElem hk, e2]
  congr 2
  simp
  omega
theorem inTo_at (l : List Bool) (k : Nat) (hk : k < l.length) : (inTo l k)[k]? = some false := by
  unfold inTo
  rw [List.getElem?_append_right (by rw [List.length_take]; omega), List.getElem?_replicate, if_pos (by rw [List.length_take]; omega)]
end Rc
end
section
open Go.RowKit
/-- a table of rows of bools that a call has made: those that are there, the others nil -/
structure GT (w : World) (g S I : Nat) (us : List Nat) (row : Nat → List Bool) (W : World) : Prop where
  few : us.length ≤ S
  top : RowIs W g 84 (us.map (fun b => slV b I) ++ List.replicate (S - us.length) (.slice none 0 0))
  rows : ∀ (s b : Nat), us[s]? = some b → BRow W b (row s) [] ∧ g < b
  len : ∀ s, s < us.length → (row s).length = I
  lo : w.heap.size ≤ g
  bel : Below w.heap.size w W
theorem GT.below {w W W' : World} {g S I : Nat} {us : List Nat} {row : Nat → List Bool} (h : GT w g S I us row W) (hb : Below W.heap.size W W') : GT w g S I us row W' :=
  ⟨h.few, RowIs.below h.top hb, fun s b hs => ⟨(h.rows s b hs).1.below hb, (h.rows s b hs).2⟩, h.len, h.lo, h.bel.trans (hb.mono h.bel.size)⟩
/-- one row more, all false -/
theorem GT.new {w W : World} {g S I : Nat} {us : List Nat} {row : Nat → List Bool} (h : GT w g S I us row W) (hk : us.length < S) (l : List Bool) (hl : l.length = I) (cS : List Value) (hc : cS = List.replicate I (.bool false)) : GT w g S I (us ++ [W.heap.size]) (fun s => if s = us.length then Rc.inTo l 0 else row s) ((W.setCell ⟨g, us.length, none⟩ (.slice (some ⟨W.heap.size, 0, none⟩) I I)).alloc (.cells ⟨cS⟩ 4)) := by
  have hg : g < W.heap.size := h.top.lt
  have hz : (W.setCell ⟨g, us.length, none⟩ (.slice (some ⟨W.heap.size, 0, none⟩) I I)).heap.size = W.heap.size := by simp [World.setCell]
  refine ⟨by simp; omega, ?_, ?_, ?_, h.lo, ?_⟩
  · have h1 := (h.top.set us.length (.slice (some ⟨W.heap.size, 0, none⟩) I I)).alloc (.cells ⟨cS⟩ 4)
    have h2 := fill_set (us.map (fun b => slV b I)) (.slice none 0 0) (slV W.heap.size I) S (by simpa using hk)
    rw [List.length_map] at h2
    unfold slV at h1 h2 ⊢
    rw [h2] at h1
    rw [List.map_append, List.length_append]
    simpa using h1
  · intro s b hs
    by_cases hsl : s < us.length
    · rw [List.getElem?_append_left hsl] at hs
      obtain ⟨h1, h2⟩ := h.rows s b hs
      rw [if_neg (by omega)]
      exact ⟨RowIs.alloc (RowIs.other h1 g us.length _ (by omega)) _, h2⟩
    · have hse : s = us.length := by
        have := (List.getElem?_eq_some_iff.1 hs).1
        simp at this
        omega
      subst hse
      rw [List.getElem?_append_right (Nat.le_refl _)] at hs
      simp at hs
      subst hs
      rw [if_pos rfl]
      refine ⟨?_, hg⟩
      have h1 := RowIs.new (W.setCell ⟨g, us.length, none⟩ (.slice (some ⟨W.heap.size, 0, none⟩) I I)) 4 cS
      rw [hz] at h1
      unfold BRow
      rw [Rc.inTo_zero, hl, List.append_nil, List.map_replicate]
      rw [hc] at h1 ⊢
      exact h1
  · intro s hs
    split
    · rw [Rc.inTo_len _ _ (Nat.zero_le _)]; exact hl
    · refine h.len s ?_
      simp at hs
      omega
  · have h1 : Below w.heap.size w (W.setCell ⟨g, us.length, none⟩ (.slice (some ⟨W.heap.size, 0, none⟩) I I)) := h.bel.setCell (p := ⟨g, us.length, none⟩) h.lo _
    exact h1.alloc h1.size _
/-- one more of the last row -/
theorem GT.set {w W : World} {g S I b i : Nat} {us : List Nat} {row : Nat → List Bool} {l : List Bool} {x : Bool} (h : GT w g S I (us ++ [b]) (fun s => if s = us.length then Rc.inTo l i else row s) W) (hd : ∀ s : Nat, us[s]? ≠ some b) (hl : l.length = I) (hi : i < I) (hx : l[i]? = some x) : GT w g S I (us ++ [b]) (fun s => if s = us.length then Rc.inTo l (i + 1) else row s) (W.setCell ⟨b, i, none⟩ (.bool x)) := by
  obtain ⟨h1, h2⟩ := h.rows us.length b (by rw [List.getElem?_append_right (Nat.le_refl _)]; simp)
  rw [if_pos rfl] at h1
  refine ⟨h.few, RowIs.other h.top b i _ (by omega), ?_, ?_, h.lo, h.bel.setCell (p := ⟨b, i, none⟩) (by show w.heap.size ≤ b; have := h.lo; omega) _⟩
  · intro s c hs
    by_cases hsl : s < us.length
    · obtain ⟨h3, h4⟩ := h.rows s c hs
      rw [List.getElem?_append_left hsl] at hs
      rw [if_neg (by omega)] at h3 ⊢
      exact ⟨RowIs.other h3 b i _ (fun e => hd s (e ▸ hs)), h4⟩
    · have hse : s = us.length := by
        have := (List.getElem?_eq_some_iff.1 hs).1
        simp at this
        omega
      subst hse
      rw [List.getElem?_append_right (Nat.le_refl _)] at hs
      simp at hs
      subst hs
      rw [if_pos rfl]
      have h5 := h1.set i x (by rw [Rc.inTo_len _ _ (by omega)]; omega)
      rw [Rc.inTo_set l i (by omega) x hx] at h5
      exact ⟨h5, h2⟩
  · intro s hs
    split
    · rw [Rc.inTo_len _ _ (by omega)]; exact hl
    · have := h.len s hs
      rw [if_neg (by assumption)] at this
      exact this
end
section
open Go.RowKit
theorem IsMach.next {W : World} {bm : Nat} {p : Ld.Prg} (h : IsMach W bm p) : ∃ gN uN, NextAt W bm (Mc.total (Mc.parts p)) (2 ^ (Ld.kindL p.names 1).length) (Mc.nexts p) gN uN := by
  obtain ⟨nv, rv, g, gN, gS, lo, uN, uS, h1, ⟨⟨h2, _⟩, h3, _⟩, _⟩ := h
  refine ⟨gN, uN, h1.cells.2.2.1, h2, fun s b hs => ⟨h3.cell s b hs, fun i x hx => ?_⟩⟩
  have hr := (h3.row s b hs).1
  rw [Mc.nexts_row] at hr
  exact hr.cell i _ (by rw [List.getElem?_map, hx]; rfl)
end
section
open Go.RowKit
/-- the table and the sizes of a machine, as one reads them -/
theorem IsMach.sizes {W : World} {bm : Nat} {p : Ld.Prg} (h : IsMach W bm p) : W.cell? ⟨bm, 2, none⟩ = some (.int .i64 (Mc.total (Mc.parts p) : Int)) ∧ W.cell? ⟨bm, 3, none⟩ = some (.int .i64 ((2 ^ (Ld.kindL p.names 1).length : Nat) : Int)) := by
  obtain ⟨nv, rv, g, gN, gS, lo, uN, uS, h1, _⟩ := h
  exact ⟨h1.cells.2.1.1, h1.cells.2.1.2⟩
end
section
open Go.RowKit
theorem set2_row {W : World} {b : Nat} {x0 y0 : Value} {t : TypeId} (h : W.heap[b]? = some (.cells #[x0, y0] t (0, 0))) (x y : Value) : ((W.setCell ⟨b, 0, none⟩ x).setCell ⟨b, 1, none⟩ y).cell? ⟨b, 0, none⟩ = some x ∧ ((W.setCell ⟨b, 0, none⟩ x).setCell ⟨b, 1, none⟩ y).cell? ⟨b, 1, none⟩ = some y := by
  have h1 : ((W.setCell ⟨b, 0, none⟩ x).setCell ⟨b, 1, none⟩ y).heap[b]? = some (.cells #[x, y] t (0, 0)) := by simp [World.setCell, Array.getElem?_modify, h]
  exact ⟨Lib.cell_of_heap h1 0, Lib.cell_of_heap h1 1⟩
set_option maxHeartbeats 2000000 in
set_option maxRecDepth 100000 in
theorem MState_any (bm : Nat) (p : Ld.Prg) (nv rv nx sv : Value) (S I m g : Nat) (w : World) (h : MachAt w bm nv rv S I nx (slV g p.names.length) sv) (hr : RowIs w g 117 ((Mc.parts p).flatMap ptCells)) (hm : m < S) (hS : S ≤ 4096) (hck : Ld.check p = none) :
    Calls Tryz.prog 61 #[.pointer (some ⟨bm, 0, none⟩), .int .i64 (m : Int)] w (NewSt w (Mc.state (Mc.parts p) m)) := by
  obtain ⟨⟨c0, c1⟩, ⟨c2, c3⟩, c4, c5, c6⟩ := h.cells
  obtain ⟨wz, hwz⟩ : ∃ wz, wz = w.alloc (.cells #[.slice none 0 0, .slice none 0 0] 123) := ⟨_, rfl⟩
  have hbz : Below w.heap.size w wz := by rw [hwz]; exact (Below.refl _ _).alloc (Nat.le_refl _) _
  have hzz : wz.heap.size = w.heap.size + 1 := by rw [hwz]; simp
  have hZ : wz.heap[w.heap.size]? = some (.cells #[.slice none 0 0, .slice none 0 0] 123 (0, 0)) := by rw [hwz]; exact heap_alloc_new _ _
  have HST := hide (state_any (Mc.parts p) g m wz (hr.below hbz) (by rw [Mc.parts_len]; exact (Ld.check_names p hck).1) (Mc.parts_ok p) (Mc.parts_le p hck) (by omega))
  rw [Mc.parts_len] at HST
  have hbm : bm < w.heap.size := (Array.getElem?_eq_some_iff.1 h).1
  have HBZ := hide hbz
  rw [hwz] at HST
  have HWZ := hide hwz
  have pn := fun w a => ptrNe w a
  have hm' : (m : Int) < (S : Int) := by omega
  have hm0 : ¬ ((m : Int) < 0) := by omega
  clear h hr c0 c1 c3 c4 c6 hbz hwz
  go_enter Tryz.func61, Tryz.ntmps61
  go_wp2_with fail
  refine HST.out.mono ?_
  rintro e w1 ⟨gi, gc, rfl, hst, h1, h2, hb⟩
  rw [← HWZ.out] at h1 h2 hb
  have hA1 := (hb.block _ (by omega)).trans hZ
  obtain ⟨z0, z1, z2, z3⟩ := two_cells hA1
  have HS2 := hide (fun x y => set2_row hA1 x y)
  have hz1 := hb.size
  have HS1 := hide hst
  have HB1 := hide hb
  clear hst hb HST hZ hA1
  generalize hn : (Mc.state (Mc.parts p) m).is.length = n
  unfold stV
  go_wp2_with fail
  refine bodyPost_ret_by (v := stV gi gc n) ?_ rfl ?_
  · obtain ⟨y0, y1⟩ := HS2.out (.slice (some ⟨gi, 0, none⟩) n n) (.slice (some ⟨gc, 0, none⟩) n n)
    simp [results, Tryz.results61, go_sem, stV, y0, y1]
  · refine ⟨gi, gc, by rw [hn], ?_, by omega, by omega, ?_⟩
    · refine HS1.out.kept ?_ ?_
      · rw [Below.heap_setCell _ _ _ _ (by dsimp only; omega), Below.heap_setCell _ _ _ _ (by dsimp only; omega)]
      · rw [Below.heap_setCell _ _ _ _ (by dsimp only; omega), Below.heap_setCell _ _ _ _ (by dsimp only; omega)]
    · exact Below.setCell (Below.setCell (HBZ.out.trans (HB1.out.mono HBZ.out.size)) (Nat.le_refl _) _) (Nat.le_refl _) _
set_option maxHeartbeats 2000000 in
set_option maxRecDepth 100000 in
/-- what is seen behind a scan: bits of a number of the table -/
theorem Sees_any (bm : Nat) (n : Nat) (nv rv nx : Value) (S I g gS lo s i x : Nat) (us : List Nat) (rows : Nat → List Value) (w : World) (h : MachAt w bm nv rv S I nx (slV g n) (slV gS S)) (ht : LL w gS 41 3 S I lo us rows) (hul : us.length = S) (hs : s < S) (hi : i < I) (hn : n ≤ 12) (hx : (rows s)[i]? = some (.int .i64 (x : Int))) :
    Calls Tryz.prog 62 #[.pointer (some ⟨bm, 0, none⟩), .int .i64 (s : Int), .int .i64 (i : Int)] w fun e w' => ∃ gb, e = .returned (.tuple #[slV gb n, .nilIface]) ∧ RowIs w' gb 4 ((bitsTo x n).map boolV) ∧ w.heap.size ≤ gb ∧ Below w.heap.size w w' := by
  obtain ⟨⟨c0, c1⟩, ⟨c2, c3⟩, c4, c5, c6⟩ := h.cells
  obtain ⟨b, hb⟩ : ∃ b, us[s]? = some b := ⟨_, List.getElem?_eq_getElem (by omega)⟩
  have r0 := ht.cell s b hb
  have r1 := (ht.row s b hb).1.cell i _ hx
  have HTB := hide (fun W => toBools_any (x : Int) n W (by omega))
  have pn := fun w a => ptrNe w a
  have hs' : (s : Int) < (S : Int) := by omega
  have hi' : (i : Int) < (I : Int) := by omega
  have hs0 : ¬ ((s : Int) < 0) := by omega
  have hi0 : ¬ ((i : Int) < 0) := by omega
  unfold slV at c5 c6 r0
  clear h c0 c1 c2 c3 c4 ht hb hul hx
  go_enter Tryz.func62, Tryz.ntmps62
  go_wp2_with fail
  have HK : Hid (∀ W, Below w.heap.size w W → W.cell? ⟨bm, 5, none⟩ = some (.slice (some ⟨g, 0, none⟩) n n) ∧ W.cell? ⟨bm, 6, none⟩ = some (.slice (some ⟨gS, 0, none⟩) S S) ∧ W.cell? ⟨gS, s, none⟩ = some (.slice (some ⟨b, 0, none⟩) I I) ∧ W.cell? ⟨b, i, none⟩ = some (.int .i64 (x : Int))) := fun W hW =>
    have key : ∀ (p : Addr) v, w.cell? p = some v → W.cell? p = some v := fun p v hv => (hW.cell (World.block_lt_of_cell? _ _ hv)).trans hv
    ⟨key _ _ c5, key _ _ c6, key _ _ r0, key _ _ r1⟩
  have HDA : Hid (Below w.heap.size w w.drew) := ⟨rfl, rfl, rfl, Nat.le_refl _, fun _ _ => rfl⟩
  go_region_held3 (fun W => W.cell? ⟨bm, 5, none⟩ = some (.slice (some ⟨g, 0, none⟩) n n) ∧ W.cell? ⟨bm, 6, none⟩ = some (.slice (some ⟨gS, 0, none⟩) S S) ∧ W.cell? ⟨gS, s, none⟩ = some (.slice (some ⟨b, 0, none⟩) I I) ∧ W.cell? ⟨b, i, none⟩ = some (.int .i64 (x : Int))) ((refine HK.out _ ?_; first | exact HDA.out | exact HB2.out | exact Below.refl _ _)) ((go_at_call 84; (with_reducible refine (HTB.out _).mono ?_); rintro e w2 ⟨gb, rfl, hrow, hg, hb2⟩; have HB2 : Hid (Below w.heap.size w w2) := HDA.out.trans hb2; have HROW := hide hrow; clear hrow))
  have hg' : w.heap.size ≤ gb := hg
  clear hb2 hg
  go_wp2_with fail
  refine bodyPost_ret (results_tmp2 rfl _ _ _) rfl ?_
  exact ⟨gb, rfl, HROW.out, hg', HB2.out⟩
end
section
open Go.RowKit
namespace Pr
/-- an expression behind the scan at a state and an input -/
def good (p : Ld.Prg) (x : Ex) (s i : Nat) : Bool := x.eval (Sc.told p.names (Mc.after1 p (Ld.kindL p.names 1).length s i).is) (Sc.told p.names (Mc.state (Mc.parts p) s).is)
def goodRow (p : Ld.Prg) (x : Ex) (I s : Nat) : List Bool := (List.range I).map (good p x s)
theorem goodRow_len (p : Ld.Prg) (x : Ex) (I s : Nat) : (goodRow p x I s).length = I := by simp [goodRow]
theorem goodRow_at (p : Ld.Prg) (x : Ex) (I s i : Nat) (h : i < I) : (goodRow p x I s)[i]? = some (good p x s i) := by simp [goodRow, h]
end Pr
/-- what a machine answers, in each world behind -/
structure MView (w : World) (bm : Nat) (p : Ld.Prg) (na : Option Addr) (nk nc : Nat) (ra : Option Addr) (rk rc : Nat) : Prop where
  prog : ∀ W, Below w.heap.size w W → W.cell? ⟨bm, 0, none⟩ = some (.slice na nk nc) ∧ W.cell? ⟨bm, 1, none⟩ = some (.slice ra rk rc) ∧ NamesAt W (.slice na nk nc) p.names
  state : ∀ W (s : Nat), Below w.heap.size w W → s < Mc.total (Mc.parts p) → Calls Tryz.prog 61 #[.pointer (some ⟨bm, 0, none⟩), .int .i64 (s : Int)] W (NewSt W (Mc.state (Mc.parts p) s))
  sees : ∀ W (s i : Nat), Below w.heap.size w W → s < Mc.total (Mc.parts p) → i < 2 ^ (Ld.kindL p.names 1).length → Calls Tryz.prog 62 #[.pointer (some ⟨bm, 0, none⟩), .int .i64 (s : Int), .int .i64 (i : Int)] W fun e w' => ∃ gb, e = .returned (.tuple #[slV gb p.names.length, .nilIface]) ∧ RowIs w' gb 4 ((Mc.after1 p (Ld.kindL p.names 1).length s i).is.map boolV) ∧ W.heap.size ≤ gb ∧ Below W.heap.size W w'
  lens : ∀ s i, (Mc.state (Mc.parts p) s).is.length = p.names.length ∧ (i < 2 ^ (Ld.kindL p.names 1).length → (Mc.after1 p (Ld.kindL p.names 1).length s i).is.length = p.names.length)
theorem IsMach.view {w : World} {bm : Nat} {p : Ld.Prg} (h : IsMach w bm p) (hck : Ld.check p = none) (hS : Mc.total (Mc.parts p) ≤ 4096) : ∃ na nk nc ra rk rc, MView w bm p na nk nc ra rk rc := by
  obtain ⟨nv, rv, g, gN, gS, lo, uN, uS, h1, ⟨⟨hN1, hN2⟩, h3, h4⟩, h5, h6⟩ := h
  obtain ⟨⟨c0, c1⟩, _⟩ := h1.cells
  have hbl : bm < w.heap.size := World.block_lt_of_cell? _ _ c0
  obtain ⟨nv', rv', he, hn, hr⟩ := h5
  simp only [Value.agg.injEq, List.toArray_eq_iff, List.cons.injEq, and_true] at he
  obtain ⟨rfl, rfl⟩ := he
  obtain ⟨na, nk, nc, rfl⟩ := slice_of hn
  obtain ⟨ra, rk, rc, rfl⟩ := slice_ofR hr
  have hls : ∀ s, (Mc.state (Mc.parts p) s).is.length = p.names.length := fun s => (Mc.stateI_len _ _).trans (Mc.parts_len p)
  have hla : ∀ s i, (Mc.after1 p (Ld.kindL p.names 1).length s i).is.length = p.names.length := fun s i => (Sc.step_bd p hck _ (bitsTo i (Ld.kindL p.names 1).length) (Mc.state_bd p hck s) (by rw [bitsTo_len])).1.li
  refine ⟨na, nk, nc, ra, rk, rc, fun W hW => ⟨(hW.cell (p := ⟨bm, 0, none⟩) hbl).trans c0, (hW.cell (p := ⟨bm, 1, none⟩) hbl).trans c1, hn.below hW⟩, fun W s hW hs => ?_, fun W s i hW hs hi => ?_, fun s i => ⟨hls s, fun _ => hla s i⟩⟩
  · exact MState_any bm p _ _ _ _ _ _ s g W (h1.below hW) (h6.below hW) hs hS hck
  · have h7 := Sees_any bm p.names.length _ _ _ _ _ g gS lo s i (Mc.val (Mc.after1 p (Ld.kindL p.names 1).length s i).is) uS _ W (h1.below hW) (h4.below hW) hN2 hs hi (Ld.check_names p hck).1 (Mc.seesRow_at _ _ _ _ _ hi)
    have e := Mc.val_back (Mc.after1 p (Ld.kindL p.names 1).length s i).is
    rw [hla s i] at e
    rw [e] at h7
    exact h7
end
section
open Go.RowKit
@[go_sem] theorem field_is (a b : Value) (w : World) : (Instr.field 123 (.agg #[a, b]) 0).run Tryz.prog w = .ok a w := by kernel_rfl
/-- what told has made -/
structure ToldAt (W : World) (nv : Value) (ra : Option Addr) (rk rc n : Nat) (is : List Bool) (a b gi : Nat) : Prop where
  prg : W.heap[a]? = some (.cells #[nv, .slice ra rk rc] 28 (0, 0))
  lst : W.heap[b]? = some (.cells #[.slice (some ⟨gi, 0, none⟩) n n] 84 (0, 0))
  row : RowIs W gi 4 (is.map boolV)
theorem ToldAt.lt {W : World} {nv : Value} {ra : Option Addr} {rk rc n : Nat} {is : List Bool} {a b gi : Nat} (h : ToldAt W nv ra rk rc n is a b gi) : a < W.heap.size ∧ b < W.heap.size ∧ gi < W.heap.size := ⟨(Array.getElem?_eq_some_iff.1 h.prg).1, (Array.getElem?_eq_some_iff.1 h.lst).1, h.row.lt⟩
theorem ToldAt.kept {W W' : World} {nv : Value} {ra : Option Addr} {rk rc n : Nat} {is : List Bool} {a b gi : Nat} (h : ToldAt W nv ra rk rc n is a b gi) (ha : W'.heap[a]? = W.heap[a]?) (hb : W'.heap[b]? = W.heap[b]?) (hg : W'.heap[gi]? = W.heap[gi]?) : ToldAt W' nv ra rk rc n is a b gi := ⟨ha.trans h.prg, hb.trans h.lst, hg.trans h.row⟩
theorem ToldAt.tells {W : World} {nv : Value} {ra : Option Addr} {rk rc n : Nat} {is : List Bool} {a b gi : Nat} (h : ToldAt W nv ra rk rc n is a b gi) {ns : List Ld.Nme} (hn : NamesAt W nv ns) (hl : is.length = n) (hnn : n = ns.length) : E2.Tells (.func (.func 88) #[] #[.pointer (some ⟨a, 0, none⟩), .pointer (some ⟨b, 0, none⟩)]) (Sc.told ns is) W := by
  obtain ⟨a0, a1, _, _⟩ := two_cells h.prg
  refine ptells_told ns nv (.slice ra rk rc) is gi _ _ _ hn ⟨_, _, _, rfl⟩ (hl.trans hnn) a0 a1 ?_ h.row
  rw [Lib.cell_of_heap h.lst, hl]
  rfl
theorem told_made (nv : Value) (ra : Option Addr) (rk rc : Nat) (w6 : World) (is : List Bool) (gi n : Nat) (hrow : RowIs w6 gi 4 (is.map boolV)) :
    ToldAt ((w6.alloc (.cells #[nv, .slice ra rk rc] 28)).alloc (.cells #[.slice (some ⟨gi, 0, none⟩) n n] 84)) nv ra rk rc n is w6.heap.size (w6.heap.size + 1) gi := by
  obtain ⟨w7, hw7⟩ : ∃ w7, w7 = w6.alloc (.cells #[nv, .slice ra rk rc] 28) := ⟨_, rfl⟩
  have hz7 : w7.heap.size = w6.heap.size + 1 := by rw [hw7]; simp
  have hA : w7.heap[w6.heap.size]? = some (.cells #[nv, .slice ra rk rc] 28 (0, 0)) := by rw [hw7]; exact heap_alloc_new _ _
  rw [← hw7]
  have hb : Below w6.heap.size w6 (w7.alloc (.cells #[.slice (some ⟨gi, 0, none⟩) n n] 84)) := by
    have h1 : Below w6.heap.size w6 w7 := by rw [hw7]; exact (Below.refl _ _).alloc (Nat.le_refl _) _
    exact h1.alloc h1.size _
  exact ⟨(Below.heap_alloc _ _ _ (by omega)).trans hA, by rw [← hz7]; exact heap_alloc_new _ _, (hb.block _ hrow.lt).trans hrow⟩
/-- what a round of Good reads -/
def KG (bm : Nat) (nv rv : Value) (g s b I : Nat) (W : World) : Prop := W.cell? ⟨bm, 0, none⟩ = some nv ∧ W.cell? ⟨bm, 1, none⟩ = some rv ∧ W.cell? ⟨g, s, none⟩ = some (.slice (some ⟨b, 0, none⟩) I I)
theorem KG.below {bm g s b I : Nat} {nv rv : Value} {W W' : World} (h : KG bm nv rv g s b I W) (hb : Below W.heap.size W W') : KG bm nv rv g s b I W' := ⟨(hb.cell (World.block_lt_of_cell? _ _ h.1)).trans h.1, (hb.cell (World.block_lt_of_cell? _ _ h.2.1)).trans h.2.1, (hb.cell (World.block_lt_of_cell? _ _ h.2.2)).trans h.2.2⟩
theorem KG.set {bm g s b I : Nat} {nv rv : Value} {W : World} (c i : Nat) (v : Value) (h1 : bm ≠ c) (h2 : g ≠ c) (h : KG bm nv rv g s b I W) : KG bm nv rv g s b I (W.setCell ⟨c, i, none⟩ v) := ⟨cell_set_blk _ _ _ _ _ _ _ h1 h.1, cell_set_blk _ _ _ _ _ _ _ h1 h.2.1, cell_set_blk _ _ _ _ _ _ _ h2 h.2.2⟩
theorem KG.drew {bm g s b I : Nat} {nv rv : Value} {W : World} (h : KG bm nv rv g s b I W) : KG bm nv rv g s b I W.drew := h
/-- what Good comes to -/
def Gooded (w : World) (p : Ld.Prg) (x : Ex) (e : Ending) (w' : World) : Prop := Below w.heap.size w w' ∧ (if Pr.has p.names x then ∃ g us, e = .returned (.tuple #[.slice (some ⟨g, 0, none⟩) (Mc.total (Mc.parts p)) (Mc.total (Mc.parts p)), .nilIface]) ∧ us.length = Mc.total (Mc.parts p) ∧ GT w g (Mc.total (Mc.parts p)) (2 ^ (Ld.kindL p.names 1).length) us (Pr.goodRow p x (2 ^ (Ld.kindL p.names 1).length)) w' else e = .returned (.tuple #[.slice none 0 0, .iface 66 (.int .i64 7)]))
set_option maxHeartbeats 8000000 in
set_option maxRecDepth 100000 in
theorem Good_any (ok : Nat → Prop) (bm : Nat) (p : Ld.Prg) (x : Ex) (v : Value) (w : World) (hm : IsMach w bm p) (hck : Ld.check p = none) (hS : Mc.total (Mc.parts p) ≤ 4096) (hq : (Ld.kindL p.names 1).length ≤ 6) (h : IsEx ok w x v) (hlen : x.size ≤ 1000000) :
    Calls Tryz.prog 27 #[.pointer (some ⟨bm, 0, none⟩), v] w (Gooded w p x) := by
  obtain ⟨na, nk, nc, ra, rk, rc, hmv⟩ := hm.view hck hS
  obtain ⟨gN, uN, hna⟩ := hm.next
  have hI6 : 2 ^ (Ld.kindL p.names 1).length ≤ 64 := Nat.pow_le_pow_right (n := 2) (by decide) hq
  have HMV := hide hmv
  have HNA := hide hna
  have HX := hide h
  have pn := fun w a => ptrNe w a
  have hbl : bm < w.heap.size := hm.lt
  obtain ⟨p0, p1, hnm⟩ := hmv.prog w (Below.refl _ _)
  have HHN := hide (hasNames_any ok p.names _ (.slice ra rk rc) x v w hnm ⟨_, _, _, rfl⟩ h hlen)
  have HG : Hid (∀ e w', Gooded w p x e w' ↔ (Below w.heap.size w w' ∧ (if Pr.has p.names x then ∃ g us, e = .returned (.tuple #[.slice (some ⟨g, 0, none⟩) (Mc.total (Mc.parts p)) (Mc.total (Mc.parts p)), .nilIface]) ∧ us.length = Mc.total (Mc.parts p) ∧ GT w g (Mc.total (Mc.parts p)) (2 ^ (Ld.kindL p.names 1).length) us (Pr.goodRow p x (2 ^ (Ld.kindL p.names 1).length)) w' else e = .returned (.tuple #[.slice none 0 0, .iface 66 (.int .i64 7)])))) := fun _ _ => Iff.rfl
  obtain ⟨tu, yu, rfl⟩ := IsEx.iface x v h
  clear hmv hna hm hnm h
  go_enter Tryz.func27, Tryz.ntmps27
  go_wp2_with fail
  refine HHN.out.mono ?_
  rintro e w1 ⟨rfl, hb1⟩
  have HB1 := hide hb1
  cases hhas : Pr.has p.names x with
  | false =>
    have HFN : Hid (Gooded w p x (.returned (.tuple #[.slice none 0 0, .iface 66 (.int .i64 7)])) w1) := by
      refine (HG.out _ _).2 ⟨hb1, ?_⟩
      rw [hhas, if_neg Bool.false_ne_true]
    clear hb1 HHN
    go_wp2_with fail
    refine bodyPost_ret (results_tmp2 rfl _ _ _) rfl ?_
    exact HFN.out
  | true =>
    obtain ⟨S, hSS⟩ : ∃ S, S = Mc.total (Mc.parts p) := ⟨_, rfl⟩
    obtain ⟨I, hII⟩ : ∃ I, I = 2 ^ (Ld.kindL p.names 1).length := ⟨_, rfl⟩
    obtain ⟨n, hnn⟩ : ∃ n, n = p.names.length := ⟨_, rfl⟩
    have HFN : Hid (∀ g us W, us.length = S → GT w g S I us (Pr.goodRow p x I) W → Gooded w p x (.returned (.tuple #[.slice (some ⟨g, 0, none⟩) S S, .nilIface])) W) := fun g us W h1 h2 => by
      refine (HG.out _ _).2 ⟨h2.bel, ?_⟩
      rw [hhas, if_pos rfl, ← hSS, ← hII]
      exact ⟨g, us, rfl, h1, h2⟩
    have HSTA : Hid (∀ W (s : Nat), Below w.heap.size w W → s < S → Calls Tryz.prog 61 #[.pointer (some ⟨bm, 0, none⟩), .int .i64 (s : Int)] W (NewSt W (Mc.state (Mc.parts p) s))) := fun W s hW hs => HMV.out.state W s hW (by rw [← hSS]; exact hs)
    have HSEE : Hid (∀ W (s i : Nat), Below w.heap.size w W → s < S → i < I → Calls Tryz.prog 62 #[.pointer (some ⟨bm, 0, none⟩), .int .i64 (s : Int), .int .i64 (i : Int)] W fun e w' => ∃ gb, e = .returned (.tuple #[slV gb n, .nilIface]) ∧ RowIs w' gb 4 ((Mc.after1 p (Ld.kindL p.names 1).length s i).is.map boolV) ∧ W.heap.size ≤ gb ∧ Below W.heap.size W w') := fun W s i hW hs hi => by
      rw [hnn]
      exact HMV.out.sees W s i hW (by rw [← hSS]; exact hs) (by rw [← hII]; exact hi)
    rw [← hSS] at hS HNA
    rw [← hII] at hI6 HNA
    have HNN := hide hnn
    have HII := hide hII
    obtain ⟨c4, hul, hrw⟩ := HNA.out.below hb1
    have mk1 := fun w => makeBss S (by omega) w
    have mk2 := fun w => makeBs I (by omega) w
    obtain ⟨cI, hcI⟩ : ∃ c, c = List.replicate I (Value.bool false) := ⟨_, rfl⟩
    obtain ⟨cS, hcS⟩ : ∃ c, c = List.replicate S (Value.slice none 0 0) := ⟨_, rfl⟩
    rw [← hcI] at mk2
    rw [← hcS] at mk1
    have HCI := hide hcI
    obtain ⟨w2, hw2⟩ : ∃ w2, w2 = w1.alloc (.cells ⟨cS⟩ 84) := ⟨_, rfl⟩
    have HT0 : Hid (GT w w1.heap.size S I [] (Pr.goodRow p x I) w2) := by
      refine ⟨by simp, ?_, fun s b hs => by simp at hs, fun s hs => absurd hs (Nat.not_lt_zero _), hb1.size, ?_⟩
      · rw [hw2, hcS]; exact RowIs.new _ _ _
      · rw [hw2]; exact hb1.alloc hb1.size _
    have HXS : Hid (∀ W, Below w.heap.size w W → IsEx (fun _ => True) W x (.iface tu yu)) := fun W hW => IsEx.stay (Stay.below hW) (fun g _ => trivial) x _ HX.out
    have HPR : Hid (∀ W, Below w.heap.size w W → W.cell? ⟨bm, 0, none⟩ = some (.slice na nk nc) ∧ W.cell? ⟨bm, 1, none⟩ = some (.slice ra rk rc) ∧ NamesAt W (.slice na nk nc) p.names) := fun W hW => HMV.out.prog W hW
    have hb1l := HB1.out.size
    have hbl1 : bm < w1.heap.size := by omega
    clear hb1 HHN hSS hII hnn hcI hcS hrw hul HG hhas p0 p1
    go_wp2_with fail
    rw [← hw2]
    clear hw2
    go_loopw [40] (fun i wr => ∃ (s : Nat) (us : List Nat), s ≤ S ∧ i = .int .i64 (s : Int) ∧ us.length = s ∧ Hid (GT w w1.heap.size S I us (Pr.goodRow p x I) wr)) (fun i _ => S - (intOf i).toNat)
    case atStart => exact ⟨0, [], Nat.zero_le _, rfl, rfl, HT0.out⟩
    case round =>
      obtain ⟨s, us, hs, rfl, hus, HT⟩ := hrel
      by_cases hlt : s < S
      · obtain ⟨bN, hbN⟩ : ∃ b, uN[s]? = some b := ⟨_, List.getElem?_eq_getElem (by rw [HNA.out.2.1]; exact hlt)⟩
        have hna := HNA.out.below HT.out.bel
        have r0 := (hna.2.2 s bN hbN).1
        have hg := HT.out.top.lt
        have g0 := HT.out.top.cell s (.slice none 0 0) (by rw [List.getElem?_append_right (by simp; omega), List.getElem?_replicate, if_pos (by simp; omega)])
        have g1 := HT.out.top.frozen s
        have hsi : (s : Int) < (S : Int) := by omega
        obtain ⟨wN, hwN⟩ : ∃ wN, wN = (wr.setCell ⟨w1.heap.size, s, none⟩ (.slice (some ⟨wr.heap.size, 0, none⟩) I I)).alloc (.cells ⟨cI⟩ 4) := ⟨_, rfl⟩
        have HTN : Hid (GT w w1.heap.size S I (us ++ [wr.heap.size]) (fun t => if t = us.length then Rc.inTo (Pr.goodRow p x I s) 0 else Pr.goodRow p x I t) wN) := by
          have h1 := HT.out.new (by omega) (Pr.goodRow p x I s) (Pr.goodRow_len ..) cI HCI.out
          rw [hus] at h1 ⊢
          rw [hwN]
          exact h1
        have HD : Hid (∀ t : Nat, us[t]? ≠ some wr.heap.size) := fun t e => by have := (HT.out.rows t _ e).1.lt; omega
        clear hna hbN c4
        obtain ⟨wo, rfl⟩ : ∃ wo, wo = wr := ⟨_, rfl⟩
        go_upto_region 8 with fail
        rw [← hwN]
        have HK2 : Hid (∀ W, Below wN.heap.size wN W → W.cell? ⟨bm, 0, none⟩ = some (.slice na nk nc) ∧ W.cell? ⟨bm, 1, none⟩ = some (.slice ra rk rc)) := fun W hW => by
          obtain ⟨h1, h2, _⟩ := HPR.out W (HTN.out.bel.trans (hW.mono HTN.out.bel.size))
          exact ⟨h1, h2⟩
        have HBW : Hid (∀ W, Below wN.heap.size wN W → Below w.heap.size w W) := fun W hW => HTN.out.bel.trans (hW.mono HTN.out.bel.size)
        have HDA : Hid (Below wN.heap.size wN wN.drew) := ⟨rfl, rfl, rfl, Nat.le_refl _, fun _ _ => rfl⟩
        have HLS := hide (HMV.out.lens s 0).1
        rw [← HNN.out] at HLS
        have HSC : Hid (∀ W, Below wN.heap.size wN W → Calls Tryz.prog 61 #[.pointer (some ⟨bm, 0, none⟩), .int .i64 (s : Int)] W fun e w' => ∃ gi gc, e = .returned (.agg #[.slice (some ⟨gi, 0, none⟩) n n, .slice (some ⟨gc, 0, none⟩) n n]) ∧ RowIs w' gi 4 ((Mc.state (Mc.parts p) s).is.map boolV) ∧ W.heap.size ≤ gi ∧ Below W.heap.size W w') := fun W hW => by
          refine (HSTA.out W s (HBW.out W hW) hlt).mono ?_
          rintro e w' ⟨gi, gc, rfl, h1, h3, _, h2⟩
          rw [HLS.out]
          exact ⟨gi, gc, rfl, h1.rowI, h3, h2⟩
        have HWN := hide hwN
        clear hwN
        go_cut [9] (fun t wx => ∃ ta tb gi, t = .func (.func 88) #[] #[.pointer (some ⟨ta, 0, none⟩), .pointer (some ⟨tb, 0, none⟩)] ∧ ToldAt wx (.slice na nk nc) ra rk rc n (Mc.state (Mc.parts p) s).is ta tb gi ∧ (wN.heap.size ≤ ta ∧ wN.heap.size ≤ tb ∧ wN.heap.size ≤ gi) ∧ Below wN.heap.size wN wx)
        case first =>
          go_region_held3 (fun W => W.cell? ⟨bm, 0, none⟩ = some (.slice na nk nc) ∧ W.cell? ⟨bm, 1, none⟩ = some (.slice ra rk rc)) ((refine HK2.out _ ?_; repeat (first | exact HB6.out | exact HDA.out | exact Below.refl _ _ | refine Below.alloc ?_ (by first | omega | (simp; omega)) _))) ((first
            | (go_at_call 61; (with_reducible refine (HSC.out _ HDA.out).mono ?_); rintro e w6 ⟨gi, gc, rfl, hrow6, hgi6, hb6⟩; have HB6 : Hid (Below wN.heap.size wN w6) := HDA.out.trans hb6; have hz6 := HB6.out.size; have HR6 := hide hrow6; clear hrow6 hb6)
            | (go_at_call 60; (with_reducible refine (ptold_any _ _ _ _ ⟨_, _, _, rfl⟩ ⟨_, _, _, rfl⟩ ⟨_, _, _, rfl⟩).mono ?_); rintro e w7 ⟨rfl, rfl⟩)))
          all_goals go_wp2_with fail
          all_goals go_meet
          exact ⟨_, _, gi, rfl, told_made _ _ _ _ _ _ _ _ HR6.out, ⟨hz6, by omega, hgi6⟩, (HB6.out.alloc hz6 _).alloc (by simp; omega) _⟩
        case rest =>
          obtain ⟨ta, tb, gi, rfl, htl, ⟨lta, ltb, lgi⟩, hbc⟩ := hcut
          have HTL := hide htl
          have HTC := hide (HTN.out.below hbc)
          have hzN : wN.heap.size = wo.heap.size + 1 := by rw [HWN.out]; simp [World.setCell]
          have hzc := hbc.size
          clear htl hbc HSC HK2 HDA HTN HBW
          go_wp2_with fail
          go_loopw [62] (fun x_ wr => ∃ i : Nat, i ≤ I ∧ x_ = .int .i64 (i : Int) ∧ Hid (GT w w1.heap.size S I (us ++ [wo.heap.size]) (fun t => if t = us.length then Rc.inTo (Pr.goodRow p x I s) i else Pr.goodRow p x I t) wr) ∧ Hid (ToldAt wr (.slice na nk nc) ra rk rc n (Mc.state (Mc.parts p) s).is ta tb gi)) (fun x_ _ => I - (intOf x_).toNat)
          case atStart => exact ⟨0, Nat.zero_le _, rfl, HTC.out, HTL.out⟩
          case round =>
            clear HTC HTL
            obtain ⟨i, hi, rfl, HTC, HTL⟩ := hrel
            by_cases hiI : i < I
            · have hii : (i : Int) < (I : Int) := by omega
              have HSE := hide (HSEE.out wr s i HTC.out.bel hlt hiI)
              unfold slV at HSE
              go_wp2_with fail
              refine HSE.out.mono ?_
              rintro e wE ⟨gb, rfl, hrE, hgE, hbE⟩
              have HRE := hide hrE
              have HBE := hide hbE
              have HTE := hide (HTC.out.below hbE)
              obtain ⟨l1, l2, l3⟩ := HTL.out.lt
              have HLE := hide (HTL.out.kept (hbE.block _ l1) (hbE.block _ l2) (hbE.block _ l3))
              clear hrE hbE HSE
              have hgE2 := HTE.out.top.lt
              have HKE : Hid (KG bm (.slice na nk nc) (.slice ra rk rc) w1.heap.size s wo.heap.size I wE) := by
                obtain ⟨k1, k2, _⟩ := HPR.out wE HTE.out.bel
                refine ⟨k1, k2, HTE.out.top.cell s _ ?_⟩
                rw [List.getElem?_append_left (by simp; omega), List.getElem?_map, List.getElem?_append_right (by omega), hus]
                simp [slV]
              obtain ⟨hrb, hgb⟩ := HTE.out.rows us.length wo.heap.size (by rw [List.getElem?_append_right (Nat.le_refl _)]; simp)
              rw [if_pos rfl] at hrb
              have HRB := hide hrb
              have hlo := hrb.lt
              have HDA : Hid (Below wE.heap.size wE wE.drew) := ⟨rfl, rfl, rfl, Nat.le_refl _, fun _ _ => rfl⟩
              have HLI := hide ((HMV.out.lens s i).2 (by rw [← HII.out]; exact hiI))
              rw [← HNN.out] at HLI
              have HEV : Hid (∀ (W : World) (a b : Nat), Below wE.heap.size wE W → ToldAt W (.slice na nk nc) ra rk rc n (Mc.after1 p (Ld.kindL p.names 1).length s i).is a b gb → Calls Tryz.prog 63 #[.iface tu yu, .func (.func 88) #[] #[.pointer (some ⟨a, 0, none⟩), .pointer (some ⟨b, 0, none⟩)], .func (.func 88) #[] #[.pointer (some ⟨ta, 0, none⟩), .pointer (some ⟨tb, 0, none⟩)]] W fun e w' => e = .returned (.bool (Pr.good p x s i)) ∧ Below wE.heap.size wE w') := fun W a b h7 ht => by
                have h8 := HTE.out.bel.trans (h7.mono HTE.out.bel.size)
                obtain ⟨q1, q2, q3⟩ := HLE.out.lt
                refine (E2.Eval_any (fun _ => True) x _ _ _ _ _ _ (HXS.out _ h8) (ht.tells (HPR.out _ h8).2.2 HLI.out HNN.out) ((HLE.out.kept (h7.block _ q1) (h7.block _ q2) (h7.block _ q3)).tells (HPR.out _ h8).2.2 HLS.out HNN.out)).mono ?_
                rintro e w' ⟨rfl, h9⟩
                exact ⟨rfl, h7.trans (h9.mono h7.size)⟩
              have HT7 : Hid (ToldAt ((wE.alloc (.cells #[.slice na nk nc, .slice ra rk rc] 28)).alloc (.cells #[.slice (some ⟨gb, 0, none⟩) n n] 84)).drew (.slice na nk nc) ra rk rc n (Mc.after1 p (Ld.kindL p.names 1).length s i).is wE.heap.size (wE.heap.size + 1) gb) := by
                obtain ⟨u1, u2, u3⟩ := told_made (.slice na nk nc) ra rk rc wE _ gb n HRE.out
                exact ⟨u1, u2, u3⟩
              have HB7 : Hid (Below wE.heap.size wE ((wE.alloc (.cells #[.slice na nk nc, .slice ra rk rc] 28)).alloc (.cells #[.slice (some ⟨gb, 0, none⟩) n n] 84)).drew) := by
                have h7 : Below wE.heap.size wE ((wE.alloc (.cells #[.slice na nk nc, .slice ra rk rc] 28)).alloc (.cells #[.slice (some ⟨gb, 0, none⟩) n n] 84)) := ((Below.refl _ wE).alloc (Nat.le_refl _) _).alloc (by simp) _
                exact h7.trans ⟨rfl, rfl, rfl, Nat.le_refl _, fun _ _ => rfl⟩
              have hnb : bm ≠ wo.heap.size := by omega
              have hng : w1.heap.size ≠ wo.heap.size := by omega
              have hlE : wo.heap.size < wE.heap.size := hlo
              clear hrb
              go_upto_region 13 with fail
              go_region_held3 (fun W => W.cell? ⟨bm, 0, none⟩ = some (.slice na nk nc) ∧ W.cell? ⟨bm, 1, none⟩ = some (.slice ra rk rc) ∧ W.cell? ⟨w1.heap.size, s, none⟩ = some (.slice (some ⟨wo.heap.size, 0, none⟩) I I)) ((show KG bm (.slice na nk nc) (.slice ra rk rc) w1.heap.size s wo.heap.size I _; repeat (first | exact HKE.out | exact HKE.out.below HDA.out | exact HKE.out.below HB8.out | refine KG.set _ _ _ hnb hng ?_ | refine KG.drew ?_ | (refine KG.below ?_ (Below.alloc (Below.refl _ _) (Nat.le_refl _) _))))) ((first
                | (go_at_call 60; (with_reducible refine (ptold_any _ _ _ _ ⟨_, _, _, rfl⟩ ⟨_, _, _, rfl⟩ ⟨_, _, _, rfl⟩).mono ?_); rintro e w7 ⟨rfl, rfl⟩)
                | (go_at_call 63; (with_reducible refine (HEV.out _ _ _ HB7.out HT7.out).mono ?_); rintro e w8 ⟨rfl, hb8⟩; have HB8 := hide hb8; have q3 := (hb8.cell (p := ⟨wo.heap.size, i, none⟩) hlE).trans (HRB.out.cell i false (Rc.inTo_at _ _ (by rw [Pr.goodRow_len]; exact hiI))); have q4 := (hb8.frozen (p := ⟨wo.heap.size, i, none⟩) hlE).trans (RowIs.frozen HRB.out i); clear hb8)))
              have HNX : Hid (GT w w1.heap.size S I (us ++ [wo.heap.size]) (fun t => if t = us.length then Rc.inTo (Pr.goodRow p x I s) (i + 1) else Pr.goodRow p x I t) (w8.setCell ⟨wo.heap.size, i, none⟩ (.bool (Pr.good p x s i)))) := (HTE.out.below HB8.out).set HD.out (Pr.goodRow_len ..) hiI (Pr.goodRow_at _ _ _ _ _ hiI)
              have HTX : Hid (ToldAt (w8.setCell ⟨wo.heap.size, i, none⟩ (.bool (Pr.good p x s i))) (.slice na nk nc) ra rk rc n (Mc.state (Mc.parts p) s).is ta tb gi) := by
                obtain ⟨q1, q2, q3⟩ := HLE.out.lt
                refine HLE.out.kept ?_ ?_ ?_
                · rw [Below.heap_setCell _ _ _ _ (by show ta ≠ wo.heap.size; omega)]; exact HB8.out.block _ q1
                · rw [Below.heap_setCell _ _ _ _ (by show tb ≠ wo.heap.size; omega)]; exact HB8.out.block _ q2
                · rw [Below.heap_setCell _ _ _ _ (by show gi ≠ wo.heap.size; omega)]; exact HB8.out.block _ q3
              clear q3 q4
              go_wp2_with fail
              go_roundw
              case rel => exact ⟨i + 1, by omega, by go_num, HNX.out, HTX.out⟩
              case measure => simp [intOf]; omega
            · have hiI' : i = I := by omega
              have HGE : Hid (GT w w1.heap.size S I (us ++ [wo.heap.size]) (Pr.goodRow p x I) wr) := by
                have h1 := HTC.out
                have e : (fun t => if t = us.length then Rc.inTo (Pr.goodRow p x I s) i else Pr.goodRow p x I t) = Pr.goodRow p x I := by
                  funext t
                  by_cases ht : t = us.length
                  · rw [if_pos ht, ht, hus]
                    have h2 := Rc.inTo_all (Pr.goodRow p x I s)
                    rw [Pr.goodRow_len] at h2
                    rw [hiI']; exact h2
                  · rw [if_neg ht]
                rw [e] at h1
                exact h1
              go_wp2_with fail
              exact ⟨⟨s + 1, us ++ [wo.heap.size], by omega, by go_num, by simp [hus], HGE.out⟩, by simp [intOf]; omega⟩
      · have hsS : s = S := by omega
        have HE := hide (HFN.out _ us wr (by omega) HT.out)
        go_wp2_with fail
        refine bodyPost_ret (results_tmp2 rfl _ _ _) rfl ?_
        exact HE.out
end
end Go.Proofs.YtgdmohombcgjbaaGreatDoor
