/-
  The walks of package machine's State and Sees. The walk of package machine's Number. The walk of package machine's Of: a machine of a program, in memory. A map of bools over numbers that a call has made.
-/
import Derived.Test.YtdmnikbhkpcdpaaGreatDoorMcD7All
import Derived.Test.YtdmnikbhkpcdpaaGreatDoorMcFill
import Derived.Test.YtdmnikbhkpcdpaaGreatDoorMcPlaysAll
import Derived.Maps.OwnSet
import Derived.Maps.OwnOps
import Derived.Maps.Views
namespace Go.Proofs.YtdmnikbhkpcdpaaGreatDoor
section
open Go.RowKit
theorem set2_row {W : World} {b : Nat} {x0 y0 : Value} {t : TypeId} (h : W.heap[b]? = some (.cells #[x0, y0] t (0, 0))) (x y : Value) : ((W.setCell ⟨b, 0, none⟩ x).setCell ⟨b, 1, none⟩ y).cell? ⟨b, 0, none⟩ = some x ∧ ((W.setCell ⟨b, 0, none⟩ x).setCell ⟨b, 1, none⟩ y).cell? ⟨b, 1, none⟩ = some y := by
  have h1 : ((W.setCell ⟨b, 0, none⟩ x).setCell ⟨b, 1, none⟩ y).heap[b]? = some (.cells #[x, y] t (0, 0)) := by simp [World.setCell, Array.getElem?_modify, h]
  exact ⟨Lib.cell_of_heap h1 0, Lib.cell_of_heap h1 1⟩
set_option maxHeartbeats 2000000 in
set_option maxRecDepth 100000 in
theorem MState_any (bm : Nat) (p : Ld.Prg) (nv rv nx sv : Value) (S I m g : Nat) (w : World) (h : MachAt w bm nv rv S I nx (slV g p.names.length) sv) (hr : RowIs w g 149 ((Mc.parts p).flatMap ptCells)) (hm : m < S) (hS : S ≤ 4096) (hck : Ld.check p = none) :
    Calls Tryz.prog 17 #[.pointer (some ⟨bm, 0, none⟩), .int .i64 (m : Int)] w (NewSt w (Mc.state (Mc.parts p) m)) := by
  obtain ⟨⟨c0, c1⟩, ⟨c2, c3⟩, c4, c5, c6⟩ := h.cells
  obtain ⟨wz, hwz⟩ : ∃ wz, wz = w.alloc (.cells #[.slice none 0 0, .slice none 0 0] 50) := ⟨_, rfl⟩
  have hbz : Below w.heap.size w wz := by rw [hwz]; exact (Below.refl _ _).alloc (Nat.le_refl _) _
  have hzz : wz.heap.size = w.heap.size + 1 := by rw [hwz]; simp
  have hZ : wz.heap[w.heap.size]? = some (.cells #[.slice none 0 0, .slice none 0 0] 50 (0, 0)) := by rw [hwz]; exact heap_alloc_new _ _
  have HST := hide (state_any (Mc.parts p) g m wz (hr.below hbz) (by rw [Mc.parts_len]; exact (Ld.check_names p hck).1) (Mc.parts_ok p) (Mc.parts_le p hck) (by omega))
  rw [Mc.parts_len] at HST
  have hbm : bm < w.heap.size := (Array.getElem?_eq_some_iff.1 h).1
  have HBZ := hide hbz
  rw [hwz] at HST
  have HWZ := hide hwz
  have pn := fun w a => ptrNe w a
  have hm' : (m : Int) < (S : Int) := by omega
  have hm0 : ¬ ((m : Int) < 0) := by omega
  clear h hr c0 c1 c3 c4 c6 hbz hwz
  go_enter Tryz.func17, Tryz.ntmps17
  go_wp2_with fail
  refine HST.out.mono ?_
  rintro e w1 ⟨gi, gc, rfl, hst, h1, h2, hb⟩
  rw [← HWZ.out] at h1 h2 hb
  have hA1 := (hb.block _ (by omega)).trans hZ
  obtain ⟨z0, z1, z2, z3⟩ := two_cells hA1
  have HS2 := hide (fun x y => set2_row hA1 x y)
  have hz1 := hb.size
  have HS1 := hide hst
  have HB1 := hide hb
  clear hst hb HST hZ hA1
  generalize hn : (Mc.state (Mc.parts p) m).is.length = n
  unfold stV
  go_wp2_with fail
  refine bodyPost_ret_by (v := stV gi gc n) ?_ rfl ?_
  · obtain ⟨y0, y1⟩ := HS2.out (.slice (some ⟨gi, 0, none⟩) n n) (.slice (some ⟨gc, 0, none⟩) n n)
    simp [results, Tryz.results17, go_sem, stV, y0, y1]
  · refine ⟨gi, gc, by rw [hn], ?_, by omega, by omega, ?_⟩
    · refine HS1.out.kept ?_ ?_
      · rw [Below.heap_setCell _ _ _ _ (by dsimp only; omega), Below.heap_setCell _ _ _ _ (by dsimp only; omega)]
      · rw [Below.heap_setCell _ _ _ _ (by dsimp only; omega), Below.heap_setCell _ _ _ _ (by dsimp only; omega)]
    · exact Below.setCell (Below.setCell (HBZ.out.trans (HB1.out.mono HBZ.out.size)) (Nat.le_refl _) _) (Nat.le_refl _) _
set_option maxHeartbeats 2000000 in
set_option maxRecDepth 100000 in
/-- what is seen behind a scan: bits of a number of the table -/
theorem Sees_any (bm : Nat) (n : Nat) (nv rv nx : Value) (S I g gS lo s i x : Nat) (us : List Nat) (rows : Nat → List Value) (w : World) (h : MachAt w bm nv rv S I nx (slV g n) (slV gS S)) (ht : LL w gS 22 3 S I lo us rows) (hul : us.length = S) (hs : s < S) (hi : i < I) (hn : n ≤ 12) (hx : (rows s)[i]? = some (.int .i64 (x : Int))) :
    Calls Tryz.prog 14 #[.pointer (some ⟨bm, 0, none⟩), .int .i64 (s : Int), .int .i64 (i : Int)] w fun e w' => ∃ gb, e = .returned (.tuple #[slV gb n, .nilIface]) ∧ RowIs w' gb 4 ((bitsTo x n).map boolV) ∧ w.heap.size ≤ gb ∧ Below w.heap.size w w' := by
  obtain ⟨⟨c0, c1⟩, ⟨c2, c3⟩, c4, c5, c6⟩ := h.cells
  obtain ⟨b, hb⟩ : ∃ b, us[s]? = some b := ⟨_, List.getElem?_eq_getElem (by omega)⟩
  have r0 := ht.cell s b hb
  have r1 := (ht.row s b hb).1.cell i _ hx
  have HTB := hide (fun W => toBools_any (x : Int) n W (by omega))
  have pn := fun w a => ptrNe w a
  have hs' : (s : Int) < (S : Int) := by omega
  have hi' : (i : Int) < (I : Int) := by omega
  have hs0 : ¬ ((s : Int) < 0) := by omega
  have hi0 : ¬ ((i : Int) < 0) := by omega
  unfold slV at c5 c6 r0
  clear h c0 c1 c2 c3 c4 ht hb hul hx
  go_enter Tryz.func14, Tryz.ntmps14
  go_wp2_with fail
  have HK : Hid (∀ W, Below w.heap.size w W → W.cell? ⟨bm, 5, none⟩ = some (.slice (some ⟨g, 0, none⟩) n n) ∧ W.cell? ⟨bm, 6, none⟩ = some (.slice (some ⟨gS, 0, none⟩) S S) ∧ W.cell? ⟨gS, s, none⟩ = some (.slice (some ⟨b, 0, none⟩) I I) ∧ W.cell? ⟨b, i, none⟩ = some (.int .i64 (x : Int))) := fun W hW =>
    have key : ∀ (p : Addr) v, w.cell? p = some v → W.cell? p = some v := fun p v hv => (hW.cell (World.block_lt_of_cell? _ _ hv)).trans hv
    ⟨key _ _ c5, key _ _ c6, key _ _ r0, key _ _ r1⟩
  have HDA : Hid (Below w.heap.size w w.drew) := ⟨rfl, rfl, rfl, Nat.le_refl _, fun _ _ => rfl⟩
  go_region_held3 (fun W => W.cell? ⟨bm, 5, none⟩ = some (.slice (some ⟨g, 0, none⟩) n n) ∧ W.cell? ⟨bm, 6, none⟩ = some (.slice (some ⟨gS, 0, none⟩) S S) ∧ W.cell? ⟨gS, s, none⟩ = some (.slice (some ⟨b, 0, none⟩) I I) ∧ W.cell? ⟨b, i, none⟩ = some (.int .i64 (x : Int))) ((refine HK.out _ ?_; first | exact HDA.out | exact HB2.out | exact Below.refl _ _)) ((go_at_call 41; (with_reducible refine (HTB.out _).mono ?_); rintro e w2 ⟨gb, rfl, hrow, hg, hb2⟩; have HB2 : Hid (Below w.heap.size w w2) := HDA.out.trans hb2; have HROW := hide hrow; clear hrow))
  have hg' : w.heap.size ≤ gb := hg
  clear hb2 hg
  go_wp2_with fail
  refine bodyPost_ret (results_tmp2 rfl _ _ _) rfl ?_
  exact ⟨gb, rfl, HROW.out, hg', HB2.out⟩
end
section
open Go.RowKit
set_option maxHeartbeats 2000000 in
set_option maxRecDepth 100000 in
theorem MNumber_any (bm : Nat) (p : Ld.Prg) (nv rv nx sv : Value) (S I g gi gc : Nat) (s : Sc.St) (w : World) (h : MachAt w bm nv rv S I nx (slV g p.names.length) sv) (hr : RowIs w g 149 ((Mc.parts p).flatMap ptCells)) (hS : Mc.total (Mc.parts p) ≤ 4096) (hck : Ld.check p = none) (hs : StAt w gi gc s) (hb : Sc.Bd p s) :
    Calls Tryz.prog 16 #[.pointer (some ⟨bm, 0, none⟩), stV gi gc p.names.length] w fun e w' => e = .returned (.int .i64 (Mc.number (Mc.parts p) s.is s.ct : Int)) ∧ Below w.heap.size w w' := by
  obtain ⟨⟨c0, c1⟩, ⟨c2, c3⟩, c4, c5, c6⟩ := h.cells
  have hbm : bm < w.heap.size := (Array.getElem?_eq_some_iff.1 h).1
  have HNU : Hid (∀ W, Below w.heap.size w W → Calls Tryz.prog 42 #[slV g p.names.length, stV gi gc p.names.length] W fun e w' => e = .returned (.int .i64 (Mc.number (Mc.parts p) s.is s.ct : Int)) ∧ Below W.heap.size W w') := fun W hW => by
    have h1 := number_any (Mc.parts p) g gi gc s W (hr.below hW) (by rw [Mc.parts_len]; exact (Ld.check_names p hck).1) (hs.below hW) (by rw [Mc.parts_len]; exact hb.li) (by rw [Mc.parts_len]; exact hb.lc) (Mc.parts_ok p) hS (Mc.parts_le p hck) (Mc.ok_bd p s hb)
    rw [Mc.parts_len] at h1
    exact h1
  have pn := fun w a => ptrNe w a
  clear h hr c0 c1 c2 c3 c4 c6 hs hb hS
  generalize Mc.number (Mc.parts p) s.is s.ct = r at *
  generalize p.names.length = n at *
  unfold slV stV at *
  go_enter Tryz.func16, Tryz.ntmps16
  go_wp2_with fail
  obtain ⟨wA, hwA⟩ : ∃ wA, wA = w.alloc (.cells #[.slice (some ⟨gi, 0, none⟩) n n, .slice (some ⟨gc, 0, none⟩) n n] 50) := ⟨_, rfl⟩
  have HBA : Hid (Below w.heap.size w wA) := by rw [hwA]; exact (Below.refl _ _).alloc (Nat.le_refl _) _
  have hA : wA.heap[w.heap.size]? = some (.cells #[.slice (some ⟨gi, 0, none⟩) n n, .slice (some ⟨gc, 0, none⟩) n n] 50 (0, 0)) := by rw [hwA]; exact heap_alloc_new _ _
  have a5 := (HBA.out.cell (p := ⟨bm, 5, none⟩) hbm).trans c5
  obtain ⟨a0, a1, _, _⟩ := two_cells hA
  have hzA := HBA.out.size
  rw [← hwA]
  clear hwA hA c5
  have HK : Hid (∀ W, Below wA.heap.size wA W → W.cell? ⟨w.heap.size, 0, none⟩ = some (.slice (some ⟨gi, 0, none⟩) n n) ∧ W.cell? ⟨w.heap.size, 1, none⟩ = some (.slice (some ⟨gc, 0, none⟩) n n) ∧ W.cell? ⟨bm, 5, none⟩ = some (.slice (some ⟨g, 0, none⟩) n n)) := fun W hW =>
    have key : ∀ (p : Addr) v, wA.cell? p = some v → W.cell? p = some v := fun p v hv => (hW.cell (World.block_lt_of_cell? _ _ hv)).trans hv
    ⟨key _ _ a0, key _ _ a1, key _ _ a5⟩
  have HDA : Hid (Below wA.heap.size wA wA.drew) := ⟨rfl, rfl, rfl, Nat.le_refl _, fun _ _ => rfl⟩
  have HDD : Hid (Below wA.heap.size wA wA.drew.drew) := ⟨rfl, rfl, rfl, Nat.le_refl _, fun _ _ => rfl⟩
  go_region_held3 (fun W => W.cell? ⟨w.heap.size, 0, none⟩ = some (.slice (some ⟨gi, 0, none⟩) n n) ∧ W.cell? ⟨w.heap.size, 1, none⟩ = some (.slice (some ⟨gc, 0, none⟩) n n) ∧ W.cell? ⟨bm, 5, none⟩ = some (.slice (some ⟨g, 0, none⟩) n n)) ((refine HK.out _ ?_; first | exact HDA.out | exact HDD.out | exact Below.refl _ _)) (fail)
  go_wp2_with fail
  have HD1 : Hid (Below w.heap.size w wA.drew) := HBA.out.trans (HDA.out.mono hzA)
  have HD2 : Hid (Below w.heap.size w wA.drew.drew) := HBA.out.trans (HDD.out.mono hzA)
  go_region_held3 (fun W => W.cell? ⟨w.heap.size, 0, none⟩ = some (.slice (some ⟨gi, 0, none⟩) n n) ∧ W.cell? ⟨w.heap.size, 1, none⟩ = some (.slice (some ⟨gc, 0, none⟩) n n) ∧ W.cell? ⟨bm, 5, none⟩ = some (.slice (some ⟨g, 0, none⟩) n n)) ((refine HK.out _ ?_; first | exact HDA.out | exact HDD.out | exact Below.refl _ _ | exact HB2.out)) ((go_at_call 42; first
    | ((with_reducible refine (HNU.out _ HD1.out).mono ?_); rintro e w2 ⟨rfl, hb2⟩; have HB2 : Hid (Below wA.heap.size wA w2) := HDA.out.trans hb2)
    | ((with_reducible refine (HNU.out _ HD2.out).mono ?_); rintro e w2 ⟨rfl, hb2⟩; have HB2 : Hid (Below wA.heap.size wA w2) := HDD.out.trans hb2)))
  go_wp2_with fail
  go_ret
  exact ⟨rfl, HBA.out.trans (HB2.out.mono hzA)⟩
end
section
open Go.RowKit
/-- block bm is the machine of a program -/
def IsMach (W : World) (bm : Nat) (p : Ld.Prg) : Prop := ∃ nv rv g gN gS lo uN uS, MachAt W bm nv rv (Mc.total (Mc.parts p)) (2 ^ (Ld.kindL p.names 1).length) (slV gN (Mc.total (Mc.parts p))) (slV g p.names.length) (slV gS (Mc.total (Mc.parts p))) ∧ ((uN.length = Mc.total (Mc.parts p) ∧ uS.length = Mc.total (Mc.parts p)) ∧ LL W gN 22 3 (Mc.total (Mc.parts p)) (2 ^ (Ld.kindL p.names 1).length) lo uN (Mc.nextRow p (Ld.kindL p.names 1).length (2 ^ (Ld.kindL p.names 1).length)) ∧ LL W gS 22 3 (Mc.total (Mc.parts p)) (2 ^ (Ld.kindL p.names 1).length) lo uS (Mc.seesRow p (Ld.kindL p.names 1).length (2 ^ (Ld.kindL p.names 1).length))) ∧ (IsPrg W p (.agg #[nv, rv]) ∧ RowIs W g 149 ((Mc.parts p).flatMap ptCells))
theorem IsMach.below {W W' : World} {bm : Nat} {p : Ld.Prg} (h : IsMach W bm p) (hb : Below W.heap.size W W') : IsMach W' bm p := by
  obtain ⟨nv, rv, g, gN, gS, lo, uN, uS, h1, ⟨h2, h3, h4⟩, h5, h6⟩ := h
  exact ⟨nv, rv, g, gN, gS, lo, uN, uS, h1.below hb, ⟨h2, h3.below hb, h4.below hb⟩, h5.below hb, h6.below hb⟩
theorem IsMach.lt {W : World} {bm : Nat} {p : Ld.Prg} (h : IsMach W bm p) : bm < W.heap.size := by
  obtain ⟨nv, rv, g, gN, gS, lo, uN, uS, h1, _⟩ := h
  exact (Array.getElem?_eq_some_iff.1 h1).1
/-- what Of comes to -/
def Ofed (w : World) (p : Ld.Prg) (e : Ending) (w' : World) : Prop := Below w.heap.size w w' ∧ (if (Ld.kindL p.names 1).length ≤ 6 ∧ Mc.total (Mc.parts p) ≤ 4096 then ∃ bm, e = .returned (.tuple #[.pointer (some ⟨bm, 0, none⟩), .nilIface]) ∧ w.heap.size ≤ bm ∧ IsMach w' bm p else e = .returned (.tuple #[.pointer none, .iface 58 (.int .i64 4)]))
theorem below_but {w w' : World} {k : Nat} (h : ∀ j, j < w.heap.size → j ≠ k → w'.heap[j]? = w.heap[j]?) (hz : w.heap.size ≤ w'.heap.size) (h1 : w'.os = w.os) (h2 : w'.tape = w.tape) (h3 : w'.output = w.output) (hk : k ≤ w.heap.size) : Below k w w' := ⟨h1, h2, h3, hz, fun j hj => h j (by omega) (by omega)⟩
set_option maxHeartbeats 4000000 in
set_option maxRecDepth 100000 in
theorem Of_any (p : Ld.Prg) (v : Value) (w : World) (h : IsPrg w p v) (hck : Ld.check p = none) :
    Calls Tryz.prog 35 #[v] w (Ofed w p) := by
  have HCK := hide hck
  have HPR := hide h
  obtain ⟨nv, rv, rfl, hn, hr⟩ := h
  obtain ⟨na, nk, nc, rfl⟩ := slice_of hn
  obtain ⟨ra, rk, rc, rfl⟩ := slice_ofR hr
  have HNA := hide hn
  obtain ⟨wA, hwA⟩ : ∃ wA, wA = w.alloc (.cells #[.slice na nk nc, .slice ra rk rc] 30) := ⟨_, rfl⟩
  have hbA : Below w.heap.size w wA := by rw [hwA]; exact (Below.refl _ _).alloc (Nat.le_refl _) _
  have hsA : wA.heap.size = w.heap.size + 1 := by rw [hwA]; simp
  have hA : wA.heap[w.heap.size]? = some (.cells #[.slice na nk nc, .slice ra rk rc] 30 (0, 0)) := by rw [hwA]; exact heap_alloc_new _ _
  have HX : Hid (∀ W, Below wA.heap.size wA W → W.cell? ⟨w.heap.size, 0, none⟩ = some (.slice na nk nc) ∧ W.cell? ⟨w.heap.size, 1, none⟩ = some (.slice ra rk rc) ∧ Below w.heap.size w W) := by
    intro W hW
    have e0 := (hW.block w.heap.size (by omega)).trans hA
    exact ⟨by rw [Lib.cell_of_heap e0]; rfl, by rw [Lib.cell_of_heap e0]; rfl, hbA.trans (hW.mono (by omega))⟩
  have HC := hide (Check_any p _ wA (HPR.out.below hbA))
  rw [hck] at HC
  rw [hwA] at HC
  have HWA := hide hwA
  have hq12 : (Ld.kindL p.names 1).length ≤ 12 := Nat.le_trans (Ld.placesTo_le _ _ _) (Ld.check_names p hck).1
  obtain ⟨q, hqq⟩ : ∃ q, q = (Ld.kindL p.names 1).length := ⟨_, rfl⟩
  have HQ := hide hqq
  rw [← hqq] at hq12
  clear hwA hn hr hbA hA hqq hck
  go_enter Tryz.func35, Tryz.ntmps35
  go_wp2_with fail
  refine HC.out.mono ?_
  rintro e w1 ⟨er, rfl, he, hb1⟩
  obtain rfl : er = .nilIface := he
  rw [← HWA.out] at hb1
  have HB1 := hide hb1
  obtain ⟨c0, c1, hw1⟩ := HX.out w1 hb1
  have HKI := hide (Kind_any p.names (.slice na nk nc) (.slice ra rk rc) 1 w1 (HNA.out.below hw1) ⟨_, _, _, rfl⟩)
  rw [← HQ.out] at HKI
  clear hb1 HC hw1
  go_wp2_with fail
  refine HKI.out.mono ?_
  rintro e w2 ⟨kv, rfl, hown, hb2⟩
  obtain ⟨ka, kc, rfl⟩ := own_slice hown
  have HB2 := hide (HB1.out.trans (hb2.mono HB1.out.size))
  obtain ⟨d0, d1, hw2⟩ := HX.out w2 HB2.out
  have HW2 := hide hw2
  clear hown hb2 HKI c0 c1 hw2
  by_cases hq6 : 6 < q
  · have hq6' : (6 : Int) < (q : Int) := by omega
    go_wp2_with fail
    refine bodyPost_ret (results_tmp2 rfl _ _ _) rfl ?_
    exact ⟨HW2.out, by rw [if_neg (by rw [← HQ.out]; omega)]; rfl⟩
  have hq6' : ¬ (6 : Int) < (q : Int) := by omega
  have HPA := hide (partsOf_any p _ w2 (HPR.out.below HW2.out) HCK.out)
  go_wp2_with fail
  refine HPA.out.mono ?_
  rintro e w3 ⟨g, rfl, hrow, hg, hb3⟩
  have HB3 := hide (HB2.out.trans (hb3.mono HB2.out.size))
  obtain ⟨f0, f1, hw3⟩ := HX.out w3 HB3.out
  have HROW := hide hrow
  have hpl : (Mc.parts p).length = p.names.length := Mc.parts_len p
  have HSA := hide (states_any (Mc.parts p) g w3 hrow (by rw [hpl]; exact (Ld.check_names p HCK.out).1) (Mc.parts_ok p) (Mc.parts_le p HCK.out))
  rw [hpl] at HSA
  have hgl := hrow.lt
  obtain ⟨n, hnn⟩ : ∃ n, n = p.names.length := ⟨_, rfl⟩
  have HN := hide hnn
  rw [← hnn] at HSA ⊢
  clear hpl hrow hb3 HPA hw3 d0 d1 hnn
  unfold slV at *
  go_wp2_with fail
  refine HSA.out.mono ?_
  rintro e w4 ⟨rfl, hb4⟩
  have HB4 := hide (HB3.out.trans (hb4.mono HB3.out.size))
  obtain ⟨g0, g1, hw4⟩ := HX.out w4 HB4.out
  have HW4 := hide hw4
  have HROW4 := hide (HROW.out.below hb4)
  obtain ⟨S, hSS⟩ : ∃ S, S = Mc.total (Mc.parts p) := ⟨_, rfl⟩
  have HS := hide hSS
  rw [← hSS]
  clear hb4 HSA hw4 f0 f1 HROW hSS
  by_cases hS4 : S ≤ 4096
  · rw [if_pos hS4]
    have HD4 : Hid (Below w4.heap.size w4 w4.drew) := ⟨rfl, rfl, rfl, Nat.le_refl _, fun _ _ => rfl⟩
    have HCO := hide (copied_any p _ w4.drew (HPR.out.below (HW4.out.trans (HD4.out.mono HW4.out.size))))
    have hp : (2 : Nat) ^ q ≤ 2 ^ 6 := Nat.pow_le_pow_right (by decide) (by omega)
    obtain ⟨I, hII⟩ : ∃ I, I = 2 ^ q := ⟨_, rfl⟩
    have HII := hide hII
    have HP2 : Hid (IntKind.i64.wrap ((2 : Int) ^ q) = (I : Int)) := by
      show IntKind.i64.wrap _ = _
      have e : ((2 : Int) ^ q) = (I : Int) := by rw [hII, Int.natCast_pow]; rfl
      rw [e, IntKind.wrap_i64]
      rw [← hII] at hp
      omega
    rw [← hII] at hp
    clear hII
    go_wp2_with fail
    go_region_with (go_at_call 76; (with_reducible refine HCO.out.mono ?_); rintro e w5 ⟨u, rfl, hp5, hb5⟩; obtain ⟨nv5, rv5, hu5, hn5, hr5⟩ := hp5; subst hu5; obtain ⟨na5, nk5, nc5, hna5⟩ := slice_of hn5; obtain ⟨ra5, rk5, rc5, hra5⟩ := slice_ofR hr5; subst hna5; subst hra5)
    rw [HP2.out]
    obtain ⟨w6, hw6⟩ : ∃ w6, w6 = w5.alloc (.cells #[.slice na5 nk5 nc5, .slice ra5 rk5 rc5, .int .i64 (S : Int), .int .i64 (I : Int), .slice none 0 0, .slice (some ⟨g, 0, none⟩) n n, .slice none 0 0] 35) := ⟨_, rfl⟩
    have hb6 : Below w5.heap.size w5 w6 := by rw [hw6]; exact (Below.refl _ _).alloc (Nat.le_refl _) _
    have hz6 : w6.heap.size = w5.heap.size + 1 := by rw [hw6]; simp
    have hM6 : MachAt w6 w5.heap.size (.slice na5 nk5 nc5) (.slice ra5 rk5 rc5) S I (.slice none 0 0) (slV g n) (.slice none 0 0) := by rw [hw6]; exact heap_alloc_new _ _
    have hb45 : Below w4.heap.size w4 w5 := HD4.out.trans hb5
    have hr6 := (HROW4.out.below hb45).below hb6
    have hp6 : IsPrg w6 p (.agg #[.slice na5 nk5 nc5, .slice ra5 rk5 rc5]) := IsPrg.below ⟨_, _, rfl, hn5, hr5⟩ hb6
    rw [HN.out] at hM6
    have HFI := hide (fill_any w5.heap.size p _ _ g S I w6 hM6 hp6 HCK.out hr6 HS.out hS4 (by rw [HII.out, HQ.out]) (by omega))
    rw [hw6] at HFI
    have HW6 := hide hw6
    have HB46 := hide (HW4.out.trans ((hb45.trans (hb6.mono hb45.size)).mono HW4.out.size))
    have hz5 : w.heap.size ≤ w5.heap.size := Nat.le_trans HW4.out.size hb45.size
    clear hw6 hM6 hr6 hp6 hb45 hb5 hb6 hn5 hr5 HCO g0 g1
    go_wp2_with fail
    refine HFI.out.mono ?_
    rintro e w7 ⟨rfl, gN, gS, lo, uN, uS, hm, ⟨⟨hu1, hu2⟩, ht1, ht2⟩, ⟨hpr, hro⟩, hold, hsz, ho1, ho2, ho3⟩
    rw [← HW6.out] at hold hsz ho1 ho2 ho3
    have HB7 : Hid (Below w.heap.size w w7) := by
      refine HB46.out.trans ⟨ho1, ho2, ho3, hsz, fun k hk => hold k ?_ ?_⟩
      · have := HB46.out.size; omega
      · omega
    have HMA : Hid (IsMach w7 w5.heap.size p) := by
      rw [HII.out, HQ.out, HS.out] at hm ht1 ht2
      rw [HS.out] at hu1 hu2
      exact ⟨_, _, g, gN, gS, lo, uN, uS, hm, ⟨⟨hu1, hu2⟩, ht1, ht2⟩, hpr, hro⟩
    clear hm ht1 ht2 hpr hro hold HFI
    go_wp2_with fail
    refine bodyPost_ret (results_tmp2 rfl _ _ _) rfl ?_
    refine ⟨HB7.out, ?_⟩
    rw [if_pos ⟨by rw [← HQ.out]; omega, by rw [← HS.out]; exact hS4⟩]
    exact ⟨w5.heap.size, rfl, hz5, HMA.out⟩
  · rw [if_neg hS4]
    go_wp2_with fail
    refine bodyPost_ret (results_tmp2 rfl _ _ _) rfl ?_
    exact ⟨HW4.out, by rw [if_neg (by rw [← HS.out]; omega)]; rfl⟩
end
section
open Go.RowKit Go.Maps
theorem lawI : Keyed Tryz.prog 3 := int_keyed Tryz.underlying3
theorem zeroBl (w : World) : (zeroValue 4).run Tryz.prog w = .ok (.bool false) w := by kernel_rfl
theorem plain_bool_inv {P : Program} {e : TypeId} (he : P.underlying e = some .bool) {v : Value} {z : DataW Unit × List MemPlace} (h : plainElem P e v = some z) : ∃ x, v = .bool x ∧ z = (.lit (.bool x), []) := by
  unfold plainElem at h
  rw [he] at h
  cases v <;> simp at h
  exact ⟨_, rfl, h.symm⟩
/-- at each number what f tells -/
def EdgeMap (W : World) (b n : Nat) (D : DataW Unit) (f : Nat → Bool) : Prop := W.ownsMap Tryz.prog 3 (plainElem Tryz.prog 4) b n D ∧ ∀ i : Nat, D.atKey (.int .i64 (i : Int)) (.lit (.bool false)) = .lit (.bool (f i))
theorem EdgeMap.made (W : World) : EdgeMap (W.alloc (.map #[] 0)) W.heap.size 0 (.map []) (fun _ => false) := ⟨World.ownsMap_made _ _ _ _, fun _ => rfl⟩
theorem key_int (i : Nat) (hi : i ≤ 100000) : keyOf Tryz.prog 3 (.int .i64 (i : Int)) = some (.int .i64 (i : Int)) := keyOf_int_mk Tryz.underlying3 (WalkArith.wf_i64 (by omega))
theorem EdgeMap.look {W : World} {b n : Nat} {D : DataW Unit} {f : Nat → Bool} (h : EdgeMap W b n D f) (i : Nat) (hi : i ≤ 100000) : (Instr.lookup 83 (.map (some b)) (.int .i64 (i : Int)) false).run Tryz.prog W = .ok (.bool (f i)) W := by
  obtain ⟨v, ps, hrun, hv⟩ := h.1.lookup lawI Tryz.underlying83 (zeroBl W) (plainElem_bool Tryz.underlying4 false) (key_int i hi)
  obtain ⟨x, rfl, hx⟩ := plain_bool_inv Tryz.underlying4 hv
  rw [h.2 i] at hx
  simp only [Prod.mk.injEq, DataW.lit.injEq, Lit.bool.injEq] at hx
  rw [hx.1]; exact hrun
theorem EdgeMap.put {W W' : World} {b n : Nat} {D : DataW Unit} {f : Nat → Bool} (h : EdgeMap W b n D f) (i : Nat) (h' : W'.ownsMap Tryz.prog 3 (plainElem Tryz.prog 4) b (n + 1) (D.put (.int .i64 (i : Int)) (.lit (.bool true)))) : EdgeMap W' b (n + 1) (D.put (.int .i64 (i : Int)) (.lit (.bool true))) (fun j => f j || j == i) := by
  refine ⟨h', fun j => ?_⟩
  by_cases e : j = i
  · subst e
    rw [atKey_put_same h.1.isMap (by trivial)]; simp
  · rw [atKey_put_other (by simp only [ne_eq, Lit.int.injEq, true_and]; omega), h.2 j]
    have : (j == i) = false := by simpa using e
    show _ = DataW.lit (Lit.bool (f j || j == i))
    rw [this, Bool.or_false]
theorem EdgeMap.kept {W W' : World} {b n : Nat} {D : DataW Unit} {f : Nat → Bool} (h : EdgeMap W b n D f) (hb : W'.heap[b]? = W.heap[b]?) : EdgeMap W' b n D f := by
  obtain ⟨⟨es, clock, h1, h2⟩, h3⟩ := h
  exact ⟨⟨es, clock, hb.trans h1, h2⟩, h3⟩
theorem EdgeMap.lt {W : World} {b n : Nat} {D : DataW Unit} {f : Nat → Bool} (h : EdgeMap W b n D f) : b < W.heap.size := h.1.lt
end
end Go.Proofs.YtdmnikbhkpcdpaaGreatDoor
