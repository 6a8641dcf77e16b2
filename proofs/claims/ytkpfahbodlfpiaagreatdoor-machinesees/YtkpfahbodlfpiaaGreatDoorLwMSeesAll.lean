/-
  What stands while the document's scans are played: its state in a block of its own. Slices of bools: how long they are. The walk of the statements' own sameBools. The walks of package machine's State and Sees. The walk of package machine's Sees where it refuses. The walk of package machine's Number. The walk of MachineSees: what states and inputs stand for, and what is true behind a scan, is the document's.
-/
import Derived.Test.YtkpfahbodlfpiaaGreatDoorRfStep
import Derived.Test.YtkpfahbodlfpiaaGreatDoorRgBaseAll
import Derived.Test.YtkpfahbodlfpiaaGreatDoorRfTells
import Derived.Test.YtkpfahbodlfpiaaGreatDoorNaEdgesAll
import Derived.Test.YtkpfahbodlfpiaaGreatDoorRlEdgesAll
import Derived.Test.YtkpfahbodlfpiaaGreatDoorScStepAll
import Derived.Test.YtkpfahbodlfpiaaGreatDoorMcFillAll
import Derived.Deep.RegionHeld3
namespace Go.Proofs.YtkpfahbodlfpiaaGreatDoor
section
namespace Rf
open Go.RowKit
/-- block b holds a state of the document's, made since W0 -/
def SV (b n : Nat) (W0 : World) (st : St) (W : World) : Prop := ∃ m1 m2, W.heap[b]? = some (.cells #[.map (some m1), .map (some m2)] 44 (0, 0)) ∧ StIs W (.agg #[.map (some m1), .map (some m2)]) n st ∧ Below b W0 W
theorem stored2 {W : World} {b : Nat} {x0 y0 : Value} {t : TypeId} (h : W.heap[b]? = some (.cells #[x0, y0] t (0, 0))) (x y : Value) :
    ((W.setCell ⟨b, 0, none⟩ x).setCell ⟨b, 1, none⟩ y).heap[b]? = some (.cells #[x, y] t (0, 0)) ∧ (∀ k, k ≠ b → ((W.setCell ⟨b, 0, none⟩ x).setCell ⟨b, 1, none⟩ y).heap[k]? = W.heap[k]?) ∧ Below b W ((W.setCell ⟨b, 0, none⟩ x).setCell ⟨b, 1, none⟩ y) :=
  ⟨by simp [World.setCell, Array.getElem?_modify, h], fun k hk => by
    have hne : ¬ b = k := fun e => hk e.symm
    simp [World.setCell, Array.getElem?_modify, hne], ((Below.refl b W).setCell (p := ⟨b, 0, none⟩) (Nat.le_refl _) _).setCell (p := ⟨b, 1, none⟩) (Nat.le_refl _) _⟩
theorem StIs.kept {W W' : World} {m1 m2 n : Nat} {st : St} (h : StIs W (.agg #[.map (some m1), .map (some m2)]) n st) (h1 : W'.heap[m1]? = W.heap[m1]?) (h2 : W'.heap[m2]? = W.heap[m2]?) : StIs W' (.agg #[.map (some m1), .map (some m2)]) n st := by
  obtain ⟨b1, b2, e, h3, h4, h5⟩ := h
  have e1 : b1 = m1 ∧ b2 = m2 := by
    simp only [Value.agg.injEq, List.toArray_eq_iff, List.cons.injEq, Value.map.injEq, Option.some.injEq, and_true] at e
    exact ⟨e.1.symm, e.2.symm⟩
  obtain ⟨rfl, rfl⟩ := e1
  exact ⟨b1, b2, rfl, h3.kept h1, h4.kept h2, h5⟩
/-- a new state is stored -/
theorem SV.put {b n : Nat} {W0 W : World} {st2 : St} {x0 y0 : Value} {m1 m2 : Nat} (hV : W.heap[b]? = some (.cells #[x0, y0] 44 (0, 0))) (h0 : Below b W0 W) (hs : StIs W (.agg #[.map (some m1), .map (some m2)]) n st2) :
    SV b n W0 st2 ((W.setCell ⟨b, 0, none⟩ (.map (some m1))).setCell ⟨b, 1, none⟩ (.map (some m2))) := by
  obtain ⟨q1, q2, q3⟩ := stored2 hV (.map (some m1)) (.map (some m2))
  refine ⟨m1, m2, q1, ?_, h0.trans q3⟩
  obtain ⟨b1, b2, e, h3, h4, h5⟩ := id hs
  have e1 : b1 = m1 ∧ b2 = m2 := by
    simp only [Value.agg.injEq, List.toArray_eq_iff, List.cons.injEq, Value.map.injEq, Option.some.injEq, and_true] at e
    exact ⟨e.1.symm, e.2.symm⟩
  obtain ⟨rfl, rfl⟩ := e1
  obtain ⟨es1, c1, o1⟩ := h3.obj
  obtain ⟨es2, c2, o2⟩ := h4.obj
  refine hs.kept (q2 _ (fun e => ?_)) (q2 _ (fun e => ?_))
  · subst e; rw [hV] at o1; cases o1
  · subst e; rw [hV] at o2; cases o2
theorem SV.below {b n : Nat} {W0 W W' : World} {st : St} (h : SV b n W0 st W) (hlt : b < W.heap.size) (hb : Below W.heap.size W W') : SV b n W0 st W' := by
  obtain ⟨m1, m2, h1, h2, h3⟩ := h
  exact ⟨m1, m2, (hb.block _ hlt).trans h1, h2.below hb, h3.trans (hb.mono (by omega))⟩
theorem SV.lt {b n : Nat} {W0 W : World} {st : St} (h : SV b n W0 st W) : b < W.heap.size := by
  obtain ⟨m1, m2, h1, _⟩ := h
  exact (Array.getElem?_eq_some_iff.1 h1).1
/-- at first -/
theorem SV.start {w : World} {m1 m2 : Nat} (h1 : w.ownsMap Tryz.prog 9 (plainElem Tryz.prog 4) m1 0 (.map [] : DataW Unit)) (h2 : w.ownsMap Tryz.prog 9 (plainElem Tryz.prog 3) m2 0 (.map [] : DataW Unit)) :
    SV w.heap.size 0 w start (w.alloc (.cells #[.map (some m1), .map (some m2)] 44)) := by
  have hb : Below w.heap.size w (w.alloc (.cells #[.map (some m1), .map (some m2)] 44)) := (Below.refl _ _).alloc (Nat.le_refl _) _
  exact ⟨m1, m2, heap_alloc_new _ _, ⟨m1, m2, rfl, ⟨.map [], om_below h1 hb, fun _ => rfl⟩, ⟨.map [], om_below h2 hb, fun _ => rfl⟩, fun s => by show _ ≤ (0 : Int) ∧ (0 : Int) ≤ _; omega⟩, hb⟩
theorem ints_of {q : Nat} {W : World} {u : Value} {b : List Int} (h : W.ownsRow q 3 1 u b.length (b.map iV)) (hl : ∀ c, c ∈ b → I64 c) : Ints W u b := by
  rcases h.2 with ⟨rfl, h0⟩ | ⟨g, cap, cur, rfl, _, hcur, hcap, _, _, htk⟩
  · exact .inl ⟨List.length_eq_zero_iff.1 h0, none, 0, rfl⟩
  · refine .inr ⟨g, 0, cap, rfl, hcap, fun i x hx => ?_⟩
    exact ⟨by rw [Nat.zero_add]; exact row_cell hcur htk (by rw [List.getElem?_map, hx]; rfl), hl x (List.mem_of_getElem? hx)⟩
theorem ints_st {W : World} {gi gc : Nat} {s : Sc.St} (h : StAt W gi gc s) (hl : ∀ c, c ∈ s.ct → I64 c) : Ints W (slV gc s.ct.length) s.ct := by
  by_cases h0 : s.ct = []
  · rw [h0]; exact .inl ⟨rfl, _, _, rfl⟩
  · refine .inr ⟨gc, 0, _, rfl, Nat.le_refl _, fun i x hx => ?_⟩
    obtain ⟨hi, hx2⟩ := List.getElem?_eq_some_iff.1 hx
    refine ⟨?_, hl x (List.mem_of_getElem? hx)⟩
    rw [Nat.zero_add]
    have := h.cellC i hi
    rw [this, List.getD_eq_getElem?_getD, List.getElem?_eq_getElem hi, hx2]
    rfl
/-- n cells alike -/
def cellsN (n : Nat) (v : Value) : Array Value := ⟨List.replicate n v⟩
theorem makeBN (n : Nat) (hn : n ≤ 1000000) (w : World) : (Instr.makeSlice 47 (.int .i64 (n : Int)) (.int .i64 (n : Int))).run Tryz.prog w = .ok (.slice (some ⟨w.heap.size, 0, none⟩) n n) (w.alloc (.cells (cellsN n (.bool false)) 4)) := makeBs n hn w
theorem makeIN (n : Nat) (hn : n ≤ 1000000) (w : World) : (Instr.makeSlice 22 (.int .i64 (n : Int)) (.int .i64 (n : Int))).run Tryz.prog w = .ok (.slice (some ⟨w.heap.size, 0, none⟩) n n) (w.alloc (.cells (cellsN n (.int .i64 0)) 3)) := makeIs n hn w
theorem makeBBN (n : Nat) (hn : n ≤ 1000000) (w : World) : (Instr.makeSlice 34 (.int .i64 (n : Int)) (.int .i64 (n : Int))).run Tryz.prog w = .ok (.slice (some ⟨w.heap.size, 0, none⟩) n n) (w.alloc (.cells (cellsN n (.slice none 0 0)) 47)) :=
  make_one Tryz.underlying34 Tryz.infoBools rfl (by decide) n hn w
theorem makeBB1001 (w : World) : (Instr.makeSlice 34 (.int .i64 1001) (.int .i64 1001)).run Tryz.prog w = .ok (.slice (some ⟨w.heap.size, 0, none⟩) 1001 1001) (w.alloc (.cells (cellsN 1001 (.slice none 0 0)) 47)) := makeBBN 1001 (by decide) w
/-- one row of inputs -/
theorem insAt_one {W : World} {g b k : Nat} (h1 : W.heap[g]? = some (.cells #[.slice (some ⟨b, 0, none⟩) k k] 47 (0, 0))) (h2 : W.heap[b]? = some (.cells (cellsN k (.bool false)) 4 (0, 0))) (hk : k ≤ 1000000) : InsAt W (.slice (some ⟨g, 0, none⟩) 1 1) [List.replicate k false] := by
  refine .inr ⟨g, 1, rfl, Nat.le_refl _, fun i l hl => ?_⟩
  cases i with
  | succ i => simp at hl
  | zero =>
    simp only [List.getElem?_cons_zero, Option.some.injEq] at hl
    subst hl
    refine ⟨.slice (some ⟨b, 0, none⟩) k k, by rw [Lib.cell_of_heap h1]; rfl, some ⟨b, 0, none⟩, k, by rw [List.length_replicate], by rw [List.length_replicate]; exact hk, fun j x hj => ⟨b, rfl, ?_⟩⟩
    have hjk : j < k := by have := (List.getElem?_eq_some_iff.1 hj).1; rwa [List.length_replicate] at this
    rw [List.getElem?_replicate, if_pos hjk] at hj
    rw [Lib.cell_of_heap h2]
    obtain rfl := Option.some.inj hj
    simp [cellsN, hjk]
theorem below_al (w : World) (o : Obj) : Below w.heap.size w (w.alloc o) := (Below.refl _ _).alloc (Nat.le_refl _) _
theorem lt_some {W : World} {k : Nat} {o : Obj} (h : W.heap[k]? = some o) : k < W.heap.size := (Array.getElem?_eq_some_iff.1 h).1
theorem at1 {w W : World} {o : Obj} (h : Below (w.alloc o).heap.size (w.alloc o) W) : W.heap[w.heap.size]? = some o := (h.block _ (by simp)).trans (heap_alloc_new _ _)
theorem at2 {w W : World} {o1 o2 : Obj} (h : Below ((w.alloc o1).alloc o2).heap.size ((w.alloc o1).alloc o2) W) : W.heap[w.heap.size]? = some o1 ∧ W.heap[w.heap.size + 1]? = some o2 := by
  have e := at1 h
  rw [World.size_alloc] at e
  exact ⟨at1 (then_ (below_al _ _) h), e⟩
theorem at3 {w W : World} {o1 o2 o3 : Obj} (h : Below (((w.alloc o1).alloc o2).alloc o3).heap.size (((w.alloc o1).alloc o2).alloc o3) W) : (W.heap[w.heap.size]? = some o1 ∧ W.heap[w.heap.size + 1]? = some o2) ∧ W.heap[w.heap.size + 1 + 1]? = some o3 := by
  have e := at1 h
  rw [World.size_alloc, World.size_alloc] at e
  exact ⟨at2 (then_ (below_al _ _) h), e⟩
theorem at4 {w W : World} {o1 o2 o3 o4 : Obj} (h : Below ((((w.alloc o1).alloc o2).alloc o3).alloc o4).heap.size ((((w.alloc o1).alloc o2).alloc o3).alloc o4) W) : ((W.heap[w.heap.size]? = some o1 ∧ W.heap[w.heap.size + 1]? = some o2) ∧ W.heap[w.heap.size + 1 + 1]? = some o3) ∧ W.heap[w.heap.size + 1 + 1 + 1]? = some o4 := by
  have e := at1 h
  rw [World.size_alloc, World.size_alloc, World.size_alloc] at e
  exact ⟨at3 (then_ (below_al _ _) h), e⟩
theorem un_drew {w W : World} (h : Below w.drew.heap.size w.drew W) : Below w.heap.size w W := then_ (b := w.drew) ⟨rfl, rfl, rfl, Nat.le_refl _, fun _ _ => rfl⟩ h
theorem at1d {w W : World} {o : Obj} (h : Below (w.alloc o).drew.heap.size (w.alloc o).drew W) : W.heap[w.heap.size]? = some o := at1 (un_drew h)
theorem at2d {w W : World} {o1 o2 : Obj} (h : Below ((w.alloc o1).alloc o2).drew.heap.size ((w.alloc o1).alloc o2).drew W) : W.heap[w.heap.size]? = some o1 ∧ W.heap[w.heap.size + 1]? = some o2 := at2 (un_drew h)
theorem at3d {w W : World} {o1 o2 o3 : Obj} (h : Below (((w.alloc o1).alloc o2).alloc o3).drew.heap.size (((w.alloc o1).alloc o2).alloc o3).drew W) : (W.heap[w.heap.size]? = some o1 ∧ W.heap[w.heap.size + 1]? = some o2) ∧ W.heap[w.heap.size + 1 + 1]? = some o3 := at3 (un_drew h)
theorem at4d {w W : World} {o1 o2 o3 o4 : Obj} (h : Below ((((w.alloc o1).alloc o2).alloc o3).alloc o4).drew.heap.size ((((w.alloc o1).alloc o2).alloc o3).alloc o4).drew W) : ((W.heap[w.heap.size]? = some o1 ∧ W.heap[w.heap.size + 1]? = some o2) ∧ W.heap[w.heap.size + 1 + 1]? = some o3) ∧ W.heap[w.heap.size + 1 + 1 + 1]? = some o4 := at4 (un_drew h)
theorem bools_st {W : World} {gi gc : Nat} {s : Sc.St} (h : StAt W gi gc s) (hl : s.is.length ≤ 1000000) : Bools W (slV gi s.is.length) s.is := ⟨some ⟨gi, 0, none⟩, s.is.length, rfl, hl, fun i b hb => ⟨gi, rfl, by
  obtain ⟨hi, hb2⟩ := List.getElem?_eq_some_iff.1 hb
  rw [h.cellI i hi, List.getD_eq_getElem?_getD, List.getElem?_eq_getElem hi, hb2]
  rfl⟩⟩
theorem isV_of (p : Ld.Prg) (hck : Ld.check p = none) (s : Sc.St) (hl : s.is.length = p.names.length) : isV (of p.names s) p.names = s.is.map boolV := by
  have h := tells_is p hck s.is hl
  have e : s.is.map boolV = (p.names.map (fun n => Sc.told p.names s.is n.name)).map boolV := by rw [h]
  rw [e, List.map_map]
  rfl
theorem ctV_of (p : Ld.Prg) (hck : Ld.check p = none) (s : Sc.St) (hl : s.ct.length = p.names.length) : ctV (of p.names s) p.names = s.ct.map iV := by
  have h := tells_ct p hck s.ct hl
  have e : s.ct.map iV = (p.names.map (fun n => toldC p.names s.ct n.name)).map iV := by rw [h]
  rw [e, List.map_map]
  rfl
end Rf
end
section
open Go.RowKit
theorem Bools.len {w : World} {v : Value} {l : List Bool} (h : Bools w v l) : l.length ≤ 1000000 := by obtain ⟨_, _, _, h, _⟩ := h; exact h
theorem Bools.slice {w : World} {v : Value} {l : List Bool} (h : Bools w v l) : ∃ a c, v = .slice a l.length c := by obtain ⟨a, c, h, _⟩ := h; exact ⟨a, c, h⟩
end
section
open Go.RowKit
set_option maxHeartbeats 2000000 in
set_option maxRecDepth 100000 in
theorem lsameB_any (l : List Bool) (u v : Value) (w : World) (hu : Bools w u l) (hv : Bools w v l) :
    Calls Tryz.prog 13 #[u, v] w fun e w' => e = .returned (.bool true) ∧ Below w.heap.size w w' := by
  have HU := hide hu
  have HV := hide hv
  obtain ⟨n, hn⟩ : ∃ n, n = l.length := ⟨_, rfl⟩
  have HN := hide hn
  have hl6 := hu.len
  obtain ⟨ua, uc, rfl⟩ := hu.slice
  obtain ⟨va, vc, rfl⟩ := hv.slice
  rw [← hn] at HU HV hl6 ⊢
  clear hu hv hn
  go_enter Tryz.func13, Tryz.ntmps13
  go_wp2_with fail
  go_loopw [5] (fun i wr => ∃ k : Nat, k ≤ n ∧ i = .int .i64 (k : Int) ∧ Hid (Below w.heap.size w wr)) (fun i _ => n - (intOf i).toNat)
  case atStart => exact ⟨0, Nat.zero_le _, rfl, Below.refl _ _⟩
  case round =>
    obtain ⟨k, hk, rfl, HB⟩ := hrel
    by_cases hlt : k < n
    · have hkl : k < l.length := by rw [← HN.out]; exact hlt
      have hx := List.getElem?_eq_getElem hkl
      obtain ⟨a1, c1, e1, _, b1⟩ := HU.out.below HB.out
      obtain ⟨a2, c2, e2, _, b2⟩ := HV.out.below HB.out
      simp only [Value.slice.injEq] at e1 e2
      obtain ⟨g1, ga1, d1⟩ := b1 k _ hx
      obtain ⟨g2, ga2, d2⟩ := b2 k _ hx
      obtain ⟨e1, _, _⟩ := e1
      obtain ⟨e2, _, _⟩ := e2
      rw [ga1] at e1
      rw [ga2] at e2
      subst e1
      subst e2
      clear b1 b2 ga1 ga2
      generalize l[k] = x at *
      clear hx
      go_wp2_with fail
      go_quiet (fail)
      go_wp2_with fail
      go_roundw
      case rel => exact ⟨k + 1, by omega, by go_num, HB.out.trans ⟨rfl, rfl, rfl, Nat.le_refl _, fun _ _ => rfl⟩⟩
      case measure => simp [intOf]; omega
    · have hkn : k = n := by omega
      subst hkn
      go_wp2_with fail
      go_ret
      exact ⟨rfl, HB.out⟩
end
section
open Go.RowKit
theorem set2_row {W : World} {b : Nat} {x0 y0 : Value} {t : TypeId} (h : W.heap[b]? = some (.cells #[x0, y0] t (0, 0))) (x y : Value) : ((W.setCell ⟨b, 0, none⟩ x).setCell ⟨b, 1, none⟩ y).cell? ⟨b, 0, none⟩ = some x ∧ ((W.setCell ⟨b, 0, none⟩ x).setCell ⟨b, 1, none⟩ y).cell? ⟨b, 1, none⟩ = some y := by
  have h1 : ((W.setCell ⟨b, 0, none⟩ x).setCell ⟨b, 1, none⟩ y).heap[b]? = some (.cells #[x, y] t (0, 0)) := by simp [World.setCell, Array.getElem?_modify, h]
  exact ⟨Lib.cell_of_heap h1 0, Lib.cell_of_heap h1 1⟩
set_option maxHeartbeats 2000000 in
set_option maxRecDepth 100000 in
theorem MState_any (bm : Nat) (p : Ld.Prg) (nv rv nx sv : Value) (S I m g : Nat) (w : World) (h : MachAt w bm nv rv S I nx (slV g p.names.length) sv) (hr : RowIs w g 145 ((Mc.parts p).flatMap ptCells)) (hm : m < S) (hS : S ≤ 4096) (hck : Ld.check p = none) :
    Calls Tryz.prog 26 #[.pointer (some ⟨bm, 0, none⟩), .int .i64 (m : Int)] w (NewSt w (Mc.state (Mc.parts p) m)) := by
  obtain ⟨⟨c0, c1⟩, ⟨c2, c3⟩, c4, c5, c6⟩ := h.cells
  obtain ⟨wz, hwz⟩ : ∃ wz, wz = w.alloc (.cells #[.slice none 0 0, .slice none 0 0] 52) := ⟨_, rfl⟩
  have hbz : Below w.heap.size w wz := by rw [hwz]; exact (Below.refl _ _).alloc (Nat.le_refl _) _
  have hzz : wz.heap.size = w.heap.size + 1 := by rw [hwz]; simp
  have hZ : wz.heap[w.heap.size]? = some (.cells #[.slice none 0 0, .slice none 0 0] 52 (0, 0)) := by rw [hwz]; exact heap_alloc_new _ _
  have HST := hide (state_any (Mc.parts p) g m wz (hr.below hbz) (by rw [Mc.parts_len]; exact (Ld.check_names p hck).1) (Mc.parts_ok p) (Mc.parts_le p hck) (by omega))
  rw [Mc.parts_len] at HST
  have hbm : bm < w.heap.size := (Array.getElem?_eq_some_iff.1 h).1
  have HBZ := hide hbz
  rw [hwz] at HST
  have HWZ := hide hwz
  have pn := fun w a => ptrNe w a
  have hm' : (m : Int) < (S : Int) := by omega
  have hm0 : ¬ ((m : Int) < 0) := by omega
  clear h hr c0 c1 c3 c4 c6 hbz hwz
  go_enter Tryz.func26, Tryz.ntmps26
  go_wp2_with fail
  refine HST.out.mono ?_
  rintro e w1 ⟨gi, gc, rfl, hst, h1, h2, hb⟩
  rw [← HWZ.out] at h1 h2 hb
  have hA1 := (hb.block _ (by omega)).trans hZ
  obtain ⟨z0, z1, z2, z3⟩ := two_cells hA1
  have HS2 := hide (fun x y => set2_row hA1 x y)
  have hz1 := hb.size
  have HS1 := hide hst
  have HB1 := hide hb
  clear hst hb HST hZ hA1
  generalize hn : (Mc.state (Mc.parts p) m).is.length = n
  unfold stV
  go_wp2_with fail
  refine bodyPost_ret_by (v := stV gi gc n) ?_ rfl ?_
  · obtain ⟨y0, y1⟩ := HS2.out (.slice (some ⟨gi, 0, none⟩) n n) (.slice (some ⟨gc, 0, none⟩) n n)
    simp [results, Tryz.results26, go_sem, stV, y0, y1]
  · refine ⟨gi, gc, by rw [hn], ?_, by omega, by omega, ?_⟩
    · refine HS1.out.kept ?_ ?_
      · rw [Below.heap_setCell _ _ _ _ (by dsimp only; omega), Below.heap_setCell _ _ _ _ (by dsimp only; omega)]
      · rw [Below.heap_setCell _ _ _ _ (by dsimp only; omega), Below.heap_setCell _ _ _ _ (by dsimp only; omega)]
    · exact Below.setCell (Below.setCell (HBZ.out.trans (HB1.out.mono HBZ.out.size)) (Nat.le_refl _) _) (Nat.le_refl _) _
set_option maxHeartbeats 2000000 in
set_option maxRecDepth 100000 in
/-- what is seen behind a scan: bits of a number of the table -/
theorem Sees_any (bm : Nat) (n : Nat) (nv rv nx : Value) (S I g gS lo s i x : Nat) (us : List Nat) (rows : Nat → List Value) (w : World) (h : MachAt w bm nv rv S I nx (slV g n) (slV gS S)) (ht : LL w gS 22 3 S I lo us rows) (hul : us.length = S) (hs : s < S) (hi : i < I) (hn : n ≤ 12) (hx : (rows s)[i]? = some (.int .i64 (x : Int))) :
    Calls Tryz.prog 23 #[.pointer (some ⟨bm, 0, none⟩), .int .i64 (s : Int), .int .i64 (i : Int)] w fun e w' => ∃ gb, e = .returned (.tuple #[slV gb n, .nilIface]) ∧ RowIs w' gb 4 ((bitsTo x n).map boolV) ∧ w.heap.size ≤ gb ∧ Below w.heap.size w w' := by
  obtain ⟨⟨c0, c1⟩, ⟨c2, c3⟩, c4, c5, c6⟩ := h.cells
  obtain ⟨b, hb⟩ : ∃ b, us[s]? = some b := ⟨_, List.getElem?_eq_getElem (by omega)⟩
  have r0 := ht.cell s b hb
  have r1 := (ht.row s b hb).1.cell i _ hx
  have HTB := hide (fun W => toBools_any (x : Int) n W (by omega))
  have pn := fun w a => ptrNe w a
  have hs' : (s : Int) < (S : Int) := by omega
  have hi' : (i : Int) < (I : Int) := by omega
  have hs0 : ¬ ((s : Int) < 0) := by omega
  have hi0 : ¬ ((i : Int) < 0) := by omega
  unfold slV at c5 c6 r0
  clear h c0 c1 c2 c3 c4 ht hb hul hx
  go_enter Tryz.func23, Tryz.ntmps23
  go_wp2_with fail
  have HK : Hid (∀ W, Below w.heap.size w W → W.cell? ⟨bm, 5, none⟩ = some (.slice (some ⟨g, 0, none⟩) n n) ∧ W.cell? ⟨bm, 6, none⟩ = some (.slice (some ⟨gS, 0, none⟩) S S) ∧ W.cell? ⟨gS, s, none⟩ = some (.slice (some ⟨b, 0, none⟩) I I) ∧ W.cell? ⟨b, i, none⟩ = some (.int .i64 (x : Int))) := fun W hW =>
    have key : ∀ (p : Addr) v, w.cell? p = some v → W.cell? p = some v := fun p v hv => (hW.cell (World.block_lt_of_cell? _ _ hv)).trans hv
    ⟨key _ _ c5, key _ _ c6, key _ _ r0, key _ _ r1⟩
  have HDA : Hid (Below w.heap.size w w.drew) := ⟨rfl, rfl, rfl, Nat.le_refl _, fun _ _ => rfl⟩
  go_region_held3 (fun W => W.cell? ⟨bm, 5, none⟩ = some (.slice (some ⟨g, 0, none⟩) n n) ∧ W.cell? ⟨bm, 6, none⟩ = some (.slice (some ⟨gS, 0, none⟩) S S) ∧ W.cell? ⟨gS, s, none⟩ = some (.slice (some ⟨b, 0, none⟩) I I) ∧ W.cell? ⟨b, i, none⟩ = some (.int .i64 (x : Int))) ((refine HK.out _ ?_; first | exact HDA.out | exact HB2.out | exact Below.refl _ _)) ((go_at_call 46; (with_reducible refine (HTB.out _).mono ?_); rintro e w2 ⟨gb, rfl, hrow, hg, hb2⟩; have HB2 : Hid (Below w.heap.size w w2) := HDA.out.trans hb2; have HROW := hide hrow; clear hrow))
  have hg' : w.heap.size ≤ gb := hg
  clear hb2 hg
  go_wp2_with fail
  refine bodyPost_ret (results_tmp2 rfl _ _ _) rfl ?_
  exact ⟨gb, rfl, HROW.out, hg', HB2.out⟩
end
section
open Go.RowKit
theorem ptrNil (w : World) : (binOp BinOp.eql 62 (.pointer none) (.pointer none)).run Tryz.prog w = .ok (.bool true) w := by kernel_rfl
set_option maxHeartbeats 2000000 in
set_option maxRecDepth 100000 in
theorem Sees_nil (s i : Int) (w : World) :
    Calls Tryz.prog 23 #[.pointer none, .int .i64 s, .int .i64 i] w fun e w' => e = .returned (.tuple #[.slice none 0 0, .iface 58 (.int .i64 7)]) ∧ Below w.heap.size w w' := by
  have pn := ptrNil
  go_enter Tryz.func23, Tryz.ntmps23
  go_wp2_with fail
  refine bodyPost_ret (results_tmp2 rfl _ _ _) rfl ?_
  exact ⟨rfl, Below.refl _ _⟩
set_option maxHeartbeats 2000000 in
set_option maxRecDepth 100000 in
theorem Sees_out (bm : Nat) (nv rv nx pv : Value) (S I gS lo : Nat) (us : List Nat) (rows : Nat → List Value) (s i : Int) (w : World) (h : MachAt w bm nv rv S I nx pv (slV gS S)) (ht : LL w gS 22 3 S I lo us rows) (hul : us.length = S) (hbad : s < 0 ∨ (S : Int) ≤ s ∨ i < 0 ∨ (I : Int) ≤ i) :
    Calls Tryz.prog 23 #[.pointer (some ⟨bm, 0, none⟩), .int .i64 s, .int .i64 i] w fun e w' => e = .returned (.tuple #[.slice none 0 0, .iface 58 (.int .i64 2)]) ∧ Below w.heap.size w w' := by
  obtain ⟨⟨c0, c1⟩, ⟨c2, c3⟩, c4, c5, c6⟩ := h.cells
  have pn := fun w a => ptrNe w a
  unfold slV at c6
  by_cases h1 : s < 0
  · clear h ht hbad c0 c1 c2 c3 c4 c5 hul
    go_enter Tryz.func23, Tryz.ntmps23
    go_wp2_with fail
    refine bodyPost_ret (results_tmp2 rfl _ _ _) rfl ?_
    exact ⟨rfl, Below.refl _ _⟩
  by_cases h2 : (S : Int) ≤ s
  · clear h ht hbad c0 c1 c2 c3 c4 c5 hul
    go_enter Tryz.func23, Tryz.ntmps23
    go_wp2_with fail
    refine bodyPost_ret (results_tmp2 rfl _ _ _) rfl ?_
    exact ⟨rfl, Below.refl _ _⟩
  by_cases h3 : i < 0
  · clear h ht hbad c0 c1 c2 c3 c4 c5 hul
    go_enter Tryz.func23, Tryz.ntmps23
    go_wp2_with fail
    refine bodyPost_ret (results_tmp2 rfl _ _ _) rfl ?_
    exact ⟨rfl, Below.refl _ _⟩
  have h4 : (I : Int) ≤ i := by omega
  obtain ⟨sn, rfl⟩ : ∃ sn : Nat, s = (sn : Int) := ⟨s.toNat, by omega⟩
  obtain ⟨b, hb⟩ : ∃ b, us[sn]? = some b := ⟨_, List.getElem?_eq_getElem (by omega)⟩
  have r0 := ht.cell sn b hb
  unfold slV at r0
  have hsS : (sn : Int) < (S : Int) := by omega
  clear h ht hbad c0 c1 c2 c3 c4 c5 hul hb
  go_enter Tryz.func23, Tryz.ntmps23
  go_wp2_with fail
  refine bodyPost_ret (results_tmp2 rfl _ _ _) rfl ?_
  exact ⟨rfl, Below.refl _ _⟩
end
section
open Go.RowKit
set_option maxHeartbeats 2000000 in
set_option maxRecDepth 100000 in
theorem MNumber_any (bm : Nat) (p : Ld.Prg) (nv rv nx sv : Value) (S I g gi gc : Nat) (s : Sc.St) (w : World) (h : MachAt w bm nv rv S I nx (slV g p.names.length) sv) (hr : RowIs w g 145 ((Mc.parts p).flatMap ptCells)) (hS : Mc.total (Mc.parts p) ≤ 4096) (hck : Ld.check p = none) (hs : StAt w gi gc s) (hb : Sc.Bd p s) :
    Calls Tryz.prog 28 #[.pointer (some ⟨bm, 0, none⟩), stV gi gc p.names.length] w fun e w' => e = .returned (.int .i64 (Mc.number (Mc.parts p) s.is s.ct : Int)) ∧ Below w.heap.size w w' := by
  obtain ⟨⟨c0, c1⟩, ⟨c2, c3⟩, c4, c5, c6⟩ := h.cells
  have hbm : bm < w.heap.size := (Array.getElem?_eq_some_iff.1 h).1
  have HNU : Hid (∀ W, Below w.heap.size w W → Calls Tryz.prog 48 #[slV g p.names.length, stV gi gc p.names.length] W fun e w' => e = .returned (.int .i64 (Mc.number (Mc.parts p) s.is s.ct : Int)) ∧ Below W.heap.size W w') := fun W hW => by
    have h1 := number_any (Mc.parts p) g gi gc s W (hr.below hW) (by rw [Mc.parts_len]; exact (Ld.check_names p hck).1) (hs.below hW) (by rw [Mc.parts_len]; exact hb.li) (by rw [Mc.parts_len]; exact hb.lc) (Mc.parts_ok p) hS (Mc.parts_le p hck) (Mc.ok_bd p s hb)
    rw [Mc.parts_len] at h1
    exact h1
  have pn := fun w a => ptrNe w a
  clear h hr c0 c1 c2 c3 c4 c6 hs hb hS
  generalize Mc.number (Mc.parts p) s.is s.ct = r at *
  generalize p.names.length = n at *
  unfold slV stV at *
  go_enter Tryz.func28, Tryz.ntmps28
  go_wp2_with fail
  obtain ⟨wA, hwA⟩ : ∃ wA, wA = w.alloc (.cells #[.slice (some ⟨gi, 0, none⟩) n n, .slice (some ⟨gc, 0, none⟩) n n] 52) := ⟨_, rfl⟩
  have HBA : Hid (Below w.heap.size w wA) := by rw [hwA]; exact (Below.refl _ _).alloc (Nat.le_refl _) _
  have hA : wA.heap[w.heap.size]? = some (.cells #[.slice (some ⟨gi, 0, none⟩) n n, .slice (some ⟨gc, 0, none⟩) n n] 52 (0, 0)) := by rw [hwA]; exact heap_alloc_new _ _
  have a5 := (HBA.out.cell (p := ⟨bm, 5, none⟩) hbm).trans c5
  obtain ⟨a0, a1, _, _⟩ := two_cells hA
  have hzA := HBA.out.size
  rw [← hwA]
  clear hwA hA c5
  have HK : Hid (∀ W, Below wA.heap.size wA W → W.cell? ⟨w.heap.size, 0, none⟩ = some (.slice (some ⟨gi, 0, none⟩) n n) ∧ W.cell? ⟨w.heap.size, 1, none⟩ = some (.slice (some ⟨gc, 0, none⟩) n n) ∧ W.cell? ⟨bm, 5, none⟩ = some (.slice (some ⟨g, 0, none⟩) n n)) := fun W hW =>
    have key : ∀ (p : Addr) v, wA.cell? p = some v → W.cell? p = some v := fun p v hv => (hW.cell (World.block_lt_of_cell? _ _ hv)).trans hv
    ⟨key _ _ a0, key _ _ a1, key _ _ a5⟩
  have HDA : Hid (Below wA.heap.size wA wA.drew) := ⟨rfl, rfl, rfl, Nat.le_refl _, fun _ _ => rfl⟩
  have HDD : Hid (Below wA.heap.size wA wA.drew.drew) := ⟨rfl, rfl, rfl, Nat.le_refl _, fun _ _ => rfl⟩
  go_region_held3 (fun W => W.cell? ⟨w.heap.size, 0, none⟩ = some (.slice (some ⟨gi, 0, none⟩) n n) ∧ W.cell? ⟨w.heap.size, 1, none⟩ = some (.slice (some ⟨gc, 0, none⟩) n n) ∧ W.cell? ⟨bm, 5, none⟩ = some (.slice (some ⟨g, 0, none⟩) n n)) ((refine HK.out _ ?_; first | exact HDA.out | exact HDD.out | exact Below.refl _ _)) (fail)
  go_wp2_with fail
  have HD1 : Hid (Below w.heap.size w wA.drew) := HBA.out.trans (HDA.out.mono hzA)
  have HD2 : Hid (Below w.heap.size w wA.drew.drew) := HBA.out.trans (HDD.out.mono hzA)
  go_region_held3 (fun W => W.cell? ⟨w.heap.size, 0, none⟩ = some (.slice (some ⟨gi, 0, none⟩) n n) ∧ W.cell? ⟨w.heap.size, 1, none⟩ = some (.slice (some ⟨gc, 0, none⟩) n n) ∧ W.cell? ⟨bm, 5, none⟩ = some (.slice (some ⟨g, 0, none⟩) n n)) ((refine HK.out _ ?_; first | exact HDA.out | exact HDD.out | exact Below.refl _ _ | exact HB2.out)) ((go_at_call 48; first
    | ((with_reducible refine (HNU.out _ HD1.out).mono ?_); rintro e w2 ⟨rfl, hb2⟩; have HB2 : Hid (Below wA.heap.size wA w2) := HDA.out.trans hb2)
    | ((with_reducible refine (HNU.out _ HD2.out).mono ?_); rintro e w2 ⟨rfl, hb2⟩; have HB2 : Hid (Below wA.heap.size wA w2) := HDD.out.trans hb2)))
  go_wp2_with fail
  go_ret
  exact ⟨rfl, HBA.out.trans (HB2.out.mono hzA)⟩
end
section
open Go.RowKit
namespace Rf
set_option maxHeartbeats 16000000 in
set_option maxRecDepth 100000 in
theorem machineSees_of (hbo : ∀ (s : ByteArray) (w : World), s.size ≤ maxLen → Laid w → PLaid w → Calls Tryz.prog 6 #[.string s] w (Sl.Both s w)) (s : ByteArray) (si ii : Int) (w : World) (hs : s.size ≤ maxLen) (hL : Laid w) (hP : PLaid w) :
    Calls Tryz.prog 5 #[.string s, .int .i64 si, .int .i64 ii] w fun e w' => e = .returned (.bool true) ∧ Below w.heap.size w w' := by
  have HMS := hide (machines_of hbo s 60 w hs hL hP)
  have HL := hide hL
  have HP := hide hP
  clear hL hP
  go_enter Tryz.func5, Tryz.ntmps5
  go_wp2_with fail
  refine HMS.out.mono ?_
  rintro e w1 ⟨hb1, he⟩
  clear HMS
  rcases he with rfl | ⟨p, bm, bx, rfl, _, hmach, hrm, hck, hok, hq4, hS60⟩
  · have HB1 := hide hb1
    clear hb1
    go_wp2_with fail
    go_ret
    exact ⟨rfl, HB1.out⟩
  · have HCK := hide hck
    have HB1 := hide hb1
    have h12 := (Ld.check_names p hck).1
    obtain ⟨nv, rv, g, gN, gS, lo, uN, uS, h1, ⟨⟨hN1, hN2⟩, h3, h4⟩, h5, h6⟩ := hmach
    obtain ⟨nv3, rv3, nx, us, qb, k1, k2, k3⟩ := hrm
    have HPR := hide h5
    have HRP := hide k2
    have HRO := hide h6
    obtain ⟨nv3', rv3', he, hn3, hr3⟩ := k2
    simp only [Value.agg.injEq, List.toArray_eq_iff, List.cons.injEq, and_true] at he
    obtain ⟨rfl, rfl⟩ := he
    have HNA := hide hn3
    obtain ⟨ua, uc, rfl, _⟩ := hn3.slice
    obtain ⟨ta, tc, rfl, _⟩ := hr3.slice
    obtain ⟨q, hqq⟩ : ∃ q, q = (Ld.kindL p.names 1).length := ⟨_, rfl⟩
    have HQ := hide hqq
    obtain ⟨S, hSS⟩ : ∃ S, S = Mc.total (Mc.parts p) := ⟨_, rfl⟩
    have HS := hide hSS
    obtain ⟨n, hnn⟩ : ∃ n, n = p.names.length := ⟨_, rfl⟩
    have HN := hide hnn
    obtain ⟨I, hII⟩ : ∃ I, I = 2 ^ q := ⟨_, rfl⟩
    have HI := hide hII
    have hI16 : I ≤ 16 := by rw [hII, hqq]; exact Nat.pow_le_pow_right (by decide) hq4
    rw [← hqq] at h1 h3 h4 k1 hq4
    rw [← hSS] at h1 h4 k1 hN2 hS60
    rw [← hII] at h1 h4 k1
    rw [← hnn] at h1 h12 HRP HNA k1
    have HM1 := hide h1
    have HTS := hide h4
    have HX1 := hide k1
    have HRR := hide (fun W (hW : Below w1.heap.size w1 W) => (k1.below hW).cells)
    have hw1 : bx < w1.heap.size := k1.lt
    have pn := fun w a => ptrNe w a
    obtain ⟨m3, hm3⟩ : ∃ m, m = p.rungs.length := ⟨_, rfl⟩
    rw [← hm3] at HX1 HRP HRR
    have hwX : ∀ W, Below w1.heap.size w1 W → Below w.heap.size w W := fun W hW => HB1.out.trans (hW.mono HB1.out.size)
    have HWX := hide hwX
    clear h1 h3 h4 h5 h6 k1 k3 hn3 hr3 hb1 hqq hSS hnn hII hm3 hok hck hwX hN1
    by_cases hbad : si < 0 ∨ (S : Int) ≤ si ∨ ii < 0 ∨ (I : Int) ≤ ii
    · have HSO := hide (Sees_out bm _ _ _ _ S I gS lo uS _ si ii w1 HM1.out HTS.out hN2 hbad)
      go_wp2_with fail
      refine HSO.out.mono ?_
      rintro e w2 ⟨rfl, hb2⟩
      have HB2 := hide hb2
      have HSN := hide (Sees_nil 0 0 w2)
      clear hb2 HSO
      go_wp2_with fail
      refine HSN.out.mono ?_
      rintro e w3 ⟨rfl, hb3⟩
      have HB3 : Hid (Below w1.heap.size w1 w3) := then_ HB2.out hb3
      have HBA := hide (Sl.lbare_any 7 w3 (HL.out.below (HWX.out w3 HB3.out)).door)
      clear hb3 HSN
      go_wp2_with fail
      refine HBA.out.mono ?_
      rintro e w4 ⟨rfl, hb4⟩
      have HB4 : Hid (Below w1.heap.size w1 w4) := then_ HB3.out hb4
      have HBB := hide (Sl.lbare_any 2 w4 (HL.out.below (HWX.out w4 HB4.out)).door)
      obtain ⟨_, ⟨c2, c3⟩, _⟩ := HRR.out w4 HB4.out
      have HFIN : Hid (∀ (e : Ending) (w5 : World), (e = .returned (.bool true) ∧ Below w4.heap.size w4 w5) → Below w.heap.size w w5) := fun e w5 h => HWX.out w5 (then_ HB4.out h.2)
      clear hb4 HBA
      by_cases g1 : si < 0
      · go_wp2_with fail
        refine HBB.out.mono ?_
        rintro e w5 ⟨rfl, hb5⟩
        have HF := hide (HFIN.out _ w5 ⟨rfl, hb5⟩)
        clear hb5 HBB
        go_wp2_with fail
        go_ret
        exact ⟨ret_bool (by first | rfl | simp), HF.out⟩
      by_cases g2 : (S : Int) ≤ si
      · go_wp2_with fail
        refine HBB.out.mono ?_
        rintro e w5 ⟨rfl, hb5⟩
        have HF := hide (HFIN.out _ w5 ⟨rfl, hb5⟩)
        clear hb5 HBB
        go_wp2_with fail
        go_ret
        exact ⟨ret_bool (by first | rfl | simp), HF.out⟩
      by_cases g3 : ii < 0
      · go_wp2_with fail
        refine HBB.out.mono ?_
        rintro e w5 ⟨rfl, hb5⟩
        have HF := hide (HFIN.out _ w5 ⟨rfl, hb5⟩)
        clear hb5 HBB
        go_wp2_with fail
        go_ret
        exact ⟨ret_bool (by first | rfl | simp), HF.out⟩
      have g4 : (I : Int) ≤ ii := by omega
      go_wp2_with fail
      refine HBB.out.mono ?_
      rintro e w5 ⟨rfl, hb5⟩
      have HF := hide (HFIN.out _ w5 ⟨rfl, hb5⟩)
      clear hb5 HBB
      go_wp2_with fail
      go_ret
      exact ⟨ret_bool (by first | rfl | simp), HF.out⟩
    · obtain ⟨sn, rfl⟩ : ∃ sn : Nat, si = (sn : Int) := ⟨si.toNat, by omega⟩
      obtain ⟨i, rfl⟩ : ∃ i : Nat, ii = (i : Int) := ⟨ii.toNat, by omega⟩
      have hsS : sn < S := by omega
      have hiI : i < I := by omega
      have g1 : ¬ (sn : Int) < 0 := by omega
      have g2 : ¬ (S : Int) ≤ (sn : Int) := by omega
      have g3 : ¬ (i : Int) < 0 := by omega
      have g4 : ¬ (I : Int) ≤ (i : Int) := by omega
      have HBD := hide (after1_bd p HCK.out sn i)
      have HNX := hide (nxt_of p HCK.out sn i)
      rw [← HQ.out] at HBD HNX
      have HSEE := hide (Sees_any bm n _ _ _ S I g gS lo sn i (Mc.val (Mc.after1 p q sn i).is) uS (Mc.seesRow p q I) w1 HM1.out HTS.out hN2 hsS hiI h12 (Mc.seesRow_at _ _ _ _ _ hiI))
      have HL1 : Hid ((Mc.after1 p q sn i).is.length = n) := by show _ = _; rw [HBD.out.li, HN.out]
      have HVB : Hid (bitsTo (Mc.val (Mc.after1 p q sn i).is : Int) n = (Mc.after1 p q sn i).is) := by show _ = _; rw [← HL1.out]; exact Mc.val_back _
      have HIV1 : Hid (isV (step p (state p sn) (bitsTo i q)) p.names = (Mc.after1 p q sn i).is.map boolV) := by show _ = _; rw [HNX.out]; exact isV_of p HCK.out _ HBD.out.li
      have HBD0 := hide (Mc.state_bd p HCK.out sn)
      have HIV0 : Hid (isV (state p sn) p.names = (Mc.state (Mc.parts p) sn).is.map boolV) := by show _ = _; rw [state_is p HCK.out]; exact isV_of p HCK.out _ HBD0.out.li
      have HCV0 : Hid (ctV (state p sn) p.names = (Mc.state (Mc.parts p) sn).ct.map iV) := by show _ = _; rw [state_is p HCK.out]; exact ctV_of p HCK.out _ HBD0.out.lc
      have HL0 : Hid ((Mc.state (Mc.parts p) sn).is.length = n ∧ (Mc.state (Mc.parts p) sn).ct.length = n) := ⟨by rw [HBD0.out.li, HN.out], by rw [HBD0.out.lc, HN.out]⟩
      have HSM : Hid (∀ c, c ∈ (Mc.state (Mc.parts p) sn).ct → I64 c) := fun c hc => by have := HBD0.out.small HCK.out c hc; unfold I64; omega
      have HNUM0 : Hid (Mc.number (Mc.parts p) (Mc.state (Mc.parts p) sn).is (Mc.state (Mc.parts p) sn).ct = sn) := Mc.number_state _ _ (Mc.parts_ok p) (by rw [← HS.out]; exact hsS)
      have HSA : Hid (∀ W, Below w1.heap.size w1 W → Calls Tryz.prog 24 #[.pointer (some ⟨bx, 0, none⟩), .int .i64 (sn : Int)] W fun e w' => Below W.heap.size W w' ∧ ∃ v', e = .returned v' ∧ StIs w' v' 12 (state p sn)) := fun W hW =>
        RState_any bx p _ _ _ S I sn W (HX1.out.below hW) (HRP.out.below hW) ((HP.out.below (HWX.out W hW)).r) HCK.out (by omega)
      have HIN : Hid (∀ W, Below w1.heap.size w1 W → Calls Tryz.prog 25 #[.pointer (some ⟨bx, 0, none⟩), .int .i64 (i : Int)] W fun e w' => ∃ v, e = .returned v ∧ w'.ownsRow W.heap.size 4 1 v (bitsTo i q).length ((bitsTo i q).map boolV) ∧ Below W.heap.size W w') := fun W hW => by
        rw [bitsTo_len, HQ.out]
        exact RInput_any bx p.names _ _ _ S I i W (HX1.out.below hW) (HNA.out.below hW) ⟨_, _, _, rfl⟩ (by omega)
      have HSTP : Hid (∀ W sv iv, Below w1.heap.size w1 W → StIs W sv 12 (state p sn) → Bools W iv (bitsTo i q) → Calls Tryz.prog 11 #[.agg #[.slice ua n uc, .slice ta m3 tc], sv, iv] W fun e w' => Below W.heap.size W w' ∧ ∃ v', e = .returned v' ∧ StIs w' v' 212 (step p (state p sn) (bitsTo i q))) := fun W sv iv hW hs hb =>
        Step_any p _ sv iv 12 _ _ W (HRP.out.below hW) HCK.out hs (by omega) hb (by rw [bitsTo_len]; exact HQ.out)
      have HTL : Hid (∀ W sv k st, Below w1.heap.size w1 W → StIs W sv k st → Calls Tryz.prog 12 #[sv, .agg #[.slice ua n uc, .slice ta m3 tc]] W fun e w' => Below W.heap.size W w' ∧ ∃ v1 v2, e = .returned (.tuple #[v1, v2]) ∧ T2 W.heap.size w' 4 3 v1 v2 (isV st p.names) (ctV st p.names)) := fun W sv k st hW hs =>
        Tells_any p.names _ _ sv k st W (HNA.out.below hW) ⟨_, _, _, rfl⟩ hs
      have HKEEP : Hid (∀ W, Below w1.heap.size w1 W → W.cell? ⟨bx, 0, none⟩ = some (.slice ua n uc) ∧ W.cell? ⟨bx, 1, none⟩ = some (.slice ta m3 tc)) := fun W hW => (HRR.out W hW).1
      have HMST : Hid (∀ W, Below w1.heap.size w1 W → Calls Tryz.prog 26 #[.pointer (some ⟨bm, 0, none⟩), .int .i64 (sn : Int)] W (NewSt W (Mc.state (Mc.parts p) sn))) := fun W hW =>
        MState_any bm p _ _ _ _ S I sn g W (by rw [← HN.out]; exact HM1.out.below hW) (HRO.out.below hW) hsS (by omega) HCK.out
      have HMIN : Hid (∀ W, Below w1.heap.size w1 W → Calls Tryz.prog 27 #[.pointer (some ⟨bm, 0, none⟩), .int .i64 (i : Int)] W fun e w' => ∃ gb, e = .returned (slV gb q) ∧ RowIs w' gb 4 ((bitsTo i q).map boolV) ∧ W.heap.size ≤ gb ∧ Below W.heap.size W w') := fun W hW => by
        rw [HQ.out]
        exact Input_any bm p _ _ _ _ _ S I i W (HM1.out.below hW) (HPR.out.below hW) hiI HCK.out
      have HMNU : Hid (∀ W gi gc, Below w1.heap.size w1 W → StAt W gi gc (Mc.state (Mc.parts p) sn) → Calls Tryz.prog 28 #[.pointer (some ⟨bm, 0, none⟩), stV gi gc n] W fun e w' => e = .returned (.int .i64 (sn : Int)) ∧ Below W.heap.size W w') := fun W gi gc hW hs => by
        have h := MNumber_any bm p _ _ _ _ S I g gi gc _ W (by rw [← HN.out]; exact HM1.out.below hW) (HRO.out.below hW) (by rw [← HS.out]; omega) HCK.out hs HBD0.out
        rw [HNUM0.out, ← HN.out] at h
        exact h
      have HLR : Hid ((bitsTo (i : Int) q).length ≤ 1000000) := by show _ ≤ _; rw [bitsTo_len]; omega
      generalize hA1 : Mc.after1 p q sn i = A1 at *
      clear hA1 hbad
      go_wp2_with fail
      refine HSEE.out.mono ?_
      rintro e w2 ⟨gb, rfl, hrow, _, hb2⟩
      rw [HVB.out] at hrow
      have HB2 := hide hb2
      have HGOT : Hid (∀ W, Below w2.heap.size w2 W → Bools W (slV gb n) A1.is) := fun W hW => by rw [← HL1.out]; exact bools_row (hrow.below hW) (by rw [HL1.out]; omega)
      have HSN := hide (Sees_nil 0 0 w2)
      clear hb2 HSEE hrow
      go_wp2_with fail
      refine HSN.out.mono ?_
      rintro e w3 ⟨rfl, hb3⟩
      have HB3 : Hid (Below w1.heap.size w1 w3) := then_ HB2.out hb3
      have HB23 := hide hb3
      have HBA := hide (Sl.lbare_any 7 w3 (HL.out.below (HWX.out w3 HB3.out)).door)
      clear hb3 HSN
      go_wp2_with fail
      refine HBA.out.mono ?_
      rintro e w4 ⟨rfl, hb4⟩
      have HB4 : Hid (Below w1.heap.size w1 w4) := then_ HB3.out hb4
      have HG4 : Hid (∀ W, Below w4.heap.size w4 W → Bools W (slV gb n) A1.is) := fun W hW => HGOT.out W (then_ HB23.out (then_ hb4 hW))
      obtain ⟨⟨c0, c1⟩, ⟨c2, c3⟩, _⟩ := HRR.out w4 HB4.out
      clear hb4 HBA HGOT
      have HD4 : Hid (Below w1.heap.size w1 w4.drew) := then_ HB4.out ⟨rfl, rfl, rfl, Nat.le_refl _, fun _ _ => rfl⟩
      have HR4 : Hid (Below w4.heap.size w4 w4.drew) := ⟨rfl, rfl, rfl, Nat.le_refl _, fun _ _ => rfl⟩
      go_wp2_with fail
      go_region_held3 (fun W => W.cell? ⟨bx, 0, none⟩ = some (.slice ua n uc) ∧ W.cell? ⟨bx, 1, none⟩ = some (.slice ta m3 tc)) ((refine HKEEP.out _ ?_; first | exact HD4.out | exact HC1.out.1 | exact HC2.out.1 | exact HC3.out.1 | exact HC4.out.1 | exact HB4.out)) ((first
        | (go_at_call 24; (with_reducible refine (HSA.out _ HD4.out).mono ?_); rintro e wB ⟨hb, sv, rfl, hst⟩; have HC1 : Hid (Below w1.heap.size w1 wB ∧ Below w4.heap.size w4 wB) := ⟨then_ HD4.out hb, then_ HR4.out hb⟩; have HST := hide hst; clear hb hst)
        | (go_at_call 25; (with_reducible refine (HIN.out _ HC1.out.1).mono ?_); rintro e wC ⟨iv, rfl, hown, hb⟩; have HC2 : Hid (Below w1.heap.size w1 wC ∧ Below w4.heap.size w4 wC) := ⟨then_ HC1.out.1 hb, then_ HC1.out.2 hb⟩; have HST2 := hide (HST.out.below hb); have HBO := hide (bools_of hown HLR.out); clear hb hown)
        | (go_at_call 11; (with_reducible refine (HSTP.out _ _ _ HC2.out.1 HST2.out HBO.out).mono ?_); rintro e wD ⟨hb, sv3, rfl, hst⟩; have HC3 : Hid (Below w1.heap.size w1 wD ∧ Below w4.heap.size w4 wD) := ⟨then_ HC2.out.1 hb, then_ HC2.out.2 hb⟩; have HST3 := hide hst; clear hb hst)
        | (go_at_call 12; (with_reducible refine (HTL.out _ _ _ _ HC3.out.1 HST3.out).mono ?_); rintro e wE ⟨hb, v1, v2, rfl, ht2⟩; have HC4 : Hid (Below w1.heap.size w1 wE ∧ Below w4.heap.size w4 wE) := ⟨then_ HC3.out.1 hb, then_ HC3.out.2 hb⟩; have HT2 := hide ht2; clear hb ht2)))
      have HIS : Hid (∀ W, Below wE.heap.size wE W → Bools W v1 A1.is) := fun W hW => by
        have h := HT2.out.o1
        rw [HIV1.out, List.length_map] at h
        exact (bools_of h (by rw [HL1.out]; omega)).below hW
      clear c0 c1 c2 c3 HST HST2 HST3 HBO HT2 HC1 HC2 HC3
      obtain ⟨⟨c0, c1⟩, ⟨c2, c3⟩, _⟩ := HRR.out wE HC4.out.1
      have HDE : Hid (Below w1.heap.size w1 wE.drew) := then_ HC4.out.1 ⟨rfl, rfl, rfl, Nat.le_refl _, fun _ _ => rfl⟩
      have HRE : Hid (Below wE.heap.size wE wE.drew) := ⟨rfl, rfl, rfl, Nat.le_refl _, fun _ _ => rfl⟩
      go_wp2_with fail
      go_region_held3 (fun W => W.cell? ⟨bx, 0, none⟩ = some (.slice ua n uc) ∧ W.cell? ⟨bx, 1, none⟩ = some (.slice ta m3 tc)) ((refine HKEEP.out _ ?_; first | exact HDE.out | exact HF1.out.1 | exact HF2.out.1 | exact HC4.out.1)) ((first
        | (go_at_call 24; (with_reducible refine (HSA.out _ HDE.out).mono ?_); rintro e wF ⟨hb, sv, rfl, hst⟩; have HF1 : Hid (Below w1.heap.size w1 wF ∧ Below wE.heap.size wE wF) := ⟨then_ HDE.out hb, then_ HRE.out hb⟩; have HST := hide hst; clear hb hst)
        | (go_at_call 12; (with_reducible refine (HTL.out _ _ _ _ HF1.out.1 HST.out).mono ?_); rintro e wG ⟨hb, v3, v4, rfl, ht2⟩; have HF2 : Hid (Below w1.heap.size w1 wG ∧ Below wE.heap.size wE wG) := ⟨then_ HF1.out.1 hb, then_ HF1.out.2 hb⟩; have HT3 := hide ht2; clear hb ht2)))
      have HA : Hid (∀ W, Below wG.heap.size wG W → Bools W v3 (Mc.state (Mc.parts p) sn).is) := fun W hW => by
        have h := HT3.out.o1
        rw [HIV0.out, List.length_map] at h
        exact (bools_of h (by rw [HL0.out.1]; omega)).below hW
      have HB : Hid (∀ W, Below wG.heap.size wG W → Ints W v4 (Mc.state (Mc.parts p) sn).ct) := fun W hW => by
        have h := HT3.out.o2
        rw [HCV0.out, List.length_map] at h
        exact (ints_of h HSM.out).below hW
      have HMT := hide (HMST.out wG HF2.out.1)
      clear c0 c1 c2 c3 HST HT3 HF1
      go_wp2_with fail
      refine HMT.out.mono ?_
      rintro e wH ⟨gi, gc, rfl, hst, _, _, hbH⟩
      rw [HL0.out.1]
      have HGH : Hid (∀ W, Below wH.heap.size wH W → Below w1.heap.size w1 W ∧ Bools W (slV gb n) A1.is ∧ Bools W v1 A1.is ∧ Bools W v3 (Mc.state (Mc.parts p) sn).is ∧ Ints W v4 (Mc.state (Mc.parts p) sn).ct ∧ StAt W gi gc (Mc.state (Mc.parts p) sn)) := fun W hW => by
        have e1 : Below wG.heap.size wG W := then_ hbH hW
        have e2 : Below wE.heap.size wE W := then_ HF2.out.2 e1
        exact ⟨then_ HF2.out.1 e1, HG4.out W (then_ HC4.out.2 e2), HIS.out W e2, HA.out W e1, HB.out W e1, hst.kept (hW.block _ hst.lt.1) (hW.block _ hst.lt.2)⟩
      clear hst hbH HMT HA HB HIS HG4
      unfold stV
      obtain ⟨wI, hwI⟩ : ∃ wI, wI = wH.alloc (.cells #[.slice (some ⟨gi, 0, none⟩) n n, .slice (some ⟨gc, 0, none⟩) n n] 52) := ⟨_, rfl⟩
      have hbI : Below wH.heap.size wH wI := by rw [hwI]; exact (Below.refl _ _).alloc (Nat.le_refl _) _
      have hI0 : wI.heap[wH.heap.size]? = some (.cells #[.slice (some ⟨gi, 0, none⟩) n n, .slice (some ⟨gc, 0, none⟩) n n] 52 (0, 0)) := by rw [hwI]; exact heap_alloc_new _ _
      have hltI : wH.heap.size < wI.heap.size := by rw [hwI]; simp
      have HTC : Hid (∀ W, Below wI.heap.size wI W → (W.cell? ⟨wH.heap.size, 0, none⟩ = some (.slice (some ⟨gi, 0, none⟩) n n) ∧ W.cell? ⟨wH.heap.size, 1, none⟩ = some (.slice (some ⟨gc, 0, none⟩) n n)) ∧ Below wH.heap.size wH W) := fun W hW => by
        have e0 := (hW.block _ hltI).trans hI0
        exact ⟨⟨by rw [Lib.cell_of_heap e0]; rfl, by rw [Lib.cell_of_heap e0]; rfl⟩, then_ hbI hW⟩
      have HS1 : Hid (Calls Tryz.prog 13 #[slV gb n, v1] wI fun e w' => e = .returned (.bool true) ∧ Below wI.heap.size wI w') := lsameB_any _ _ _ _ (HGH.out wI hbI).2.1 (HGH.out wI hbI).2.2.1
      unfold slV at HS1
      rw [hwI] at HS1
      have HWI := hide hwI
      clear hwI hbI hI0 hltI
      unfold slV
      go_wp2_with fail
      refine HS1.out.mono ?_
      rintro e w5 ⟨rfl, hb5⟩
      rw [← HWI.out] at hb5
      have HB5 := hide hb5
      obtain ⟨⟨x0, x1⟩, x2⟩ := HTC.out w5 hb5
      have hB1 : Bools w5 (slV gi n) (Mc.state (Mc.parts p) sn).is := by have h := bools_row ((HGH.out w5 x2).2.2.2.2.2.rowI) (by rw [HL0.out.1]; omega); rw [HL0.out.1] at h; exact h
      have HS2 := hide (lsameB_any _ _ _ w5 hB1 (HGH.out w5 x2).2.2.2.1)
      unfold slV at HS2
      clear hb5 HS1 x2 hB1
      go_wp2_with fail
      refine HS2.out.mono ?_
      rintro e w6 ⟨rfl, hb6⟩
      have HB6 : Hid (Below wI.heap.size wI w6) := then_ HB5.out hb6
      clear x0 x1
      obtain ⟨⟨x0, x1⟩, x2⟩ := HTC.out w6 HB6.out
      have hB1 : Ints w6 (slV gc n) (Mc.state (Mc.parts p) sn).ct := by have h := ints_st (HGH.out w6 x2).2.2.2.2.2 HSM.out; rw [HL0.out.2] at h; exact h
      have HS3 := hide (lsameI_any _ _ _ w6 hB1 (HGH.out w6 x2).2.2.2.2.1 (by rw [HL0.out.2]; omega))
      unfold slV at HS3
      clear hb6 HS2 x2 hB1
      go_wp2_with fail
      refine HS3.out.mono ?_
      rintro e w7 ⟨rfl, hb7⟩
      have HB7 : Hid (Below wI.heap.size wI w7) := then_ HB6.out hb7
      clear x0 x1
      obtain ⟨_, x2⟩ := HTC.out w7 HB7.out
      have HS4 := hide (HMIN.out w7 (HGH.out w7 x2).1)
      clear hb7 HS3 x2
      go_wp2_with fail
      refine HS4.out.mono ?_
      rintro e w8 ⟨g8, rfl, hrow8, _, hb8⟩
      have HB8 : Hid (Below wI.heap.size wI w8) := then_ HB7.out hb8
      obtain ⟨_, x2⟩ := HTC.out w8 HB8.out
      have HS5 := hide (HIN.out w8 (HGH.out w8 x2).1)
      have HR8 := hide hrow8
      clear hb8 HS4 x2 hrow8
      unfold slV
      go_wp2_with fail
      refine HS5.out.mono ?_
      rintro e w9 ⟨iv, rfl, hown, hb9⟩
      have HB9 : Hid (Below wI.heap.size wI w9) := then_ HB8.out hb9
      have hB1 : Bools w9 (slV g8 q) (bitsTo i q) := by have h := bools_row (HR8.out.below hb9) HLR.out; rw [bitsTo_len] at h; exact h
      have HS6 := hide (lsameB_any _ _ _ w9 hB1 (bools_of hown HLR.out))
      unfold slV at HS6
      clear hb9 HS5 hown hB1
      go_wp2_with fail
      refine HS6.out.mono ?_
      rintro e w10 ⟨rfl, hb10⟩
      have HB10 : Hid (Below wI.heap.size wI w10) := then_ HB9.out hb10
      obtain ⟨⟨x0, x1⟩, x2⟩ := HTC.out w10 HB10.out
      have HS7 := hide (HMNU.out w10 gi gc (HGH.out w10 x2).1 (HGH.out w10 x2).2.2.2.2.2)
      unfold stV at HS7
      clear hb10 HS6 x2
      go_wp2_with fail
      refine HS7.out.mono ?_
      rintro e w11 ⟨rfl, hb11⟩
      have HB11 : Hid (Below wI.heap.size wI w11) := then_ HB10.out hb11
      have HF := hide (HWX.out w11 (HGH.out w11 (HTC.out w11 HB11.out).2).1)
      clear hb11 HS7 x0 x1
      go_wp2_with fail
      go_ret
      exact ⟨ret_bool (by first | rfl | simp), HF.out⟩
end Rf
end
end Go.Proofs.YtkpfahbodlfpiaaGreatDoor
