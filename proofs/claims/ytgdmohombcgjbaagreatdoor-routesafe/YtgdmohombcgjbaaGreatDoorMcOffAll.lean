/-
  A machine in memory; the walks of package scan's Do and package machine's Input. Tables of rows in memory, as package machine's fill lays them. Programs stand where blocks turn in which no texts and no interface values lie.
-/
import Derived.Test.YtgdmohombcgjbaaGreatDoorMcCopiedAll
namespace Go.Proofs.YtgdmohombcgjbaaGreatDoor
section
open Go.RowKit
/-- a machine's block -/
def MachAt (W : World) (bm : Nat) (nv rv : Value) (S I : Nat) (nx pv sv : Value) : Prop := W.heap[bm]? = some (.cells #[nv, rv, .int .i64 (S : Int), .int .i64 (I : Int), nx, pv, sv] 75 (0, 0))
theorem MachAt.cells {W : World} {bm : Nat} {nv rv : Value} {S I : Nat} {nx pv sv : Value} (h : MachAt W bm nv rv S I nx pv sv) : (W.cell? ⟨bm, 0, none⟩ = some nv ∧ W.cell? ⟨bm, 1, none⟩ = some rv) ∧ (W.cell? ⟨bm, 2, none⟩ = some (.int .i64 (S : Int)) ∧ W.cell? ⟨bm, 3, none⟩ = some (.int .i64 (I : Int))) ∧ W.cell? ⟨bm, 4, none⟩ = some nx ∧ W.cell? ⟨bm, 5, none⟩ = some pv ∧ W.cell? ⟨bm, 6, none⟩ = some sv :=
  ⟨⟨by rw [Lib.cell_of_heap h]; rfl, by rw [Lib.cell_of_heap h]; rfl⟩, ⟨by rw [Lib.cell_of_heap h]; rfl, by rw [Lib.cell_of_heap h]; rfl⟩, by rw [Lib.cell_of_heap h]; rfl, by rw [Lib.cell_of_heap h]; rfl, by rw [Lib.cell_of_heap h]; rfl⟩
theorem MachAt.below {W W' : World} {bm : Nat} {nv rv : Value} {S I : Nat} {nx pv sv : Value} (h : MachAt W bm nv rv S I nx pv sv) (hb : Below W.heap.size W W') : MachAt W' bm nv rv S I nx pv sv := (hb.block _ (Array.getElem?_eq_some_iff.1 h).1).trans h
theorem set2_alloc {W : World} {b : Nat} {x0 y0 : Value} {t : TypeId} (h : W.heap[b]? = some (.cells #[x0, y0] t (0, 0))) (x y : Value) (o : Obj) : (((W.setCell ⟨b, 0, none⟩ x).setCell ⟨b, 1, none⟩ y).alloc o).cell? ⟨b, 0, none⟩ = some x ∧ (((W.setCell ⟨b, 0, none⟩ x).setCell ⟨b, 1, none⟩ y).alloc o).cell? ⟨b, 1, none⟩ = some y := by
  have hl : b < W.heap.size := (Array.getElem?_eq_some_iff.1 h).1
  have h1 : (((W.setCell ⟨b, 0, none⟩ x).setCell ⟨b, 1, none⟩ y).alloc o).heap[b]? = some (.cells #[x, y] t (0, 0)) := by
    rw [Below.heap_alloc _ _ _ (by simpa [World.setCell] using hl)]
    simp [World.setCell, Array.getElem?_modify, h]
  exact ⟨(two_cells h1).1, (two_cells h1).2.1⟩
set_option maxHeartbeats 2000000 in
set_option maxRecDepth 100000 in
theorem Do_any (p : Ld.Prg) (v iv : Value) (gi gc : Nat) (s : Sc.St) (inp : List Bool) (w : World) (h : IsPrg w p v) (hck : Ld.check p = none) (hs : StAt w gi gc s) (hsi : s.is.length = p.names.length) (hsc : s.ct.length = p.names.length)
    (hct : ∀ c, c ∈ s.ct → 0 ≤ c ∧ c ≤ 7) (hin : Bools w iv inp) (hil : inp.length = (Ld.kindL p.names 1).length) :
    Calls Tryz.prog 56 #[v, stV gi gc p.names.length, iv] w fun e w' => ∃ gi' gc', e = .returned (stV gi' gc' p.names.length) ∧ StAt w' gi' gc' (Sc.step p s inp) ∧ w.heap.size ≤ gi' ∧ w.heap.size ≤ gc' ∧ Below w.heap.size w w' := by
  obtain ⟨n, hnn⟩ : ∃ n, n = p.names.length := ⟨_, rfl⟩
  obtain ⟨nv, rv, rfl, hn, hr⟩ := h
  have HPR : Hid (IsPrg w p (.agg #[nv, rv])) := ⟨nv, rv, rfl, hn, hr⟩
  obtain ⟨na, nk, nc, rfl⟩ := slice_of hn
  obtain ⟨ra, rk, rc, rfl⟩ := slice_ofR hr
  have HIN := hide hin
  obtain ⟨ia, ic, rfl, _, _⟩ := hin
  obtain ⟨wA, hwA⟩ : ∃ wA, wA = ((w.alloc (.cells #[.slice na nk nc, .slice ra rk rc] 28)).alloc (.cells #[.slice (some ⟨gi, 0, none⟩) n n, .slice (some ⟨gc, 0, none⟩) n n] 123)).alloc (.cells #[.slice none 0 0, .slice none 0 0] 123) := ⟨_, rfl⟩
  have hbA : Below w.heap.size w wA := by rw [hwA]; exact below_alloc3 _ _ _ _
  have hzA : wA.heap.size = w.heap.size + 1 + 1 + 1 := by rw [hwA]; simp
  have hA : wA.heap[w.heap.size + 1 + 1]? = some (.cells #[.slice none 0 0, .slice none 0 0] 123 (0, 0)) := by rw [hwA]; exact (cells3 _ _ _ _).2.2
  have HST := hide (step_any p _ _ gi gc s inp wA (HPR.out.below hbA) hck (hs.below hbA) hsi hsc hct (HIN.out.below hbA) hil)
  rw [← hnn] at HST ⊢
  unfold stV at *
  rw [hwA] at HST
  have HWA := hide hwA
  have HBA := hide hbA
  have HNN := hide hnn
  clear hwA hn hr hs hbA hnn hil hsi hsc
  go_enter Tryz.func56, Tryz.ntmps56
  go_wp2_with fail
  refine HST.out.mono ?_
  rintro e w1 ⟨gi', gc', rfl, hst, hg1, hg2, hb1⟩
  rw [← HWA.out] at hg1 hg2 hb1
  have hz1 := hb1.size
  have hA1 := (hb1.block _ (by omega)).trans hA
  obtain ⟨z0, z1, z2, z3⟩ := two_cells hA1
  have HS2 := hide (fun x y o => set2_alloc hA1 x y o)
  have HST1 := hide hst
  have HB1 := hide (HBA.out.trans (hb1.mono HBA.out.size))
  have hzl : w.heap.size + 1 + 1 < w1.heap.size := by omega
  clear hst hb1 HST hA hA1
  unfold stV
  go_wp2_with fail
  refine bodyPost_ret_by (v := stV gi' gc' n) ?_ rfl ?_
  · obtain ⟨y0, y1⟩ := HS2.out (.slice (some ⟨gi', 0, none⟩) n n) (.slice (some ⟨gc', 0, none⟩) n n) (.cells #[.slice (some ⟨gi', 0, none⟩) n n, .slice (some ⟨gc', 0, none⟩) n n] 123)
    simp [results, Tryz.results56, go_sem, stV, y0, y1]
  · refine ⟨gi', gc', rfl, ?_, by omega, by omega, ?_⟩
    · have hl := HST1.out.lt
      refine HST1.out.moved ?_ ?_
      · rw [Below.heap_alloc _ _ _ (by simp [World.setCell]; omega), Below.heap_setCell _ _ _ _ (fun e => by simp at e; omega), Below.heap_setCell _ _ _ _ (fun e => by simp at e; omega)]
      · rw [Below.heap_alloc _ _ _ (by simp [World.setCell]; omega), Below.heap_setCell _ _ _ _ (fun e => by simp at e; omega), Below.heap_setCell _ _ _ _ (fun e => by simp at e; omega)]
    · exact ((HB1.out.setCell (p := ⟨w.heap.size + 1 + 1, 0, none⟩) (by show w.heap.size ≤ w.heap.size + 1 + 1; omega) _).setCell (p := ⟨w.heap.size + 1 + 1, 1, none⟩) (by show w.heap.size ≤ w.heap.size + 1 + 1; omega) _).alloc (by simp [World.setCell]; omega) _
theorem ptrNe (w : World) (a : Addr) : (binOp BinOp.eql 38 (.pointer (some a)) (.pointer none)).run Tryz.prog w = .ok (.bool false) w := by kernel_rfl
set_option maxHeartbeats 2000000 in
set_option maxRecDepth 100000 in
theorem Input_any (bm : Nat) (p : Ld.Prg) (nv rv nx pv sv : Value) (S I i : Nat) (w : World) (h : MachAt w bm nv rv S I nx pv sv) (hp : IsPrg w p (.agg #[nv, rv])) (hi : i < I) (hck : Ld.check p = none) :
    Calls Tryz.prog 54 #[.pointer (some ⟨bm, 0, none⟩), .int .i64 (i : Int)] w fun e w' => ∃ g, e = .returned (slV g (Ld.kindL p.names 1).length) ∧ RowIs w' g 4 ((bitsTo i (Ld.kindL p.names 1).length).map boolV) ∧ w.heap.size ≤ g ∧ Below w.heap.size w w' := by
  obtain ⟨⟨c0, c1⟩, ⟨c2, c3⟩, c4, c5, c6⟩ := h.cells
  have hq : (Ld.kindL p.names 1).length ≤ 12 := Nat.le_trans (Ld.placesTo_le _ _ _) (Ld.check_names p hck).1
  obtain ⟨nv', rv', he, hn, hr⟩ := hp
  simp only [Value.agg.injEq, List.toArray_eq_iff, List.cons.injEq, and_true] at he
  obtain ⟨rfl, rfl⟩ := he
  have HKI := hide (Kind_any p.names nv rv 1 w hn (slice_ofR hr))
  obtain ⟨na, nk, nc, rfl⟩ := slice_of hn
  obtain ⟨ra, rk, rc, rfl⟩ := slice_ofR hr
  have pn := fun w a => ptrNe w a
  clear hn hr h c2 c4 c5 c6
  have hi' : (i : Int) < (I : Int) := by omega
  generalize (Ld.kindL p.names 1).length = q at *
  go_enter Tryz.func54, Tryz.ntmps54
  go_wp2_with fail
  refine HKI.out.mono ?_
  rintro e w1 ⟨kv, rfl, hown, hb1⟩
  obtain ⟨ka, kc, rfl⟩ := own_slice hown
  have HB1 := hide hb1
  have HTB := hide (toBools_any (i : Int) q w1 (by omega))
  clear hown hb1 HKI
  go_wp2_with fail
  refine HTB.out.mono ?_
  rintro e w2 ⟨g, rfl, hrow, hg, hb2⟩
  have HROW := hide hrow
  have HB2 := hide (HB1.out.trans (hb2.mono HB1.out.size))
  have hs1 := HB1.out.size
  clear hrow hb2 HTB
  unfold slV
  go_wp2_with fail
  go_ret
  exact ⟨g, rfl, HROW.out, by omega, HB2.out⟩
end
section
open Go.RowKit
theorem Tryz.infoInts : (Tryz.prog.info? 41).map (fun i => (i.zero, i.size, i.bytes)) = some (some (.slice none 0 0), 1, 24) := by kernel_rfl
theorem makeBss (n : Nat) (hn : n ≤ 1000000) (w : World) : (Instr.makeSlice 76 (.int .i64 (n : Int)) (.int .i64 (n : Int))).run Tryz.prog w = .ok (.slice (some ⟨w.heap.size, 0, none⟩) n n) (w.alloc (.cells ⟨List.replicate n (.slice none 0 0)⟩ 84)) :=
  make_one Tryz.underlying76 Tryz.infoBools rfl (by decide) n hn w
theorem makeIss (n : Nat) (hn : n ≤ 1000000) (w : World) : (Instr.makeSlice 73 (.int .i64 (n : Int)) (.int .i64 (n : Int))).run Tryz.prog w = .ok (.slice (some ⟨w.heap.size, 0, none⟩) n n) (w.alloc (.cells ⟨List.replicate n (.slice none 0 0)⟩ 41)) :=
  make_one Tryz.underlying73 Tryz.infoInts rfl (by decide) n hn w
/-- of m rows in a row of slices the first ones are laid -/
structure LL (W : World) (g : Nat) (t2 t1 : TypeId) (m n lo : Nat) (us : List Nat) (rows : Nat → List Value) : Prop where
  top : RowIs W g t2 ((us.map fun b => slV b n) ++ List.replicate (m - us.length) (.slice none 0 0))
  row : ∀ (j b : Nat), us[j]? = some b → RowIs W b t1 (rows j) ∧ lo ≤ b
theorem LL.empty {W : World} {g : Nat} {t2 t1 : TypeId} {m n lo : Nat} {rows : Nat → List Value} (h : RowIs W g t2 (List.replicate m (.slice none 0 0))) : LL W g t2 t1 m n lo [] rows := ⟨h, fun j b h => by simp at h⟩
theorem LL.lt {W : World} {g : Nat} {t2 t1 : TypeId} {m n lo : Nat} {us : List Nat} {rows : Nat → List Value} (h : LL W g t2 t1 m n lo us rows) (j b : Nat) (hj : us[j]? = some b) : b < W.heap.size := (h.row j b hj).1.lt
theorem LL.below {W W' : World} {g : Nat} {t2 t1 : TypeId} {m n lo : Nat} {us : List Nat} {rows : Nat → List Value} (h : LL W g t2 t1 m n lo us rows) (hb : Below W.heap.size W W') : LL W' g t2 t1 m n lo us rows := ⟨h.top.below hb, fun j b hj => ⟨(h.row j b hj).1.below hb, (h.row j b hj).2⟩⟩
theorem LL.cell {W : World} {g : Nat} {t2 t1 : TypeId} {m n lo : Nat} {us : List Nat} {rows : Nat → List Value} (h : LL W g t2 t1 m n lo us rows) (j b : Nat) (hj : us[j]? = some b) : W.cell? ⟨g, j, none⟩ = some (slV b n) :=
  h.top.cell j _ (by rw [List.getElem?_append_left (by rw [List.length_map]; exact (List.getElem?_eq_some_iff.1 hj).1), List.getElem?_map, hj]; rfl)
theorem LL.next {W : World} {g : Nat} {t2 t1 : TypeId} {m n lo : Nat} {us : List Nat} {rows : Nat → List Value} (h : LL W g t2 t1 m n lo us rows) (hm : us.length < m) : W.cell? ⟨g, us.length, none⟩ = some (.slice none 0 0) ∧ W.frozen? ⟨g, us.length, none⟩ = false :=
  ⟨h.top.cell _ _ (by rw [List.getElem?_append_right (by simp), List.getElem?_replicate, if_pos (by simp; omega)]), h.top.frozen _⟩
/-- the next row is laid -/
theorem LL.put {W W' : World} {g : Nat} {t2 t1 : TypeId} {m n lo b : Nat} {us : List Nat} {rows : Nat → List Value} (h : LL W g t2 t1 m n lo us rows) (hm : us.length < m) (hg : g < lo) (hb : lo ≤ b) (hrow : RowIs W' b t1 (rows us.length)) (hk : ∀ k, k < W.heap.size → W'.heap[k]? = (W.setCell ⟨g, us.length, none⟩ (slV b n)).heap[k]?) : LL W' g t2 t1 m n lo (us ++ [b]) rows := by
  have h1 := h.top.set us.length (slV b n)
  have h2 := fill_set (us.map fun b => slV b n) (.slice none 0 0) (slV b n) m (by simpa using hm)
  rw [List.length_map] at h2
  rw [h2] at h1
  refine ⟨?_, fun j x hj => ?_⟩
  · have h3 : RowIs W' g t2 _ := (hk g h.top.lt).trans h1
    simpa using h3
  · by_cases hjl : j < us.length
    · rw [List.getElem?_append_left hjl] at hj
      obtain ⟨h3, h4⟩ := h.row j x hj
      exact ⟨(hk x h3.lt).trans (h3.other g _ _ (by omega)), h4⟩
    · rw [List.getElem?_append_right (by omega)] at hj
      have hj2 : j - us.length < [b].length := (List.getElem?_eq_some_iff.1 hj).1
      have : j = us.length := by simp at hj2; omega
      subst this
      rw [Nat.sub_self] at hj
      simp only [List.getElem?_cons_zero, Option.some.injEq] at hj
      subst hj
      exact ⟨hrow, hb⟩
theorem cell_set_other (W : World) (b i j : Nat) (x v : Value) (hij : i ≠ j) (h : W.cell? ⟨b, i, none⟩ = some v) : (W.setCell ⟨b, j, none⟩ x).cell? ⟨b, i, none⟩ = some v := (World.cell?_setCell_other W ⟨b, j, none⟩ ⟨b, i, none⟩ x (by intro e; exact hij (congrArg Addr.off e).symm)).trans h
theorem cell_alloc_keep (W : World) (o : Obj) (p : Addr) (v : Value) (h : W.cell? p = some v) : (W.alloc o).cell? p = some v := (World.cell?_alloc_some W p o (by rw [h]; rfl)).trans h
theorem setCell_congr {A B : World} (p : Addr) (v : Value) {k : Nat} (h : B.heap[k]? = A.heap[k]?) : (B.setCell p v).heap[k]? = (A.setCell p v).heap[k]? := by simp [World.setCell, Array.getElem?_modify, h]
/-- the two tables are made -/
structure Made2 (W0 : World) (bm : Nat) (nv rv pv : Value) (S I : Nat) (gN gS : Nat) (W : World) : Prop where
  mach : MachAt W bm nv rv S I (slV gN S) pv (slV gS S)
  nx : RowIs W gN 41 (List.replicate S (.slice none 0 0))
  se : RowIs W gS 41 (List.replicate S (.slice none 0 0))
  ln : W0.heap.size ≤ gN ∧ W0.heap.size ≤ gS ∧ gN ≠ gS
  old : ∀ k, k < W0.heap.size → k ≠ bm → W.heap[k]? = W0.heap[k]?
  size : W0.heap.size + 2 ≤ W.heap.size
  os : W.os = W0.os ∧ W.tape = W0.tape ∧ W.output = W0.output
theorem made2_of {W0 : World} {bm : Nat} {nv rv pv nx sv : Value} {S I : Nat} (h : MachAt W0 bm nv rv S I nx pv sv) (a b : Nat) (hab : (a = W0.heap.size ∧ b = W0.heap.size + 1) ∨ (a = W0.heap.size + 1 ∧ b = W0.heap.size)) (c : List Value) (hc : c = List.replicate S (.slice none 0 0)) :
    Made2 W0 bm nv rv pv S I a b ((((W0.setCell ⟨bm, 4, none⟩ (slV a S)).setCell ⟨bm, 6, none⟩ (slV b S)).alloc (.cells ⟨c⟩ 41)).alloc (.cells ⟨c⟩ 41)).drew := by
  have hl : bm < W0.heap.size := (Array.getElem?_eq_some_iff.1 h).1
  obtain ⟨W1, hW1⟩ : ∃ W1, W1 = (W0.setCell ⟨bm, 4, none⟩ (slV a S)).setCell ⟨bm, 6, none⟩ (slV b S) := ⟨_, rfl⟩
  have h1 : MachAt W1 bm nv rv S I (slV a S) pv (slV b S) := by
    rw [hW1]
    unfold MachAt at *
    simp [World.setCell, Array.getElem?_modify, h]
  have hz : W1.heap.size = W0.heap.size := by rw [hW1]; simp [World.setCell]
  have ho : ∀ k, k ≠ bm → W1.heap[k]? = W0.heap[k]? := fun k hk => by rw [hW1, Below.heap_setCell _ _ _ _ (fun e => hk e), Below.heap_setCell _ _ _ _ (fun e => hk e)]
  have hos : W1.os = W0.os ∧ W1.tape = W0.tape ∧ W1.output = W0.output := by rw [hW1]; exact ⟨rfl, rfl, rfl⟩
  rw [← hW1]
  clear hW1
  have n1 : RowIs ((W1.alloc (.cells ⟨c⟩ 41)).alloc (.cells ⟨c⟩ 41)).drew W0.heap.size 41 (List.replicate S (.slice none 0 0)) := by
    rw [← hc, ← hz]; exact (RowIs.new W1 41 c).alloc _
  have n2 : RowIs ((W1.alloc (.cells ⟨c⟩ 41)).alloc (.cells ⟨c⟩ 41)).drew (W0.heap.size + 1) 41 (List.replicate S (.slice none 0 0)) := by
    have := RowIs.new (W1.alloc (.cells ⟨c⟩ 41)) 41 c
    rw [World.size_alloc, hz] at this
    rw [← hc]; exact this
  have hold : ∀ k, k < W0.heap.size → ((W1.alloc (.cells ⟨c⟩ 41)).alloc (.cells ⟨c⟩ 41)).drew.heap[k]? = W1.heap[k]? := fun k hk => (Below.heap_alloc (W1.alloc (.cells ⟨c⟩ 41)) _ k (by simp; omega)).trans (Below.heap_alloc W1 _ k (by omega))
  rcases hab with ⟨rfl, rfl⟩ | ⟨rfl, rfl⟩
  · exact ⟨(hold bm hl).trans h1, n1, n2, ⟨Nat.le_refl _, by omega, by omega⟩, fun k hk hne => (hold k hk).trans (ho k hne), by simp; omega, hos⟩
  · exact ⟨(hold bm hl).trans h1, n2, n1, ⟨by omega, Nat.le_refl _, by omega⟩, fun k hk hne => (hold k hk).trans (ho k hne), by simp; omega, hos⟩
end
section
open Go.RowKit
/-- a block in which no texts and no interface values lie -/
def Off (w : World) (b : Nat) : Prop := ∀ i u, w.cell? ⟨b, i, none⟩ = some u → (∀ s, u ≠ .string s) ∧ ∀ t y, u ≠ .iface t y
theorem IsEx.offB {ok : Nat → Prop} {w : World} {B : Nat → Prop} (hb : ∀ b, B b → Off w b) : ∀ (x : Ex) (v : Value), IsEx ok w x v → IsEx (fun g => ok g ∧ ¬ B g) w x v := by
  intro x
  induction x using Ex.ind with
  | h k nm l ih =>
    intro v h
    have hrow : ∀ g, Row w g (l.map fun x => IsEx ok w x) → Row w g (l.map fun x => IsEx (fun g => ok g ∧ ¬ B g) w x) := by
      intro g hr i P hP
      rw [List.getElem?_map] at hP
      cases hl : l[i]? with
      | none => rw [hl] at hP; simp at hP
      | some y =>
        rw [hl] at hP
        simp only [Option.map_some, Option.some.injEq] at hP
        obtain ⟨u, hu, hx⟩ := hr i (IsEx ok w y) (by rw [List.getElem?_map, hl]; rfl)
        exact ⟨u, hu, by rw [← hP]; exact ih y (List.mem_of_getElem? hl) u hx⟩
    have hlist : ∀ t, IsList ok w t l.length (l.map fun x => IsEx ok w x) v → IsList (fun g => ok g ∧ ¬ B g) w t l.length (l.map fun x => IsEx (fun g => ok g ∧ ¬ B g) w x) v := by
      rintro t ⟨h1, h2, g, cap, h3, h4, h5, h6⟩
      refine ⟨h1, h2, g, cap, h3, h4, ⟨h5, fun hB => ?_⟩, hrow g h6⟩
      have hl : l[0]? = some (l[0]'(by omega)) := List.getElem?_eq_getElem _
      obtain ⟨u, hu, hx⟩ := h6 0 (IsEx ok w (l[0]'(by omega))) (by rw [List.getElem?_map, hl]; rfl)
      obtain ⟨tt, yy, hy⟩ := IsEx.iface _ _ hx
      exact (hb g hB 0 u hu).2 tt yy hy
    match k, h with
    | 0, h => simp only [IsEx] at h ⊢; exact h
    | 1, h => simp only [IsEx] at h ⊢; exact h
    | 2, h => simp only [IsEx] at h ⊢; exact h
    | 3, h => simp only [IsEx] at h ⊢; exact h
    | 4, h => simp only [IsEx] at h ⊢; exact h
    | 5, h =>
      simp only [IsEx] at h ⊢
      obtain ⟨h1, h2, u, h3, h4⟩ := h
      refine ⟨h1, h2, u, h3, ?_⟩
      intro P hP
      rw [List.getElem?_map] at hP
      cases hl : l[0]? with
      | none => rw [hl] at hP; simp at hP
      | some y =>
        rw [hl] at hP
        simp only [Option.map_some, Option.some.injEq] at hP
        rw [← hP]
        exact ih y (List.mem_of_getElem? hl) u (h4 _ (by rw [List.getElem?_map, hl]; rfl))
    | 6, h => simp only [IsEx] at h ⊢; exact ⟨h.1, hlist _ h.2⟩
    | 7, h => simp only [IsEx] at h ⊢; exact ⟨h.1, hlist _ h.2⟩
    | n + 8, h => simp only [IsEx] at h
theorem IsPrg.offB {w w' : World} {p : Ld.Prg} {v : Value} (h : IsPrg w p v) {B : Nat → Prop} (hb : ∀ b, B b → Off w b) (hk : ∀ k, k < w.heap.size → ¬ B k → w'.heap[k]? = w.heap[k]?) : IsPrg w' p v := by
  have hc : ∀ g i u, ¬ B g → w.cell? ⟨g, i, none⟩ = some u → w'.cell? ⟨g, i, none⟩ = some u := fun g i u hg hu => by
    rw [World.cell?_of_block (w' := w') (w := w) (hk g (World.block_lt_of_cell? _ _ hu) hg)]; exact hu
  obtain ⟨nv, rv, h1, h2, h3⟩ := h
  refine ⟨nv, rv, h1, ?_, ?_⟩
  · rcases h2 with h2 | ⟨g, cap, e1, e2, e3, e4⟩
    · exact .inl h2
    · refine .inr ⟨g, cap, e1, e2, e3, fun i n hi => ?_⟩
      obtain ⟨f1, f2, f3, f4⟩ := e4 i n hi
      have hg : ¬ B g := fun hB => (hb g hB _ _ f1).1 _ rfl
      exact ⟨hc g _ _ hg f1, hc g _ _ hg f2, hc g _ _ hg f3, f4⟩
  · rcases h3 with h3 | ⟨g, cap, e1, e2, e3, e4⟩
    · exact .inl h3
    · refine .inr ⟨g, cap, e1, e2, e3, fun i n hi => ?_⟩
      obtain ⟨u, f1, f2, f3, f4, f5, f6⟩ := e4 i n hi
      have hg : ¬ B g := fun hB => (hb g hB _ _ f2).1 _ rfl
      refine ⟨u, hc g _ _ hg f1, hc g _ _ hg f2, hc g _ _ hg f3, f4, f5, ?_⟩
      cases hcd : n.cond with
      | none => rw [hcd] at f6; exact f6
      | some x =>
        rw [hcd] at f6
        exact ⟨IsEx.stay (fun g i u hg hc2 => hc g i u hg.2 hc2) (fun _ _ => trivial) x u (IsEx.offB hb x u f6.1), f6.2⟩
theorem off_row {W : World} {g : Nat} {t : TypeId} {l : List Value} (h : RowIs W g t l) (hl : ∀ u, u ∈ l → (∀ s, u ≠ .string s) ∧ ∀ t y, u ≠ .iface t y) : Off W g := by
  intro i u hu
  rw [Lib.cell_of_heap h] at hu
  exact hl u (List.mem_of_getElem? (by simpa using hu))
end
end Go.Proofs.YtgdmohombcgjbaaGreatDoor
