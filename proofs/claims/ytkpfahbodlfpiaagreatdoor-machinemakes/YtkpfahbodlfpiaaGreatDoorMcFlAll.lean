/-
  A machine in memory; the walks of package scan's Do and package machine's Input. Tables of rows in memory, as package machine's fill lays them. Programs stand where blocks turn in which no texts and no interface values lie. What package machine's fill has laid, between its rounds.
-/
import Derived.Test.YtkpfahbodlfpiaaGreatDoorMcCopiedAll
namespace Go.Proofs.YtkpfahbodlfpiaaGreatDoor
section
open Go.RowKit
/-- a machine's block -/
def MachAt (W : World) (bm : Nat) (nv rv : Value) (S I : Nat) (nx pv sv : Value) : Prop := W.heap[bm]? = some (.cells #[nv, rv, .int .i64 (S : Int), .int .i64 (I : Int), nx, pv, sv] 72 (0, 0))
theorem MachAt.cells {W : World} {bm : Nat} {nv rv : Value} {S I : Nat} {nx pv sv : Value} (h : MachAt W bm nv rv S I nx pv sv) : (W.cell? ⟨bm, 0, none⟩ = some nv ∧ W.cell? ⟨bm, 1, none⟩ = some rv) ∧ (W.cell? ⟨bm, 2, none⟩ = some (.int .i64 (S : Int)) ∧ W.cell? ⟨bm, 3, none⟩ = some (.int .i64 (I : Int))) ∧ W.cell? ⟨bm, 4, none⟩ = some nx ∧ W.cell? ⟨bm, 5, none⟩ = some pv ∧ W.cell? ⟨bm, 6, none⟩ = some sv :=
  ⟨⟨by rw [Lib.cell_of_heap h]; rfl, by rw [Lib.cell_of_heap h]; rfl⟩, ⟨by rw [Lib.cell_of_heap h]; rfl, by rw [Lib.cell_of_heap h]; rfl⟩, by rw [Lib.cell_of_heap h]; rfl, by rw [Lib.cell_of_heap h]; rfl, by rw [Lib.cell_of_heap h]; rfl⟩
theorem MachAt.below {W W' : World} {bm : Nat} {nv rv : Value} {S I : Nat} {nx pv sv : Value} (h : MachAt W bm nv rv S I nx pv sv) (hb : Below W.heap.size W W') : MachAt W' bm nv rv S I nx pv sv := (hb.block _ (Array.getElem?_eq_some_iff.1 h).1).trans h
theorem set2_alloc {W : World} {b : Nat} {x0 y0 : Value} {t : TypeId} (h : W.heap[b]? = some (.cells #[x0, y0] t (0, 0))) (x y : Value) (o : Obj) : (((W.setCell ⟨b, 0, none⟩ x).setCell ⟨b, 1, none⟩ y).alloc o).cell? ⟨b, 0, none⟩ = some x ∧ (((W.setCell ⟨b, 0, none⟩ x).setCell ⟨b, 1, none⟩ y).alloc o).cell? ⟨b, 1, none⟩ = some y := by
  have hl : b < W.heap.size := (Array.getElem?_eq_some_iff.1 h).1
  have h1 : (((W.setCell ⟨b, 0, none⟩ x).setCell ⟨b, 1, none⟩ y).alloc o).heap[b]? = some (.cells #[x, y] t (0, 0)) := by
    rw [Below.heap_alloc _ _ _ (by simpa [World.setCell] using hl)]
    simp [World.setCell, Array.getElem?_modify, h]
  exact ⟨(two_cells h1).1, (two_cells h1).2.1⟩
set_option maxHeartbeats 2000000 in
set_option maxRecDepth 100000 in
theorem Do_any (p : Ld.Prg) (v iv : Value) (gi gc : Nat) (s : Sc.St) (inp : List Bool) (w : World) (h : IsPrg w p v) (hck : Ld.check p = none) (hs : StAt w gi gc s) (hsi : s.is.length = p.names.length) (hsc : s.ct.length = p.names.length)
    (hct : ∀ c, c ∈ s.ct → 0 ≤ c ∧ c ≤ 7) (hin : Bools w iv inp) (hil : inp.length = (Ld.kindL p.names 1).length) :
    Calls Tryz.prog 73 #[v, stV gi gc p.names.length, iv] w fun e w' => ∃ gi' gc', e = .returned (stV gi' gc' p.names.length) ∧ StAt w' gi' gc' (Sc.step p s inp) ∧ w.heap.size ≤ gi' ∧ w.heap.size ≤ gc' ∧ Below w.heap.size w w' := by
  obtain ⟨n, hnn⟩ : ∃ n, n = p.names.length := ⟨_, rfl⟩
  obtain ⟨nv, rv, rfl, hn, hr⟩ := h
  have HPR : Hid (IsPrg w p (.agg #[nv, rv])) := ⟨nv, rv, rfl, hn, hr⟩
  obtain ⟨na, nk, nc, rfl⟩ := slice_of hn
  obtain ⟨ra, rk, rc, rfl⟩ := slice_ofR hr
  have HIN := hide hin
  obtain ⟨ia, ic, rfl, _, _⟩ := hin
  obtain ⟨wA, hwA⟩ : ∃ wA, wA = ((w.alloc (.cells #[.slice na nk nc, .slice ra rk rc] 26)).alloc (.cells #[.slice (some ⟨gi, 0, none⟩) n n, .slice (some ⟨gc, 0, none⟩) n n] 52)).alloc (.cells #[.slice none 0 0, .slice none 0 0] 52) := ⟨_, rfl⟩
  have hbA : Below w.heap.size w wA := by rw [hwA]; exact below_alloc3 _ _ _ _
  have hzA : wA.heap.size = w.heap.size + 1 + 1 + 1 := by rw [hwA]; simp
  have hA : wA.heap[w.heap.size + 1 + 1]? = some (.cells #[.slice none 0 0, .slice none 0 0] 52 (0, 0)) := by rw [hwA]; exact (cells3 _ _ _ _).2.2
  have HST := hide (step_any p _ _ gi gc s inp wA (HPR.out.below hbA) hck (hs.below hbA) hsi hsc hct (HIN.out.below hbA) hil)
  rw [← hnn] at HST ⊢
  unfold stV at *
  rw [hwA] at HST
  have HWA := hide hwA
  have HBA := hide hbA
  have HNN := hide hnn
  clear hwA hn hr hs hbA hnn hil hsi hsc
  go_enter Tryz.func73, Tryz.ntmps73
  go_wp2_with fail
  refine HST.out.mono ?_
  rintro e w1 ⟨gi', gc', rfl, hst, hg1, hg2, hb1⟩
  rw [← HWA.out] at hg1 hg2 hb1
  have hz1 := hb1.size
  have hA1 := (hb1.block _ (by omega)).trans hA
  obtain ⟨z0, z1, z2, z3⟩ := two_cells hA1
  have HS2 := hide (fun x y o => set2_alloc hA1 x y o)
  have HST1 := hide hst
  have HB1 := hide (HBA.out.trans (hb1.mono HBA.out.size))
  have hzl : w.heap.size + 1 + 1 < w1.heap.size := by omega
  clear hst hb1 HST hA hA1
  unfold stV
  go_wp2_with fail
  refine bodyPost_ret_by (v := stV gi' gc' n) ?_ rfl ?_
  · obtain ⟨y0, y1⟩ := HS2.out (.slice (some ⟨gi', 0, none⟩) n n) (.slice (some ⟨gc', 0, none⟩) n n) (.cells #[.slice (some ⟨gi', 0, none⟩) n n, .slice (some ⟨gc', 0, none⟩) n n] 52)
    simp [results, Tryz.results73, go_sem, stV, y0, y1]
  · refine ⟨gi', gc', rfl, ?_, by omega, by omega, ?_⟩
    · have hl := HST1.out.lt
      refine HST1.out.moved ?_ ?_
      · rw [Below.heap_alloc _ _ _ (by simp [World.setCell]; omega), Below.heap_setCell _ _ _ _ (fun e => by simp at e; omega), Below.heap_setCell _ _ _ _ (fun e => by simp at e; omega)]
      · rw [Below.heap_alloc _ _ _ (by simp [World.setCell]; omega), Below.heap_setCell _ _ _ _ (fun e => by simp at e; omega), Below.heap_setCell _ _ _ _ (fun e => by simp at e; omega)]
    · exact ((HB1.out.setCell (p := ⟨w.heap.size + 1 + 1, 0, none⟩) (by show w.heap.size ≤ w.heap.size + 1 + 1; omega) _).setCell (p := ⟨w.heap.size + 1 + 1, 1, none⟩) (by show w.heap.size ≤ w.heap.size + 1 + 1; omega) _).alloc (by simp [World.setCell]; omega) _
theorem ptrNe (w : World) (a : Addr) : (binOp BinOp.eql 62 (.pointer (some a)) (.pointer none)).run Tryz.prog w = .ok (.bool false) w := by kernel_rfl
set_option maxHeartbeats 2000000 in
set_option maxRecDepth 100000 in
theorem Input_any (bm : Nat) (p : Ld.Prg) (nv rv nx pv sv : Value) (S I i : Nat) (w : World) (h : MachAt w bm nv rv S I nx pv sv) (hp : IsPrg w p (.agg #[nv, rv])) (hi : i < I) (hck : Ld.check p = none) :
    Calls Tryz.prog 27 #[.pointer (some ⟨bm, 0, none⟩), .int .i64 (i : Int)] w fun e w' => ∃ g, e = .returned (slV g (Ld.kindL p.names 1).length) ∧ RowIs w' g 4 ((bitsTo i (Ld.kindL p.names 1).length).map boolV) ∧ w.heap.size ≤ g ∧ Below w.heap.size w w' := by
  obtain ⟨⟨c0, c1⟩, ⟨c2, c3⟩, c4, c5, c6⟩ := h.cells
  have hq : (Ld.kindL p.names 1).length ≤ 12 := Nat.le_trans (Ld.placesTo_le _ _ _) (Ld.check_names p hck).1
  obtain ⟨nv', rv', he, hn, hr⟩ := hp
  simp only [Value.agg.injEq, List.toArray_eq_iff, List.cons.injEq, and_true] at he
  obtain ⟨rfl, rfl⟩ := he
  have HKI := hide (Kind_any p.names nv rv 1 w hn (slice_ofR hr))
  obtain ⟨na, nk, nc, rfl⟩ := slice_of hn
  obtain ⟨ra, rk, rc, rfl⟩ := slice_ofR hr
  have pn := fun w a => ptrNe w a
  clear hn hr h c2 c4 c5 c6
  have hi' : (i : Int) < (I : Int) := by omega
  generalize (Ld.kindL p.names 1).length = q at *
  go_enter Tryz.func27, Tryz.ntmps27
  go_wp2_with fail
  refine HKI.out.mono ?_
  rintro e w1 ⟨kv, rfl, hown, hb1⟩
  obtain ⟨ka, kc, rfl⟩ := own_slice hown
  have HB1 := hide hb1
  have HTB := hide (toBools_any (i : Int) q w1 (by omega))
  clear hown hb1 HKI
  go_wp2_with fail
  refine HTB.out.mono ?_
  rintro e w2 ⟨g, rfl, hrow, hg, hb2⟩
  have HROW := hide hrow
  have HB2 := hide (HB1.out.trans (hb2.mono HB1.out.size))
  have hs1 := HB1.out.size
  clear hrow hb2 HTB
  unfold slV
  go_wp2_with fail
  go_ret
  exact ⟨g, rfl, HROW.out, by omega, HB2.out⟩
end
section
open Go.RowKit
theorem Tryz.infoInts : (Tryz.prog.info? 22).map (fun i => (i.zero, i.size, i.bytes)) = some (some (.slice none 0 0), 1, 24) := by kernel_rfl
theorem makeBss (n : Nat) (hn : n ≤ 1000000) (w : World) : (Instr.makeSlice 34 (.int .i64 (n : Int)) (.int .i64 (n : Int))).run Tryz.prog w = .ok (.slice (some ⟨w.heap.size, 0, none⟩) n n) (w.alloc (.cells ⟨List.replicate n (.slice none 0 0)⟩ 47)) :=
  make_one Tryz.underlying34 Tryz.infoBools rfl (by decide) n hn w
theorem makeIss (n : Nat) (hn : n ≤ 1000000) (w : World) : (Instr.makeSlice 68 (.int .i64 (n : Int)) (.int .i64 (n : Int))).run Tryz.prog w = .ok (.slice (some ⟨w.heap.size, 0, none⟩) n n) (w.alloc (.cells ⟨List.replicate n (.slice none 0 0)⟩ 22)) :=
  make_one Tryz.underlying68 Tryz.infoInts rfl (by decide) n hn w
/-- of m rows in a row of slices the first ones are laid -/
structure LL (W : World) (g : Nat) (t2 t1 : TypeId) (m n lo : Nat) (us : List Nat) (rows : Nat → List Value) : Prop where
  top : RowIs W g t2 ((us.map fun b => slV b n) ++ List.replicate (m - us.length) (.slice none 0 0))
  row : ∀ (j b : Nat), us[j]? = some b → RowIs W b t1 (rows j) ∧ lo ≤ b
theorem LL.empty {W : World} {g : Nat} {t2 t1 : TypeId} {m n lo : Nat} {rows : Nat → List Value} (h : RowIs W g t2 (List.replicate m (.slice none 0 0))) : LL W g t2 t1 m n lo [] rows := ⟨h, fun j b h => by simp at h⟩
theorem LL.lt {W : World} {g : Nat} {t2 t1 : TypeId} {m n lo : Nat} {us : List Nat} {rows : Nat → List Value} (h : LL W g t2 t1 m n lo us rows) (j b : Nat) (hj : us[j]? = some b) : b < W.heap.size := (h.row j b hj).1.lt
theorem LL.below {W W' : World} {g : Nat} {t2 t1 : TypeId} {m n lo : Nat} {us : List Nat} {rows : Nat → List Value} (h : LL W g t2 t1 m n lo us rows) (hb : Below W.heap.size W W') : LL W' g t2 t1 m n lo us rows := ⟨h.top.below hb, fun j b hj => ⟨(h.row j b hj).1.below hb, (h.row j b hj).2⟩⟩
theorem LL.cell {W : World} {g : Nat} {t2 t1 : TypeId} {m n lo : Nat} {us : List Nat} {rows : Nat → List Value} (h : LL W g t2 t1 m n lo us rows) (j b : Nat) (hj : us[j]? = some b) : W.cell? ⟨g, j, none⟩ = some (slV b n) :=
  h.top.cell j _ (by rw [List.getElem?_append_left (by rw [List.length_map]; exact (List.getElem?_eq_some_iff.1 hj).1), List.getElem?_map, hj]; rfl)
theorem LL.next {W : World} {g : Nat} {t2 t1 : TypeId} {m n lo : Nat} {us : List Nat} {rows : Nat → List Value} (h : LL W g t2 t1 m n lo us rows) (hm : us.length < m) : W.cell? ⟨g, us.length, none⟩ = some (.slice none 0 0) ∧ W.frozen? ⟨g, us.length, none⟩ = false :=
  ⟨h.top.cell _ _ (by rw [List.getElem?_append_right (by simp), List.getElem?_replicate, if_pos (by simp; omega)]), h.top.frozen _⟩
/-- the next row is laid -/
theorem LL.put {W W' : World} {g : Nat} {t2 t1 : TypeId} {m n lo b : Nat} {us : List Nat} {rows : Nat → List Value} (h : LL W g t2 t1 m n lo us rows) (hm : us.length < m) (hg : g < lo) (hb : lo ≤ b) (hrow : RowIs W' b t1 (rows us.length)) (hk : ∀ k, k < W.heap.size → W'.heap[k]? = (W.setCell ⟨g, us.length, none⟩ (slV b n)).heap[k]?) : LL W' g t2 t1 m n lo (us ++ [b]) rows := by
  have h1 := h.top.set us.length (slV b n)
  have h2 := fill_set (us.map fun b => slV b n) (.slice none 0 0) (slV b n) m (by simpa using hm)
  rw [List.length_map] at h2
  rw [h2] at h1
  refine ⟨?_, fun j x hj => ?_⟩
  · have h3 : RowIs W' g t2 _ := (hk g h.top.lt).trans h1
    simpa using h3
  · by_cases hjl : j < us.length
    · rw [List.getElem?_append_left hjl] at hj
      obtain ⟨h3, h4⟩ := h.row j x hj
      exact ⟨(hk x h3.lt).trans (h3.other g _ _ (by omega)), h4⟩
    · rw [List.getElem?_append_right (by omega)] at hj
      have hj2 : j - us.length < [b].length := (List.getElem?_eq_some_iff.1 hj).1
      have : j = us.length := by simp at hj2; omega
      subst this
      rw [Nat.sub_self] at hj
      simp only [List.getElem?_cons_zero, Option.some.injEq] at hj
      subst hj
      exact ⟨hrow, hb⟩
theorem cell_set_other (W : World) (b i j : Nat) (x v : Value) (hij : i ≠ j) (h : W.cell? ⟨b, i, none⟩ = some v) : (W.setCell ⟨b, j, none⟩ x).cell? ⟨b, i, none⟩ = some v := (World.cell?_setCell_other W ⟨b, j, none⟩ ⟨b, i, none⟩ x (by intro e; exact hij (congrArg Addr.off e).symm)).trans h
theorem cell_alloc_keep (W : World) (o : Obj) (p : Addr) (v : Value) (h : W.cell? p = some v) : (W.alloc o).cell? p = some v := (World.cell?_alloc_some W p o (by rw [h]; rfl)).trans h
theorem setCell_congr {A B : World} (p : Addr) (v : Value) {k : Nat} (h : B.heap[k]? = A.heap[k]?) : (B.setCell p v).heap[k]? = (A.setCell p v).heap[k]? := by simp [World.setCell, Array.getElem?_modify, h]
/-- the two tables are made -/
structure Made2 (W0 : World) (bm : Nat) (nv rv pv : Value) (S I : Nat) (gN gS : Nat) (W : World) : Prop where
  mach : MachAt W bm nv rv S I (slV gN S) pv (slV gS S)
  nx : RowIs W gN 22 (List.replicate S (.slice none 0 0))
  se : RowIs W gS 22 (List.replicate S (.slice none 0 0))
  ln : W0.heap.size ≤ gN ∧ W0.heap.size ≤ gS ∧ gN ≠ gS
  old : ∀ k, k < W0.heap.size → k ≠ bm → W.heap[k]? = W0.heap[k]?
  size : W0.heap.size + 2 ≤ W.heap.size
  os : W.os = W0.os ∧ W.tape = W0.tape ∧ W.output = W0.output
theorem made2_of {W0 : World} {bm : Nat} {nv rv pv nx sv : Value} {S I : Nat} (h : MachAt W0 bm nv rv S I nx pv sv) (a b : Nat) (hab : (a = W0.heap.size ∧ b = W0.heap.size + 1) ∨ (a = W0.heap.size + 1 ∧ b = W0.heap.size)) (c : List Value) (hc : c = List.replicate S (.slice none 0 0)) :
    Made2 W0 bm nv rv pv S I a b ((((W0.setCell ⟨bm, 4, none⟩ (slV a S)).setCell ⟨bm, 6, none⟩ (slV b S)).alloc (.cells ⟨c⟩ 22)).alloc (.cells ⟨c⟩ 22)).drew := by
  have hl : bm < W0.heap.size := (Array.getElem?_eq_some_iff.1 h).1
  obtain ⟨W1, hW1⟩ : ∃ W1, W1 = (W0.setCell ⟨bm, 4, none⟩ (slV a S)).setCell ⟨bm, 6, none⟩ (slV b S) := ⟨_, rfl⟩
  have h1 : MachAt W1 bm nv rv S I (slV a S) pv (slV b S) := by
    rw [hW1]
    unfold MachAt at *
    simp [World.setCell, Array.getElem?_modify, h]
  have hz : W1.heap.size = W0.heap.size := by rw [hW1]; simp [World.setCell]
  have ho : ∀ k, k ≠ bm → W1.heap[k]? = W0.heap[k]? := fun k hk => by rw [hW1, Below.heap_setCell _ _ _ _ (fun e => hk e), Below.heap_setCell _ _ _ _ (fun e => hk e)]
  have hos : W1.os = W0.os ∧ W1.tape = W0.tape ∧ W1.output = W0.output := by rw [hW1]; exact ⟨rfl, rfl, rfl⟩
  rw [← hW1]
  clear hW1
  have n1 : RowIs ((W1.alloc (.cells ⟨c⟩ 22)).alloc (.cells ⟨c⟩ 22)).drew W0.heap.size 22 (List.replicate S (.slice none 0 0)) := by
    rw [← hc, ← hz]; exact (RowIs.new W1 22 c).alloc _
  have n2 : RowIs ((W1.alloc (.cells ⟨c⟩ 22)).alloc (.cells ⟨c⟩ 22)).drew (W0.heap.size + 1) 22 (List.replicate S (.slice none 0 0)) := by
    have := RowIs.new (W1.alloc (.cells ⟨c⟩ 22)) 22 c
    rw [World.size_alloc, hz] at this
    rw [← hc]; exact this
  have hold : ∀ k, k < W0.heap.size → ((W1.alloc (.cells ⟨c⟩ 22)).alloc (.cells ⟨c⟩ 22)).drew.heap[k]? = W1.heap[k]? := fun k hk => (Below.heap_alloc (W1.alloc (.cells ⟨c⟩ 22)) _ k (by simp; omega)).trans (Below.heap_alloc W1 _ k (by omega))
  rcases hab with ⟨rfl, rfl⟩ | ⟨rfl, rfl⟩
  · exact ⟨(hold bm hl).trans h1, n1, n2, ⟨Nat.le_refl _, by omega, by omega⟩, fun k hk hne => (hold k hk).trans (ho k hne), by simp; omega, hos⟩
  · exact ⟨(hold bm hl).trans h1, n2, n1, ⟨by omega, Nat.le_refl _, by omega⟩, fun k hk hne => (hold k hk).trans (ho k hne), by simp; omega, hos⟩
end
section
open Go.RowKit
/-- a block in which no texts and no interface values lie -/
def Off (w : World) (b : Nat) : Prop := ∀ i u, w.cell? ⟨b, i, none⟩ = some u → (∀ s, u ≠ .string s) ∧ ∀ t y, u ≠ .iface t y
theorem IsEx.offB {ok : Nat → Prop} {w : World} {B : Nat → Prop} (hb : ∀ b, B b → Off w b) : ∀ (x : Ex) (v : Value), IsEx ok w x v → IsEx (fun g => ok g ∧ ¬ B g) w x v := by
  intro x
  induction x using Ex.ind with
  | h k nm l ih =>
    intro v h
    have hrow : ∀ g, Row w g (l.map fun x => IsEx ok w x) → Row w g (l.map fun x => IsEx (fun g => ok g ∧ ¬ B g) w x) := by
      intro g hr i P hP
      rw [List.getElem?_map] at hP
      cases hl : l[i]? with
      | none => rw [hl] at hP; simp at hP
      | some y =>
        rw [hl] at hP
        simp only [Option.map_some, Option.some.injEq] at hP
        obtain ⟨u, hu, hx⟩ := hr i (IsEx ok w y) (by rw [List.getElem?_map, hl]; rfl)
        exact ⟨u, hu, by rw [← hP]; exact ih y (List.mem_of_getElem? hl) u hx⟩
    have hlist : ∀ t, IsList ok w t l.length (l.map fun x => IsEx ok w x) v → IsList (fun g => ok g ∧ ¬ B g) w t l.length (l.map fun x => IsEx (fun g => ok g ∧ ¬ B g) w x) v := by
      rintro t ⟨h1, h2, g, cap, h3, h4, h5, h6⟩
      refine ⟨h1, h2, g, cap, h3, h4, ⟨h5, fun hB => ?_⟩, hrow g h6⟩
      have hl : l[0]? = some (l[0]'(by omega)) := List.getElem?_eq_getElem _
      obtain ⟨u, hu, hx⟩ := h6 0 (IsEx ok w (l[0]'(by omega))) (by rw [List.getElem?_map, hl]; rfl)
      obtain ⟨tt, yy, hy⟩ := IsEx.iface _ _ hx
      exact (hb g hB 0 u hu).2 tt yy hy
    match k, h with
    | 0, h => simp only [IsEx] at h ⊢; exact h
    | 1, h => simp only [IsEx] at h ⊢; exact h
    | 2, h => simp only [IsEx] at h ⊢; exact h
    | 3, h => simp only [IsEx] at h ⊢; exact h
    | 4, h => simp only [IsEx] at h ⊢; exact h
    | 5, h =>
      simp only [IsEx] at h ⊢
      obtain ⟨h1, h2, u, h3, h4⟩ := h
      refine ⟨h1, h2, u, h3, ?_⟩
      intro P hP
      rw [List.getElem?_map] at hP
      cases hl : l[0]? with
      | none => rw [hl] at hP; simp at hP
      | some y =>
        rw [hl] at hP
        simp only [Option.map_some, Option.some.injEq] at hP
        rw [← hP]
        exact ih y (List.mem_of_getElem? hl) u (h4 _ (by rw [List.getElem?_map, hl]; rfl))
    | 6, h => simp only [IsEx] at h ⊢; exact ⟨h.1, hlist _ h.2⟩
    | 7, h => simp only [IsEx] at h ⊢; exact ⟨h.1, hlist _ h.2⟩
    | n + 8, h => simp only [IsEx] at h
theorem IsPrg.offB {w w' : World} {p : Ld.Prg} {v : Value} (h : IsPrg w p v) {B : Nat → Prop} (hb : ∀ b, B b → Off w b) (hk : ∀ k, k < w.heap.size → ¬ B k → w'.heap[k]? = w.heap[k]?) : IsPrg w' p v := by
  have hc : ∀ g i u, ¬ B g → w.cell? ⟨g, i, none⟩ = some u → w'.cell? ⟨g, i, none⟩ = some u := fun g i u hg hu => by
    rw [World.cell?_of_block (w' := w') (w := w) (hk g (World.block_lt_of_cell? _ _ hu) hg)]; exact hu
  obtain ⟨nv, rv, h1, h2, h3⟩ := h
  refine ⟨nv, rv, h1, ?_, ?_⟩
  · rcases h2 with h2 | ⟨g, cap, e1, e2, e3, e4⟩
    · exact .inl h2
    · refine .inr ⟨g, cap, e1, e2, e3, fun i n hi => ?_⟩
      obtain ⟨f1, f2, f3, f4⟩ := e4 i n hi
      have hg : ¬ B g := fun hB => (hb g hB _ _ f1).1 _ rfl
      exact ⟨hc g _ _ hg f1, hc g _ _ hg f2, hc g _ _ hg f3, f4⟩
  · rcases h3 with h3 | ⟨g, cap, e1, e2, e3, e4⟩
    · exact .inl h3
    · refine .inr ⟨g, cap, e1, e2, e3, fun i n hi => ?_⟩
      obtain ⟨u, f1, f2, f3, f4, f5, f6⟩ := e4 i n hi
      have hg : ¬ B g := fun hB => (hb g hB _ _ f2).1 _ rfl
      refine ⟨u, hc g _ _ hg f1, hc g _ _ hg f2, hc g _ _ hg f3, f4, f5, ?_⟩
      cases hcd : n.cond with
      | none => rw [hcd] at f6; exact f6
      | some x =>
        rw [hcd] at f6
        exact ⟨IsEx.stay (fun g i u hg hc2 => hc g i u hg.2 hc2) (fun _ _ => trivial) x u (IsEx.offB hb x u f6.1), f6.2⟩
theorem off_row {W : World} {g : Nat} {t : TypeId} {l : List Value} (h : RowIs W g t l) (hl : ∀ u, u ∈ l → (∀ s, u ≠ .string s) ∧ ∀ t y, u ≠ .iface t y) : Off W g := by
  intro i u hu
  rw [Lib.cell_of_heap h] at hu
  exact hl u (List.mem_of_getElem? (by simpa using hu))
end
section
open Go.RowKit
/-- the state after a scan out of state s at input i -/
def Mc.after1 (p : Ld.Prg) (q s i : Nat) : Sc.St := Sc.step p (Mc.state (Mc.parts p) s) (bitsTo i q)
def Mc.nextRow (p : Ld.Prg) (q I s : Nat) : List Value := (List.range I).map fun i => Value.int .i64 (Mc.number (Mc.parts p) (Mc.after1 p q s i).is (Mc.after1 p q s i).ct : Int)
def Mc.seesRow (p : Ld.Prg) (q I s : Nat) : List Value := (List.range I).map fun i => Value.int .i64 (Mc.val (Mc.after1 p q s i).is : Int)
theorem Mc.nextRow_length (p : Ld.Prg) (q I s : Nat) : (Mc.nextRow p q I s).length = I := by simp [Mc.nextRow]
theorem Mc.seesRow_length (p : Ld.Prg) (q I s : Nat) : (Mc.seesRow p q I s).length = I := by simp [Mc.seesRow]
theorem Mc.nextRow_at (p : Ld.Prg) (q I s i : Nat) (h : i < I) : (Mc.nextRow p q I s)[i]? = some (Value.int .i64 (Mc.number (Mc.parts p) (Mc.after1 p q s i).is (Mc.after1 p q s i).ct : Int)) := by simp [Mc.nextRow, h]
theorem Mc.seesRow_at (p : Ld.Prg) (q I s i : Nat) (h : i < I) : (Mc.seesRow p q I s)[i]? = some (Value.int .i64 (Mc.val (Mc.after1 p q s i).is : Int)) := by simp [Mc.seesRow, h]
/-- s rows of both tables are laid -/
structure Fl (W0 : World) (gN gS S I : Nat) (p : Ld.Prg) (q : Nat) (W : World) (s : Nat) : Prop where
  tabs : ∃ uN uS : List Nat, (uN.length = s ∧ uS.length = s) ∧ LL W gN 22 3 S I W0.heap.size uN (Mc.nextRow p q I) ∧ LL W gS 22 3 S I W0.heap.size uS (Mc.seesRow p q I)
  old : ∀ k, k < W0.heap.size → k ≠ gN → k ≠ gS → W.heap[k]? = W0.heap[k]?
  size : W0.heap.size ≤ W.heap.size
  os : W.os = W0.os ∧ W.tape = W0.tape ∧ W.output = W0.output
theorem Fl.start {W0 wc : World} {bm : Nat} {nv rv pv : Value} {S I gN gS q : Nat} {p : Ld.Prg} (h : Made2 W0 bm nv rv pv S I gN gS wc) : Fl wc gN gS S I p q wc 0 :=
  ⟨⟨[], [], ⟨rfl, rfl⟩, LL.empty h.nx, LL.empty h.se⟩, fun _ _ _ _ => rfl, Nat.le_refl _, rfl, rfl, rfl⟩
theorem Fl.mach {W0 W : World} {gN gS S I q s bm : Nat} {p : Ld.Prg} (h : Fl W0 gN gS S I p q W s) {nv rv nx pv sv : Value} {S' I' : Nat} (hm : MachAt W0 bm nv rv S' I' nx pv sv) (hN : bm ≠ gN) (hS : bm ≠ gS) : MachAt W bm nv rv S' I' nx pv sv := (h.old bm (Array.getElem?_eq_some_iff.1 hm).1 hN hS).trans hm
theorem Fl.row {W0 W : World} {gN gS S I q s g : Nat} {p : Ld.Prg} {t : TypeId} {l : List Value} (h : Fl W0 gN gS S I p q W s) (hr : RowIs W0 g t l) (hN : g ≠ gN) (hS : g ≠ gS) : RowIs W g t l := (h.old g hr.lt hN hS).trans hr
/-- the rows of state s are made, i of their cells are laid -/
structure Fi (V : World) (gN gS S I a b s : Nat) (cN cS rN rS : List Value) (W : World) (i : Nat) : Prop where
  tN : RowIs W gN 22 (cN.set s (slV a I))
  tS : RowIs W gS 22 (cS.set s (slV b I))
  lN : RowIs W a 3 (rN.take i ++ List.replicate (I - i) (.int .i64 0))
  lS : RowIs W b 3 (rS.take i ++ List.replicate (I - i) (.int .i64 0))
  ln : V.heap.size ≤ a ∧ V.heap.size ≤ b ∧ a ≠ b
  old : ∀ k, k < V.heap.size → k ≠ gN → k ≠ gS → W.heap[k]? = V.heap[k]?
  size : V.heap.size + 2 ≤ W.heap.size
  os : W.os = V.os ∧ W.tape = V.tape ∧ W.output = V.output
theorem fi_of {V : World} {gN gS S I s : Nat} {cN cS : List Value} (rN rS : List Value) (hN : RowIs V gN 22 cN) (hS : RowIs V gS 22 cS) (hne : gN ≠ gS) (a b : Nat) (hab : (a = V.heap.size ∧ b = V.heap.size + 1) ∨ (a = V.heap.size + 1 ∧ b = V.heap.size)) (c : List Value) (hc : c = List.replicate I (.int .i64 0)) :
    Fi V gN gS S I a b s cN cS rN rS ((((V.setCell ⟨gN, s, none⟩ (slV a I)).setCell ⟨gS, s, none⟩ (slV b I)).alloc (.cells ⟨c⟩ 3)).alloc (.cells ⟨c⟩ 3)).drew 0 := by
  have hl := hN.lt
  have hl2 := hS.lt
  obtain ⟨W1, hW1⟩ : ∃ W1, W1 = (V.setCell ⟨gN, s, none⟩ (slV a I)).setCell ⟨gS, s, none⟩ (slV b I) := ⟨_, rfl⟩
  have h1 : RowIs W1 gN 22 (cN.set s (slV a I)) := by rw [hW1]; exact (hN.set s _).other gS s _ hne
  have h2 : RowIs W1 gS 22 (cS.set s (slV b I)) := by rw [hW1]; exact (hS.other gN s _ (Ne.symm hne)).set s _
  have hz : W1.heap.size = V.heap.size := by rw [hW1]; simp [World.setCell]
  have ho : ∀ k, k ≠ gN → k ≠ gS → W1.heap[k]? = V.heap[k]? := fun k hk hk2 => by rw [hW1, Below.heap_setCell _ _ _ _ (fun e => hk2 e), Below.heap_setCell _ _ _ _ (fun e => hk e)]
  have hos : W1.os = V.os ∧ W1.tape = V.tape ∧ W1.output = V.output := by rw [hW1]; exact ⟨rfl, rfl, rfl⟩
  rw [← hW1]
  clear hW1
  have n1 : RowIs ((W1.alloc (.cells ⟨c⟩ 3)).alloc (.cells ⟨c⟩ 3)).drew V.heap.size 3 (List.replicate I (.int .i64 0)) := by
    rw [← hc, ← hz]; exact (RowIs.new W1 3 c).alloc _
  have n2 : RowIs ((W1.alloc (.cells ⟨c⟩ 3)).alloc (.cells ⟨c⟩ 3)).drew (V.heap.size + 1) 3 (List.replicate I (.int .i64 0)) := by
    have := RowIs.new (W1.alloc (.cells ⟨c⟩ 3)) 3 c
    rw [World.size_alloc, hz] at this
    rw [← hc]; exact this
  have hold : ∀ k, k < V.heap.size → ((W1.alloc (.cells ⟨c⟩ 3)).alloc (.cells ⟨c⟩ 3)).drew.heap[k]? = W1.heap[k]? := fun k hk => (Below.heap_alloc (W1.alloc (.cells ⟨c⟩ 3)) _ k (by simp; omega)).trans (Below.heap_alloc W1 _ k (by omega))
  rcases hab with ⟨rfl, rfl⟩ | ⟨rfl, rfl⟩
  · exact ⟨(hold gN hl).trans h1, (hold gS hl2).trans h2, by simpa using n1, by simpa using n2, ⟨Nat.le_refl _, by omega, by omega⟩, fun k hk hne hne2 => (hold k hk).trans (ho k hne hne2), by simp; omega, hos⟩
  · exact ⟨(hold gN hl).trans h1, (hold gS hl2).trans h2, by simpa using n2, by simpa using n1, ⟨by omega, Nat.le_refl _, by omega⟩, fun k hk hne hne2 => (hold k hk).trans (ho k hne hne2), by simp; omega, hos⟩
theorem Fi.mach {V W : World} {gN gS S I a b s i bm : Nat} {cN cS rN rS : List Value} (h : Fi V gN gS S I a b s cN cS rN rS W i) {nv rv nx pv sv : Value} {S' I' : Nat} (hm : MachAt V bm nv rv S' I' nx pv sv) (hN : bm ≠ gN) (hS : bm ≠ gS) : MachAt W bm nv rv S' I' nx pv sv := (h.old bm (Array.getElem?_eq_some_iff.1 hm).1 hN hS).trans hm
theorem Fi.row {V W : World} {gN gS S I a b s i g : Nat} {cN cS rN rS : List Value} {t : TypeId} {l : List Value} (h : Fi V gN gS S I a b s cN cS rN rS W i) (hr : RowIs V g t l) (hN : g ≠ gN) (hS : g ≠ gS) : RowIs W g t l := (h.old g hr.lt hN hS).trans hr
theorem Fi.below {V W W' : World} {gN gS S I a b s i : Nat} {cN cS rN rS : List Value} (h : Fi V gN gS S I a b s cN cS rN rS W i) (hb : Below W.heap.size W W') : Fi V gN gS S I a b s cN cS rN rS W' i :=
  ⟨h.tN.below hb, h.tS.below hb, h.lN.below hb, h.lS.below hb, h.ln, fun k hk h1 h2 => (hb.block k (by have := h.size; omega)).trans (h.old k hk h1 h2), Nat.le_trans h.size hb.size, hb.os.trans h.os.1, hb.tape.trans h.os.2.1, hb.output.trans h.os.2.2⟩
theorem row_next {rN : List Value} {I i : Nat} {v z : Value} (hl : rN.length = I) (hi : i < I) (hv : rN[i]? = some v) : (rN.take i ++ List.replicate (I - i) z).set i v = rN.take (i + 1) ++ List.replicate (I - (i + 1)) z := by
  have h1 : (rN.take i).length = i := by rw [List.length_take]; omega
  have h2 := fill_set (rN.take i) z v I (by omega)
  rw [h1] at h2
  rw [h2, List.take_add_one, hv]
  simp [h1]
/-- one more cell of both rows -/
theorem Fi.put {V W W' : World} {gN gS S I a b s i : Nat} {cN cS rN rS : List Value} {x y : Value} (h : Fi V gN gS S I a b s cN cS rN rS W i) (hi : i < I) (hNl : rN.length = I) (hSl : rS.length = I) (hx : rN[i]? = some x) (hy : rS[i]? = some y) (hgN : gN < V.heap.size) (hgS : gS < V.heap.size)
    (hk : ∀ k, k < W.heap.size → W'.heap[k]? = ((W.setCell ⟨a, i, none⟩ x).setCell ⟨b, i, none⟩ y).heap[k]?) (hz : W.heap.size ≤ W'.heap.size) (hos : W'.os = W.os ∧ W'.tape = W.tape ∧ W'.output = W.output) : Fi V gN gS S I a b s cN cS rN rS W' (i + 1) := by
  obtain ⟨h1, h2, h3⟩ := h.ln
  refine ⟨(hk gN h.tN.lt).trans ((h.tN.other a i x (by omega)).other b i y (by omega)), (hk gS h.tS.lt).trans ((h.tS.other a i x (by omega)).other b i y (by omega)), ?_, ?_, h.ln, fun k hkk e1 e2 => ?_, Nat.le_trans h.size hz, hos.1.trans h.os.1, hos.2.1.trans h.os.2.1, hos.2.2.trans h.os.2.2⟩
  · have := (h.lN.set i x).other b i y h3
    rw [row_next hNl hi hx] at this
    exact (hk a h.lN.lt).trans this
  · have := (h.lS.other a i x (Ne.symm h3)).set i y
    rw [row_next hSl hi hy] at this
    exact (hk b h.lS.lt).trans this
  · have := h.size
    rw [hk k (by omega), Below.heap_setCell _ _ _ _ (fun e => by simp at e; omega), Below.heap_setCell _ _ _ _ (fun e => by simp at e; omega)]
    exact h.old k hkk e1 e2
/-- the rows are whole: a state more -/
theorem Fl.next {W0 V W : World} {gN gS S I q s a b : Nat} {p : Ld.Prg} {cN cS : List Value} (h : Fl W0 gN gS S I p q V s) (hs : s < S) (hgN : gN < W0.heap.size) (hgS : gS < W0.heap.size) (hcN : RowIs V gN 22 cN) (hcS : RowIs V gS 22 cS) (hi : Fi V gN gS S I a b s cN cS (Mc.nextRow p q I s) (Mc.seesRow p q I s) W I) : Fl W0 gN gS S I p q W (s + 1) := by
  obtain ⟨⟨uN, uS, ⟨hlN, hlS⟩, hN, hS⟩, hold, hsz, hos⟩ := h
  have key : ∀ (g g' c : Nat) (u : List Nat) (cc : List Value) (rows : Nat → List Value), u.length = s → g < W0.heap.size → V.heap.size ≤ c → LL V g 22 3 S I W0.heap.size u rows → RowIs V g 22 cc → RowIs W g 22 (cc.set s (slV c I)) → RowIs W c 3 (rows s) → LL W g 22 3 S I W0.heap.size (u ++ [c]) rows := by
    intro g g' c u cc rows hu hg hc hll hcc htop hrow
    have e1 : cc = (u.map fun b => slV b I) ++ List.replicate (S - u.length) (.slice none 0 0) := by
      have := hcc.symm.trans hll.top
      simpa using this
    have h2 := fill_set (u.map fun b => slV b I) (.slice none 0 0) (slV c I) S (by simpa [hu] using hs)
    rw [List.length_map, hu] at h2
    rw [e1, hu, h2] at htop
    refine ⟨by simpa using htop, fun j x hj => ?_⟩
    by_cases hjl : j < u.length
    · rw [List.getElem?_append_left hjl] at hj
      obtain ⟨h3, h4⟩ := hll.row j x hj
      exact ⟨(hi.old x h3.lt (by omega) (by omega)).trans h3, h4⟩
    · rw [List.getElem?_append_right (by omega)] at hj
      have hj2 : j - u.length < [c].length := (List.getElem?_eq_some_iff.1 hj).1
      have : j = u.length := by simp at hj2; omega
      subst this
      rw [Nat.sub_self] at hj
      simp only [List.getElem?_cons_zero, Option.some.injEq] at hj
      subst hj
      rw [hu]
      exact ⟨hrow, by omega⟩
  have r1 := hi.lN
  have r2 := hi.lS
  rw [Nat.sub_self, List.take_of_length_le (by rw [Mc.nextRow_length]; exact Nat.le_refl _)] at r1
  rw [Nat.sub_self, List.take_of_length_le (by rw [Mc.seesRow_length]; exact Nat.le_refl _)] at r2
  refine ⟨⟨uN ++ [a], uS ++ [b], ⟨by simp [hlN], by simp [hlS]⟩, key gN gS a uN cN _ hlN hgN hi.ln.1 hN hcN hi.tN (by simpa using r1), key gS gN b uS cS _ hlS hgS hi.ln.2.1 hS hcS hi.tS (by simpa using r2)⟩, fun k hk e1 e2 => (hi.old k (by omega) e1 e2).trans (hold k hk e1 e2), by have := hi.size; omega, hi.os.1.trans hos.1, hi.os.2.1.trans hos.2.1, hi.os.2.2.trans hos.2.2⟩
theorem Fl.tops {W0 W : World} {gN gS S I q s : Nat} {p : Ld.Prg} (h : Fl W0 gN gS S I p q W s) (hs : s < S) : ∃ cN cS, RowIs W gN 22 cN ∧ RowIs W gS 22 cS ∧ W.cell? ⟨gN, s, none⟩ = some (.slice none 0 0) ∧ W.frozen? ⟨gN, s, none⟩ = false ∧ W.cell? ⟨gS, s, none⟩ = some (.slice none 0 0) ∧ W.frozen? ⟨gS, s, none⟩ = false := by
  obtain ⟨⟨uN, uS, ⟨hlN, hlS⟩, hN, hS⟩, -, -, -⟩ := h
  have a := hN.next (by omega)
  have b := hS.next (by omega)
  rw [hlN] at a
  rw [hlS] at b
  exact ⟨_, _, hN.top, hS.top, a.1, a.2, b.1, b.2⟩
/-- three cells of the machine -/
def K3 (W : World) (bm k gN gS S : Nat) : Prop := W.cell? ⟨bm, 3, none⟩ = some (.int .i64 (k : Int)) ∧ W.cell? ⟨bm, 4, none⟩ = some (slV gN S) ∧ W.cell? ⟨bm, 6, none⟩ = some (slV gS S)
theorem cell_set_blk (W : World) (b i g j : Nat) (x v : Value) (hij : b ≠ g) (h : W.cell? ⟨b, i, none⟩ = some v) : (W.setCell ⟨g, j, none⟩ x).cell? ⟨b, i, none⟩ = some v := (World.cell?_setCell_other W ⟨g, j, none⟩ ⟨b, i, none⟩ x (by intro e; exact hij (congrArg Addr.block e).symm)).trans h
theorem k3_alloc {W : World} {bm k gN gS S : Nat} (o : Obj) (h : K3 W bm k gN gS S) : K3 (W.alloc o) bm k gN gS S := ⟨cell_alloc_keep _ _ _ _ h.1, cell_alloc_keep _ _ _ _ h.2.1, cell_alloc_keep _ _ _ _ h.2.2⟩
theorem k3_set {W : World} {bm k gN gS S : Nat} (g j : Nat) (x : Value) (hg : bm ≠ g) (h : K3 W bm k gN gS S) : K3 (W.setCell ⟨g, j, none⟩ x) bm k gN gS S := ⟨cell_set_blk _ _ _ _ _ _ _ hg h.1, cell_set_blk _ _ _ _ _ _ _ hg h.2.1, cell_set_blk _ _ _ _ _ _ _ hg h.2.2⟩
theorem RowIs.ne {W : World} {a b : Nat} {t t' : TypeId} {l l' : List Value} (h : RowIs W a t l) (h' : RowIs W b t' l') (ht : t ≠ t') : a ≠ b := by
  rintro rfl
  have := h.symm.trans h'
  simp only [Option.some.injEq, Obj.cells.injEq] at this
  exact ht this.2.1
theorem MachAt.row {W : World} {bm : Nat} {nv rv : Value} {S I : Nat} {nx pv sv : Value} (h : MachAt W bm nv rv S I nx pv sv) : RowIs W bm 72 [nv, rv, .int .i64 (S : Int), .int .i64 (I : Int), nx, pv, sv] := h
/-- what stands through fill's rounds -/
structure Std (bm : Nat) (p : Ld.Prg) (nv rv : Value) (g gN gS gI S I q lo : Nat) (us : List Nat) (W : World) : Prop where
  mach : MachAt W bm nv rv S I (slV gN S) (slV g p.names.length) (slV gS S)
  prg : IsPrg W p (.agg #[nv, rv])
  row : RowIs W g 145 ((Mc.parts p).flatMap ptCells)
  ins : LL W gI 47 4 I q lo us (fun i => (bitsTo i q).map boolV)
theorem off_nils {W : World} {g n : Nat} {t : TypeId} (h : RowIs W g t (List.replicate n (.slice none 0 0))) : Off W g := off_row h fun u hu => by
  rw [List.eq_of_mem_replicate hu]
  exact ⟨fun _ e => by simp at e, fun _ _ e => by simp at e⟩
theorem Std.old {bm : Nat} {p : Ld.Prg} {nv rv : Value} {g gN gS gI S I q lo : Nat} {us : List Nat} {W0 W : World} (h : Std bm p nv rv g gN gS gI S I q lo us W0) (hN : RowIs W0 gN 22 (List.replicate S (.slice none 0 0))) (hS : RowIs W0 gS 22 (List.replicate S (.slice none 0 0)))
    (hk : ∀ k, k < W0.heap.size → k ≠ gN → k ≠ gS → W.heap[k]? = W0.heap[k]?) : Std bm p nv rv g gN gS gI S I q lo us W := by
  have mv : ∀ {b : Nat} {t : TypeId} {l : List Value}, RowIs W0 b t l → t ≠ 22 → RowIs W b t l := fun hr ht => (hk _ hr.lt (hr.ne hN ht) (hr.ne hS ht)).trans hr
  refine ⟨mv h.mach.row (by decide), ?_, mv h.row (by decide), ⟨mv h.ins.top (by decide), fun j b hj => ⟨mv (h.ins.row j b hj).1 (by decide), (h.ins.row j b hj).2⟩⟩⟩
  refine h.prg.offB (B := fun b => b = gN ∨ b = gS) ?_ (fun k hk1 hb => hk k hk1 (fun e => hb (.inl e)) (fun e => hb (.inr e)))
  rintro b (rfl | rfl)
  · exact off_nils hN
  · exact off_nils hS
theorem Std.made {wr wc : World} {bm : Nat} {p : Ld.Prg} {nv rv : Value} {g gN gS gI S I q lo : Nat} {us : List Nat} (h : Made2 wr bm nv rv (slV g p.names.length) S I gN gS wc) (hm : MachAt wr bm nv rv S I (.slice none 0 0) (slV g p.names.length) (.slice none 0 0)) (hp : IsPrg wr p (.agg #[nv, rv])) (hr : RowIs wr g 145 ((Mc.parts p).flatMap ptCells)) (hi : LL wr gI 47 4 I q lo us (fun i => (bitsTo i q).map boolV)) : Std bm p nv rv g gN gS gI S I q lo us wc := by
  have mv : ∀ {b : Nat} {t : TypeId} {l : List Value}, RowIs wr b t l → t ≠ 72 → RowIs wc b t l := fun hr ht => (h.old _ hr.lt (hr.ne hm.row ht)).trans hr
  refine ⟨h.mach, ?_, mv hr (by decide), ⟨mv hi.top (by decide), fun j b hj => ⟨mv (hi.row j b hj).1 (by decide), (hi.row j b hj).2⟩⟩⟩
  refine hp.offB (B := fun b => b = bm) ?_ (fun k hk1 hb => h.old k hk1 hb)
  rintro b rfl
  obtain ⟨nv', rv', he, hn, hrr⟩ := hp
  obtain ⟨na, nk, nc, h1⟩ := slice_of hn
  obtain ⟨ra, rk, rc, h2⟩ := slice_ofR hrr
  simp only [Value.agg.injEq] at he
  have e1 : nv = nv' := Option.some.inj (congrArg (fun a : Array Value => a[0]?) he)
  have e2 : rv = rv' := Option.some.inj (congrArg (fun a : Array Value => a[1]?) he)
  refine off_row hm.row fun u hu => ?_
  simp only [List.mem_cons, List.not_mem_nil, or_false] at hu
  rcases hu with rfl | rfl | rfl | rfl | rfl | rfl | rfl <;> (refine ⟨fun _ e => ?_, fun _ _ e => ?_⟩ <;> simp [e1, e2, h1, h2, slV] at e)
end
end Go.Proofs.YtkpfahbodlfpiaaGreatDoor
