/-
  States in memory, as package scan lays them: a row of bools, a row of ints; the walks of what a rung does to one. The walks of package scan's Start and told. The walks of eval, hasOne, orNever and Eval: what an expression says is the plain function 'eval'. The same walks where the closures hold two values, and grow memory when they are asked. The walks of package scan's told and its closure. The walk of package scan's step.
-/
import Derived.Test.YtgldbliohpfljaaGreatDoorScBoundAll
import Derived.Test.YtgldbliohpfljaaGreatDoorScTwoAll
import Derived.Test.YtgldbliohpfljaaGreatDoorLdKindAll
import Derived.Test.YtgldbliohpfljaaGreatDoorNaNamesAll
import Derived.Laws.CopyOwn
import Derived.Laws.CopyRow
import Derived.Laws.IdiomCopy
namespace Go.Proofs.YtgldbliohpfljaaGreatDoor
section
open Go.RowKit
theorem Sc.set_getD (l : List Int) (n : Nat) : l.set n (l.getD n 0) = l := by
  apply List.ext_getElem?
  intro i
  rw [List.getElem?_set]
  split
  · rename_i e; subst e; split
    · rename_i h; simp [h]
    · rename_i h; simp [h]
  · rfl
/-- a state's two rows -/
structure StAt (W : World) (gi gc : Nat) (s : Sc.St) : Prop where
  bi : W.heap[gi]? = some (.cells ⟨s.is.map boolV⟩ 4 (0, 0))
  bc : W.heap[gc]? = some (.cells ⟨s.ct.map iV⟩ 3 (0, 0))
def stV (gi gc n : Nat) : Value := .agg #[.slice (some ⟨gi, 0, none⟩) n n, .slice (some ⟨gc, 0, none⟩) n n]
theorem StAt.lt {W : World} {gi gc : Nat} {s : Sc.St} (h : StAt W gi gc s) : gi < W.heap.size ∧ gc < W.heap.size := ⟨(Array.getElem?_eq_some_iff.1 h.bi).1, (Array.getElem?_eq_some_iff.1 h.bc).1⟩
theorem StAt.ne {W : World} {gi gc : Nat} {s : Sc.St} (h : StAt W gi gc s) : gi ≠ gc := by
  intro e
  have h1 := h.bi
  rw [e, h.bc] at h1
  simp only [Option.some.injEq, Obj.cells.injEq] at h1
  exact absurd h1.2.1 (by decide)
theorem StAt.below {W W' : World} {gi gc : Nat} {s : Sc.St} (h : StAt W gi gc s) (hb : Below W.heap.size W W') : StAt W' gi gc s := ⟨(hb.block _ h.lt.1).trans h.bi, (hb.block _ h.lt.2).trans h.bc⟩
theorem StAt.cellI {W : World} {gi gc : Nat} {s : Sc.St} (h : StAt W gi gc s) (n : Nat) (hn : n < s.is.length) : W.cell? ⟨gi, n, none⟩ = some (.bool (s.is.getD n false)) := by
  rw [Lib.cell_of_heap h.bi]; simp [boolV, hn]
theorem StAt.cellC {W : World} {gi gc : Nat} {s : Sc.St} (h : StAt W gi gc s) (n : Nat) (hn : n < s.ct.length) : W.cell? ⟨gc, n, none⟩ = some (.int .i64 (s.ct.getD n 0)) := by
  rw [Lib.cell_of_heap h.bc]; simp [iV, hn]
theorem StAt.frI {W : World} {gi gc : Nat} {s : Sc.St} (h : StAt W gi gc s) (n : Nat) : W.frozen? ⟨gi, n, none⟩ = false := Lib.frozen_of_heap h.bi n
theorem StAt.frC {W : World} {gi gc : Nat} {s : Sc.St} (h : StAt W gi gc s) (n : Nat) : W.frozen? ⟨gc, n, none⟩ = false := Lib.frozen_of_heap h.bc n
theorem StAt.setI {W : World} {gi gc : Nat} {s : Sc.St} (h : StAt W gi gc s) (n : Nat) (b : Bool) : StAt (W.setCell ⟨gi, n, none⟩ (.bool b)) gi gc ⟨s.is.set n b, s.ct⟩ := by
  refine ⟨?_, (Below.heap_setCell _ _ _ _ (fun e => h.ne e.symm)).trans h.bc⟩
  simp [World.setCell, Array.getElem?_modify, h.bi, boolV]
theorem StAt.setC {W : World} {gi gc : Nat} {s : Sc.St} (h : StAt W gi gc s) (n : Nat) (b : Int) : StAt (W.setCell ⟨gc, n, none⟩ (.int .i64 b)) gi gc ⟨s.is, s.ct.set n b⟩ := by
  refine ⟨(Below.heap_setCell _ _ _ _ (fun e => h.ne e)).trans h.bi, ?_⟩
  simp [World.setCell, Array.getElem?_modify, h.bc, iV]
theorem further_any (a m : Int) (w : World) (ha : -1000 ≤ a ∧ a ≤ 1000) : Calls Tryz.prog 270 #[.int .i64 a, .int .i64 m] w fun e w' => e = .returned (.int .i64 (Sc.further a m)) ∧ w' = w := by
  by_cases h : a < m
  all_goals
    go_enter Tryz.func270, Tryz.ntmps270
    go_wp2
    go_ret
    exact ⟨by simp [Sc.further, h]; try omega, rfl⟩
/-- what a function that returns nothing does to a state -/
def Does (gi gc : Nat) (s : Sc.St) (w : World) (e : Ending) (w' : World) : Prop := e = .returned (.tuple #[]) ∧ StAt w' gi gc s ∧ Two gi gc w w'
theorem Does.mk {gi gc : Nat} {s : Sc.St} {w w' w'' : World} (h : StAt w' gi gc s) (ht : Two gi gc w w') (hb : Below w'.heap.size w' w'') : Does gi gc s w (.returned (.tuple #[])) w'' := ⟨rfl, h.below hb, ht.trans (Two.below hb)⟩
theorem Does.drew {gi gc : Nat} {s : Sc.St} {w w' : World} {e : Ending} (h : Does gi gc s w e w') : Does gi gc s w e w'.drew := ⟨h.1, ⟨h.2.1.bi, h.2.1.bc⟩, ⟨h.2.2.os, h.2.2.tape, h.2.2.output, h.2.2.size, h.2.2.block⟩⟩
theorem below_alloc_drew (w : World) (o : Obj) : Below w.heap.size w (w.alloc o).drew := ⟨rfl, rfl, rfl, by simp, fun k hk => Below.heap_alloc _ _ _ hk⟩
set_option maxHeartbeats 4000000 in
set_option maxRecDepth 100000 in
theorem zero_any (gi gc m n : Nat) (says : Bool) (s : Sc.St) (w : World) (h : StAt w gi gc s) (hi : s.is.length = m) (hc : s.ct.length = m) (hn : n < m) :
    Calls Tryz.prog 237 #[stV gi gc m, .int .i64 (n : Int), .bool says] w (Does gi gc (Sc.zero n says s) w) := by
  have HA := hide h
  have ⟨hl1, hl2⟩ := h.lt
  have hne := h.ne
  have f1 := h.frI n
  have f2 := h.frC n
  have c1 := h.cellI n (by omega)
  have c2 := h.cellC n (by omega)
  clear h
  unfold stV
  generalize s.is.getD n false = b0 at *
  generalize s.ct.getD n 0 = k0 at *
  cases says with
  | false =>
    go_enter Tryz.func237, Tryz.ntmps237
    go_wp2_with fail
    go_end0
    exact Does.mk HA.out (Two.refl _ _ _) ((Below.refl _ _).alloc (Nat.le_refl _) _)
  | true =>
    go_enter Tryz.func237, Tryz.ntmps237
    go_wp2_with fail
    go_region
    go_end0
    exact Does.mk ((HA.out.setC n 0).setI n false) ((Two.setC _ _ _).trans (Two.setI _ _ _)) (below_alloc_drew _ _)
set_option maxHeartbeats 4000000 in
set_option maxRecDepth 100000 in
theorem run_any (gi gc m n : Nat) (most : Int) (says : Bool) (s : Sc.St) (w : World) (h : StAt w gi gc s) (hi : s.is.length = m) (hc : s.ct.length = m) (hn : n < m) (hk : -1000 ≤ s.ct.getD n 0 ∧ s.ct.getD n 0 ≤ 1000) :
    Calls Tryz.prog 235 #[stV gi gc m, .int .i64 (n : Int), .int .i64 most, .bool says] w (Does gi gc (Sc.run n most says s) w) := by
  have HA := hide h
  have ⟨hl1, hl2⟩ := h.lt
  have hne := h.ne
  have f1 := h.frI n
  have f2 := h.frC n
  have c1 := h.cellI n (by omega)
  have c2 := h.cellC n (by omega)
  clear h
  unfold stV
  have HB0 : Hid (∃ b, b = s.is.getD n false) := ⟨_, rfl⟩
  have HK0 : Hid (∃ k, k = s.ct.getD n 0) := ⟨_, rfl⟩
  obtain ⟨b0, hb0⟩ := HB0.out
  obtain ⟨k0, hk0⟩ := HK0.out
  rw [← hb0] at c1
  rw [← hk0] at c2 hk
  have HKE := hide hk0
  have HKK := hide hk
  clear hb0 hk0 HB0 HK0 hk
  cases says with
  | false =>
    go_enter Tryz.func235, Tryz.ntmps235
    go_wp2_with fail
    go_region
    go_end0
    exact Does.mk ((HA.out.setC n 0).setI n (0 == most)) ((Two.setC _ _ _).trans (Two.setI _ _ _)) (below_alloc_drew _ _)
  | true =>
    go_enter Tryz.func235, Tryz.ntmps235
    go_wp2_with fail
    go_region_with (go_at_call 270; refine (further_any _ _ _ HKK.out).mono ?_; rintro e w' ⟨rfl, rfl⟩)
    all_goals go_wp2_with fail
    all_goals go_region
    all_goals go_end0
    all_goals
      have hd := Does.mk ((HA.out.setC n (Sc.further k0 most)).setI n (Sc.further k0 most == most)) ((Two.setC _ _ _).trans (Two.setI _ _ _)) (below_alloc_drew _ (Obj.cells #[.slice (some ⟨gi, 0, none⟩) m m, .slice (some ⟨gc, 0, none⟩) m m] 105))
      rw [HKE.out] at hd ⊢
      exact Does.drew hd
set_option maxHeartbeats 4000000 in
set_option maxRecDepth 100000 in
theorem count_any (gi gc m n : Nat) (most : Int) (says : Bool) (s : Sc.St) (w : World) (h : StAt w gi gc s) (hi : s.is.length = m) (hc : s.ct.length = m) (hn : n < m) (hk : -1000 ≤ s.ct.getD n 0 ∧ s.ct.getD n 0 ≤ 1000) :
    Calls Tryz.prog 236 #[stV gi gc m, .int .i64 (n : Int), .int .i64 most, .bool says] w (Does gi gc (Sc.count n most says s) w) := by
  have HA := hide h
  have ⟨hl1, hl2⟩ := h.lt
  have hne := h.ne
  have f1 := h.frI n
  have f2 := h.frC n
  have c1 := h.cellI n (by omega)
  have c2 := h.cellC n (by omega)
  clear h
  unfold stV
  have HB0 : Hid (∃ b, b = s.is.getD n false) := ⟨_, rfl⟩
  have HK0 : Hid (∃ k, k = s.ct.getD n 0) := ⟨_, rfl⟩
  obtain ⟨b0, hb0⟩ := HB0.out
  obtain ⟨k0, hk0⟩ := HK0.out
  rw [← hb0] at c1
  rw [← hk0] at c2 hk
  have HKE := hide hk0
  have HKK := hide hk
  clear hb0 hk0 HB0 HK0 hk
  cases says with
  | false =>
    go_enter Tryz.func236, Tryz.ntmps236
    go_wp2_with fail
    go_region
    go_end0
    have hd := Does.mk ((HA.out).setI n (k0 == most)) (Two.setI _ _ _) (below_alloc_drew _ (Obj.cells #[.slice (some ⟨gi, 0, none⟩) m m, .slice (some ⟨gc, 0, none⟩) m m] 105))
    rw [HKE.out] at hd ⊢
    unfold Sc.count
    rw [if_neg (by decide)]
    simp only
    rw [Sc.set_getD]
    exact hd
  | true =>
    go_enter Tryz.func236, Tryz.ntmps236
    go_wp2_with fail
    go_region_with (go_at_call 270; refine (further_any _ _ _ HKK.out).mono ?_; rintro e w' ⟨rfl, rfl⟩)
    all_goals go_wp2_with fail
    all_goals go_region
    all_goals go_end0
    all_goals
      have hd := Does.mk ((HA.out.setC n (Sc.further k0 most)).setI n (Sc.further k0 most == most)) ((Two.setC _ _ _).trans (Two.setI _ _ _)) (below_alloc_drew _ (Obj.cells #[.slice (some ⟨gi, 0, none⟩) m m, .slice (some ⟨gc, 0, none⟩) m m] 105))
      rw [HKE.out] at hd ⊢
      exact Does.drew hd
set_option maxHeartbeats 8000000 in
set_option maxRecDepth 100000 in
theorem rung_any (gi gc m n : Nat) (k most : Int) (says : Bool) (s : Sc.St) (w : World) (h : StAt w gi gc s) (hi : s.is.length = m) (hc : s.ct.length = m) (hn : n < m) (hk : -1000 ≤ s.ct.getD n 0 ∧ s.ct.getD n 0 ≤ 1000) (hkk : 1 ≤ k ∧ k ≤ 6) :
    Calls Tryz.prog 201 #[stV gi gc m, .int .i64 k, .int .i64 (n : Int), .int .i64 most, .bool says] w (Does gi gc (Sc.rung k n most says s) w) := by
  have HA := hide h
  have ⟨hl1, hl2⟩ := h.lt
  have hne := h.ne
  have f1 := h.frI n
  have f2 := h.frC n
  have c1 := h.cellI n (by omega)
  have hb0 : Below w.heap.size w (w.alloc (.cells #[.slice (some ⟨gi, 0, none⟩) m m, .slice (some ⟨gc, 0, none⟩) m m] 105)) := (Below.refl _ _).alloc (Nat.le_refl _) _
  have HW := hide hb0
  have HR := hide (run_any gi gc m n most says s _ (h.below hb0) hi hc hn hk)
  have HC := hide (count_any gi gc m n most says s _ (h.below hb0) hi hc hn hk)
  have HZ := hide (zero_any gi gc m n says s _ (h.below hb0) hi hc hn)
  unfold stV at *
  have HB0 : Hid (∃ b, b = s.is.getD n false) := ⟨_, rfl⟩
  obtain ⟨b0, hb1⟩ := HB0.out
  rw [← hb1] at c1
  have HBE := hide hb1
  clear hb1 HB0 hk h hb0
  rcases (show k = 1 ∨ k = 2 ∨ k = 3 ∨ k = 4 ∨ k = 5 ∨ k = 6 by omega) with rfl | rfl | rfl | rfl | rfl | rfl
  · go_enter Tryz.func201, Tryz.ntmps201
    go_wp2_with fail
    go_end0
    exact Does.mk (HA.out.setI n says) (Two.setI _ _ _) ((Below.refl _ _).alloc (Nat.le_refl _) _)
  · cases b0 <;> cases says
    all_goals
      go_enter Tryz.func201, Tryz.ntmps201
      go_wp2_with fail
      go_region
      go_end0
      have hd := fun b => Does.mk (HA.out.setI n b) (Two.setI _ _ _) (below_alloc_drew _ (Obj.cells #[.slice (some ⟨gi, 0, none⟩) m m, .slice (some ⟨gc, 0, none⟩) m m] 105))
      simp only [Sc.rung, ← HBE.out]
      exact hd _
  · cases b0 <;> cases says
    all_goals
      go_enter Tryz.func201, Tryz.ntmps201
      go_wp2_with fail
      go_region
      go_end0
      have hd := fun b => Does.mk (HA.out.setI n b) (Two.setI _ _ _) (below_alloc_drew _ (Obj.cells #[.slice (some ⟨gi, 0, none⟩) m m, .slice (some ⟨gc, 0, none⟩) m m] 105))
      simp only [Sc.rung, ← HBE.out]
      exact hd _
  · go_enter Tryz.func201, Tryz.ntmps201
    go_wp2_with fail
    refine HR.out.mono ?_
    rintro e w1 ⟨rfl, h1, h2⟩
    have H1 := hide h1
    have H2 := hide h2
    clear h1 h2
    go_wp2_with fail
    go_end0
    exact ⟨rfl, H1.out, (Two.below HW.out).trans H2.out⟩
  · go_enter Tryz.func201, Tryz.ntmps201
    go_wp2_with fail
    refine HC.out.mono ?_
    rintro e w1 ⟨rfl, h1, h2⟩
    have H1 := hide h1
    have H2 := hide h2
    clear h1 h2
    go_wp2_with fail
    go_end0
    exact ⟨rfl, H1.out, (Two.below HW.out).trans H2.out⟩
  · go_enter Tryz.func201, Tryz.ntmps201
    go_wp2_with fail
    refine HZ.out.mono ?_
    rintro e w1 ⟨rfl, h1, h2⟩
    have H1 := hide h1
    have H2 := hide h2
    clear h1 h2
    go_wp2_with fail
    go_end0
    exact ⟨rfl, H1.out, (Two.below HW.out).trans H2.out⟩
end
section
open Go.RowKit
/-- a new state -/
def NewSt (w : World) (s : Sc.St) (e : Ending) (w' : World) : Prop := ∃ gi gc, e = .returned (stV gi gc s.is.length) ∧ StAt w' gi gc s ∧ w.heap.size ≤ gi ∧ w.heap.size ≤ gc ∧ Below w.heap.size w w'
theorem makeI (w : World) : ∀ n : Nat, n ≤ 12 → (Instr.makeSlice 36 (.int .i64 (n : Int)) (.int .i64 (n : Int))).run Tryz.prog w = .ok (.slice (some ⟨w.heap.size, 0, none⟩) n n) (w.alloc (.cells ⟨(List.replicate n 0).map iV⟩ 3)) := by
  apply upto12 <;> kernel_rfl
theorem four (w : World) (o1 o2 o3 o4 : Obj) : ((((w.alloc o1).alloc o2).alloc o3).alloc o4).drew.heap[w.heap.size + 1 + 1]? = some o3 ∧ ((((w.alloc o1).alloc o2).alloc o3).alloc o4).drew.heap[w.heap.size + 1 + 1 + 1]? = some o4 ∧ Below w.heap.size w ((((w.alloc o1).alloc o2).alloc o3).alloc o4).drew := by
  have s1 : (w.alloc o1).heap.size = w.heap.size + 1 := by simp
  have s2 : ((w.alloc o1).alloc o2).heap.size = w.heap.size + 1 + 1 := by simp
  have s3 : (((w.alloc o1).alloc o2).alloc o3).heap.size = w.heap.size + 1 + 1 + 1 := by simp
  have e3 := heap_alloc_new ((w.alloc o1).alloc o2) o3
  have e4 := heap_alloc_new (((w.alloc o1).alloc o2).alloc o3) o4
  rw [s2] at e3
  rw [s3] at e4
  refine ⟨?_, e4, ?_⟩
  · exact (Below.heap_alloc (((w.alloc o1).alloc o2).alloc o3) o4 _ (by omega)).trans e3
  · have hb := ((((Below.refl w.heap.size w).alloc (Nat.le_refl _) o1).alloc (by omega) o2).alloc (by omega) o3).alloc (by omega) o4
    exact ⟨hb.os, hb.tape, hb.output, hb.size, hb.block⟩
set_option maxHeartbeats 4000000 in
set_option maxRecDepth 100000 in
theorem Start_any (p : Ld.Prg) (v : Value) (w : World) (h : IsPrg w p v) (hn : p.names.length ≤ 12) :
    Calls Tryz.prog 199 #[v] w (NewSt w (Sc.start p)) := by
  obtain ⟨nv, rv, rfl, hna, hra⟩ := h
  obtain ⟨na, nc, rfl, hn1⟩ := hna.slice
  obtain ⟨ra, rc, rfl, hr1⟩ := hra.slice
  clear hna hra
  have HS : Hid (Sc.start p = ⟨List.replicate p.names.length false, List.replicate p.names.length 0⟩) := rfl
  have HL : Hid ((Sc.start p).is.length = p.names.length) := by show _ = _; simp [Sc.start]
  generalize p.names.length = n at *
  have m1 := fun w => makeB w n hn
  have m2 := fun w => makeI w n hn
  have HB : Hid (∃ cb, cb = (List.replicate n false).map boolV) := ⟨_, rfl⟩
  have HI : Hid (∃ ci, ci = (List.replicate n 0).map iV) := ⟨_, rfl⟩
  obtain ⟨cb, hcb⟩ := HB.out
  obtain ⟨ci, hci⟩ := HI.out
  rw [← hcb] at m1
  rw [← hci] at m2
  have HCB := hide hcb
  have HCI := hide hci
  clear hcb hci HB HI
  go_enter Tryz.func199, Tryz.ntmps199
  go_wp2_with fail
  go_region
  all_goals go_wp2_with fail
  · refine bodyPost_ret_by (v := stV (w.heap.size + 1 + 1) (w.heap.size + 1 + 1 + 1) n) ?_ rfl ?_
    · simp [results, Tryz.results199, go_sem, stV]
    · obtain ⟨q1, q2, q3⟩ := four w (.cells #[.slice na n nc, .slice ra p.rungs.length rc] 83) (.cells #[.slice (some ⟨w.heap.size + 1 + 1, 0, none⟩) n n, .slice (some ⟨w.heap.size + 1 + 1 + 1, 0, none⟩) n n] 105) (.cells ⟨cb⟩ 4) (.cells ⟨ci⟩ 3)
      refine ⟨_, _, by rw [HL.out], ⟨?_, ?_⟩, by omega, by omega, q3⟩
      · rw [HS.out]; exact q1.trans (by rw [HCB.out])
      · rw [HS.out]; exact q2.trans (by rw [HCI.out])
  · refine bodyPost_ret_by (v := stV (w.heap.size + 1 + 1 + 1) (w.heap.size + 1 + 1) n) ?_ rfl ?_
    · simp [results, Tryz.results199, go_sem, stV]
    · obtain ⟨q1, q2, q3⟩ := four w (.cells #[.slice na n nc, .slice ra p.rungs.length rc] 83) (.cells #[.slice (some ⟨w.heap.size + 1 + 1 + 1, 0, none⟩) n n, .slice (some ⟨w.heap.size + 1 + 1, 0, none⟩) n n] 105) (.cells ⟨ci⟩ 3) (.cells ⟨cb⟩ 4)
      refine ⟨_, _, by rw [HL.out], ⟨?_, ?_⟩, by omega, by omega, q3⟩
      · rw [HS.out]; exact q2.trans (by rw [HCB.out])
      · rw [HS.out]; exact q1.trans (by rw [HCI.out])
end
section
open Go.RowKit
/-- a closure that tells of each name whether it is so; it changes nothing -/
def Tells (f : Value) (p : List UInt8 → Bool) (w : World) : Prop :=
  ∃ K c, f = .func (.func K) #[] #[c] ∧ Entered K ∧ ∀ (W : World), Below w.heap.size w W → ∀ nm : List UInt8, Calls Tryz.prog K #[.string ⟨nm.toArray⟩, c] W fun e W' => e = .returned (.bool (p nm)) ∧ W' = W
theorem Tells.below {f : Value} {p : List UInt8 → Bool} {w w' : World} (h : Tells f p w) (hb : Below w.heap.size w w') : Tells f p w' := by
  obtain ⟨K, c, h1, h2, h3⟩ := h
  exact ⟨K, c, h1, h2, fun W hW => h3 W (hb.trans (hW.mono hb.size))⟩
theorem orNever_any (K : Nat) (c : Value) (w : World) : Calls Tryz.prog 92 #[.func (.func K) #[] #[c]] w fun e w' => e = .returned (.func (.func K) #[] #[c]) ∧ w' = w := by
  have hn : ∀ w : World, (binOp .eql 79 (.func (.func K) #[] #[c]) .nilFunc).run Tryz.prog w = .ok (.bool false) w := fun _ => by kernel_rfl
  go_enter Tryz.func92, Tryz.ntmps92
  go_wp2
  go_ret
  exact ⟨rfl, rfl⟩
/-- eval, at this expression -/
def EvalOK (x : Ex) : Prop := ∀ (v fi fw : Value) (is was : List UInt8 → Bool) (w : World), IsEx (fun _ => True) w x v → Tells fi is w → Tells fw was w →
  Calls Tryz.prog 91 #[v, fi, fw] w fun e w' => e = .returned (.bool (x.eval is was)) ∧ Below w.heap.size w w'
theorem beq_b (a b : Bool) : (a == b) = (if a = b then true else false) := by cases a <;> cases b <;> rfl
set_option maxHeartbeats 1000000 in
theorem hasOne_any (xs : List Ex) (hx : ∀ x, x ∈ xs → EvalOK x) (this : Bool) (g cap : Nat) (_hcap : xs.length ≤ cap) (hmx : xs.length ≤ 9223372036854775807) (fi fw : Value) (is was : List UInt8 → Bool) (w : World)
    (hc : ∀ (k : Nat) (x : Ex), xs[k]? = some x → ∃ u, w.cell? ⟨g, k, none⟩ = some u ∧ IsEx (fun _ => True) w x u) (hi : Tells fi is w) (hw : Tells fw was w) :
    Calls Tryz.prog 138 #[.slice (some ⟨g, 0, none⟩) xs.length cap, .bool this, fi, fw] w fun e w' => e = .returned (.bool ((xs.map fun x => x.eval is was).any (· == this))) ∧ Below w.heap.size w w' := by
  have HX := hide hx
  have HC := hide hc
  have HI := hide hi
  have HW := hide hw
  clear hx hc hi hw
  generalize hn : xs.length = n at *
  have HN := hide hn
  clear hn
  go_enter Tryz.func138, Tryz.ntmps138
  go_wp2_with fail
  go_loopw [13] (fun i wr => ∃ k : Nat, k ≤ n ∧ i = .int .i64 (k : Int) ∧ ((xs.take k).map fun x => x.eval is was).any (· == this) = false ∧ Below w.heap.size w wr) (fun i _ => n - (intOf i).toNat)
  case atStart => exact ⟨0, Nat.zero_le _, rfl, by simp, Below.refl _ _⟩
  case round =>
    obtain ⟨j, hj, rfl, hno, hbr⟩ := hrel
    have HNO := hide hno
    have HBR := hide hbr
    clear hno hbr
    by_cases hlt : j < n
    · have hjl : j < xs.length := by rw [HN.out]; exact hlt
      obtain ⟨u, hu, hxu⟩ := HC.out j xs[j] (List.getElem?_eq_getElem hjl)
      have hcell : wr.cell? ⟨g, j, none⟩ = some u := Stay.below (ok := fun _ => True) HBR.out g j u trivial hu
      have HE := hide (HX.out xs[j] (List.getElem_mem hjl) u fi fw is was wr (IsEx.stay (Stay.below HBR.out) (fun g hg => hg) _ u hxu) (HI.out.below HBR.out) (HW.out.below HBR.out))
      have HT : Hid (((xs.take (j + 1)).map fun x => x.eval is was).any (· == this) = (xs[j].eval is was == this)) := by
        show _ = _
        rw [List.take_succ_eq_append_getElem hjl, List.map_append, List.any_append, HNO.out]
        simp
      have HTRUE : Hid ((xs[j].eval is was == this) = true → ((xs.map fun x => x.eval is was).any (· == this)) = true) := fun h => by
        rw [List.any_eq_true]
        exact ⟨xs[j].eval is was, List.mem_map_of_mem (List.getElem_mem hjl), h⟩
      obtain ⟨tu2, yu2, hiu2⟩ := IsEx.iface _ u hxu
      subst hiu2
      clear hu hxu
      generalize xs[j].eval is was = bv at *
      clear hjl
      go_wp2_with fail
      refine HE.out.mono ?_
      rintro e w2 ⟨rfl, hb2⟩
      have HB2 := hide hb2
      clear hb2 HE
      cases hbt : (bv == this) with
      | true =>
        have HF := hide (HTRUE.out hbt)
        go_wp2_with fail
        go_ret
        exact ⟨ret_bool HF.out.symm, HBR.out.trans (HB2.out.mono HBR.out.size)⟩
      | false =>
        rw [hbt] at HT
        go_wp2_with fail
        go_roundw
        case rel => exact ⟨j + 1, by omega, by go_num, HT.out, HBR.out.trans (HB2.out.mono HBR.out.size)⟩
        case measure => simp [intOf]; omega
    · have hjn : j = n := by omega
      have HF : Hid ((xs.map fun x => x.eval is was).any (· == this) = false) := by
        show _ = _
        have := HNO.out
        rwa [List.take_of_length_le (by rw [HN.out]; omega)] at this
      clear hjn
      go_wp2_with fail
      go_ret
      exact ⟨ret_bool HF.out.symm, HBR.out⟩
theorem any_true (l : List Bool) : l.any (· == true) = l.any id := by congr 1; funext b; cases b <;> rfl
theorem all_false (l : List Bool) : (!(l.any (· == false))) = l.all id := by
  induction l with
  | nil => rfl
  | cons a r ih => cases a <;> simp_all
set_option maxHeartbeats 2000000 in
theorem eval_any (x : Ex) : EvalOK x := by
  induction x using Ex.ind with
  | h k nm l ih =>
    intro v fi fw is was w h hi hw
    have HIH := hide ih
    have HI := hide hi
    have HW := hide hw
    obtain ⟨Ki, ci, hfi, hei, hti⟩ := hi
    obtain ⟨Kw, cw, hfw, hew, htw⟩ := hw
    have HTI := hide (hti w (Below.refl _ _))
    have HTW := hide (htw w (Below.refl _ _))
    have hei' : ∀ (args : Array Value) (w : World), (callFunc Ki args).run Tryz.prog w = .ok (.enter Ki args) w := hei
    have hew' : ∀ (args : Array Value) (w : World), (callFunc Kw args).run Tryz.prog w = .ok (.enter Kw args) w := hew
    subst hfi
    subst hfw
    clear hti htw hei hew ih
    match k, h with
    | 0, h =>
      simp only [IsEx] at h
      obtain ⟨_, _, rfl⟩ := h
      have HF : Hid ((⟨0, nm, l⟩ : Ex).eval is was = false) := by show _ = _; simp [Ex.eval]
      go_enter Tryz.func91, Tryz.ntmps91
      go_wp2_with fail
      go_ret
      exact ⟨ret_bool HF.out.symm, Below.refl _ _⟩
    | 1, h =>
      simp only [IsEx] at h
      obtain ⟨_, _, rfl⟩ := h
      have HF : Hid ((⟨1, nm, l⟩ : Ex).eval is was = true) := by show _ = _; simp [Ex.eval]
      go_enter Tryz.func91, Tryz.ntmps91
      go_wp2_with fail
      go_ret
      exact ⟨ret_bool HF.out.symm, Below.refl _ _⟩
    | 2, h =>
      simp only [IsEx] at h
      obtain ⟨_, _, rfl⟩ := h
      have HF : Hid ((⟨2, nm, l⟩ : Ex).eval is was = is nm) := by show _ = _; simp [Ex.eval]
      have HC := hide (HTI.out nm)
      go_enter Tryz.func91, Tryz.ntmps91
      go_wp2_with fail
      refine HC.out.mono ?_
      rintro e w1 ⟨rfl, rfl⟩
      go_wp2_with fail
      go_ret
      exact ⟨ret_bool HF.out.symm, Below.refl _ _⟩
    | 3, h =>
      simp only [IsEx] at h
      obtain ⟨_, _, rfl⟩ := h
      have HF : Hid ((⟨3, nm, l⟩ : Ex).eval is was = (is nm && !was nm)) := by show _ = _; simp [Ex.eval]
      have HC := hide (HTI.out nm)
      have HD := hide (HTW.out nm)
      generalize is nm = bi at *
      generalize was nm = bw at *
      cases bi with
      | false =>
        go_enter Tryz.func91, Tryz.ntmps91
        go_wp2_with fail
        refine HC.out.mono ?_
        rintro e w1 ⟨rfl, rfl⟩
        go_wp2_with fail
        go_ret
        exact ⟨ret_bool HF.out.symm, Below.refl _ _⟩
      | true =>
        go_enter Tryz.func91, Tryz.ntmps91
        go_wp2_with fail
        refine HC.out.mono ?_
        rintro e w1 ⟨rfl, rfl⟩
        go_wp2_with fail
        refine HD.out.mono ?_
        rintro e w2 ⟨rfl, rfl⟩
        go_wp2_with fail
        go_ret
        exact ⟨ret_bool (by rw [HF.out]; rfl), Below.refl _ _⟩
    | 4, h =>
      simp only [IsEx] at h
      obtain ⟨_, _, rfl⟩ := h
      have HF : Hid ((⟨4, nm, l⟩ : Ex).eval is was = (!is nm && was nm)) := by show _ = _; simp [Ex.eval]
      have HC := hide (HTI.out nm)
      have HD := hide (HTW.out nm)
      generalize is nm = bi at *
      generalize was nm = bw at *
      cases bi with
      | true =>
        go_enter Tryz.func91, Tryz.ntmps91
        go_wp2_with fail
        refine HC.out.mono ?_
        rintro e w1 ⟨rfl, rfl⟩
        go_wp2_with fail
        go_ret
        exact ⟨ret_bool HF.out.symm, Below.refl _ _⟩
      | false =>
        go_enter Tryz.func91, Tryz.ntmps91
        go_wp2_with fail
        refine HC.out.mono ?_
        rintro e w1 ⟨rfl, rfl⟩
        go_wp2_with fail
        refine HD.out.mono ?_
        rintro e w2 ⟨rfl, rfl⟩
        go_wp2_with fail
        go_ret
        exact ⟨ret_bool (by rw [HF.out]; rfl), Below.refl _ _⟩
    | 5, h =>
      simp only [IsEx] at h
      obtain ⟨_, h1, u, rfl, h3⟩ := h
      match l, h1, HIH with
      | [y], _, HIH =>
        have hy : IsEx (fun _ => True) w y u := h3 _ rfl
        have hb : Below w.heap.size w (w.alloc (.cells #[u] 253)) := (Below.refl _ w).alloc (Nat.le_refl _) _
        have HF : Hid ((⟨5, nm, [y]⟩ : Ex).eval is was = !(y.eval is was)) := by show _ = _; simp [Ex.eval]
        have HC := hide (HIH.out y (by simp) u _ _ is was _ (IsEx.stay (Stay.below hb) (fun g hg => hg) y u hy) (HI.out.below hb) (HW.out.below hb))
        have HB := hide hb
        obtain ⟨tu, yu, hiu⟩ := IsEx.iface y u hy
        subst hiu
        clear h3 hy hb
        go_enter Tryz.func91, Tryz.ntmps91
        go_wp2_with fail
        refine HC.out.mono ?_
        rintro e w1 ⟨rfl, hb1⟩
        have HB1 := hide hb1
        clear hb1 HC
        go_wp2_with fail
        go_ret
        exact ⟨ret_bool HF.out.symm, HB.out.trans (HB1.out.mono (by simp))⟩
    | 6, h =>
      simp only [IsEx] at h
      obtain ⟨_, _, h3, g, cap, rfl, h4, _, hr⟩ := h
      have HF : Hid ((⟨6, nm, l⟩ : Ex).eval is was = !((l.map fun x => x.eval is was).any (· == false))) := by show _ = _; rw [all_false]; simp [Ex.eval]
      have HC := hide (hasOne_any l HIH.out false g cap h4 h3 _ _ is was w (fun k x hx => hr k _ (by rw [List.getElem?_map, hx]; rfl)) HI.out HW.out)
      clear hr
      generalize (l.map fun x => x.eval is was).any (· == false) = bv at *
      generalize l.length = n at *
      go_enter Tryz.func91, Tryz.ntmps91
      go_wp2_with fail
      refine HC.out.mono ?_
      rintro e w1 ⟨rfl, hb1⟩
      have HB1 := hide hb1
      clear hb1 HC
      go_wp2_with fail
      go_ret
      exact ⟨ret_bool HF.out.symm, HB1.out⟩
    | 7, h =>
      simp only [IsEx] at h
      obtain ⟨_, _, h3, g, cap, rfl, h4, _, hr⟩ := h
      have HF : Hid ((⟨7, nm, l⟩ : Ex).eval is was = (l.map fun x => x.eval is was).any (· == true)) := by show _ = _; rw [any_true]; simp [Ex.eval]
      have HC := hide (hasOne_any l HIH.out true g cap h4 h3 _ _ is was w (fun k x hx => hr k _ (by rw [List.getElem?_map, hx]; rfl)) HI.out HW.out)
      clear hr
      generalize (l.map fun x => x.eval is was).any (· == true) = bv at *
      generalize l.length = n at *
      go_enter Tryz.func91, Tryz.ntmps91
      go_wp2_with fail
      refine HC.out.mono ?_
      rintro e w1 ⟨rfl, hb1⟩
      have HB1 := hide hb1
      clear hb1 HC
      go_wp2_with fail
      go_ret
      exact ⟨ret_bool HF.out.symm, HB1.out⟩
    | n + 8, h => simp only [IsEx] at h
/-- the deferred closure of Eval, where nothing panics -/
theorem Eval_idle (p : Addr) (w : World) :
    CallsD Tryz.prog 90 #[.pointer (some p)] .returning w fun e u' w' => e = .returned (.tuple #[]) ∧ u' = .returning ∧ w' = w := by
  refine callsD_of_wpS Tryz.func90 rfl fun c₀ cs hu => ?_
  apply wpS_seq
  apply wpS_region
  simp [wpOpsS, go_sem, recoverD, hu, Tryz.ntmps90, Exit.thenS]
  refine wpS_cond (t := false) (by simp [Act.eval, Array.replicate]) ?_
  simp only [Bool.false_eq_true, if_false]
  refine wpS_of_wp (wp_skip ?_)
  cases c₀
  simp_all [bodyPostS, results, Tryz.results90]
set_option maxHeartbeats 1000000 in
/-- Eval, at every expression: the plain function 'eval' -/
theorem Eval_any (ok : Nat → Prop) (x : Ex) (v fi fw : Value) (is was : List UInt8 → Bool) (w : World) (h : IsEx ok w x v) (hi : Tells fi is w) (hw : Tells fw was w) :
    Calls Tryz.prog 38 #[v, fi, fw] w fun e w' => e = .returned (.bool (x.eval is was)) ∧ Below w.heap.size w w' := by
  have hmf : ∀ (fn : Fn) (first cap : Array Value) (w : World), (Instr.makeFunc fn first cap).run Tryz.prog w = .ok (.func fn first cap) w := fun _ _ _ _ => rfl
  have hb : Below w.heap.size w (w.alloc (.cells #[.bool false] 4)) := (Below.refl _ w).alloc (Nat.le_refl _) _
  have HC := hide (eval_any x v fi fw is was _ (IsEx.stay (Stay.below hb) (fun g _ => trivial) x v h) (hi.below hb) (hw.below hb))
  obtain ⟨tu, yu, hiu⟩ := IsEx.iface x v h
  obtain ⟨Ki, ci, hfi, hei, hti⟩ := hi
  obtain ⟨Kw, cw, hfw, hew, htw⟩ := hw
  subst hiu
  subst hfi
  subst hfw
  clear h hb hei hti hew htw
  generalize x.eval is was = bv at *
  go_enter_defers Tryz.func38, Tryz.ntmps38
  go_wp2_with fail
  refine (orNever_any Ki ci _).mono ?_
  rintro e w0 ⟨rfl, rfl⟩
  go_wp2_with fail
  refine (orNever_any Kw cw _).mono ?_
  rintro e w0 ⟨rfl, rfl⟩
  go_wp2_with fail
  refine HC.out.mono ?_
  rintro e w1 ⟨rfl, hb⟩
  have hsz : w.heap.size < w1.heap.size := by have := hb.size; simp at this; omega
  have hc0 : w1.cell? ⟨w.heap.size, 0, none⟩ = some (.bool false) := by rw [hb.cell (by simp)]; simp
  have hf0 : w1.frozen? ⟨w.heap.size, 0, none⟩ = false := by rw [hb.frozen (by simp)]; simp [go_sem]
  have HB : Hid (Below w.heap.size w w1) := ((Below.refl _ w).alloc (Nat.le_refl _) _).trans (hb.mono (by simp))
  clear hb HC
  go_wp2_with fail
  refine leaves_cons (f := 90) (args := #[.pointer (some ⟨w.heap.size, 0, none⟩)]) (by simp) (by simp [go_sem]) ?_
  refine (Eval_idle ⟨w.heap.size, 0, none⟩ _).mono ?_
  rintro e u' w'' ⟨rfl, rfl, rfl⟩
  have hc2 : (w1.setCell ⟨w.heap.size, 0, none⟩ (.bool bv)).cell? ⟨w.heap.size, 0, none⟩ = some (.bool bv) := World.cell?_setCell_same w1 _ _ hc0
  have HX := HB.out.setCell (p := ⟨w.heap.size, 0, none⟩) (Nat.le_refl _) (.bool bv)
  simp [Leaves, settle, results, Tryz.results38, go_sem, hc2]
  exact HX
end
section
open Go.RowKit
namespace E2
/-- a closure that tells of each name whether it is so; it changes nothing -/
def Tells (f : Value) (p : List UInt8 → Bool) (w : World) : Prop :=
  ∃ K c d, f = .func (.func K) #[] #[c, d] ∧ Entered K ∧ ∀ (W : World), Below w.heap.size w W → ∀ nm : List UInt8, Calls Tryz.prog K #[.string ⟨nm.toArray⟩, c, d] W fun e W' => e = .returned (.bool (p nm)) ∧ Below W.heap.size W W'
theorem Tells.below {f : Value} {p : List UInt8 → Bool} {w w' : World} (h : Tells f p w) (hb : Below w.heap.size w w') : Tells f p w' := by
  obtain ⟨K, c, d, h1, h2, h3⟩ := h
  exact ⟨K, c, d, h1, h2, fun W hW => h3 W (hb.trans (hW.mono hb.size))⟩
theorem orNever_any (K : Nat) (c d : Value) (w : World) : Calls Tryz.prog 92 #[.func (.func K) #[] #[c, d]] w fun e w' => e = .returned (.func (.func K) #[] #[c, d]) ∧ w' = w := by
  have hn : ∀ w : World, (binOp .eql 79 (.func (.func K) #[] #[c, d]) .nilFunc).run Tryz.prog w = .ok (.bool false) w := fun _ => by kernel_rfl
  go_enter Tryz.func92, Tryz.ntmps92
  go_wp2
  go_ret
  exact ⟨rfl, rfl⟩
/-- eval, at this expression -/
def EvalOK (x : Ex) : Prop := ∀ (v fi fw : Value) (is was : List UInt8 → Bool) (w : World), IsEx (fun _ => True) w x v → Tells fi is w → Tells fw was w →
  Calls Tryz.prog 91 #[v, fi, fw] w fun e w' => e = .returned (.bool (x.eval is was)) ∧ Below w.heap.size w w'
set_option maxHeartbeats 1000000 in
theorem hasOne_any (xs : List Ex) (hx : ∀ x, x ∈ xs → EvalOK x) (this : Bool) (g cap : Nat) (_hcap : xs.length ≤ cap) (hmx : xs.length ≤ 9223372036854775807) (fi fw : Value) (is was : List UInt8 → Bool) (w : World)
    (hc : ∀ (k : Nat) (x : Ex), xs[k]? = some x → ∃ u, w.cell? ⟨g, k, none⟩ = some u ∧ IsEx (fun _ => True) w x u) (hi : Tells fi is w) (hw : Tells fw was w) :
    Calls Tryz.prog 138 #[.slice (some ⟨g, 0, none⟩) xs.length cap, .bool this, fi, fw] w fun e w' => e = .returned (.bool ((xs.map fun x => x.eval is was).any (· == this))) ∧ Below w.heap.size w w' := by
  have HX := hide hx
  have HC := hide hc
  have HI := hide hi
  have HW := hide hw
  clear hx hc hi hw
  generalize hn : xs.length = n at *
  have HN := hide hn
  clear hn
  go_enter Tryz.func138, Tryz.ntmps138
  go_wp2_with fail
  go_loopw [13] (fun i wr => ∃ k : Nat, k ≤ n ∧ i = .int .i64 (k : Int) ∧ ((xs.take k).map fun x => x.eval is was).any (· == this) = false ∧ Below w.heap.size w wr) (fun i _ => n - (intOf i).toNat)
  case atStart => exact ⟨0, Nat.zero_le _, rfl, by simp, Below.refl _ _⟩
  case round =>
    obtain ⟨j, hj, rfl, hno, hbr⟩ := hrel
    have HNO := hide hno
    have HBR := hide hbr
    clear hno hbr
    by_cases hlt : j < n
    · have hjl : j < xs.length := by rw [HN.out]; exact hlt
      obtain ⟨u, hu, hxu⟩ := HC.out j xs[j] (List.getElem?_eq_getElem hjl)
      have hcell : wr.cell? ⟨g, j, none⟩ = some u := Stay.below (ok := fun _ => True) HBR.out g j u trivial hu
      have HE := hide (HX.out xs[j] (List.getElem_mem hjl) u fi fw is was wr (IsEx.stay (Stay.below HBR.out) (fun g hg => hg) _ u hxu) (HI.out.below HBR.out) (HW.out.below HBR.out))
      have HT : Hid (((xs.take (j + 1)).map fun x => x.eval is was).any (· == this) = (xs[j].eval is was == this)) := by
        show _ = _
        rw [List.take_succ_eq_append_getElem hjl, List.map_append, List.any_append, HNO.out]
        simp
      have HTRUE : Hid ((xs[j].eval is was == this) = true → ((xs.map fun x => x.eval is was).any (· == this)) = true) := fun h => by
        rw [List.any_eq_true]
        exact ⟨xs[j].eval is was, List.mem_map_of_mem (List.getElem_mem hjl), h⟩
      obtain ⟨tu2, yu2, hiu2⟩ := IsEx.iface _ u hxu
      subst hiu2
      clear hu hxu
      generalize xs[j].eval is was = bv at *
      clear hjl
      go_wp2_with fail
      refine HE.out.mono ?_
      rintro e w2 ⟨rfl, hb2⟩
      have HB2 := hide hb2
      clear hb2 HE
      cases hbt : (bv == this) with
      | true =>
        have HF := hide (HTRUE.out hbt)
        go_wp2_with fail
        go_ret
        exact ⟨ret_bool HF.out.symm, HBR.out.trans (HB2.out.mono HBR.out.size)⟩
      | false =>
        rw [hbt] at HT
        go_wp2_with fail
        go_roundw
        case rel => exact ⟨j + 1, by omega, by go_num, HT.out, HBR.out.trans (HB2.out.mono HBR.out.size)⟩
        case measure => simp [intOf]; omega
    · have hjn : j = n := by omega
      have HF : Hid ((xs.map fun x => x.eval is was).any (· == this) = false) := by
        show _ = _
        have := HNO.out
        rwa [List.take_of_length_le (by rw [HN.out]; omega)] at this
      clear hjn
      go_wp2_with fail
      go_ret
      exact ⟨ret_bool HF.out.symm, HBR.out⟩
set_option maxHeartbeats 2000000 in
theorem eval_any (x : Ex) : EvalOK x := by
  induction x using Ex.ind with
  | h k nm l ih =>
    intro v fi fw is was w h hi hw
    have HIH := hide ih
    have HI := hide hi
    have HW := hide hw
    obtain ⟨Ki, ci, di, hfi, hei, hti⟩ := hi
    obtain ⟨Kw, cw, dw, hfw, hew, htw⟩ := hw
    have HTI := hide (hti w (Below.refl _ _))
    have HTW := hide htw
    have hei' : ∀ (args : Array Value) (w : World), (callFunc Ki args).run Tryz.prog w = .ok (.enter Ki args) w := hei
    have hew' : ∀ (args : Array Value) (w : World), (callFunc Kw args).run Tryz.prog w = .ok (.enter Kw args) w := hew
    subst hfi
    subst hfw
    clear hti htw hei hew ih
    match k, h with
    | 0, h =>
      simp only [IsEx] at h
      obtain ⟨_, _, rfl⟩ := h
      have HF : Hid ((⟨0, nm, l⟩ : Ex).eval is was = false) := by show _ = _; simp [Ex.eval]
      go_enter Tryz.func91, Tryz.ntmps91
      go_wp2_with fail
      go_ret
      exact ⟨ret_bool HF.out.symm, Below.refl _ _⟩
    | 1, h =>
      simp only [IsEx] at h
      obtain ⟨_, _, rfl⟩ := h
      have HF : Hid ((⟨1, nm, l⟩ : Ex).eval is was = true) := by show _ = _; simp [Ex.eval]
      go_enter Tryz.func91, Tryz.ntmps91
      go_wp2_with fail
      go_ret
      exact ⟨ret_bool HF.out.symm, Below.refl _ _⟩
    | 2, h =>
      simp only [IsEx] at h
      obtain ⟨_, _, rfl⟩ := h
      have HF : Hid ((⟨2, nm, l⟩ : Ex).eval is was = is nm) := by show _ = _; simp [Ex.eval]
      have HC := hide (HTI.out nm)
      go_enter Tryz.func91, Tryz.ntmps91
      go_wp2_with fail
      refine HC.out.mono ?_
      rintro e w1 ⟨rfl, hb1⟩
      have HB1 := hide hb1
      clear hb1
      go_wp2_with fail
      go_ret
      exact ⟨ret_bool HF.out.symm, HB1.out⟩
    | 3, h =>
      simp only [IsEx] at h
      obtain ⟨_, _, rfl⟩ := h
      have HF : Hid ((⟨3, nm, l⟩ : Ex).eval is was = (is nm && !was nm)) := by show _ = _; simp [Ex.eval]
      have HC := hide (HTI.out nm)
      have HD := hide (fun W hW => HTW.out W hW nm)
      generalize is nm = bi at *
      generalize was nm = bw at *
      cases bi with
      | false =>
        go_enter Tryz.func91, Tryz.ntmps91
        go_wp2_with fail
        refine HC.out.mono ?_
        rintro e w1 ⟨rfl, hb1⟩
        have HB1 := hide hb1
        clear hb1
        go_wp2_with fail
        go_ret
        exact ⟨ret_bool HF.out.symm, HB1.out⟩
      | true =>
        go_enter Tryz.func91, Tryz.ntmps91
        go_wp2_with fail
        refine HC.out.mono ?_
        rintro e w1 ⟨rfl, hb1⟩
        have HB1 := hide hb1
        clear hb1
        go_wp2_with fail
        refine (HD.out w1 HB1.out).mono ?_
        rintro e w2 ⟨rfl, hb2⟩
        have HB2 := hide hb2
        clear hb2
        go_wp2_with fail
        go_ret
        exact ⟨ret_bool (by rw [HF.out]; rfl), HB1.out.trans (HB2.out.mono HB1.out.size)⟩
    | 4, h =>
      simp only [IsEx] at h
      obtain ⟨_, _, rfl⟩ := h
      have HF : Hid ((⟨4, nm, l⟩ : Ex).eval is was = (!is nm && was nm)) := by show _ = _; simp [Ex.eval]
      have HC := hide (HTI.out nm)
      have HD := hide (fun W hW => HTW.out W hW nm)
      generalize is nm = bi at *
      generalize was nm = bw at *
      cases bi with
      | true =>
        go_enter Tryz.func91, Tryz.ntmps91
        go_wp2_with fail
        refine HC.out.mono ?_
        rintro e w1 ⟨rfl, hb1⟩
        have HB1 := hide hb1
        clear hb1
        go_wp2_with fail
        go_ret
        exact ⟨ret_bool HF.out.symm, HB1.out⟩
      | false =>
        go_enter Tryz.func91, Tryz.ntmps91
        go_wp2_with fail
        refine HC.out.mono ?_
        rintro e w1 ⟨rfl, hb1⟩
        have HB1 := hide hb1
        clear hb1
        go_wp2_with fail
        refine (HD.out w1 HB1.out).mono ?_
        rintro e w2 ⟨rfl, hb2⟩
        have HB2 := hide hb2
        clear hb2
        go_wp2_with fail
        go_ret
        exact ⟨ret_bool (by rw [HF.out]; rfl), HB1.out.trans (HB2.out.mono HB1.out.size)⟩
    | 5, h =>
      simp only [IsEx] at h
      obtain ⟨_, h1, u, rfl, h3⟩ := h
      match l, h1, HIH with
      | [y], _, HIH =>
        have hy : IsEx (fun _ => True) w y u := h3 _ rfl
        have hb : Below w.heap.size w (w.alloc (.cells #[u] 253)) := (Below.refl _ w).alloc (Nat.le_refl _) _
        have HF : Hid ((⟨5, nm, [y]⟩ : Ex).eval is was = !(y.eval is was)) := by show _ = _; simp [Ex.eval]
        have HC := hide (HIH.out y (by simp) u _ _ is was _ (IsEx.stay (Stay.below hb) (fun g hg => hg) y u hy) (HI.out.below hb) (HW.out.below hb))
        have HB := hide hb
        obtain ⟨tu, yu, hiu⟩ := IsEx.iface y u hy
        subst hiu
        clear h3 hy hb
        go_enter Tryz.func91, Tryz.ntmps91
        go_wp2_with fail
        refine HC.out.mono ?_
        rintro e w1 ⟨rfl, hb1⟩
        have HB1 := hide hb1
        clear hb1 HC
        go_wp2_with fail
        go_ret
        exact ⟨ret_bool HF.out.symm, HB.out.trans (HB1.out.mono (by simp))⟩
    | 6, h =>
      simp only [IsEx] at h
      obtain ⟨_, _, h3, g, cap, rfl, h4, _, hr⟩ := h
      have HF : Hid ((⟨6, nm, l⟩ : Ex).eval is was = !((l.map fun x => x.eval is was).any (· == false))) := by show _ = _; rw [all_false]; simp [Ex.eval]
      have HC := hide (hasOne_any l HIH.out false g cap h4 h3 _ _ is was w (fun k x hx => hr k _ (by rw [List.getElem?_map, hx]; rfl)) HI.out HW.out)
      clear hr
      generalize (l.map fun x => x.eval is was).any (· == false) = bv at *
      generalize l.length = n at *
      go_enter Tryz.func91, Tryz.ntmps91
      go_wp2_with fail
      refine HC.out.mono ?_
      rintro e w1 ⟨rfl, hb1⟩
      have HB1 := hide hb1
      clear hb1 HC
      go_wp2_with fail
      go_ret
      exact ⟨ret_bool HF.out.symm, HB1.out⟩
    | 7, h =>
      simp only [IsEx] at h
      obtain ⟨_, _, h3, g, cap, rfl, h4, _, hr⟩ := h
      have HF : Hid ((⟨7, nm, l⟩ : Ex).eval is was = (l.map fun x => x.eval is was).any (· == true)) := by show _ = _; rw [any_true]; simp [Ex.eval]
      have HC := hide (hasOne_any l HIH.out true g cap h4 h3 _ _ is was w (fun k x hx => hr k _ (by rw [List.getElem?_map, hx]; rfl)) HI.out HW.out)
      clear hr
      generalize (l.map fun x => x.eval is was).any (· == true) = bv at *
      generalize l.length = n at *
      go_enter Tryz.func91, Tryz.ntmps91
      go_wp2_with fail
      refine HC.out.mono ?_
      rintro e w1 ⟨rfl, hb1⟩
      have HB1 := hide hb1
      clear hb1 HC
      go_wp2_with fail
      go_ret
      exact ⟨ret_bool HF.out.symm, HB1.out⟩
    | n + 8, h => simp only [IsEx] at h
set_option maxHeartbeats 1000000 in
/-- Eval, at every expression: the plain function 'eval' -/
theorem Eval_any (ok : Nat → Prop) (x : Ex) (v fi fw : Value) (is was : List UInt8 → Bool) (w : World) (h : IsEx ok w x v) (hi : Tells fi is w) (hw : Tells fw was w) :
    Calls Tryz.prog 38 #[v, fi, fw] w fun e w' => e = .returned (.bool (x.eval is was)) ∧ Below w.heap.size w w' := by
  have hmf : ∀ (fn : Fn) (first cap : Array Value) (w : World), (Instr.makeFunc fn first cap).run Tryz.prog w = .ok (.func fn first cap) w := fun _ _ _ _ => rfl
  have hb : Below w.heap.size w (w.alloc (.cells #[.bool false] 4)) := (Below.refl _ w).alloc (Nat.le_refl _) _
  have HC := hide (eval_any x v fi fw is was _ (IsEx.stay (Stay.below hb) (fun g _ => trivial) x v h) (hi.below hb) (hw.below hb))
  obtain ⟨tu, yu, hiu⟩ := IsEx.iface x v h
  obtain ⟨Ki, ci, di, hfi, hei, hti⟩ := hi
  obtain ⟨Kw, cw, dw, hfw, hew, htw⟩ := hw
  subst hiu
  subst hfi
  subst hfw
  clear h hb hei hti hew htw
  generalize x.eval is was = bv at *
  go_enter_defers Tryz.func38, Tryz.ntmps38
  go_wp2_with fail
  refine (orNever_any Ki ci di _).mono ?_
  rintro e w0 ⟨rfl, rfl⟩
  go_wp2_with fail
  refine (orNever_any Kw cw dw _).mono ?_
  rintro e w0 ⟨rfl, rfl⟩
  go_wp2_with fail
  refine HC.out.mono ?_
  rintro e w1 ⟨rfl, hb⟩
  have hsz : w.heap.size < w1.heap.size := by have := hb.size; simp at this; omega
  have hc0 : w1.cell? ⟨w.heap.size, 0, none⟩ = some (.bool false) := by rw [hb.cell (by simp)]; simp
  have hf0 : w1.frozen? ⟨w.heap.size, 0, none⟩ = false := by rw [hb.frozen (by simp)]; simp [go_sem]
  have HB : Hid (Below w.heap.size w w1) := ((Below.refl _ w).alloc (Nat.le_refl _) _).trans (hb.mono (by simp))
  clear hb HC
  go_wp2_with fail
  refine leaves_cons (f := 90) (args := #[.pointer (some ⟨w.heap.size, 0, none⟩)]) (by simp) (by simp [go_sem]) ?_
  refine (Eval_idle ⟨w.heap.size, 0, none⟩ _).mono ?_
  rintro e u' w'' ⟨rfl, rfl, rfl⟩
  have hc2 : (w1.setCell ⟨w.heap.size, 0, none⟩ (.bool bv)).cell? ⟨w.heap.size, 0, none⟩ = some (.bool bv) := World.cell?_setCell_same w1 _ _ hc0
  have HX := HB.out.setCell (p := ⟨w.heap.size, 0, none⟩) (Nat.le_refl _) (.bool bv)
  simp [Leaves, settle, results, Tryz.results38, go_sem, hc2]
  exact HX
end E2
end
section
open Go.RowKit
theorem told_any (nv rv lv : Value) (w : World) (hn : ∃ a n c, nv = .slice a n c) (hr : ∃ a n c, rv = .slice a n c) (hl : ∃ a n c, lv = .slice a n c) :
    Calls Tryz.prog 200 #[.agg #[nv, rv], lv] w fun e w' => e = .returned (.func (.func 234) #[] #[.pointer (some ⟨w.heap.size, 0, none⟩), .pointer (some ⟨w.heap.size + 1, 0, none⟩)]) ∧ w' = (w.alloc (.cells #[nv, rv] 83)).alloc (.cells #[lv] 51) := by
  have hmf : ∀ (fn : Fn) (first cap : Array Value) (w : World), (Instr.makeFunc fn first cap).run Tryz.prog w = .ok (.func fn first cap) w := fun _ _ _ _ => rfl
  obtain ⟨a1, n1, c1, rfl⟩ := hn
  obtain ⟨a2, n2, c2, rfl⟩ := hr
  obtain ⟨a3, n3, c3, rfl⟩ := hl
  go_enter Tryz.func200, Tryz.ntmps200
  go_wp2_with fail
  go_ret
  exact ⟨rfl, rfl⟩
set_option maxHeartbeats 2000000 in
set_option maxRecDepth 100000 in
theorem told1_any (ns : List Ld.Nme) (nv rv : Value) (is : List Bool) (gi a b : Nat) (nm : List UInt8) (w : World) (hn : NamesAt w nv ns) (hr : ∃ a n c, rv = .slice a n c) (hlen : is.length = ns.length)
    (h0 : w.cell? ⟨a, 0, none⟩ = some nv) (h1 : w.cell? ⟨a, 1, none⟩ = some rv) (h2 : w.cell? ⟨b, 0, none⟩ = some (.slice (some ⟨gi, 0, none⟩) is.length is.length)) (hi : w.heap[gi]? = some (.cells ⟨is.map boolV⟩ 4 (0, 0))) :
    Calls Tryz.prog 234 #[.string ⟨nm.toArray⟩, .pointer (some ⟨a, 0, none⟩), .pointer (some ⟨b, 0, none⟩)] w fun e w' => e = .returned (.bool (Sc.told ns is nm)) ∧ Below w.heap.size w w' := by
  obtain ⟨ra, rn, rc, rfl⟩ := hr
  have HNU := hide (Number_any ns nv (.slice ra rn rc) nm w hn ⟨_, _, _, rfl⟩)
  obtain ⟨na, nc, rfl, hn1⟩ := hn.slice
  have hlo := Ld.number_lt ns nm
  have hge := Ld.number_ge ns nm
  have HT : Hid (Sc.told ns is nm = (decide (0 ≤ Ld.number ns nm) && is.getD (Ld.number ns nm).toNat false)) := rfl
  have ha : a < w.heap.size := World.block_lt_of_cell? _ _ h0
  have hb : b < w.heap.size := World.block_lt_of_cell? _ _ h2
  have hg : gi < w.heap.size := (Array.getElem?_eq_some_iff.1 hi).1
  have HI := hide hi
  have H2 := hide h2
  generalize Sc.told ns is nm = T at *
  generalize Ld.number ns nm = u at *
  rw [hlen] at H2 h2
  generalize ns.length = m at *
  clear hi hn
  go_enter Tryz.func234, Tryz.ntmps234
  go_wp2_with fail
  refine HNU.out.mono ?_
  rintro e w1 ⟨rfl, hb1⟩
  have HB1 := hide hb1
  have k2 := (hb1.cell (p := ⟨b, 0, none⟩) hb).trans H2.out
  by_cases hu : 0 ≤ u
  · obtain ⟨j, rfl⟩ : ∃ j : Nat, u = (j : Int) := ⟨u.toNat, by omega⟩
    have hj : j < m := by omega
    have k3 : w1.cell? ⟨gi, j, none⟩ = some (.bool (is.getD j false)) := by
      rw [hb1.cell (p := ⟨gi, j, none⟩) hg, Lib.cell_of_heap HI.out]
      simp [boolV, hlen, hj]
    simp only [Int.toNat_natCast] at HT
    generalize is.getD j false = bv at *
    clear hb1 HNU
    go_wp2_with fail
    go_ret
    exact ⟨ret_bool (by rw [HT.out]; simp), HB1.out⟩
  · clear hb1 HNU
    have HD : Hid (decide (0 ≤ u) = false) := by show _ = _; simpa using hu
    go_wp2_with fail
    go_ret
    exact ⟨ret_bool (by rw [HT.out, HD.out]; rfl), HB1.out⟩
/-- the closure that told makes, asked later -/
theorem tells_told (ns : List Ld.Nme) (nv rv : Value) (is : List Bool) (gi a b : Nat) (w : World) (hn : NamesAt w nv ns) (hr : ∃ a n c, rv = .slice a n c) (hlen : is.length = ns.length)
    (h0 : w.cell? ⟨a, 0, none⟩ = some nv) (h1 : w.cell? ⟨a, 1, none⟩ = some rv) (h2 : w.cell? ⟨b, 0, none⟩ = some (.slice (some ⟨gi, 0, none⟩) is.length is.length)) (hi : w.heap[gi]? = some (.cells ⟨is.map boolV⟩ 4 (0, 0))) :
    E2.Tells (.func (.func 234) #[] #[.pointer (some ⟨a, 0, none⟩), .pointer (some ⟨b, 0, none⟩)]) (Sc.told ns is) w :=
  ⟨234, _, _, rfl, fun _ _ => by kernel_rfl, fun W hW nm => told1_any ns nv rv is gi a b nm W (hn.below hW) hr hlen ((hW.cell (p := ⟨a, 0, none⟩) (World.block_lt_of_cell? _ _ h0)).trans h0) ((hW.cell (p := ⟨a, 1, none⟩) (World.block_lt_of_cell? _ _ h1)).trans h1) ((hW.cell (p := ⟨b, 0, none⟩) (World.block_lt_of_cell? _ _ h2)).trans h2) ((hW.block _ (Array.getElem?_eq_some_iff.1 hi).1).trans hi)⟩
end
section
open Go.RowKit
/-- a slice of bools -/
def Bools (w : World) (v : Value) (l : List Bool) : Prop := ∃ a cap, v = .slice a l.length cap ∧ l.length ≤ 1000000 ∧ ∀ (i : Nat) b, l[i]? = some b → ∃ g, a = some ⟨g, 0, none⟩ ∧ w.cell? ⟨g, i, none⟩ = some (.bool b)
theorem Bools.below {w w' : World} {v : Value} {l : List Bool} (h : Bools w v l) (hb : Below w.heap.size w w') : Bools w' v l := by
  obtain ⟨a, cap, h1, h2, h3⟩ := h
  refine ⟨a, cap, h1, h2, fun i b hi => ?_⟩
  obtain ⟨g, h4, h5⟩ := h3 i b hi
  exact ⟨g, h4, (hb.cell (World.block_lt_of_cell? _ _ h5)).trans h5⟩
namespace Sc
/-- inputs are read, the first k of them -/
def readsTo (l : List Nat) (inp is : List Bool) (k : Nat) : List Bool := ((l.zip inp).take k).foldl (fun acc p => acc.set p.1 p.2) is
theorem readsTo_zero (l : List Nat) (inp is : List Bool) : readsTo l inp is 0 = is := rfl
theorem readsTo_all (l : List Nat) (inp is : List Bool) (h : inp.length = l.length) : readsTo l inp is l.length = reads l inp is := by
  unfold readsTo reads
  rw [List.take_of_length_le (by simp [h])]
theorem readsTo_succ (l : List Nat) (inp is : List Bool) (h : inp.length = l.length) (k : Nat) (hk : k < l.length) : readsTo l inp is (k + 1) = (readsTo l inp is k).set l[k] (inp[k]'(by omega)) := by
  unfold readsTo
  rw [List.take_succ_eq_append_getElem (by simp; omega), List.foldl_append]
  simp
theorem readsTo_len (l : List Nat) (inp is : List Bool) : ∀ k, (readsTo l inp is k).length = is.length := by
  have key : ∀ (ps : List (Nat × Bool)) (is : List Bool), (ps.foldl (fun acc p => acc.set p.1 p.2) is).length = is.length := by
    intro ps
    induction ps with
    | nil => intro is; rfl
    | cons a r ih => intro is; rw [List.foldl_cons, ih]; simp
  intro k
  exact key _ _
end Sc
theorem Ld.placesTo_lt (p : Ld.Nme → Bool) (ns : List Ld.Nme) (k i : Nat) (h : i ∈ Ld.placesTo p ns k) : i < k := by
  unfold Ld.placesTo at h
  exact List.mem_range.1 (List.mem_filter.1 h).1
/-- a whole row is copied into another of its length -/
theorem copy_whole (w : World) (dT ty elem : TypeId) (hu : Tryz.prog.underlying dT = some (.slice elem)) (hsz : (Tryz.prog.info? elem).map (·.size) = some 1)
    (g g' n : Nat) (cur cs : List Value) (t t' : TypeId) (hg : w.heap[g]? = some (.cells ⟨cur⟩ t (0, 0))) (hg' : w.heap[g']? = some (.cells ⟨cs⟩ t' (0, 0))) (hc : cur.length = n) (hc' : cs.length = n) (h1 : ∀ v ∈ cs, v.oneCell' = true) :
    ∃ w', (Builtin.copy_ #[dT, dT] ty #[.slice (some ⟨g, 0, none⟩) n n, .slice (some ⟨g', 0, none⟩) n n]).run Tryz.prog w = .ok (goInt n) w' ∧ w'.heap[g]? = some (.cells ⟨cs⟩ t (0, 0)) ∧ (∀ k, k ≠ g → w'.heap[k]? = w.heap[k]?) ∧ w'.heap.size = w.heap.size ∧ w'.os = w.os ∧ w'.tape = w.tape ∧ w'.output = w.output := by
  subst hc'
  by_cases h0 : cs.length = 0
  · obtain rfl : cs = [] := List.eq_nil_of_length_eq_zero h0
    obtain rfl : cur = [] := List.eq_nil_of_length_eq_zero (by simpa using hc)
    exact ⟨w, run_copy_none (P := Tryz.prog) w dT dT ty elem _ _ _ _ _ _ hu hsz (by simp), hg, fun _ _ => rfl, rfl, rfl, rfl, rfl⟩
  · have hr := run_copy_row (P := Tryz.prog) w dT dT ty elem g 0 cs.length cs.length ⟨g', 0, none⟩ cs.length cs.length ⟨cur⟩ t cs hu hsz hg (by simp) (fun j v hj => by
        have e : (⟨g', 0, none⟩ : Addr).add j = ⟨g', j, none⟩ := by
          unfold Addr.add
          split
          · rename_i h; subst h; rfl
          · simp
        rw [e, Lib.cell_of_heap hg' j]
        simpa using hj) (by simp [hc]) h1
    have e : (List.take 0 cur ++ cs ++ List.drop (0 + cs.length) cur).toArray = ⟨cs⟩ := by simp [← hc]
    rw [show (⟨cur⟩ : Array Value).toList = cur from rfl, e] at hr
    exact ⟨_, hr, setRow_heap w g _ _ t _ hg, fun k hk => setRow_other w g k _ hk, by simp [World.setRow], rfl, rfl, rfl⟩
end
end Go.Proofs.YtgldbliohpfljaaGreatDoor
