/-
  States in memory, as package scan lays them: a row of bools, a row of ints; the walks of what a rung does to one. The walks of package scan's Start and told.
-/
import Derived.Test.YtflonjbbolmelaaGreatDoorNmWalkAll
import Derived.Test.YtflonjbbolmelaaGreatDoorLdKindAll
namespace Go.Proofs.YtflonjbbolmelaaGreatDoor
section
open Go.RowKit
theorem Sc.set_getD (l : List Int) (n : Nat) : l.set n (l.getD n 0) = l := by
  apply List.ext_getElem?
  intro i
  rw [List.getElem?_set]
  split
  · rename_i e; subst e; split
    · rename_i h; simp [h]
    · rename_i h; simp [h]
  · rfl
def boolV (b : Bool) : Value := .bool b
def iV (k : Int) : Value := .int .i64 k
/-- a state's two rows -/
structure StAt (W : World) (gi gc : Nat) (s : Sc.St) : Prop where
  bi : W.heap[gi]? = some (.cells ⟨s.is.map boolV⟩ 4 (0, 0))
  bc : W.heap[gc]? = some (.cells ⟨s.ct.map iV⟩ 3 (0, 0))
def stV (gi gc n : Nat) : Value := .agg #[.slice (some ⟨gi, 0, none⟩) n n, .slice (some ⟨gc, 0, none⟩) n n]
/-- all that is old stands, but for two rows -/
structure Two (gi gc : Nat) (w w' : World) : Prop where
  os : w'.os = w.os
  tape : w'.tape = w.tape
  output : w'.output = w.output
  size : w.heap.size ≤ w'.heap.size
  block : ∀ k, k < w.heap.size → k ≠ gi → k ≠ gc → w'.heap[k]? = w.heap[k]?
theorem Two.refl (gi gc : Nat) (w : World) : Two gi gc w w := ⟨rfl, rfl, rfl, Nat.le_refl _, fun _ _ _ _ => rfl⟩
theorem Two.trans {gi gc : Nat} {A B C : World} (h : Two gi gc A B) (k : Two gi gc B C) : Two gi gc A C :=
  ⟨k.os.trans h.os, k.tape.trans h.tape, k.output.trans h.output, Nat.le_trans h.size k.size, fun i h1 h2 h3 => (k.block i (Nat.lt_of_lt_of_le h1 h.size) h2 h3).trans (h.block i h1 h2 h3)⟩
theorem Two.below {gi gc : Nat} {w w' : World} (h : Below w.heap.size w w') : Two gi gc w w' := ⟨h.os, h.tape, h.output, h.size, fun k hk _ _ => h.block k hk⟩
theorem Two.setI {gi gc : Nat} (w : World) (i : Nat) (v : Value) : Two gi gc w (w.setCell ⟨gi, i, none⟩ v) := ⟨rfl, rfl, rfl, by simp [World.setCell], fun k _ h _ => Below.heap_setCell _ _ _ _ (fun e => h e)⟩
theorem Two.setC {gi gc : Nat} (w : World) (i : Nat) (v : Value) : Two gi gc w (w.setCell ⟨gc, i, none⟩ v) := ⟨rfl, rfl, rfl, by simp [World.setCell], fun k _ _ h => Below.heap_setCell _ _ _ _ (fun e => h e)⟩
theorem StAt.lt {W : World} {gi gc : Nat} {s : Sc.St} (h : StAt W gi gc s) : gi < W.heap.size ∧ gc < W.heap.size := ⟨(Array.getElem?_eq_some_iff.1 h.bi).1, (Array.getElem?_eq_some_iff.1 h.bc).1⟩
theorem StAt.ne {W : World} {gi gc : Nat} {s : Sc.St} (h : StAt W gi gc s) : gi ≠ gc := by
  intro e
  have h1 := h.bi
  rw [e, h.bc] at h1
  simp only [Option.some.injEq, Obj.cells.injEq] at h1
  exact absurd h1.2.1 (by decide)
theorem StAt.below {W W' : World} {gi gc : Nat} {s : Sc.St} (h : StAt W gi gc s) (hb : Below W.heap.size W W') : StAt W' gi gc s := ⟨(hb.block _ h.lt.1).trans h.bi, (hb.block _ h.lt.2).trans h.bc⟩
theorem StAt.cellI {W : World} {gi gc : Nat} {s : Sc.St} (h : StAt W gi gc s) (n : Nat) (hn : n < s.is.length) : W.cell? ⟨gi, n, none⟩ = some (.bool (s.is.getD n false)) := by
  rw [Lib.cell_of_heap h.bi]; simp [boolV, hn]
theorem StAt.cellC {W : World} {gi gc : Nat} {s : Sc.St} (h : StAt W gi gc s) (n : Nat) (hn : n < s.ct.length) : W.cell? ⟨gc, n, none⟩ = some (.int .i64 (s.ct.getD n 0)) := by
  rw [Lib.cell_of_heap h.bc]; simp [iV, hn]
theorem StAt.frI {W : World} {gi gc : Nat} {s : Sc.St} (h : StAt W gi gc s) (n : Nat) : W.frozen? ⟨gi, n, none⟩ = false := Lib.frozen_of_heap h.bi n
theorem StAt.frC {W : World} {gi gc : Nat} {s : Sc.St} (h : StAt W gi gc s) (n : Nat) : W.frozen? ⟨gc, n, none⟩ = false := Lib.frozen_of_heap h.bc n
theorem StAt.setI {W : World} {gi gc : Nat} {s : Sc.St} (h : StAt W gi gc s) (n : Nat) (b : Bool) : StAt (W.setCell ⟨gi, n, none⟩ (.bool b)) gi gc ⟨s.is.set n b, s.ct⟩ := by
  refine ⟨?_, (Below.heap_setCell _ _ _ _ (fun e => h.ne e.symm)).trans h.bc⟩
  simp [World.setCell, Array.getElem?_modify, h.bi, boolV]
theorem StAt.setC {W : World} {gi gc : Nat} {s : Sc.St} (h : StAt W gi gc s) (n : Nat) (b : Int) : StAt (W.setCell ⟨gc, n, none⟩ (.int .i64 b)) gi gc ⟨s.is, s.ct.set n b⟩ := by
  refine ⟨(Below.heap_setCell _ _ _ _ (fun e => h.ne e)).trans h.bi, ?_⟩
  simp [World.setCell, Array.getElem?_modify, h.bc, iV]
theorem further_any (a m : Int) (w : World) (ha : -1000 ≤ a ∧ a ≤ 1000) : Calls Tryz.prog 79 #[.int .i64 a, .int .i64 m] w fun e w' => e = .returned (.int .i64 (Sc.further a m)) ∧ w' = w := by
  by_cases h : a < m
  all_goals
    go_enter Tryz.func79, Tryz.ntmps79
    go_wp2
    go_ret
    exact ⟨by simp [Sc.further, h]; try omega, rfl⟩
/-- what a function that returns nothing does to a state -/
def Does (gi gc : Nat) (s : Sc.St) (w : World) (e : Ending) (w' : World) : Prop := e = .returned (.tuple #[]) ∧ StAt w' gi gc s ∧ Two gi gc w w'
theorem Does.mk {gi gc : Nat} {s : Sc.St} {w w' w'' : World} (h : StAt w' gi gc s) (ht : Two gi gc w w') (hb : Below w'.heap.size w' w'') : Does gi gc s w (.returned (.tuple #[])) w'' := ⟨rfl, h.below hb, ht.trans (Two.below hb)⟩
theorem Does.drew {gi gc : Nat} {s : Sc.St} {w w' : World} {e : Ending} (h : Does gi gc s w e w') : Does gi gc s w e w'.drew := ⟨h.1, ⟨h.2.1.bi, h.2.1.bc⟩, ⟨h.2.2.os, h.2.2.tape, h.2.2.output, h.2.2.size, h.2.2.block⟩⟩
theorem below_alloc_drew (w : World) (o : Obj) : Below w.heap.size w (w.alloc o).drew := ⟨rfl, rfl, rfl, by simp, fun k hk => Below.heap_alloc _ _ _ hk⟩
set_option maxHeartbeats 4000000 in
set_option maxRecDepth 100000 in
theorem zero_any (gi gc m n : Nat) (says : Bool) (s : Sc.St) (w : World) (h : StAt w gi gc s) (hi : s.is.length = m) (hc : s.ct.length = m) (hn : n < m) :
    Calls Tryz.prog 64 #[stV gi gc m, .int .i64 (n : Int), .bool says] w (Does gi gc (Sc.zero n says s) w) := by
  have HA := hide h
  have ⟨hl1, hl2⟩ := h.lt
  have hne := h.ne
  have f1 := h.frI n
  have f2 := h.frC n
  have c1 := h.cellI n (by omega)
  have c2 := h.cellC n (by omega)
  clear h
  unfold stV
  generalize s.is.getD n false = b0 at *
  generalize s.ct.getD n 0 = k0 at *
  cases says with
  | false =>
    go_enter Tryz.func64, Tryz.ntmps64
    go_wp2_with fail
    go_end0
    exact Does.mk HA.out (Two.refl _ _ _) ((Below.refl _ _).alloc (Nat.le_refl _) _)
  | true =>
    go_enter Tryz.func64, Tryz.ntmps64
    go_wp2_with fail
    go_region
    go_end0
    exact Does.mk ((HA.out.setC n 0).setI n false) ((Two.setC _ _ _).trans (Two.setI _ _ _)) (below_alloc_drew _ _)
set_option maxHeartbeats 4000000 in
set_option maxRecDepth 100000 in
theorem run_any (gi gc m n : Nat) (most : Int) (says : Bool) (s : Sc.St) (w : World) (h : StAt w gi gc s) (hi : s.is.length = m) (hc : s.ct.length = m) (hn : n < m) (hk : -1000 ≤ s.ct.getD n 0 ∧ s.ct.getD n 0 ≤ 1000) :
    Calls Tryz.prog 62 #[stV gi gc m, .int .i64 (n : Int), .int .i64 most, .bool says] w (Does gi gc (Sc.run n most says s) w) := by
  have HA := hide h
  have ⟨hl1, hl2⟩ := h.lt
  have hne := h.ne
  have f1 := h.frI n
  have f2 := h.frC n
  have c1 := h.cellI n (by omega)
  have c2 := h.cellC n (by omega)
  clear h
  unfold stV
  have HB0 : Hid (∃ b, b = s.is.getD n false) := ⟨_, rfl⟩
  have HK0 : Hid (∃ k, k = s.ct.getD n 0) := ⟨_, rfl⟩
  obtain ⟨b0, hb0⟩ := HB0.out
  obtain ⟨k0, hk0⟩ := HK0.out
  rw [← hb0] at c1
  rw [← hk0] at c2 hk
  have HKE := hide hk0
  have HKK := hide hk
  clear hb0 hk0 HB0 HK0 hk
  cases says with
  | false =>
    go_enter Tryz.func62, Tryz.ntmps62
    go_wp2_with fail
    go_region
    go_end0
    exact Does.mk ((HA.out.setC n 0).setI n (0 == most)) ((Two.setC _ _ _).trans (Two.setI _ _ _)) (below_alloc_drew _ _)
  | true =>
    go_enter Tryz.func62, Tryz.ntmps62
    go_wp2_with fail
    go_region_with (go_at_call 79; refine (further_any _ _ _ HKK.out).mono ?_; rintro e w' ⟨rfl, rfl⟩)
    all_goals go_wp2_with fail
    all_goals go_region
    all_goals go_end0
    all_goals
      have hd := Does.mk ((HA.out.setC n (Sc.further k0 most)).setI n (Sc.further k0 most == most)) ((Two.setC _ _ _).trans (Two.setI _ _ _)) (below_alloc_drew _ (Obj.cells #[.slice (some ⟨gi, 0, none⟩) m m, .slice (some ⟨gc, 0, none⟩) m m] 45))
      rw [HKE.out] at hd ⊢
      exact Does.drew hd
set_option maxHeartbeats 4000000 in
set_option maxRecDepth 100000 in
theorem count_any (gi gc m n : Nat) (most : Int) (says : Bool) (s : Sc.St) (w : World) (h : StAt w gi gc s) (hi : s.is.length = m) (hc : s.ct.length = m) (hn : n < m) (hk : -1000 ≤ s.ct.getD n 0 ∧ s.ct.getD n 0 ≤ 1000) :
    Calls Tryz.prog 63 #[stV gi gc m, .int .i64 (n : Int), .int .i64 most, .bool says] w (Does gi gc (Sc.count n most says s) w) := by
  have HA := hide h
  have ⟨hl1, hl2⟩ := h.lt
  have hne := h.ne
  have f1 := h.frI n
  have f2 := h.frC n
  have c1 := h.cellI n (by omega)
  have c2 := h.cellC n (by omega)
  clear h
  unfold stV
  have HB0 : Hid (∃ b, b = s.is.getD n false) := ⟨_, rfl⟩
  have HK0 : Hid (∃ k, k = s.ct.getD n 0) := ⟨_, rfl⟩
  obtain ⟨b0, hb0⟩ := HB0.out
  obtain ⟨k0, hk0⟩ := HK0.out
  rw [← hb0] at c1
  rw [← hk0] at c2 hk
  have HKE := hide hk0
  have HKK := hide hk
  clear hb0 hk0 HB0 HK0 hk
  cases says with
  | false =>
    go_enter Tryz.func63, Tryz.ntmps63
    go_wp2_with fail
    go_region
    go_end0
    have hd := Does.mk ((HA.out).setI n (k0 == most)) (Two.setI _ _ _) (below_alloc_drew _ (Obj.cells #[.slice (some ⟨gi, 0, none⟩) m m, .slice (some ⟨gc, 0, none⟩) m m] 45))
    rw [HKE.out] at hd ⊢
    unfold Sc.count
    rw [if_neg (by decide)]
    simp only
    rw [Sc.set_getD]
    exact hd
  | true =>
    go_enter Tryz.func63, Tryz.ntmps63
    go_wp2_with fail
    go_region_with (go_at_call 79; refine (further_any _ _ _ HKK.out).mono ?_; rintro e w' ⟨rfl, rfl⟩)
    all_goals go_wp2_with fail
    all_goals go_region
    all_goals go_end0
    all_goals
      have hd := Does.mk ((HA.out.setC n (Sc.further k0 most)).setI n (Sc.further k0 most == most)) ((Two.setC _ _ _).trans (Two.setI _ _ _)) (below_alloc_drew _ (Obj.cells #[.slice (some ⟨gi, 0, none⟩) m m, .slice (some ⟨gc, 0, none⟩) m m] 45))
      rw [HKE.out] at hd ⊢
      exact Does.drew hd
set_option maxHeartbeats 8000000 in
set_option maxRecDepth 100000 in
theorem rung_any (gi gc m n : Nat) (k most : Int) (says : Bool) (s : Sc.St) (w : World) (h : StAt w gi gc s) (hi : s.is.length = m) (hc : s.ct.length = m) (hn : n < m) (hk : -1000 ≤ s.ct.getD n 0 ∧ s.ct.getD n 0 ≤ 1000) (hkk : 1 ≤ k ∧ k ≤ 6) :
    Calls Tryz.prog 46 #[stV gi gc m, .int .i64 k, .int .i64 (n : Int), .int .i64 most, .bool says] w (Does gi gc (Sc.rung k n most says s) w) := by
  have HA := hide h
  have ⟨hl1, hl2⟩ := h.lt
  have hne := h.ne
  have f1 := h.frI n
  have f2 := h.frC n
  have c1 := h.cellI n (by omega)
  have hb0 : Below w.heap.size w (w.alloc (.cells #[.slice (some ⟨gi, 0, none⟩) m m, .slice (some ⟨gc, 0, none⟩) m m] 45)) := (Below.refl _ _).alloc (Nat.le_refl _) _
  have HW := hide hb0
  have HR := hide (run_any gi gc m n most says s _ (h.below hb0) hi hc hn hk)
  have HC := hide (count_any gi gc m n most says s _ (h.below hb0) hi hc hn hk)
  have HZ := hide (zero_any gi gc m n says s _ (h.below hb0) hi hc hn)
  unfold stV at *
  have HB0 : Hid (∃ b, b = s.is.getD n false) := ⟨_, rfl⟩
  obtain ⟨b0, hb1⟩ := HB0.out
  rw [← hb1] at c1
  have HBE := hide hb1
  clear hb1 HB0 hk h hb0
  rcases (show k = 1 ∨ k = 2 ∨ k = 3 ∨ k = 4 ∨ k = 5 ∨ k = 6 by omega) with rfl | rfl | rfl | rfl | rfl | rfl
  · go_enter Tryz.func46, Tryz.ntmps46
    go_wp2_with fail
    go_end0
    exact Does.mk (HA.out.setI n says) (Two.setI _ _ _) ((Below.refl _ _).alloc (Nat.le_refl _) _)
  · cases b0 <;> cases says
    all_goals
      go_enter Tryz.func46, Tryz.ntmps46
      go_wp2_with fail
      go_region
      go_end0
      have hd := fun b => Does.mk (HA.out.setI n b) (Two.setI _ _ _) (below_alloc_drew _ (Obj.cells #[.slice (some ⟨gi, 0, none⟩) m m, .slice (some ⟨gc, 0, none⟩) m m] 45))
      simp only [Sc.rung, ← HBE.out]
      exact hd _
  · cases b0 <;> cases says
    all_goals
      go_enter Tryz.func46, Tryz.ntmps46
      go_wp2_with fail
      go_region
      go_end0
      have hd := fun b => Does.mk (HA.out.setI n b) (Two.setI _ _ _) (below_alloc_drew _ (Obj.cells #[.slice (some ⟨gi, 0, none⟩) m m, .slice (some ⟨gc, 0, none⟩) m m] 45))
      simp only [Sc.rung, ← HBE.out]
      exact hd _
  · go_enter Tryz.func46, Tryz.ntmps46
    go_wp2_with fail
    refine HR.out.mono ?_
    rintro e w1 ⟨rfl, h1, h2⟩
    have H1 := hide h1
    have H2 := hide h2
    clear h1 h2
    go_wp2_with fail
    go_end0
    exact ⟨rfl, H1.out, (Two.below HW.out).trans H2.out⟩
  · go_enter Tryz.func46, Tryz.ntmps46
    go_wp2_with fail
    refine HC.out.mono ?_
    rintro e w1 ⟨rfl, h1, h2⟩
    have H1 := hide h1
    have H2 := hide h2
    clear h1 h2
    go_wp2_with fail
    go_end0
    exact ⟨rfl, H1.out, (Two.below HW.out).trans H2.out⟩
  · go_enter Tryz.func46, Tryz.ntmps46
    go_wp2_with fail
    refine HZ.out.mono ?_
    rintro e w1 ⟨rfl, h1, h2⟩
    have H1 := hide h1
    have H2 := hide h2
    clear h1 h2
    go_wp2_with fail
    go_end0
    exact ⟨rfl, H1.out, (Two.below HW.out).trans H2.out⟩
end
section
open Go.RowKit
/-- a new state -/
def NewSt (w : World) (s : Sc.St) (e : Ending) (w' : World) : Prop := ∃ gi gc, e = .returned (stV gi gc s.is.length) ∧ StAt w' gi gc s ∧ w.heap.size ≤ gi ∧ w.heap.size ≤ gc ∧ Below w.heap.size w w'
theorem upto12 {P : Nat → Prop} (h0 : P 0) (h1 : P 1) (h2 : P 2) (h3 : P 3) (h4 : P 4) (h5 : P 5) (h6 : P 6) (h7 : P 7) (h8 : P 8) (h9 : P 9) (h10 : P 10) (h11 : P 11) (h12 : P 12) (n : Nat) (hn : n ≤ 12) : P n := by
  rcases (show n = 0 ∨ n = 1 ∨ n = 2 ∨ n = 3 ∨ n = 4 ∨ n = 5 ∨ n = 6 ∨ n = 7 ∨ n = 8 ∨ n = 9 ∨ n = 10 ∨ n = 11 ∨ n = 12 by omega) with rfl | rfl | rfl | rfl | rfl | rfl | rfl | rfl | rfl | rfl | rfl | rfl | rfl <;> assumption
theorem makeB (w : World) : ∀ n : Nat, n ≤ 12 → (Instr.makeSlice 39 (.int .i64 (n : Int)) (.int .i64 (n : Int))).run Tryz.prog w = .ok (.slice (some ⟨w.heap.size, 0, none⟩) n n) (w.alloc (.cells ⟨(List.replicate n false).map boolV⟩ 4)) := by
  apply upto12 <;> kernel_rfl
theorem makeI (w : World) : ∀ n : Nat, n ≤ 12 → (Instr.makeSlice 25 (.int .i64 (n : Int)) (.int .i64 (n : Int))).run Tryz.prog w = .ok (.slice (some ⟨w.heap.size, 0, none⟩) n n) (w.alloc (.cells ⟨(List.replicate n 0).map iV⟩ 3)) := by
  apply upto12 <;> kernel_rfl
theorem four (w : World) (o1 o2 o3 o4 : Obj) : ((((w.alloc o1).alloc o2).alloc o3).alloc o4).drew.heap[w.heap.size + 1 + 1]? = some o3 ∧ ((((w.alloc o1).alloc o2).alloc o3).alloc o4).drew.heap[w.heap.size + 1 + 1 + 1]? = some o4 ∧ Below w.heap.size w ((((w.alloc o1).alloc o2).alloc o3).alloc o4).drew := by
  have s1 : (w.alloc o1).heap.size = w.heap.size + 1 := by simp
  have s2 : ((w.alloc o1).alloc o2).heap.size = w.heap.size + 1 + 1 := by simp
  have s3 : (((w.alloc o1).alloc o2).alloc o3).heap.size = w.heap.size + 1 + 1 + 1 := by simp
  have e3 := heap_alloc_new ((w.alloc o1).alloc o2) o3
  have e4 := heap_alloc_new (((w.alloc o1).alloc o2).alloc o3) o4
  rw [s2] at e3
  rw [s3] at e4
  refine ⟨?_, e4, ?_⟩
  · exact (Below.heap_alloc (((w.alloc o1).alloc o2).alloc o3) o4 _ (by omega)).trans e3
  · have hb := ((((Below.refl w.heap.size w).alloc (Nat.le_refl _) o1).alloc (by omega) o2).alloc (by omega) o3).alloc (by omega) o4
    exact ⟨hb.os, hb.tape, hb.output, hb.size, hb.block⟩
set_option maxHeartbeats 4000000 in
set_option maxRecDepth 100000 in
theorem Start_any (p : Ld.Prg) (v : Value) (w : World) (h : IsPrg w p v) (hn : p.names.length ≤ 12) :
    Calls Tryz.prog 21 #[v] w (NewSt w (Sc.start p)) := by
  obtain ⟨nv, rv, rfl, hna, hra⟩ := h
  obtain ⟨na, nc, rfl, hn1⟩ := hna.slice
  obtain ⟨ra, rc, rfl, hr1⟩ := hra.slice
  clear hna hra
  have HS : Hid (Sc.start p = ⟨List.replicate p.names.length false, List.replicate p.names.length 0⟩) := rfl
  have HL : Hid ((Sc.start p).is.length = p.names.length) := by show _ = _; simp [Sc.start]
  generalize p.names.length = n at *
  have m1 := fun w => makeB w n hn
  have m2 := fun w => makeI w n hn
  have HB : Hid (∃ cb, cb = (List.replicate n false).map boolV) := ⟨_, rfl⟩
  have HI : Hid (∃ ci, ci = (List.replicate n 0).map iV) := ⟨_, rfl⟩
  obtain ⟨cb, hcb⟩ := HB.out
  obtain ⟨ci, hci⟩ := HI.out
  rw [← hcb] at m1
  rw [← hci] at m2
  have HCB := hide hcb
  have HCI := hide hci
  clear hcb hci HB HI
  go_enter Tryz.func21, Tryz.ntmps21
  go_wp2_with fail
  go_region
  all_goals go_wp2_with fail
  · refine bodyPost_ret_by (v := stV (w.heap.size + 1 + 1) (w.heap.size + 1 + 1 + 1) n) ?_ rfl ?_
    · simp [results, Tryz.results21, go_sem, stV]
    · obtain ⟨q1, q2, q3⟩ := four w (.cells #[.slice na n nc, .slice ra p.rungs.length rc] 29) (.cells #[.slice (some ⟨w.heap.size + 1 + 1, 0, none⟩) n n, .slice (some ⟨w.heap.size + 1 + 1 + 1, 0, none⟩) n n] 45) (.cells ⟨cb⟩ 4) (.cells ⟨ci⟩ 3)
      refine ⟨_, _, by rw [HL.out], ⟨?_, ?_⟩, by omega, by omega, q3⟩
      · rw [HS.out]; exact q1.trans (by rw [HCB.out])
      · rw [HS.out]; exact q2.trans (by rw [HCI.out])
  · refine bodyPost_ret_by (v := stV (w.heap.size + 1 + 1 + 1) (w.heap.size + 1 + 1) n) ?_ rfl ?_
    · simp [results, Tryz.results21, go_sem, stV]
    · obtain ⟨q1, q2, q3⟩ := four w (.cells #[.slice na n nc, .slice ra p.rungs.length rc] 29) (.cells #[.slice (some ⟨w.heap.size + 1 + 1 + 1, 0, none⟩) n n, .slice (some ⟨w.heap.size + 1 + 1, 0, none⟩) n n] 45) (.cells ⟨ci⟩ 3) (.cells ⟨cb⟩ 4)
      refine ⟨_, _, by rw [HL.out], ⟨?_, ?_⟩, by omega, by omega, q3⟩
      · rw [HS.out]; exact q2.trans (by rw [HCB.out])
      · rw [HS.out]; exact q1.trans (by rw [HCI.out])
end
end Go.Proofs.YtflonjbbolmelaaGreatDoor
