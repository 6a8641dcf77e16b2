/-
  States in memory, as package scan lays them: a row of bools, a row of ints; the walks of what a rung does to one. The walks of package slice's eachNamed and of the closure that adds a name, and all on which it hangs: marks in a row.
-/
import Derived.Test.YtgoabhclnicepaaGreatDoorRfMathAll
import Derived.Test.YtgoabhclnicepaaGreatDoorLdKindAll
import Derived.Test.YtgoabhclnicepaaGreatDoorSlGrowAll
import Derived.Test.YtgoabhclnicepaaGreatDoorLdCheckAll
import Derived.Test.YtgoabhclnicepaaGreatDoorNaEachAll
namespace Go.Proofs.YtgoabhclnicepaaGreatDoor
section
open Go.RowKit
theorem Sc.set_getD (l : List Int) (n : Nat) : l.set n (l.getD n 0) = l := by
  apply List.ext_getElem?
  intro i
  rw [List.getElem?_set]
  split
  · rename_i e; subst e; split
    · rename_i h; simp [h]
    · rename_i h; simp [h]
  · rfl
def boolV (b : Bool) : Value := .bool b
def iV (k : Int) : Value := .int .i64 k
/-- a state's two rows -/
structure StAt (W : World) (gi gc : Nat) (s : Sc.St) : Prop where
  bi : W.heap[gi]? = some (.cells ⟨s.is.map boolV⟩ 4 (0, 0))
  bc : W.heap[gc]? = some (.cells ⟨s.ct.map iV⟩ 3 (0, 0))
def stV (gi gc n : Nat) : Value := .agg #[.slice (some ⟨gi, 0, none⟩) n n, .slice (some ⟨gc, 0, none⟩) n n]
/-- all that is old stands, but for two rows -/
structure Two (gi gc : Nat) (w w' : World) : Prop where
  os : w'.os = w.os
  tape : w'.tape = w.tape
  output : w'.output = w.output
  size : w.heap.size ≤ w'.heap.size
  block : ∀ k, k < w.heap.size → k ≠ gi → k ≠ gc → w'.heap[k]? = w.heap[k]?
theorem Two.refl (gi gc : Nat) (w : World) : Two gi gc w w := ⟨rfl, rfl, rfl, Nat.le_refl _, fun _ _ _ _ => rfl⟩
theorem Two.trans {gi gc : Nat} {A B C : World} (h : Two gi gc A B) (k : Two gi gc B C) : Two gi gc A C :=
  ⟨k.os.trans h.os, k.tape.trans h.tape, k.output.trans h.output, Nat.le_trans h.size k.size, fun i h1 h2 h3 => (k.block i (Nat.lt_of_lt_of_le h1 h.size) h2 h3).trans (h.block i h1 h2 h3)⟩
theorem Two.below {gi gc : Nat} {w w' : World} (h : Below w.heap.size w w') : Two gi gc w w' := ⟨h.os, h.tape, h.output, h.size, fun k hk _ _ => h.block k hk⟩
theorem Two.setI {gi gc : Nat} (w : World) (i : Nat) (v : Value) : Two gi gc w (w.setCell ⟨gi, i, none⟩ v) := ⟨rfl, rfl, rfl, by simp [World.setCell], fun k _ h _ => Below.heap_setCell _ _ _ _ (fun e => h e)⟩
theorem Two.setC {gi gc : Nat} (w : World) (i : Nat) (v : Value) : Two gi gc w (w.setCell ⟨gc, i, none⟩ v) := ⟨rfl, rfl, rfl, by simp [World.setCell], fun k _ _ h => Below.heap_setCell _ _ _ _ (fun e => h e)⟩
theorem StAt.lt {W : World} {gi gc : Nat} {s : Sc.St} (h : StAt W gi gc s) : gi < W.heap.size ∧ gc < W.heap.size := ⟨(Array.getElem?_eq_some_iff.1 h.bi).1, (Array.getElem?_eq_some_iff.1 h.bc).1⟩
theorem StAt.ne {W : World} {gi gc : Nat} {s : Sc.St} (h : StAt W gi gc s) : gi ≠ gc := by
  intro e
  have h1 := h.bi
  rw [e, h.bc] at h1
  simp only [Option.some.injEq, Obj.cells.injEq] at h1
  exact absurd h1.2.1 (by decide)
theorem StAt.below {W W' : World} {gi gc : Nat} {s : Sc.St} (h : StAt W gi gc s) (hb : Below W.heap.size W W') : StAt W' gi gc s := ⟨(hb.block _ h.lt.1).trans h.bi, (hb.block _ h.lt.2).trans h.bc⟩
theorem StAt.cellI {W : World} {gi gc : Nat} {s : Sc.St} (h : StAt W gi gc s) (n : Nat) (hn : n < s.is.length) : W.cell? ⟨gi, n, none⟩ = some (.bool (s.is.getD n false)) := by
  rw [Lib.cell_of_heap h.bi]; simp [boolV, hn]
theorem StAt.cellC {W : World} {gi gc : Nat} {s : Sc.St} (h : StAt W gi gc s) (n : Nat) (hn : n < s.ct.length) : W.cell? ⟨gc, n, none⟩ = some (.int .i64 (s.ct.getD n 0)) := by
  rw [Lib.cell_of_heap h.bc]; simp [iV, hn]
theorem StAt.frI {W : World} {gi gc : Nat} {s : Sc.St} (h : StAt W gi gc s) (n : Nat) : W.frozen? ⟨gi, n, none⟩ = false := Lib.frozen_of_heap h.bi n
theorem StAt.frC {W : World} {gi gc : Nat} {s : Sc.St} (h : StAt W gi gc s) (n : Nat) : W.frozen? ⟨gc, n, none⟩ = false := Lib.frozen_of_heap h.bc n
theorem StAt.setI {W : World} {gi gc : Nat} {s : Sc.St} (h : StAt W gi gc s) (n : Nat) (b : Bool) : StAt (W.setCell ⟨gi, n, none⟩ (.bool b)) gi gc ⟨s.is.set n b, s.ct⟩ := by
  refine ⟨?_, (Below.heap_setCell _ _ _ _ (fun e => h.ne e.symm)).trans h.bc⟩
  simp [World.setCell, Array.getElem?_modify, h.bi, boolV]
theorem StAt.setC {W : World} {gi gc : Nat} {s : Sc.St} (h : StAt W gi gc s) (n : Nat) (b : Int) : StAt (W.setCell ⟨gc, n, none⟩ (.int .i64 b)) gi gc ⟨s.is, s.ct.set n b⟩ := by
  refine ⟨(Below.heap_setCell _ _ _ _ (fun e => h.ne e)).trans h.bi, ?_⟩
  simp [World.setCell, Array.getElem?_modify, h.bc, iV]
theorem further_any (a m : Int) (w : World) (ha : -1000 ≤ a ∧ a ≤ 1000) : Calls Tryz.prog 91 #[.int .i64 a, .int .i64 m] w fun e w' => e = .returned (.int .i64 (Sc.further a m)) ∧ w' = w := by
  by_cases h : a < m
  all_goals
    go_enter Tryz.func91, Tryz.ntmps91
    go_wp2
    go_ret
    exact ⟨by simp [Sc.further, h]; try omega, rfl⟩
/-- what a function that returns nothing does to a state -/
def Does (gi gc : Nat) (s : Sc.St) (w : World) (e : Ending) (w' : World) : Prop := e = .returned (.tuple #[]) ∧ StAt w' gi gc s ∧ Two gi gc w w'
theorem Does.mk {gi gc : Nat} {s : Sc.St} {w w' w'' : World} (h : StAt w' gi gc s) (ht : Two gi gc w w') (hb : Below w'.heap.size w' w'') : Does gi gc s w (.returned (.tuple #[])) w'' := ⟨rfl, h.below hb, ht.trans (Two.below hb)⟩
theorem Does.drew {gi gc : Nat} {s : Sc.St} {w w' : World} {e : Ending} (h : Does gi gc s w e w') : Does gi gc s w e w'.drew := ⟨h.1, ⟨h.2.1.bi, h.2.1.bc⟩, ⟨h.2.2.os, h.2.2.tape, h.2.2.output, h.2.2.size, h.2.2.block⟩⟩
theorem below_alloc_drew (w : World) (o : Obj) : Below w.heap.size w (w.alloc o).drew := ⟨rfl, rfl, rfl, by simp, fun k hk => Below.heap_alloc _ _ _ hk⟩
set_option maxHeartbeats 4000000 in
set_option maxRecDepth 100000 in
theorem zero_any (gi gc m n : Nat) (says : Bool) (s : Sc.St) (w : World) (h : StAt w gi gc s) (hi : s.is.length = m) (hc : s.ct.length = m) (hn : n < m) :
    Calls Tryz.prog 60 #[stV gi gc m, .int .i64 (n : Int), .bool says] w (Does gi gc (Sc.zero n says s) w) := by
  have HA := hide h
  have ⟨hl1, hl2⟩ := h.lt
  have hne := h.ne
  have f1 := h.frI n
  have f2 := h.frC n
  have c1 := h.cellI n (by omega)
  have c2 := h.cellC n (by omega)
  clear h
  unfold stV
  generalize s.is.getD n false = b0 at *
  generalize s.ct.getD n 0 = k0 at *
  cases says with
  | false =>
    go_enter Tryz.func60, Tryz.ntmps60
    go_wp2_with fail
    go_end0
    exact Does.mk HA.out (Two.refl _ _ _) ((Below.refl _ _).alloc (Nat.le_refl _) _)
  | true =>
    go_enter Tryz.func60, Tryz.ntmps60
    go_wp2_with fail
    go_region
    go_end0
    exact Does.mk ((HA.out.setC n 0).setI n false) ((Two.setC _ _ _).trans (Two.setI _ _ _)) (below_alloc_drew _ _)
set_option maxHeartbeats 4000000 in
set_option maxRecDepth 100000 in
theorem run_any (gi gc m n : Nat) (most : Int) (says : Bool) (s : Sc.St) (w : World) (h : StAt w gi gc s) (hi : s.is.length = m) (hc : s.ct.length = m) (hn : n < m) (hk : -1000 ≤ s.ct.getD n 0 ∧ s.ct.getD n 0 ≤ 1000) :
    Calls Tryz.prog 58 #[stV gi gc m, .int .i64 (n : Int), .int .i64 most, .bool says] w (Does gi gc (Sc.run n most says s) w) := by
  have HA := hide h
  have ⟨hl1, hl2⟩ := h.lt
  have hne := h.ne
  have f1 := h.frI n
  have f2 := h.frC n
  have c1 := h.cellI n (by omega)
  have c2 := h.cellC n (by omega)
  clear h
  unfold stV
  have HB0 : Hid (∃ b, b = s.is.getD n false) := ⟨_, rfl⟩
  have HK0 : Hid (∃ k, k = s.ct.getD n 0) := ⟨_, rfl⟩
  obtain ⟨b0, hb0⟩ := HB0.out
  obtain ⟨k0, hk0⟩ := HK0.out
  rw [← hb0] at c1
  rw [← hk0] at c2 hk
  have HKE := hide hk0
  have HKK := hide hk
  clear hb0 hk0 HB0 HK0 hk
  cases says with
  | false =>
    go_enter Tryz.func58, Tryz.ntmps58
    go_wp2_with fail
    go_region
    go_end0
    exact Does.mk ((HA.out.setC n 0).setI n (0 == most)) ((Two.setC _ _ _).trans (Two.setI _ _ _)) (below_alloc_drew _ _)
  | true =>
    go_enter Tryz.func58, Tryz.ntmps58
    go_wp2_with fail
    go_region_with (go_at_call 91; refine (further_any _ _ _ HKK.out).mono ?_; rintro e w' ⟨rfl, rfl⟩)
    all_goals go_wp2_with fail
    all_goals go_region
    all_goals go_end0
    all_goals
      have hd := Does.mk ((HA.out.setC n (Sc.further k0 most)).setI n (Sc.further k0 most == most)) ((Two.setC _ _ _).trans (Two.setI _ _ _)) (below_alloc_drew _ (Obj.cells #[.slice (some ⟨gi, 0, none⟩) m m, .slice (some ⟨gc, 0, none⟩) m m] 48))
      rw [HKE.out] at hd ⊢
      exact Does.drew hd
set_option maxHeartbeats 4000000 in
set_option maxRecDepth 100000 in
theorem count_any (gi gc m n : Nat) (most : Int) (says : Bool) (s : Sc.St) (w : World) (h : StAt w gi gc s) (hi : s.is.length = m) (hc : s.ct.length = m) (hn : n < m) (hk : -1000 ≤ s.ct.getD n 0 ∧ s.ct.getD n 0 ≤ 1000) :
    Calls Tryz.prog 59 #[stV gi gc m, .int .i64 (n : Int), .int .i64 most, .bool says] w (Does gi gc (Sc.count n most says s) w) := by
  have HA := hide h
  have ⟨hl1, hl2⟩ := h.lt
  have hne := h.ne
  have f1 := h.frI n
  have f2 := h.frC n
  have c1 := h.cellI n (by omega)
  have c2 := h.cellC n (by omega)
  clear h
  unfold stV
  have HB0 : Hid (∃ b, b = s.is.getD n false) := ⟨_, rfl⟩
  have HK0 : Hid (∃ k, k = s.ct.getD n 0) := ⟨_, rfl⟩
  obtain ⟨b0, hb0⟩ := HB0.out
  obtain ⟨k0, hk0⟩ := HK0.out
  rw [← hb0] at c1
  rw [← hk0] at c2 hk
  have HKE := hide hk0
  have HKK := hide hk
  clear hb0 hk0 HB0 HK0 hk
  cases says with
  | false =>
    go_enter Tryz.func59, Tryz.ntmps59
    go_wp2_with fail
    go_region
    go_end0
    have hd := Does.mk ((HA.out).setI n (k0 == most)) (Two.setI _ _ _) (below_alloc_drew _ (Obj.cells #[.slice (some ⟨gi, 0, none⟩) m m, .slice (some ⟨gc, 0, none⟩) m m] 48))
    rw [HKE.out] at hd ⊢
    unfold Sc.count
    rw [if_neg (by decide)]
    simp only
    rw [Sc.set_getD]
    exact hd
  | true =>
    go_enter Tryz.func59, Tryz.ntmps59
    go_wp2_with fail
    go_region_with (go_at_call 91; refine (further_any _ _ _ HKK.out).mono ?_; rintro e w' ⟨rfl, rfl⟩)
    all_goals go_wp2_with fail
    all_goals go_region
    all_goals go_end0
    all_goals
      have hd := Does.mk ((HA.out.setC n (Sc.further k0 most)).setI n (Sc.further k0 most == most)) ((Two.setC _ _ _).trans (Two.setI _ _ _)) (below_alloc_drew _ (Obj.cells #[.slice (some ⟨gi, 0, none⟩) m m, .slice (some ⟨gc, 0, none⟩) m m] 48))
      rw [HKE.out] at hd ⊢
      exact Does.drew hd
set_option maxHeartbeats 8000000 in
set_option maxRecDepth 100000 in
theorem rung_any (gi gc m n : Nat) (k most : Int) (says : Bool) (s : Sc.St) (w : World) (h : StAt w gi gc s) (hi : s.is.length = m) (hc : s.ct.length = m) (hn : n < m) (hk : -1000 ≤ s.ct.getD n 0 ∧ s.ct.getD n 0 ≤ 1000) (hkk : 1 ≤ k ∧ k ≤ 6) :
    Calls Tryz.prog 40 #[stV gi gc m, .int .i64 k, .int .i64 (n : Int), .int .i64 most, .bool says] w (Does gi gc (Sc.rung k n most says s) w) := by
  have HA := hide h
  have ⟨hl1, hl2⟩ := h.lt
  have hne := h.ne
  have f1 := h.frI n
  have f2 := h.frC n
  have c1 := h.cellI n (by omega)
  have hb0 : Below w.heap.size w (w.alloc (.cells #[.slice (some ⟨gi, 0, none⟩) m m, .slice (some ⟨gc, 0, none⟩) m m] 48)) := (Below.refl _ _).alloc (Nat.le_refl _) _
  have HW := hide hb0
  have HR := hide (run_any gi gc m n most says s _ (h.below hb0) hi hc hn hk)
  have HC := hide (count_any gi gc m n most says s _ (h.below hb0) hi hc hn hk)
  have HZ := hide (zero_any gi gc m n says s _ (h.below hb0) hi hc hn)
  unfold stV at *
  have HB0 : Hid (∃ b, b = s.is.getD n false) := ⟨_, rfl⟩
  obtain ⟨b0, hb1⟩ := HB0.out
  rw [← hb1] at c1
  have HBE := hide hb1
  clear hb1 HB0 hk h hb0
  rcases (show k = 1 ∨ k = 2 ∨ k = 3 ∨ k = 4 ∨ k = 5 ∨ k = 6 by omega) with rfl | rfl | rfl | rfl | rfl | rfl
  · go_enter Tryz.func40, Tryz.ntmps40
    go_wp2_with fail
    go_end0
    exact Does.mk (HA.out.setI n says) (Two.setI _ _ _) ((Below.refl _ _).alloc (Nat.le_refl _) _)
  · cases b0 <;> cases says
    all_goals
      go_enter Tryz.func40, Tryz.ntmps40
      go_wp2_with fail
      go_region
      go_end0
      have hd := fun b => Does.mk (HA.out.setI n b) (Two.setI _ _ _) (below_alloc_drew _ (Obj.cells #[.slice (some ⟨gi, 0, none⟩) m m, .slice (some ⟨gc, 0, none⟩) m m] 48))
      simp only [Sc.rung, ← HBE.out]
      exact hd _
  · cases b0 <;> cases says
    all_goals
      go_enter Tryz.func40, Tryz.ntmps40
      go_wp2_with fail
      go_region
      go_end0
      have hd := fun b => Does.mk (HA.out.setI n b) (Two.setI _ _ _) (below_alloc_drew _ (Obj.cells #[.slice (some ⟨gi, 0, none⟩) m m, .slice (some ⟨gc, 0, none⟩) m m] 48))
      simp only [Sc.rung, ← HBE.out]
      exact hd _
  · go_enter Tryz.func40, Tryz.ntmps40
    go_wp2_with fail
    refine HR.out.mono ?_
    rintro e w1 ⟨rfl, h1, h2⟩
    have H1 := hide h1
    have H2 := hide h2
    clear h1 h2
    go_wp2_with fail
    go_end0
    exact ⟨rfl, H1.out, (Two.below HW.out).trans H2.out⟩
  · go_enter Tryz.func40, Tryz.ntmps40
    go_wp2_with fail
    refine HC.out.mono ?_
    rintro e w1 ⟨rfl, h1, h2⟩
    have H1 := hide h1
    have H2 := hide h2
    clear h1 h2
    go_wp2_with fail
    go_end0
    exact ⟨rfl, H1.out, (Two.below HW.out).trans H2.out⟩
  · go_enter Tryz.func40, Tryz.ntmps40
    go_wp2_with fail
    refine HZ.out.mono ?_
    rintro e w1 ⟨rfl, h1, h2⟩
    have H1 := hide h1
    have H2 := hide h2
    clear h1 h2
    go_wp2_with fail
    go_end0
    exact ⟨rfl, H1.out, (Two.below HW.out).trans H2.out⟩
end
section
open Go.RowKit
namespace Sl
/-- the closure that adds a name -/
def addV (B b2 b3 : Nat) : Value := .func (.func 35) #[] #[.pointer (some ⟨B, 0, none⟩), .pointer (some ⟨b2, 0, none⟩), .pointer (some ⟨b3, 0, none⟩)]
/-- what stands while names are added -/
structure Env (w0 : World) (B b2 b3 gm n : Nat) (nv rv : Value) (m : List Bool) (w : World) : Prop where
  low : Below w0.heap.size w0 w
  hp : w.heap[B]? = some (.cells #[nv, rv] 26 (0, 0))
  hn : w.heap[b2]? = some (.cells #[.slice (some ⟨gm, 0, none⟩) n n] 46 (0, 0))
  ha : w.heap[b3]? = some (.cells #[addV B b2 b3] 87 (0, 0))
  hm : w.heap[gm]? = some (.cells ⟨m.map boolV⟩ 4 (0, 0))
  hg : w0.heap.size ≤ gm
  len : m.length = n
theorem Env.lt {w0 : World} {B b2 b3 gm n : Nat} {nv rv : Value} {m : List Bool} {w : World} (h : Env w0 B b2 b3 gm n nv rv m w) : B < w.heap.size ∧ b2 < w.heap.size ∧ b3 < w.heap.size ∧ gm < w.heap.size :=
  ⟨(Array.getElem?_eq_some_iff.1 h.hp).1, (Array.getElem?_eq_some_iff.1 h.hn).1, (Array.getElem?_eq_some_iff.1 h.ha).1, (Array.getElem?_eq_some_iff.1 h.hm).1⟩
theorem Env.below {w0 : World} {B b2 b3 gm n : Nat} {nv rv : Value} {m : List Bool} {w w' : World} (h : Env w0 B b2 b3 gm n nv rv m w) (hb : Below w.heap.size w w') : Env w0 B b2 b3 gm n nv rv m w' := by
  obtain ⟨l1, l2, l3, l4⟩ := h.lt
  exact ⟨h.low.trans (hb.mono h.low.size), (hb.block _ l1).trans h.hp, (hb.block _ l2).trans h.hn, (hb.block _ l3).trans h.ha, (hb.block _ l4).trans h.hm, h.hg, h.len⟩
theorem Env.ne {w0 : World} {B b2 b3 gm n : Nat} {nv rv : Value} {m : List Bool} {w : World} (h : Env w0 B b2 b3 gm n nv rv m w) : B ≠ gm ∧ b2 ≠ gm ∧ b3 ≠ gm := by
  refine ⟨fun e => ?_, fun e => ?_, fun e => ?_⟩
  · have h1 := h.hp
    rw [e, h.hm] at h1
    simp only [Option.some.injEq, Obj.cells.injEq] at h1
    exact absurd h1.2.1 (by decide)
  · have h1 := h.hn
    rw [e, h.hm] at h1
    simp only [Option.some.injEq, Obj.cells.injEq] at h1
    exact absurd h1.2.1 (by decide)
  · have h1 := h.ha
    rw [e, h.hm] at h1
    simp only [Option.some.injEq, Obj.cells.injEq] at h1
    exact absurd h1.2.1 (by decide)
theorem Env.mark {w0 : World} {B b2 b3 gm n : Nat} {nv rv : Value} {m : List Bool} {w : World} (h : Env w0 B b2 b3 gm n nv rv m w) (i : Nat) : Env w0 B b2 b3 gm n nv rv (m.set i true) (w.setCell ⟨gm, i, none⟩ (.bool true)) := by
  obtain ⟨n1, n2, n3⟩ := h.ne
  have hh : ∀ k, k ≠ gm → (w.setCell ⟨gm, i, none⟩ (.bool true)).heap[k]? = w.heap[k]? := fun k hk => Below.heap_setCell _ _ _ _ (fun e => hk e)
  refine ⟨⟨h.low.os, h.low.tape, h.low.output, by simp [World.setCell]; exact h.low.size, fun k hk => (hh k (by have := h.hg; omega)).trans (h.low.block k hk)⟩, (hh _ n1).trans h.hp, (hh _ n2).trans h.hn, (hh _ n3).trans h.ha, ?_, h.hg, by rw [List.length_set]; exact h.len⟩
  simp [World.setCell, Array.getElem?_modify, h.hm, boolV]
/-- a string's cell lies in another row than the marks -/
theorem Env.str {w0 : World} {B b2 b3 gm n : Nat} {nv rv : Value} {m : List Bool} {w : World} (h : Env w0 B b2 b3 gm n nv rv m w) {g i : Nat} {s : ByteArray} (hs : w.cell? ⟨g, i, none⟩ = some (.string s)) : g ≠ gm := by
  intro e
  rw [e, Lib.cell_of_heap h.hm] at hs
  simp only [List.getElem?_toArray, List.getElem?_map] at hs
  cases hm : m[i]? with
  | none => rw [hm] at hs; cases hs
  | some b => rw [hm] at hs; cases hs
/-- what adding a name comes to -/
def Added (w0 : World) (B b2 b3 gm n : Nat) (nv rv : Value) (p : Ld.Prg) (nm : List UInt8) (m : List Bool) (w : World) (e : Ending) (w' : World) : Prop :=
  e = .returned (.tuple #[]) ∧ ∃ m', Env w0 B b2 b3 gm n nv rv m' w' ∧ Two gm gm w w' ∧ Grown p [nm] m m' ∧ Sc.told p.names m' nm = true
def Adds (w0 : World) (B b2 b3 gm n : Nat) (nv rv : Value) (p : Ld.Prg) (K : Nat) : Prop :=
  ∀ (m : List Bool) (nm : List UInt8) (w : World), Env w0 B b2 b3 gm n nv rv m w → left p m ≤ K → 0 ≤ Ld.number p.names nm →
    Calls Tryz.prog 35 #[.string ⟨nm.toArray⟩, .pointer (some ⟨B, 0, none⟩), .pointer (some ⟨b2, 0, none⟩), .pointer (some ⟨b3, 0, none⟩)] w (Added w0 B b2 b3 gm n nv rv p nm m w)
/-- what going through the rungs of a name comes to -/
def Eached (w0 : World) (B b2 b3 gm n : Nat) (nv rv : Value) (p : Ld.Prg) (nm : List UInt8) (m : List Bool) (w : World) (e : Ending) (w' : World) : Prop :=
  e = .returned (.tuple #[]) ∧ ∃ m', Env w0 B b2 b3 gm n nv rv m' w' ∧ Two gm gm w w' ∧ Grown p [nm] m m' ∧ ∀ r, r ∈ p.rungs → r.name = nm → ∀ t, t ∈ namesR r → Sc.told p.names m' t = true
set_option maxHeartbeats 4000000 in
set_option maxRecDepth 100000 in
theorem each_any (w0 : World) (B b2 b3 gm n : Nat) (nv rv : Value) (p : Ld.Prg) (K : Nat) (hP : IsPrg w0 p (.agg #[nv, rv])) (hck : Ld.check p = none) (hadd : Adds w0 B b2 b3 gm n nv rv p K)
    (m : List Bool) (nm : List UInt8) (w : World) (hE : Env w0 B b2 b3 gm n nv rv m w) (hK : left p m ≤ K) :
    Calls Tryz.prog 36 #[.agg #[nv, rv], .string ⟨nm.toArray⟩, addV B b2 b3] w (Eached w0 B b2 b3 gm n nv rv p nm m w) := by
  obtain ⟨nv', rv', e0, hna, hra⟩ := hP
  simp only [Value.agg.injEq, Array.mk.injEq, List.cons.injEq, and_true] at e0
  obtain ⟨rfl, rfl⟩ := e0
  have HNA := hide hna
  have HRA := hide hra
  obtain ⟨na, nc, rfl, _⟩ := hna.slice
  obtain ⟨ra, rc, rfl, hr1⟩ := hra.slice
  have HCR := hide (Ld.check_rungs p hck)
  have HADD := hide hadd
  have HE := hide hE
  obtain ⟨q, hq⟩ : ∃ q, q = p.rungs.length := ⟨_, rfl⟩
  obtain ⟨nn, hnn⟩ : ∃ nn, nn = p.names.length := ⟨_, rfl⟩
  have HQ := hide hq
  have HNN := hide hnn
  rw [← hq] at hr1 HRA HE HADD ⊢
  rw [← hnn] at HNA HE HADD ⊢
  clear hna hra hadd hE hq hnn
  obtain ⟨wA, hwA⟩ : ∃ wA, wA = w.alloc (.cells #[.slice na nn nc, .slice ra q rc] 26) := ⟨_, rfl⟩
  have hbA : Below w.heap.size w wA := by rw [hwA]; exact (Below.refl _ _).alloc (Nat.le_refl _) _
  have HEA := hide (HE.out.below hbA)
  have HBA := hide hbA
  clear hbA
  unfold addV
  go_enter Tryz.func36, Tryz.ntmps36
  go_wp2_with fail
  rw [← hwA]
  clear hwA
  go_loopw [13] (fun i wr => ∃ k : Nat, k ≤ q ∧ i = .int .i64 (k : Int) ∧ ∃ mk : List Bool, Hid (Env w0 B b2 b3 gm n (.slice na nn nc) (.slice ra q rc) mk wr) ∧ Hid (Two gm gm wA wr) ∧ Hid (Grown p [nm] m mk) ∧ Hid (∀ r, r ∈ p.rungs.take k → r.name = nm → ∀ t, t ∈ namesR r → Sc.told p.names mk t = true)) (fun i _ => q - (intOf i).toNat)
  case atStart => exact ⟨0, Nat.zero_le _, rfl, m, HEA.out, Two.refl _ _ _, Grown.refl _ _ _, fun r hr => by simp at hr⟩
  case round =>
    obtain ⟨k, hk, rfl, mk, HEk, HTk, HGk, HAk⟩ := hrel
    generalize wr = wo at *
    by_cases hlt : k < q
    · have hkl : k < p.rungs.length := by rw [← HQ.out]; exact hlt
      obtain ⟨r, hr⟩ : ∃ r, r = p.rungs[k] := ⟨_, rfl⟩
      have hrm : r ∈ p.rungs := by rw [hr]; exact List.getElem_mem hkl
      have HRM := hide hrm
      have HTS : Hid (p.rungs.take (k + 1) = p.rungs.take k ++ [r]) := by show _ = _; rw [List.take_succ_eq_append_getElem hkl, hr]
      obtain ⟨g, rfl, hcap, hrg⟩ : ∃ g, ra = some ⟨g, 0, none⟩ ∧ q ≤ rc ∧ RungAt wo g k r := by
        rcases HRA.out.below HEk.out.low with ⟨h0, _⟩ | ⟨g, cap, h1, h2, h3, h4⟩
        · rw [h0] at hkl; simp at hkl
        · simp only [Value.slice.injEq] at h1
          exact ⟨g, h1.1, by rw [h1.2.2, HQ.out]; exact h2, h4 k r (by rw [hr]; exact List.getElem?_eq_getElem hkl)⟩
      obtain ⟨x, hx⟩ : ∃ x, r.cond = some x ∧ Ld.known p.names x = true := by
        obtain ⟨_, _, _, _, x, h1, h2⟩ := HCR.out r hrm
        exact ⟨x, h1, h2⟩
      have HX := hide hx
      obtain ⟨v, c0, c1, c2, _, _, c5⟩ := hrg
      rw [hx.1] at c5
      obtain ⟨hex, hxs, _⟩ := c5
      obtain ⟨tu, yu, rfl⟩ := IsEx.iface x v hex
      obtain ⟨kd, rn, cd⟩ := r
      simp only at c0 c1 hx
      have HEX := hide hex
      have HZ := HTk.out.size
      clear hx hex hr hrm
      by_cases hnm : rn = nm
      · subst hnm
        obtain ⟨wB, hwB⟩ : ∃ wB, wB = wo.alloc (.cells #[.int .i64 kd, .string ⟨rn.toArray⟩, .iface tu yu] 61) := ⟨_, rfl⟩
        have hbB : Below wo.heap.size wo wB := by rw [hwB]; exact (Below.refl _ _).alloc (Nat.le_refl _) _
        have HBB := hide hbB
        have HNC := hide (Names_any _ x _ wB (HEX.out.aft hbB) hxs)
        rw [hwB] at HNC
        have HWB := hide hwB
        clear hwB hbB
        go_wp2_with fail
        refine HNC.out.mono ?_
        rintro e w5 ⟨sv, rfl, hsv, hb5⟩
        rw [← HWB.out] at hb5
        have HE5 := hide ((HEk.out.below HBB.out).below hb5)
        have HB5 := hide (HBB.out.trans (hb5.mono HBB.out.size))
        have HMO : Hid (∀ t, t ∈ ordered (x.named true) ↔ t ∈ x.named true) := fun t => mem_ordered _ _
        generalize ordered (x.named true) = os at *
        clear HNC hb5
        obtain ⟨sa, sc, rfl, hsl, hcs⟩ : ∃ sa sc, sv = .slice sa os.length sc ∧ os.length ≤ 1000000 ∧ ∀ j (hj : j < os.length), ∃ gs o, sa = some ⟨gs, o, none⟩ ∧ os.length ≤ sc ∧ w5.cell? ⟨gs, o + j, none⟩ = some (.string ⟨os[j].toArray⟩) := by
          rcases hsv with ⟨h0, a, cap, rfl⟩ | ⟨gs, o, cap, rfl, h1, h2, h3⟩
          · have h4 : os = [] := by simpa using h0
            subst h4
            exact ⟨a, cap, rfl, by simp, fun j hj => by simp at hj⟩
          · rw [List.length_map] at h1 h2 ⊢
            exact ⟨_, cap, rfl, h2, fun j hj => ⟨gs, o, rfl, h1, h3 j (toBA os[j]) (by rw [List.getElem?_map, List.getElem?_eq_getElem hj]; rfl)⟩⟩
        have HCS := hide hcs
        obtain ⟨u, hu⟩ : ∃ u, u = os.length := ⟨_, rfl⟩
        have HU := hide hu
        rw [← hu] at hsl ⊢
        clear hcs hsv hu
        go_wp2_with fail
        go_loopw [25] (fun i wr => ∃ j : Nat, j ≤ u ∧ i = .int .i64 (j : Int) ∧ ∃ mj : List Bool, Hid (Env w0 B b2 b3 gm n (.slice na nn nc) (.slice (some ⟨g, 0, none⟩) q rc) mj wr) ∧ Hid (Two gm gm w5 wr) ∧ Hid (Grown p [rn] mk mj) ∧ Hid (∀ t, t ∈ os.take j → Sc.told p.names mj t = true)) (fun i _ => u - (intOf i).toNat)
        case atStart => exact ⟨0, Nat.zero_le _, rfl, mk, HE5.out, Two.refl _ _ _, Grown.refl _ _ _, fun t ht => by simp at ht⟩
        case round =>
          obtain ⟨j, hj, rfl, mj, HEj, HTj, HGj, HAj⟩ := hrel
          by_cases hjl : j < u
          · have hjo : j < os.length := by rw [← HU.out]; exact hjl
            obtain ⟨gs, o, rfl, hsc, hcj⟩ := HCS.out j hjo
            have hgs : gs ≠ gm := HE5.out.str hcj
            have hcr : wr.cell? ⟨gs, o + j, none⟩ = some (.string ⟨os[j].toArray⟩) := by
              rw [World.cell?_of_block (w' := wr) (w := w5) (HTj.out.block gs (World.block_lt_of_cell? _ _ hcj) hgs hgs)]
              exact hcj
            have hmem : os[j] ∈ x.named true := (HMO.out _).1 (List.getElem_mem hjo)
            have hkn : 0 ≤ Ld.number p.names os[j] := by
              have h1 := HX.out.2
              unfold Ld.known at h1
              rw [List.all_eq_true] at h1
              simpa using h1 _ hmem
            have HRC : Hid (Rch p [rn] os[j]) := .step HRM.out (.base (by simp)) (by unfold namesR; rw [HX.out.1]; exact hmem)
            have HTK : Hid (os.take (j + 1) = os.take j ++ [os[j]]) := List.take_succ_eq_append_getElem hjo
            have HCA := hide (HADD.out mj os[j] wr HEj.out (Nat.le_trans (HGk.out.trans HGj.out).less hK) hkn)
            rw [← HU.out] at hsc
            generalize os[j] = s at *
            clear hcj hmem hkn
            go_wp2_with fail
            refine HCA.out.mono ?_
            rintro e w6 ⟨rfl, m6, hE6, hT6, hG6, hA6⟩
            have HE6 := hide hE6
            have HT6 := hide hT6
            have HG6 := hide hG6
            have HA6 := hide hA6
            clear hE6 hT6 hG6 hA6 HCA
            go_wp2_with fail
            go_roundw
            case rel =>
              refine ⟨j + 1, by omega, by go_num, m6, HE6.out, HTj.out.trans HT6.out, HGj.out.trans (HG6.out.of HRC.out), fun t ht => ?_⟩
              rw [HTK.out, List.mem_append] at ht
              rcases ht with ht | ht
              · exact HG6.out.up t (HAj.out t ht)
              · have : t = s := by simpa using ht
                rw [this]
                exact HA6.out
            case measure => simp [intOf]; omega
          · have hju : j = u := by omega
            have HALL : Hid (∀ t, t ∈ x.named true → Sc.told p.names mj t = true) := fun t ht => HAj.out t (by rw [hju, HU.out, List.take_length]; exact (HMO.out t).2 ht)
            go_wp2_with fail
            go_roundw
            case rel =>
              refine ⟨k + 1, by omega, by go_num, mj, HEj.out, HTk.out.trans ((Two.below HB5.out).trans HTj.out), HGk.out.trans HGj.out, fun r hr e t ht => ?_⟩
              rw [HTS.out, List.mem_append] at hr
              rcases hr with hr | hr
              · exact HGj.out.up t (HAk.out r hr e t ht)
              · have h1 : r = ⟨kd, rn, cd⟩ := by simpa using hr
                rw [h1] at ht
                unfold namesR at ht
                rw [HX.out.1] at ht
                exact HALL.out t ht
            case measure => simp [intOf]; omega
      · have hy1 := bytes_list rn
        have hy2 := bytes_list nm
        have hne : (rn == nm) = false := beq_eq_false_iff_ne.2 hnm
        go_wp2_with fail
        go_roundw
        case rel =>
          refine ⟨k + 1, by omega, by go_num, mk, HEk.out.below ((Below.refl _ _).alloc (Nat.le_refl _) _), HTk.out.trans (Two.below ((Below.refl _ _).alloc (Nat.le_refl _) _)), HGk.out, fun r hr e t ht => ?_⟩
          rw [HTS.out, List.mem_append] at hr
          rcases hr with hr | hr
          · exact HAk.out r hr e t ht
          · have h1 : r = ⟨kd, rn, cd⟩ := by simpa using hr
            rw [h1] at e
            exact absurd e hnm
        case measure => simp [intOf]; omega
    · have hkq : k = q := by omega
      go_wp2_with fail
      go_end0
      exact ⟨rfl, mk, HEk.out, (Two.below HBA.out).trans HTk.out, HGk.out, fun r hr => HAk.out r (by rw [hkq, HQ.out, List.take_length]; exact hr)⟩
end Sl
end
end Go.Proofs.YtgoabhclnicepaaGreatDoor
