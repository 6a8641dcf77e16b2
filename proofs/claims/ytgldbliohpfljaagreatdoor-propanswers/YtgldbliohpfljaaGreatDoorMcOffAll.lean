/-
  The walk of package machine's number. A program in memory stands while a block of slices alone is written. The walks of slices.Clone at names and rungs, and of package machine's copied. A machine in memory; the walks of package scan's Do and package machine's Input. Tables of rows in memory, as package machine's fill lays them. Programs stand where blocks turn in which no texts and no interface values lie.
-/
import Derived.Test.YtgldbliohpfljaaGreatDoorMcBackAll
import Derived.Test.YtgldbliohpfljaaGreatDoorRlEdgesAll
import Derived.Test.YtgldbliohpfljaaGreatDoorNaEdgesAll
namespace Go.Proofs.YtgldbliohpfljaaGreatDoor
section
open Go.RowKit
attribute [local go_sem] Oper.semAt_some
namespace Mc
/-- the number, as the loop makes it: the last part first -/
def acc (l : List (Nat × Bool)) (s : Sc.St) (pre : List Nat) : Nat := pre.foldl (fun m k => m * (l.getD k (1, false)).1 + told (l.getD k (1, false)) (s.is.getD k false) (s.ct.getD k 0)) 0
theorem acc_snoc (l : List (Nat × Bool)) (s : Sc.St) (pre : List Nat) (k : Nat) : acc l s (pre ++ [k]) = acc l s pre * (l.getD k (1, false)).1 + told (l.getD k (1, false)) (s.is.getD k false) (s.ct.getD k 0) := by
  unfold acc; rw [List.foldl_append]; rfl
theorem acc_last (l : List (Nat × Bool)) (s : Sc.St) (hi : s.is.length = l.length) (hc : s.ct.length = l.length) : ∀ d j, j + d = l.length → acc l s (lastOnes l.length j) = number (l.drop j) (s.is.drop j) (s.ct.drop j)
  | 0, j, h => by
    have : j = l.length := by omega
    subst this
    rw [lastOnes_all, List.drop_length]
    rfl
  | d + 1, j, h => by
    have hj : j < l.length := by omega
    rw [← lastOnes_next l.length j hj, acc_snoc, acc_last l s hi hc d (j + 1) (by omega)]
    rw [List.drop_eq_getElem_cons hj, List.drop_eq_getElem_cons (l := s.is) (by omega : j < s.is.length), List.drop_eq_getElem_cons (l := s.ct) (by omega : j < s.ct.length), number_cons]
    simp [hj, hi, hc]
theorem acc_lt (l : List (Nat × Bool)) (s : Sc.St) (hi : s.is.length = l.length) (hc : s.ct.length = l.length) (hp : ∀ x, x ∈ l → okP x) (hok : ∀ (k : Nat) x c, l[k]? = some x → s.ct[k]? = some c → okS x c) (j : Nat) (hj : j ≤ l.length) : acc l s (lastOnes l.length j) < total l := by
  rw [acc_last l s hi hc (l.length - j) j (by omega)]
  have h1 := number_lt (l.drop j) (s.is.drop j) (s.ct.drop j) (fun x hx => hp x (List.mem_of_mem_drop hx)) (by simp [hi]) (by simp [hc]) (fun k x c hx hc => hok (j + k) x c (by rw [List.getElem?_drop] at hx; exact hx) (by rw [List.getElem?_drop] at hc; exact hc))
  have h2 : total l = total (l.take j) * total (l.drop j) := by rw [← total_append, List.take_append_drop]
  have h3 := total_pos (l.take j) (fun x hx => hp x (List.mem_of_mem_take hx))
  rw [h2]
  exact Nat.lt_of_lt_of_le h1 (Nat.le_mul_of_pos_left _ h3)
end Mc
theorem wpOp_in {P : Program} {ops : Array Oper} {Q : Exit → Act → World → Prop} {i : Nat} {o : Oper} {K : Act → World → Prop} {a : Act} {w : World} (ho : ops[i]? = some o) (hw : Region.wanted o (yielded ops a.tmps) = true) (h : o.wp P a w K Q) : wpOp P ops Q i K a w := by
  unfold wpOp
  rw [ho]
  simp only [hw, if_true]
  exact .inl h
theorem wpOp_k {P : Program} {ops : Array Oper} {Q : Exit → Act → World → Prop} {i : Nat} {o : Oper} {K : Act → World → Prop} {a : Act} {w : World} (ho : ops[i]? = some o) (hw : Region.wanted o (yielded ops a.tmps) = true) (h : ∀ K' : Act → World → Prop, (∀ a w, K a w → K' a w) → o.wp P a w K' Q) : wpOp P ops Q i K a w := wpOp_in ho hw (h K fun _ _ h => h)
/-- what the loop keeps -/
structure NumI (w : World) (gi gc n : Nat) (m : Nat) (W : World) : Prop where
  bel : Below w.heap.size w W
  st : W.heap[w.heap.size]? = some (.cells #[.slice (some ⟨gi, 0, none⟩) n n, .slice (some ⟨gc, 0, none⟩) n n] 105 (0, 0))
  var : W.heap[w.heap.size + 1]? = some (.cells #[.int .i64 (m : Int)] 3 (0, 0))
theorem NumI.turn {w : World} {gi gc n m : Nat} {A B : World} {row : Option Nat} (h : NumI w gi gc n m A) (hg : A.grownBy B row) (hr : ∀ r, row = some r → w.heap.size + 2 ≤ r) : NumI w gi gc n m B := by
  have h1 := (Array.getElem?_eq_some_iff.1 h.st).1
  have h2 := (Array.getElem?_eq_some_iff.1 h.var).1
  refine ⟨h.bel.grown hg (by omega) (fun r e => by have := hr r e; omega), ?_, ?_⟩
  · rw [hg.block _ h1 (fun e => by have := hr _ e.symm; omega)]; exact h.st
  · rw [hg.block _ h2 (fun e => by have := hr _ e.symm; omega)]; exact h.var
set_option maxHeartbeats 4000000 in
set_option maxRecDepth 100000 in
theorem number_any (l : List (Nat × Bool)) (g gi gc : Nat) (s : Sc.St) (w : World) (h : RowIs w g 234 (l.flatMap ptCells)) (hl : l.length ≤ 12) (hs : StAt w gi gc s) (hi : s.is.length = l.length) (hc : s.ct.length = l.length)
    (hp : ∀ x, x ∈ l → Mc.okP x) (hT : Mc.total l ≤ 4096) (h8 : ∀ x, x ∈ l → x.1 ≤ 8) (hok : ∀ (k : Nat) x c, l[k]? = some x → s.ct[k]? = some c → Mc.okS x c) :
    Calls Tryz.prog 127 #[slV g l.length, stV gi gc l.length] w fun e w' => e = .returned (.int .i64 (Mc.number l s.is s.ct : Int)) ∧ Below w.heap.size w w' := by
  have HBK := hide (fun W => Backward_any (slV g l.length) _ _ _ rfl W)
  have hgl := h.lt
  have HROW := hide h
  have HST := hide hs
  have hmx : Tryz.prog.follows .mixedOrders = true := by kernel_rfl
  have HEND := hide (Mc.acc_last l s hi hc l.length 0 (by omega))
  have HLT := hide (fun j hj => Mc.acc_lt l s hi hc hp hok j hj)
  refine callsIn_wide.1 (callsIn_of_wp_marks (n := 0) Tryz.func127 rfl trivial ?_ rfl)
  simp only [Tryz.ntmps127, List.size_toArray, List.length_cons, List.length_nil, Nat.reduceAdd, Nat.reduceSub, Array.replicate_succ, Array.replicate_zero, List.push_toArray, List.append_toArray, List.nil_append, List.cons_append]
  unfold stV slV at *
  obtain ⟨w0, hw0⟩ : ∃ w0, w0 = (w.alloc (.cells #[.slice (some ⟨gi, 0, none⟩) l.length l.length, .slice (some ⟨gc, 0, none⟩) l.length l.length] 105)).alloc (.cells #[.int .i64 0] 3) := ⟨_, rfl⟩
  have hz0 : w0.heap.size = w.heap.size + 1 + 1 := by rw [hw0]; simp
  gi_wp2_with fail
  refine ⟨trivial, rfl, ?_⟩
  rw [← hw0]
  refine (callsIn_wide.2 (HBK.out _)).mono ?_
  rintro e w1 ⟨rfl, hw1⟩
  have hz1 : w1.heap.size = w.heap.size + 3 := by rw [hw1]; simp [hz0]
  have hb0 : Below w.heap.size w w0 := by rw [hw0]; exact ((Below.refl _ w).alloc (Nat.le_refl _) _).alloc (by simp) _
  have hb1 : Below w0.heap.size w0 w1 := by rw [hw1]; exact (Below.refl _ w0).alloc (Nat.le_refl _) _
  have e0 : w0.heap[w.heap.size]? = some (.cells #[.slice (some ⟨gi, 0, none⟩) l.length l.length, .slice (some ⟨gc, 0, none⟩) l.length l.length] 105 (0, 0)) := by rw [hw0]; exact (Below.heap_alloc _ _ _ (by simp)).trans (heap_alloc_new w _)
  have e1 : w0.heap[w.heap.size + 1]? = some (.cells #[.int .i64 0] 3 (0, 0)) := by
    rw [hw0]
    have := heap_alloc_new (w.alloc (.cells #[.slice (some ⟨gi, 0, none⟩) l.length l.length, .slice (some ⟨gc, 0, none⟩) l.length l.length] 105)) (.cells #[.int .i64 0] 3)
    rw [World.size_alloc] at this
    exact this
  have hI0 : NumI w gi gc l.length 0 w1 := ⟨hb0.trans (hb1.mono (by omega)), (hb1.block _ (by omega)).trans e0, (hb1.block _ (by omega)).trans e1⟩
  have ebx : w1.heap[w.heap.size + 1 + 1]? = some (.cells #[slV g l.length] 100 (0, 0)) := by rw [hw1, ← hz0]; exact heap_alloc_new _ _
  have hseq := back_seq l g (w.heap.size + 1 + 1) w1 hl ebx
  rw [hz0]
  clear hw1 hw0
  gi_wp2_with fail
  refine range_lawK (gf := 202) (lb := #[.pointer (some ⟨w.heap.size + 1 + 1, 0, none⟩)]) rfl (fun _ _ => by kernel_rfl) hseq (fun k hk => by omega) (fun k hk => by omega) (fun _ => rfl)
    (fun pre W => NumI w gi gc l.length (Mc.acc l s pre) W) (fun _ _ => False)
    (fun pre W h => HROW.out.belowN h.bel hgl)
    (fun pre A B row h hg hr => h.turn hg (fun r e => by have := hr r e; unfold TurnX at this; omega)) (fun _ _ _ _ h _ _ => h)
    hI0
    (fun x W => W.alloc (.cells #[.int .i64 ((l.getD x (1, false)).1 : Int), .bool (l.getD x (1, false)).2] 234)) (fun x W => (Below.refl _ W).alloc (Nat.le_refl _) _)
    (fun x W => { tmps := #[.slice (some ⟨g, 0, none⟩) l.length l.length, .agg #[.slice (some ⟨gi, 0, none⟩) l.length l.length, .slice (some ⟨gc, 0, none⟩) l.length l.length], undef, .pointer (some ⟨w.heap.size, 0, none⟩), .int .i64 0, .pointer (some ⟨w.heap.size + 1, 0, none⟩), .int .i64 (x : Int), .pointer (some ⟨W.heap.size, 0, none⟩), .slice (some ⟨g, 0, none⟩) l.length l.length, .func (.func 202) #[] #[.pointer (some ⟨w.heap.size + 1 + 1, 0, none⟩)], .int .i64 (x : Int), .agg #[.int .i64 ((l.getD x (1, false)).1 : Int), .bool (l.getD x (1, false)).2], undef, undef, undef, undef, undef, undef, undef, undef, undef, undef, undef, undef, undef, undef, undef, undef, undef, undef], defers := [] }) ?assign ?body ?done ?stop
  case assign =>
    intro lb x W K hK
    unfold ptAt
    gi_wp2
    exact hK
  case done =>
    rintro xs W hS hI hdf
    subst hS
    rw [HEND.out] at hI
    have v0 : W.cell? ⟨w.heap.size + 1, 0, none⟩ = some (.int .i64 (Mc.number l s.is s.ct : Int)) := by rw [Lib.cell_of_heap hI.var]; rfl
    have HI := hide hI.bel
    clear hI
    have HD := hide hdf
    clear hdf
    gi_wp2_with fail
    refine ⟨by simp, .inl ⟨_, _, rfl, run_takeDeferred HD.out, ?_⟩⟩
    have hg := grownBy_putObj' W w1.heap.size (.deferred none)
    exact ⟨_, results_tmp rfl _ _ _, rfl, HI.out.grown hg (by have := (Array.getElem?_eq_some_iff.1 HD.out).1; omega) (fun k hk => by cases hk; omega)⟩
  case stop => exact fun _ _ _ h => h.elim
  case body =>
    rintro lb pre x W U hsz hUo hUs hI ⟨hxl, hpre⟩
    have hacc : Mc.acc l s (pre ++ [x]) < 4096 := by
      rw [hpre, lastOnes_next l.length x hxl]
      exact Nat.lt_of_lt_of_le (HLT.out x (by omega)) hT
    have hap : Mc.acc l s pre < 4096 := by rw [hpre]; exact Nat.lt_of_lt_of_le (HLT.out (x + 1) (by omega)) hT
    have HSN := hide (Mc.acc_snoc l s pre x)
    have hgd : l.getD x (1, false) = l[x] := by simp [hxl]
    have h8x := h8 _ (List.getElem_mem hxl)
    have hox := hok x l[x] (s.ct[x]'(by omega)) (List.getElem?_eq_getElem hxl) (List.getElem?_eq_getElem _)
    have hcx : s.ct.getD x 0 = s.ct[x]'(by omega) := by simp [hc, hxl]
    rw [← hcx] at hox
    have hsA : w1.heap.size + 2 ≤ W.heap.size := by omega
    have hUz : U.heap.size = W.heap.size + 1 := by rw [hUs]; simp
    have hUx : U.heap[W.heap.size]? = some (.cells #[.int .i64 ((l.getD x (1, false)).1 : Int), .bool (l.getD x (1, false)).2] 234 (0, 0)) := (hUo _ (by omega)).trans (heap_alloc_new W _)
    have hstU : StAt U gi gc s := ⟨(hI.bel.block _ HST.out.lt.1).trans HST.out.bi, (hI.bel.block _ HST.out.lt.2).trans HST.out.bc⟩
    have s1 : U.cell? ⟨w.heap.size + 1, 0, none⟩ = some (.int .i64 (Mc.acc l s pre : Int)) := by rw [Lib.cell_of_heap hI.var]; rfl
    have s2 : U.cell? ⟨W.heap.size, 0, none⟩ = some (.int .i64 ((l.getD x (1, false)).1 : Int)) := by rw [Lib.cell_of_heap hUx]; rfl
    have s3 : U.cell? ⟨W.heap.size, 1, none⟩ = some (.bool (l.getD x (1, false)).2) := by rw [Lib.cell_of_heap hUx]; rfl
    have s4 : U.cell? ⟨w.heap.size, 0, none⟩ = some (.slice (some ⟨gi, 0, none⟩) l.length l.length) := by rw [Lib.cell_of_heap hI.st]; rfl
    have s5 : U.cell? ⟨w.heap.size, 1, none⟩ = some (.slice (some ⟨gc, 0, none⟩) l.length l.length) := by rw [Lib.cell_of_heap hI.st]; rfl
    have s6 := hstU.cellI x (by omega)
    have s7 := hstU.cellC x (by omega)
    have hxi : (x : Int) < (l.length : Int) := by omega
    rw [hgd] at s2 s3 HSN ⊢
    have HTD := hide (fun Z => told_any' (l[x].1 : Int) l[x].2 (s.is.getD x false) (s.ct.getD x 0) Z)
    have HTV : Hid ((if l[x].2 then s.ct.getD x 0 else if s.is.getD x false && decide (1 < (l[x].1 : Int)) then 1 else 0) = ((Mc.told l[x] (s.is.getD x false) (s.ct.getD x 0) : Nat) : Int)) := by
      show _ = _
      unfold Mc.told
      cases hq : l[x].2 with
      | true => have := (hox hq).1; simp only [if_true]; omega
      | false =>
        simp only [Bool.false_eq_true, if_false]
        have : decide (1 < (l[x].1 : Int)) = decide (1 < l[x].1) := by rw [decide_eq_decide]; omega
        rw [this]
        split <;> rfl
    obtain ⟨tv, htv⟩ : ∃ tv, tv = Mc.told l[x] (s.is.getD x false) (s.ct.getD x 0) := ⟨_, rfl⟩
    rw [← htv] at HTV HSN
    rw [HTV.out] at HTD
    generalize hofx : l[x].1 = of at *
    generalize hcnx : l[x].2 = cn at *
    generalize s.is.getD x false = iv at *
    generalize s.ct.getD x 0 = cv at *
    obtain ⟨pr, hpr⟩ : ∃ pr, pr = Mc.acc l s pre * of := ⟨_, rfl⟩
    rw [← hpr] at HSN
    have hpi : ((Mc.acc l s pre : Nat) : Int) * (of : Int) = (pr : Int) := by rw [hpr, Int.natCast_mul]
    have hprb : pr ≤ 32768 := by rw [hpr]; exact Nat.mul_le_mul (Nat.le_of_lt hap) h8x
    have hsum : pr + tv < 4096 := by rw [← HSN.out]; exact hacc
    clear hpre hcx hgd hofx hcnx htv hpr hox
    gi_wp2_with fail
    obtain ⟨V, hV⟩ : ∃ V, V = U.drew.alloc (.cells #[.int .i64 (of : Int), .bool cn] 234) := ⟨_, rfl⟩
    have ca : ∀ {p : Addr} {v : Value}, U.cell? p = some v → V.cell? p = some v := fun {p v} hp => by rw [hV]; exact (World.cell?_alloc_some U.drew p _ (by show (U.cell? p).isSome = true; rw [hp]; rfl)).trans hp
    have hVb : ∀ k, k < U.heap.size → V.heap[k]? = U.heap[k]? := fun k hk => by rw [hV]; exact Below.heap_alloc _ _ _ hk
    have hVz : V.heap.size = U.heap.size + 1 := by rw [hV]; simp
    have hvl : w.heap.size + 1 < U.heap.size := (Array.getElem?_eq_some_iff.1 hI.var).1
    have hvV := (hVb _ hvl).trans hI.var
    have HFIN : Hid (∀ a, BodyX (TurnX (fun _ k => k = w.heap.size + 1 + 1) w1.heap.size) (fun pre W => NumI w gi gc l.length (Mc.acc l s pre) W) (fun _ _ => False) (pre ++ [x]) U .normal a (V.setCell ⟨w.heap.size + 1, 0, none⟩ (.int .i64 ((pr : Int) + (tv : Int))))) := by
      intro a
      have hsl := (Array.getElem?_eq_some_iff.1 hI.st).1
      have hk : ∀ k, k ≠ w.heap.size + 1 → k < U.heap.size → (V.setCell ⟨w.heap.size + 1, 0, none⟩ (.int .i64 ((pr : Int) + (tv : Int)))).heap[k]? = U.heap[k]? := fun k h1 h2 => by
        rw [Below.heap_setCell _ _ _ _ (fun e => h1 e)]; exact hVb k h2
      have hVo : V.os = U.os ∧ V.tape = U.tape ∧ V.output = U.output := by rw [hV]; exact ⟨rfl, rfl, rfl⟩
      refine ⟨⟨by simp [World.setCell]; omega, fun k hk2 => hk k ?_ ?_⟩, ⟨hVo.1.trans hI.bel.os, hVo.2.1.trans hI.bel.tape, hVo.2.2.trans hI.bel.output, ?_, fun k h1 => ?_⟩, ?_, ?_⟩
      · unfold TurnX at hk2; omega
      · unfold TurnX at hk2; omega
      · have := hI.bel.size; simp [World.setCell]; omega
      · rw [hk k (by omega) (by omega)]; exact hI.bel.block k h1
      · rw [hk _ (by omega) hsl]; exact hI.st
      · rw [HSN.out, Int.natCast_add]
        simp [World.setCell, Array.getElem?_modify, hvV]
    have y0 : V.cell? ⟨w.heap.size + 1, 0, none⟩ = some (.int .i64 (Mc.acc l s pre : Int)) := by rw [Lib.cell_of_heap hvV]; rfl
    have y1 : V.frozen? ⟨w.heap.size + 1, 0, none⟩ = false := Lib.frozen_of_heap hvV 0
    have sb : ∀ {b i : Nat} {v : Value}, b ≠ w.heap.size + 1 → U.cell? ⟨b, i, none⟩ = some v → (V.setCell ⟨w.heap.size + 1, 0, none⟩ (.int .i64 ((pr : Int) + (tv : Int)))).cell? ⟨b, i, none⟩ = some v := fun {b i v} hb hp => by
      rw [World.cell?_of_block (w' := V.setCell ⟨w.heap.size + 1, 0, none⟩ (.int .i64 ((pr : Int) + (tv : Int)))) (w := V) (a := ⟨b, i, none⟩) (Below.heap_setCell _ _ _ _ (fun e => hb e))]
      exact ca hp
    have SB : Hid ((V.setCell ⟨w.heap.size + 1, 0, none⟩ (.int .i64 ((pr : Int) + (tv : Int)))).cell? ⟨W.heap.size, 0, none⟩ = some (.int .i64 (of : Int)) ∧ (V.setCell ⟨w.heap.size + 1, 0, none⟩ (.int .i64 ((pr : Int) + (tv : Int)))).cell? ⟨W.heap.size, 1, none⟩ = some (.bool cn) ∧ (V.setCell ⟨w.heap.size + 1, 0, none⟩ (.int .i64 ((pr : Int) + (tv : Int)))).cell? ⟨w.heap.size, 0, none⟩ = some (.slice (some ⟨gi, 0, none⟩) l.length l.length) ∧ (V.setCell ⟨w.heap.size + 1, 0, none⟩ (.int .i64 ((pr : Int) + (tv : Int)))).cell? ⟨w.heap.size, 1, none⟩ = some (.slice (some ⟨gc, 0, none⟩) l.length l.length) ∧ (V.setCell ⟨w.heap.size + 1, 0, none⟩ (.int .i64 ((pr : Int) + (tv : Int)))).cell? ⟨gi, x, none⟩ = some (.bool iv) ∧ (V.setCell ⟨w.heap.size + 1, 0, none⟩ (.int .i64 ((pr : Int) + (tv : Int)))).cell? ⟨gc, x, none⟩ = some (.int .i64 cv)) :=
      ⟨sb (by omega) s2, sb (by omega) s3, sb (by omega) s4, sb (by omega) s5, sb (by have := HST.out.lt.1; omega) s6, sb (by have := HST.out.lt.2; omega) s7⟩
    have HCA : Hid (V.cell? ⟨W.heap.size, 0, none⟩ = some (.int .i64 (of : Int)) ∧ V.cell? ⟨W.heap.size, 1, none⟩ = some (.bool cn) ∧ V.cell? ⟨w.heap.size, 0, none⟩ = some (.slice (some ⟨gi, 0, none⟩) l.length l.length) ∧ V.cell? ⟨w.heap.size, 1, none⟩ = some (.slice (some ⟨gc, 0, none⟩) l.length l.length) ∧ V.cell? ⟨gi, x, none⟩ = some (.bool iv) ∧ V.cell? ⟨gc, x, none⟩ = some (.int .i64 cv)) := ⟨ca s2, ca s3, ca s4, ca s5, ca s6, ca s7⟩
    have HVE := hide hV
    clear hV sb ca hVb hvV
    refine region_in (S := fun Z => Z.cell? ⟨W.heap.size, 0, none⟩ = some (.int .i64 (of : Int)) ∧ Z.cell? ⟨W.heap.size, 1, none⟩ = some (.bool cn) ∧ Z.cell? ⟨w.heap.size, 0, none⟩ = some (.slice (some ⟨gi, 0, none⟩) l.length l.length) ∧ Z.cell? ⟨w.heap.size, 1, none⟩ = some (.slice (some ⟨gc, 0, none⟩) l.length l.length) ∧ Z.cell? ⟨gi, x, none⟩ = some (.bool iv) ∧ Z.cell? ⟨gc, x, none⟩ = some (.int .i64 cv)) hmx (by kernel_rfl) ?hq ?_
    case hq =>
      rintro ⟨a, Z, hh⟩
      exact hh
    refine wpAnyH_take (i := 1) (v := .pointer (some ⟨W.heap.size, 0, none⟩)) rfl (by kernel_rfl) (by kernel_rfl) (by kernel_rfl) (fun _ _ _ h => h) (Or.inl ⟨by rfl, ?_⟩) ⟨s2, s3, s4, s5, s6, s7⟩ ?_
    · rintro Z ⟨z2, z3, z4, z5, z6, z7⟩
      go_simp
    refine wpAnyH_take (i := 2) (v := .int .i64 (of : Int)) rfl (by kernel_rfl) (by kernel_rfl) (by kernel_rfl) (fun _ _ _ h => h) (Or.inl ⟨by rfl, ?_⟩) ⟨s2, s3, s4, s5, s6, s7⟩ ?_
    · rintro Z ⟨z2, z3, z4, z5, z6, z7⟩
      go_simp
    refine wpAnyH_take (i := 4) (v := .agg #[.int .i64 (of : Int), .bool cn]) rfl (by kernel_rfl) (by kernel_rfl) (by kernel_rfl) (fun _ _ _ h => h) (Or.inl ⟨by rfl, ?_⟩) ⟨s2, s3, s4, s5, s6, s7⟩ ?_
    · rintro Z ⟨z2, z3, z4, z5, z6, z7⟩
      go_simp
    refine wpAnyH_take (i := 5) (v := .pointer (some ⟨w.heap.size, 0, none⟩)) rfl (by kernel_rfl) (by kernel_rfl) (by kernel_rfl) (fun _ _ _ h => h) (Or.inl ⟨by rfl, ?_⟩) ⟨s2, s3, s4, s5, s6, s7⟩ ?_
    · rintro Z ⟨z2, z3, z4, z5, z6, z7⟩
      go_simp
    refine wpAnyH_take (i := 6) (v := .slice (some ⟨gi, 0, none⟩) l.length l.length) rfl (by kernel_rfl) (by kernel_rfl) (by kernel_rfl) (fun _ _ _ h => h) (Or.inl ⟨by rfl, ?_⟩) ⟨s2, s3, s4, s5, s6, s7⟩ ?_
    · rintro Z ⟨z2, z3, z4, z5, z6, z7⟩
      go_simp
    refine wpAnyH_take (i := 7) (v := .int .i64 (x : Int)) rfl (by kernel_rfl) (by kernel_rfl) (by kernel_rfl) (fun _ _ _ h => h) (Or.inl ⟨by rfl, ?_⟩) ⟨s2, s3, s4, s5, s6, s7⟩ ?_
    · rintro Z ⟨z2, z3, z4, z5, z6, z7⟩
      go_simp
    refine wpAnyH_take (i := 8) (v := .pointer (some ⟨gi, x, none⟩)) rfl (by kernel_rfl) (by kernel_rfl) (by kernel_rfl) (fun _ _ _ h => h) (Or.inl ⟨by rfl, ?_⟩) ⟨s2, s3, s4, s5, s6, s7⟩ ?_
    · rintro Z ⟨z2, z3, z4, z5, z6, z7⟩
      go_simp
    refine wpAnyH_take (i := 9) (v := .bool iv) rfl (by kernel_rfl) (by kernel_rfl) (by kernel_rfl) (fun _ _ _ h => h) (Or.inl ⟨by rfl, ?_⟩) ⟨s2, s3, s4, s5, s6, s7⟩ ?_
    · rintro Z ⟨z2, z3, z4, z5, z6, z7⟩
      go_simp
    refine wpAnyH_take (i := 10) (v := .pointer (some ⟨w.heap.size, 1, none⟩)) rfl (by kernel_rfl) (by kernel_rfl) (by kernel_rfl) (fun _ _ _ h => h) (Or.inl ⟨by rfl, ?_⟩) ⟨s2, s3, s4, s5, s6, s7⟩ ?_
    · rintro Z ⟨z2, z3, z4, z5, z6, z7⟩
      go_simp
    refine wpAnyH_take (i := 11) (v := .slice (some ⟨gc, 0, none⟩) l.length l.length) rfl (by kernel_rfl) (by kernel_rfl) (by kernel_rfl) (fun _ _ _ h => h) (Or.inl ⟨by rfl, ?_⟩) ⟨s2, s3, s4, s5, s6, s7⟩ ?_
    · rintro Z ⟨z2, z3, z4, z5, z6, z7⟩
      go_simp
    refine wpAnyH_take (i := 12) (v := .int .i64 (x : Int)) rfl (by kernel_rfl) (by kernel_rfl) (by kernel_rfl) (fun _ _ _ h => h) (Or.inl ⟨by rfl, ?_⟩) ⟨s2, s3, s4, s5, s6, s7⟩ ?_
    · rintro Z ⟨z2, z3, z4, z5, z6, z7⟩
      go_simp
    refine wpAnyH_take (i := 13) (v := .pointer (some ⟨gc, x, none⟩)) rfl (by kernel_rfl) (by kernel_rfl) (by kernel_rfl) (fun _ _ _ h => h) (Or.inl ⟨by rfl, ?_⟩) ⟨s2, s3, s4, s5, s6, s7⟩ ?_
    · rintro Z ⟨z2, z3, z4, z5, z6, z7⟩
      go_simp
    refine wpAnyH_take (i := 14) (v := .int .i64 cv) rfl (by kernel_rfl) (by kernel_rfl) (by kernel_rfl) (fun _ _ _ h => h) (Or.inl ⟨by rfl, ?_⟩) ⟨s2, s3, s4, s5, s6, s7⟩ ?_
    · rintro Z ⟨z2, z3, z4, z5, z6, z7⟩
      go_simp
    refine wpAnyH_all (rs := [0, 15]) (by kernel_rfl) (by simp) ?_
    intro i hmem
    rcases List.mem_cons.1 hmem with rfl | hmem
    · refine wpOp_k rfl (by rfl) (fun K' hK => ?_)
      go_simp
      refine hK _ _ ⟨⟨s2, s3, s4, s5, s6, s7⟩, ?_⟩
      clear hK K'
      refine wpAnyH_take (i := 3) (v := .int .i64 (pr : Int)) rfl (by kernel_rfl) (by kernel_rfl) (by kernel_rfl) (fun _ _ _ h => h) (Or.inl ⟨by rfl, ?_⟩) ⟨s2, s3, s4, s5, s6, s7⟩ ?_
      · rintro Z ⟨z2, z3, z4, z5, z6, z7⟩
        go_simp
        (rw [IntKind.wrap_i64]; omega)
      refine wpAnyH_all (rs := [15]) (by kernel_rfl) (by simp) ?_
      intro i hmem
      obtain rfl := List.mem_singleton.1 hmem
      refine wpOp_k rfl (by rfl) (fun K' hK => ?_)
      go_simp
      refine (HTD.out _).mono ?_
      rintro e Z ⟨rfl, hZ⟩
      have hZV : Z = V := hZ.trans HVE.out.symm
      clear hZ
      subst hZV
      refine hK _ _ ⟨HCA.out, ?_⟩
      clear hK K'
      refine wpAnyH_take (i := 16) (v := .int .i64 ((pr : Int) + (tv : Int))) rfl (by kernel_rfl) (by kernel_rfl) (by kernel_rfl) (fun _ _ _ h => h) (Or.inl ⟨by rfl, ?_⟩) HCA.out ?_
      · rintro Z ⟨z2, z3, z4, z5, z6, z7⟩
        go_simp
        rw [IntKind.wrap_i64]; omega
      refine wpAnyH_all (rs := [17]) (by kernel_rfl) (by simp) ?_
      intro i hmem
      obtain rfl := List.mem_singleton.1 hmem
      refine wpOp_k rfl (by rfl) (fun K' hK => ?_)
      go_simp
      refine hK _ _ ⟨SB.out, ?_⟩
      refine wpAnyH_done (by kernel_rfl) ?_ _
      exact HFIN.out { tmps := #[], defers := [] }
    · obtain rfl := List.mem_singleton.1 hmem
      refine wpOp_k rfl (by rfl) (fun K' hK => ?_)
      go_simp
      refine (HTD.out _).mono ?_
      rintro e Z ⟨rfl, hZ⟩
      have hZV : Z = V := hZ.trans HVE.out.symm
      clear hZ
      subst hZV
      refine hK _ _ ⟨HCA.out, ?_⟩
      clear hK K'
      refine wpAnyH_all (rs := [0]) (by kernel_rfl) (by simp) ?_
      intro i hmem
      obtain rfl := List.mem_singleton.1 hmem
      refine wpOp_k rfl (by rfl) (fun K' hK => ?_)
      go_simp
      refine hK _ _ ⟨HCA.out, ?_⟩
      clear hK K'
      refine wpAnyH_take (i := 3) (v := .int .i64 (pr : Int)) rfl (by kernel_rfl) (by kernel_rfl) (by kernel_rfl) (fun _ _ _ h => h) (Or.inl ⟨by rfl, ?_⟩) HCA.out ?_
      · rintro Z ⟨z2, z3, z4, z5, z6, z7⟩
        go_simp
        (rw [IntKind.wrap_i64]; omega)
      refine wpAnyH_take (i := 16) (v := .int .i64 ((pr : Int) + (tv : Int))) rfl (by kernel_rfl) (by kernel_rfl) (by kernel_rfl) (fun _ _ _ h => h) (Or.inl ⟨by rfl, ?_⟩) HCA.out ?_
      · rintro Z ⟨z2, z3, z4, z5, z6, z7⟩
        go_simp
        rw [IntKind.wrap_i64]; omega
      refine wpAnyH_all (rs := [17]) (by kernel_rfl) (by simp) ?_
      intro i hmem
      obtain rfl := List.mem_singleton.1 hmem
      refine wpOp_k rfl (by rfl) (fun K' hK => ?_)
      go_simp
      refine hK _ _ ⟨SB.out, ?_⟩
      refine wpAnyH_done (by kernel_rfl) ?_ _
      exact HFIN.out { tmps := #[], defers := [] }
end
section
open Go.RowKit
/-- a block in which slices alone lie -/
def Slices (w : World) (b : Nat) : Prop := ∀ i u, w.cell? ⟨b, i, none⟩ = some u → ∃ a n c, u = .slice a n c
theorem IsEx.off {ok : Nat → Prop} {w : World} {b : Nat} (hb : Slices w b) : ∀ (x : Ex) (v : Value), IsEx ok w x v → IsEx (fun g => ok g ∧ g ≠ b) w x v := by
  intro x
  induction x using Ex.ind with
  | h k nm l ih =>
    intro v h
    have hrow : ∀ g, Row w g (l.map fun x => IsEx ok w x) → Row w g (l.map fun x => IsEx (fun g => ok g ∧ g ≠ b) w x) := by
      intro g hr i P hP
      rw [List.getElem?_map] at hP
      cases hl : l[i]? with
      | none => rw [hl] at hP; simp at hP
      | some y =>
        rw [hl] at hP
        simp only [Option.map_some, Option.some.injEq] at hP
        obtain ⟨u, hu, hx⟩ := hr i (IsEx ok w y) (by rw [List.getElem?_map, hl]; rfl)
        exact ⟨u, hu, by rw [← hP]; exact ih y (List.mem_of_getElem? hl) u hx⟩
    have hlist : ∀ t, IsList ok w t l.length (l.map fun x => IsEx ok w x) v → IsList (fun g => ok g ∧ g ≠ b) w t l.length (l.map fun x => IsEx (fun g => ok g ∧ g ≠ b) w x) v := by
      rintro t ⟨h1, h2, g, cap, h3, h4, h5, h6⟩
      refine ⟨h1, h2, g, cap, h3, h4, ⟨h5, ?_⟩, hrow g h6⟩
      intro e
      subst e
      have hl : l[0]? = some (l[0]'(by omega)) := List.getElem?_eq_getElem _
      obtain ⟨u, hu, hx⟩ := h6 0 (IsEx ok w (l[0]'(by omega))) (by rw [List.getElem?_map, hl]; rfl)
      obtain ⟨a, n, c, rfl⟩ := hb 0 u hu
      obtain ⟨_, _, hy⟩ := IsEx.iface _ _ hx
      cases hy
    match k, h with
    | 0, h => simp only [IsEx] at h ⊢; exact h
    | 1, h => simp only [IsEx] at h ⊢; exact h
    | 2, h => simp only [IsEx] at h ⊢; exact h
    | 3, h => simp only [IsEx] at h ⊢; exact h
    | 4, h => simp only [IsEx] at h ⊢; exact h
    | 5, h =>
      simp only [IsEx] at h ⊢
      obtain ⟨h1, h2, u, h3, h4⟩ := h
      refine ⟨h1, h2, u, h3, ?_⟩
      intro P hP
      rw [List.getElem?_map] at hP
      cases hl : l[0]? with
      | none => rw [hl] at hP; simp at hP
      | some y =>
        rw [hl] at hP
        simp only [Option.map_some, Option.some.injEq] at hP
        rw [← hP]
        exact ih y (List.mem_of_getElem? hl) u (h4 _ (by rw [List.getElem?_map, hl]; rfl))
    | 6, h => simp only [IsEx] at h ⊢; exact ⟨h.1, hlist _ h.2⟩
    | 7, h => simp only [IsEx] at h ⊢; exact ⟨h.1, hlist _ h.2⟩
    | n + 8, h => simp only [IsEx] at h
/-- a program stands where a block turns in which slices alone lie -/
theorem IsPrg.off {w w' : World} {p : Ld.Prg} {v : Value} (h : IsPrg w p v) (b : Nat) (hb : Slices w b) (hk : ∀ k, k ≠ b → w'.heap[k]? = w.heap[k]?) : IsPrg w' p v := by
  have hc : ∀ g i, g ≠ b → w'.cell? ⟨g, i, none⟩ = w.cell? ⟨g, i, none⟩ := fun g i hg => World.cell?_of_block (w' := w') (w := w) (hk g hg)
  obtain ⟨nv, rv, h1, h2, h3⟩ := h
  refine ⟨nv, rv, h1, ?_, ?_⟩
  · rcases h2 with h2 | ⟨g, cap, e1, e2, e3, e4⟩
    · exact .inl h2
    · refine .inr ⟨g, cap, e1, e2, e3, fun i n hi => ?_⟩
      obtain ⟨f1, f2, f3, f4⟩ := e4 i n hi
      have hg : g ≠ b := by
        intro e
        subst e
        obtain ⟨_, _, _, hx⟩ := hb _ _ f1
        cases hx
      exact ⟨(hc g _ hg).trans f1, (hc g _ hg).trans f2, (hc g _ hg).trans f3, f4⟩
  · rcases h3 with h3 | ⟨g, cap, e1, e2, e3, e4⟩
    · exact .inl h3
    · refine .inr ⟨g, cap, e1, e2, e3, fun i n hi => ?_⟩
      obtain ⟨u, f1, f2, f3, f4, f5, f6⟩ := e4 i n hi
      have hg : g ≠ b := by
        intro e
        subst e
        obtain ⟨_, _, _, hx⟩ := hb _ _ f1
        cases hx
      refine ⟨u, (hc g _ hg).trans f1, (hc g _ hg).trans f2, (hc g _ hg).trans f3, f4, f5, ?_⟩
      cases hcd : n.cond with
      | none => rw [hcd] at f6; exact f6
      | some x =>
        rw [hcd] at f6
        exact ⟨IsEx.stay (fun g i u hg hc2 => (hc g i hg.2).trans hc2) (fun _ _ => trivial) x u (IsEx.off hb x u f6.1), f6.2⟩
theorem slices_two {w : World} {b : Nat} {x y : Value} {t : TypeId} (h : w.heap[b]? = some (.cells #[x, y] t (0, 0))) (hx : ∃ a n c, x = .slice a n c) (hy : ∃ a n c, y = .slice a n c) : Slices w b := by
  intro i u hu
  rw [Lib.cell_of_heap h] at hu
  match i, hu with
  | 0, hu => simp at hu; subst hu; exact hx
  | 1, hu => simp at hu; subst hu; exact hy
  | n + 2, hu => simp at hu
end
section
open Go.RowKit
theorem choose_list {P : Nat → Value → Prop} : ∀ {n : Nat}, (∀ i, i < n → ∃ v, P i v) → ∃ vs : List Value, vs.length = n ∧ ∀ (i : Nat) v, vs[i]? = some v → P i v
  | 0, _ => ⟨[], rfl, fun i v h => by simp at h⟩
  | n + 1, h => by
    obtain ⟨vs, h1, h2⟩ := choose_list (n := n) (fun i hi => h i (by omega))
    obtain ⟨v, hv⟩ := h n (by omega)
    refine ⟨vs ++ [v], by simp [h1], fun i u hu => ?_⟩
    by_cases hi : i < vs.length
    · rw [List.getElem?_append_left hi] at hu; exact h2 i u hu
    · rw [List.getElem?_append_right (by omega)] at hu
      have hi2 : i - vs.length < [v].length := (List.getElem?_eq_some_iff.1 hu).1
      have e : i = n := by simp at hi2; omega
      subst e
      rw [h1, Nat.sub_self] at hu
      simp only [List.getElem?_cons_zero, Option.some.injEq] at hu
      subst hu; exact hv
/-- a rung's three cells, what it asks as value v -/
def RungAs (w : World) (g i : Nat) (r : Ld.Rng) (v : Value) : Prop := w.cell? ⟨g, i * 3, none⟩ = some (.int .i64 r.kind) ∧ w.cell? ⟨g, i * 3 + 1, none⟩ = some (.string ⟨r.name.toArray⟩) ∧ w.cell? ⟨g, i * 3 + 2, none⟩ = some v ∧ r.name.length ≤ maxLen ∧ I64 r.kind ∧ CondAt w r.cond v
theorem RungAs.below {w w' : World} {g i : Nat} {r : Ld.Rng} {v : Value} (h : RungAs w g i r v) (hb : Below w.heap.size w w') : RungAs w' g i r v := by
  obtain ⟨h1, h2, h3, h4, h5, h6⟩ := h
  exact ⟨(hb.cell (World.block_lt_of_cell? _ _ h1)).trans h1, (hb.cell (World.block_lt_of_cell? _ _ h2)).trans h2, (hb.cell (World.block_lt_of_cell? _ _ h3)).trans h3, h4, h5, h6.below hb⟩
theorem RungAs.one {w : World} {g i : Nat} {r : Ld.Rng} {v : Value} (h : RungAs w g i r v) : v.oneCell' = true := by
  obtain ⟨_, _, _, _, _, h6⟩ := h
  cases hc : r.cond with
  | none => rw [hc] at h6; obtain rfl : v = .nilIface := h6; rfl
  | some x =>
    rw [hc] at h6
    obtain ⟨t, y, rfl⟩ := IsEx.iface x v h6.1
    rfl
theorem rg_len (l : List (Ld.Rng × Value)) : (l.flatMap rgCells).length = l.length * 3 := by
  induction l with
  | nil => rfl
  | cons a r ih => rw [List.flatMap_cons, List.length_append, ih, List.length_cons]; simp [rgCells]; omega
theorem rungs_cells {W : World} {g : Nat} {zs : List (Ld.Rng × Value)} (h : ∀ (i : Nat) z, zs[i]? = some z → RungAs W g i z.1 z.2) : ∀ j u, (zs.flatMap rgCells)[j]? = some u → W.cell? ((⟨g, 0, none⟩ : Addr).add j) = some u := by
  intro j u hu
  have e : (⟨g, 0, none⟩ : Addr).add j = ⟨g, j, none⟩ := by unfold Addr.add; split <;> simp_all
  rw [e]
  have hj : j < zs.length * 3 := by rw [← rg_len]; exact (List.getElem?_eq_some_iff.1 hu).1
  have hi : j / 3 < zs.length := by omega
  have hn := List.getElem?_eq_getElem hi
  obtain ⟨h1, h2, h3, _⟩ := h (j / 3) _ hn
  have hf := flat3 rgCells (fun _ => rfl) zs (j / 3) _ hn (j % 3) (by omega)
  rw [show j / 3 * 3 + j % 3 = j by omega, hu] at hf
  have hm : j % 3 = 0 ∨ j % 3 = 1 ∨ j % 3 = 2 := by omega
  rcases hm with hm | hm | hm
  · rw [hm] at hf
    rw [show j = j / 3 * 3 by omega, h1]; exact hf.symm
  · rw [hm] at hf
    rw [show j = j / 3 * 3 + 1 by omega, h2]; exact hf.symm
  · rw [hm] at hf
    rw [show j = j / 3 * 3 + 2 by omega, h3]; exact hf.symm
theorem eqNilR_none (w : World) (n c : Nat) : (binOp BinOp.eql 81 (.slice none n c) (.slice none 0 0)).run Tryz.prog w = .ok (.bool true) w := by kernel_rfl
theorem eqNilR_some (w : World) (a : Addr) (n c : Nat) : (binOp BinOp.eql 81 (.slice (some a) n c) (.slice none 0 0)).run Tryz.prog w = .ok (.bool false) w := by kernel_rfl
set_option maxHeartbeats 2000000 in
set_option maxRecDepth 100000 in
theorem cloneR_any (ns : List Ld.Rng) (nv : Value) (w : World) (h : RungsAt w nv ns) :
    Calls Tryz.prog 124 #[nv] w fun e w' => ∃ v, e = .returned v ∧ RungsAt w' v ns ∧ Below w.heap.size w w' := by
  obtain ⟨i0, hi0, hz0, hz1, hz2⟩ := info_parts Tryz.infoRung
  have q0 := fun n c => eqNilR_none w n c
  have q1 := fun a n c => eqNilR_some w a n c
  have HBA : Hid (Below w.heap.size w (w.alloc (.cells #[] 230))) := (Below.refl _ w).alloc (Nat.le_refl _) _
  rcases h with ⟨rfl, a, cap, rfl⟩ | ⟨g, cap, rfl, hcap, hlen, hat⟩
  · cases a with
    | none =>
      go_enter Tryz.func124, Tryz.ntmps124
      go_wp2_with fail
      go_ret
      exact ⟨_, rfl, .inl ⟨rfl, _, _, rfl⟩, Below.refl _ _⟩
    | some ad =>
      go_enter Tryz.func124, Tryz.ntmps124
      go_wp2_with (at_builtin; refine Lib.wpList_append_run _ rfl (.tmp 5) (.tmp 6) 81 81 rfl _ _ rfl rfl _ _ (append_zero w.heap.size _ _ _ i0 3 Tryz.underlying81 hi0 _ 0 [] (own_zero w w.heap.size 230 3 (Nat.le_refl _)) _ _) ?_)
      go_ret
      exact ⟨_, rfl, .inl ⟨rfl, _, _, rfl⟩, HBA.out⟩
  · by_cases hne : ns.length = 0
    · obtain rfl := List.length_eq_zero_iff.1 hne
      go_enter Tryz.func124, Tryz.ntmps124
      go_wp2_with (at_builtin; refine Lib.wpList_append_run _ rfl (.tmp 5) (.tmp 6) 81 81 rfl _ _ rfl rfl _ _ (append_zero w.heap.size _ _ _ i0 3 Tryz.underlying81 hi0 _ 0 [] (own_zero w w.heap.size 230 3 (Nat.le_refl _)) _ _) ?_)
      go_ret
      exact ⟨_, rfl, .inl ⟨rfl, _, _, rfl⟩, HBA.out⟩
    · obtain ⟨vs, hvl, hvs⟩ := choose_list (n := ns.length) (P := fun i v => ∀ y, ns[i]? = some y → RungAs w g i y v) (fun i hi => by
        obtain ⟨v, hv⟩ := hat i _ (List.getElem?_eq_getElem hi)
        exact ⟨v, fun y hy => by rw [List.getElem?_eq_getElem hi] at hy; cases hy; exact hv⟩)
      obtain ⟨zs, hzs⟩ : ∃ zs, zs = ns.zip vs := ⟨_, rfl⟩
      have hzl : zs.length = ns.length := by rw [hzs, List.length_zip]; omega
      have hz : ∀ (i : Nat) z, zs[i]? = some z → ns[i]? = some z.1 ∧ RungAs w g i z.1 z.2 := fun i z hz => by
        rw [hzs] at hz
        obtain ⟨h1, h2⟩ := List.getElem?_zip_eq_some.1 hz
        exact ⟨h1, hvs i _ h2 _ h1⟩
      have hlc : (zs.flatMap rgCells).length = ns.length * 3 := by rw [rg_len, hzl]
      have HOWN : Hid ((w.alloc (.cells #[] 230)).ownsRow w.heap.size 230 3 (.slice (some ⟨w.heap.size, 0, none⟩) 0 0) 0 []) := own_zero w w.heap.size 230 3 (Nat.le_refl _)
      have HNEW : Hid (∀ j u, (zs.flatMap rgCells)[j]? = some u → (w.alloc (.cells #[] 230)).cell? ((⟨g, 0, none⟩ : Addr).add j) = some u) := rungs_cells (fun i z hi => ((hz i z hi).2).below HBA.out)
      have HONE : Hid (∀ u ∈ zs.flatMap rgCells, u.oneCell' = true) := by
        intro u hu
        obtain ⟨z, hzm, hn⟩ := List.mem_flatMap.1 hu
        obtain ⟨i, hi⟩ := List.getElem?_of_mem hzm
        have hone := ((hz i z hi).2).one
        simp only [rgCells, List.mem_cons, List.not_mem_nil, or_false] at hn
        rcases hn with rfl | rfl | rfl
        · rfl
        · rfl
        · exact hone
      have HAT := hide hz
      have HZL := hide hzl
      obtain ⟨n, hnn⟩ : ∃ n, n = ns.length := ⟨_, rfl⟩
      have HN := hide hnn
      have HLC := hide hlc
      rw [← hnn] at hlen hcap hne HLC ⊢
      clear hat hnn hlc hvs hz hzs hzl
      have hn0 : 0 < n := by omega
      go_enter Tryz.func124, Tryz.ntmps124
      go_wp2_with (at_builtin; refine wpList_append_lies _ rfl (.tmp 5) (.tmp 6) 81 rfl w.heap.size 230 i0 _ 3 40 Tryz.underlying81 hi0 hz0 hz1 hz2 rfl (by decide) (.slice (some ⟨w.heap.size, 0, none⟩) 0 0) 0 [] rfl HOWN.out ⟨g, 0, none⟩ n cap (zs.flatMap rgCells) rfl HLC.out HNEW.out HONE.out hn0 (by unfold maxLen; omega) (by omega) (by simp) (w.heap.size + 1) (by simp) ?_; intro g2 cap2 wC hown hgrow hat2 hltg)
      go_ret
      refine ⟨_, rfl, ?_, HBA.out.grown hgrow (by simp) (fun j e => by simp only [Value.ownBlock, Option.some.injEq] at e; omega)⟩
      rcases hown.2 with ⟨hx, _⟩ | ⟨g3, cap3, cur, hx, _, hcur, hc3, _, _, htk⟩
      · cases hx
      · simp only [Value.slice.injEq, Option.some.injEq, Addr.mk.injEq] at hx
        obtain ⟨⟨rfl, _⟩, _, rfl⟩ := hx
        refine .inr ⟨g2, cap2, by rw [← HN.out]; rfl, by rw [← HN.out]; omega, by rw [← HN.out]; exact hlen, fun i y hy => ?_⟩
        have hil : i < zs.length := by rw [HZL.out]; exact (List.getElem?_eq_some_iff.1 hy).1
        have hzi := List.getElem?_eq_getElem hil
        obtain ⟨k1, k2⟩ := HAT.out i _ hzi
        rw [hy] at k1
        have ky : y = zs[i].1 := Option.some.inj k1
        have hc := fun j hj => flat3 rgCells (fun _ => rfl) zs i _ hzi j hj
        have hbl := HBA.out.grown hgrow (by simp) (fun j e => by simp only [Value.ownBlock, Option.some.injEq] at e; omega)
        obtain ⟨_, _, _, k4, k5, k6⟩ := k2
        rw [ky]
        exact ⟨zs[i].2, row_cell hcur htk (hc 0 (by omega)), row_cell hcur htk (hc 1 (by omega)), row_cell hcur htk (hc 2 (by omega)), k4, k5, k6.below hbl⟩
theorem slice_of {w : World} {v : Value} {ns : List Ld.Nme} (h : NamesAt w v ns) : ∃ a n c, v = .slice a n c := by obtain ⟨a, c, h, _⟩ := h.slice; exact ⟨a, _, c, h⟩
theorem slice_ofR {w : World} {v : Value} {ns : List Ld.Rng} (h : RungsAt w v ns) : ∃ a n c, v = .slice a n c := by obtain ⟨a, c, h, _⟩ := h.slice; exact ⟨a, _, c, h⟩
set_option maxHeartbeats 4000000 in
set_option maxRecDepth 100000 in
theorem copied_any (p : Ld.Prg) (v : Value) (w : World) (h : IsPrg w p v) :
    Calls Tryz.prog 77 #[v] w fun e w' => ∃ u, e = .returned u ∧ IsPrg w' p u ∧ Below w.heap.size w w' := by
  obtain ⟨nv, rv, rfl, hn, hr⟩ := h
  obtain ⟨wA, hwA⟩ : ∃ wA, wA = (w.alloc (.cells #[nv, rv] 83)).alloc (.cells #[.slice none 0 0, .slice none 0 0] 83) := ⟨_, rfl⟩
  have hbA : Below w.heap.size w wA := by rw [hwA]; exact ((Below.refl _ w).alloc (Nat.le_refl _) _).alloc (by simp) _
  have hzA : wA.heap.size = w.heap.size + 1 + 1 := by rw [hwA]; simp
  have a0 : wA.heap[w.heap.size]? = some (.cells #[nv, rv] 83 (0, 0)) := by rw [hwA]; exact (Below.heap_alloc _ _ _ (by simp)).trans (heap_alloc_new w _)
  have a1 : wA.heap[w.heap.size + 1]? = some (.cells #[.slice none 0 0, .slice none 0 0] 83 (0, 0)) := by
    rw [hwA]
    have := heap_alloc_new (w.alloc (.cells #[nv, rv] 83)) (.cells #[.slice none 0 0, .slice none 0 0] 83)
    rw [World.size_alloc] at this
    exact this
  have HX : Hid (∀ W, Below wA.drew.heap.size wA.drew W → (W.cell? ⟨w.heap.size, 0, none⟩ = some nv ∧ W.cell? ⟨w.heap.size, 1, none⟩ = some rv) ∧ W.heap[w.heap.size + 1]? = some (.cells #[.slice none 0 0, .slice none 0 0] 83 (0, 0)) ∧ Below w.heap.size w W) := by
    intro W hW
    have e0 := (hW.block w.heap.size (by show _ < wA.heap.size; omega)).trans a0
    exact ⟨⟨by rw [Lib.cell_of_heap e0]; rfl, by rw [Lib.cell_of_heap e0]; rfl⟩, (hW.block (w.heap.size + 1) (by show _ < wA.heap.size; omega)).trans a1, hbA.trans ⟨hW.os, hW.tape, hW.output, hW.size, fun k hk => hW.block k (by show _ < wA.heap.size; omega)⟩⟩
  have HCN : Hid (∀ W, Below wA.drew.heap.size wA.drew W → Calls Tryz.prog 123 #[nv] W fun e w' => ∃ v, e = .returned v ∧ NamesAt w' v p.names ∧ Below W.heap.size W w') := fun W hW => cloneN_any p.names nv W (hn.below (HX.out W hW).2.2)
  have HCR : Hid (∀ W, Below wA.drew.heap.size wA.drew W → Calls Tryz.prog 124 #[rv] W fun e w' => ∃ v, e = .returned v ∧ RungsAt w' v p.rungs ∧ Below W.heap.size W w') := fun W hW => cloneR_any p.rungs rv W (hr.below (HX.out W hW).2.2)
  have HFIN : Hid (∀ W v1 v2, Below wA.drew.heap.size wA.drew W → NamesAt W v1 p.names → RungsAt W v2 p.rungs → ∃ u, Ending.returned (.agg #[v1, v2]) = .returned u ∧ IsPrg ((W.setCell ⟨w.heap.size + 1, 0, none⟩ v1).setCell ⟨w.heap.size + 1, 1, none⟩ v2) p u ∧ Below w.heap.size w ((W.setCell ⟨w.heap.size + 1, 0, none⟩ v1).setCell ⟨w.heap.size + 1, 1, none⟩ v2)) := by
    intro W v1 v2 hW h1 h2
    obtain ⟨_, hz, hb⟩ := HX.out W hW
    refine ⟨_, rfl, ?_, (hb.setCell (p := ⟨w.heap.size + 1, 0, none⟩) (by show w.heap.size ≤ w.heap.size + 1; omega) _).setCell (p := ⟨w.heap.size + 1, 1, none⟩) (by show w.heap.size ≤ w.heap.size + 1; omega) _⟩
    have hP : IsPrg W p (.agg #[v1, v2]) := ⟨v1, v2, rfl, h1, h2⟩
    exact hP.off (w.heap.size + 1) (slices_two hz ⟨_, _, _, rfl⟩ ⟨_, _, _, rfl⟩) (fun k hk => (Below.heap_setCell _ _ _ _ (fun e => hk e)).trans (Below.heap_setCell _ _ _ _ (fun e => hk e)))
  have HR0 : Hid (Below wA.drew.heap.size wA.drew wA.drew) := Below.refl _ _
  obtain ⟨⟨c0, c1⟩, _, _⟩ := HX.out _ HR0.out
  obtain ⟨na, nn, nc, rfl⟩ := slice_of hn
  obtain ⟨ra, rn, rc, rfl⟩ := slice_ofR hr
  clear hn hr a0 a1 hbA
  go_enter Tryz.func77, Tryz.ntmps77
  go_wp2_with fail
  rw [← hwA]
  clear hwA
  go_region_with (first
    | (go_at_call 123; first
        | (refine (HCN.out _ HR0.out).mono ?_; rintro e wN ⟨vN, rfl, hnN, hbN⟩; obtain ⟨xa, xn, xc, rfl⟩ := slice_of hnN; have HNN := hide hnN; have HBN := hide hbN; obtain ⟨⟨d0, d1⟩, _, _⟩ := HX.out _ hbN; clear hnN hbN)
        | (refine (HCN.out _ HBR.out).mono ?_; rintro e wN ⟨vN, rfl, hnN, hbN⟩; obtain ⟨xa, xn, xc, rfl⟩ := slice_of hnN; have HNN := hide hnN; have HBN := hide (HBR.out.trans (hbN.mono HBR.out.size)); have HRR := hide (HRN.out.below hbN); obtain ⟨_, dz, _⟩ := HX.out _ HBN.out; obtain ⟨z0, z1, z2, z3⟩ := two_cells dz; clear hnN hbN dz))
    | (go_at_call 124; first
        | (refine (HCR.out _ HR0.out).mono ?_; rintro e wR ⟨vR, rfl, hrN, hbR⟩; obtain ⟨ya, yn, yc, rfl⟩ := slice_ofR hrN; have HRN := hide hrN; have HBR := hide hbR; obtain ⟨⟨d0, d1⟩, _, _⟩ := HX.out _ hbR; clear hrN hbR)
        | (refine (HCR.out _ HBN.out).mono ?_; rintro e wR ⟨vR, rfl, hrN, hbR⟩; obtain ⟨ya, yn, yc, rfl⟩ := slice_ofR hrN; have HRN := hide hrN; have HBR := hide (HBN.out.trans (hbR.mono HBN.out.size)); have HNR := hide (HNN.out.below hbR); obtain ⟨_, dz, _⟩ := HX.out _ HBR.out; obtain ⟨z0, z1, z2, z3⟩ := two_cells dz; clear hrN hbR dz)))
  all_goals go_wp2_with fail
  all_goals
    refine bodyPost_ret_by (v := .agg #[.slice xa xn xc, .slice ya yn yc]) ?_ rfl ?_
    · simp [results, Tryz.results77, go_sem, z0, z1]
    · first
        | exact HFIN.out _ _ _ HBR.out HNR.out HRN.out
        | exact HFIN.out _ _ _ HBN.out HNN.out HRR.out
end
section
open Go.RowKit
/-- a machine's block -/
def MachAt (W : World) (bm : Nat) (nv rv : Value) (S I : Nat) (nx pv sv : Value) : Prop := W.heap[bm]? = some (.cells #[nv, rv, .int .i64 (S : Int), .int .i64 (I : Int), nx, pv, sv] 102 (0, 0))
theorem MachAt.cells {W : World} {bm : Nat} {nv rv : Value} {S I : Nat} {nx pv sv : Value} (h : MachAt W bm nv rv S I nx pv sv) : (W.cell? ⟨bm, 0, none⟩ = some nv ∧ W.cell? ⟨bm, 1, none⟩ = some rv) ∧ (W.cell? ⟨bm, 2, none⟩ = some (.int .i64 (S : Int)) ∧ W.cell? ⟨bm, 3, none⟩ = some (.int .i64 (I : Int))) ∧ W.cell? ⟨bm, 4, none⟩ = some nx ∧ W.cell? ⟨bm, 5, none⟩ = some pv ∧ W.cell? ⟨bm, 6, none⟩ = some sv :=
  ⟨⟨by rw [Lib.cell_of_heap h]; rfl, by rw [Lib.cell_of_heap h]; rfl⟩, ⟨by rw [Lib.cell_of_heap h]; rfl, by rw [Lib.cell_of_heap h]; rfl⟩, by rw [Lib.cell_of_heap h]; rfl, by rw [Lib.cell_of_heap h]; rfl, by rw [Lib.cell_of_heap h]; rfl⟩
theorem MachAt.below {W W' : World} {bm : Nat} {nv rv : Value} {S I : Nat} {nx pv sv : Value} (h : MachAt W bm nv rv S I nx pv sv) (hb : Below W.heap.size W W') : MachAt W' bm nv rv S I nx pv sv := (hb.block _ (Array.getElem?_eq_some_iff.1 h).1).trans h
theorem set2_alloc {W : World} {b : Nat} {x0 y0 : Value} {t : TypeId} (h : W.heap[b]? = some (.cells #[x0, y0] t (0, 0))) (x y : Value) (o : Obj) : (((W.setCell ⟨b, 0, none⟩ x).setCell ⟨b, 1, none⟩ y).alloc o).cell? ⟨b, 0, none⟩ = some x ∧ (((W.setCell ⟨b, 0, none⟩ x).setCell ⟨b, 1, none⟩ y).alloc o).cell? ⟨b, 1, none⟩ = some y := by
  have hl : b < W.heap.size := (Array.getElem?_eq_some_iff.1 h).1
  have h1 : (((W.setCell ⟨b, 0, none⟩ x).setCell ⟨b, 1, none⟩ y).alloc o).heap[b]? = some (.cells #[x, y] t (0, 0)) := by
    rw [Below.heap_alloc _ _ _ (by simpa [World.setCell] using hl)]
    simp [World.setCell, Array.getElem?_modify, h]
  exact ⟨(two_cells h1).1, (two_cells h1).2.1⟩
set_option maxHeartbeats 2000000 in
set_option maxRecDepth 100000 in
theorem Do_any (p : Ld.Prg) (v iv : Value) (gi gc : Nat) (s : Sc.St) (inp : List Bool) (w : World) (h : IsPrg w p v) (hck : Ld.check p = none) (hs : StAt w gi gc s) (hsi : s.is.length = p.names.length) (hsc : s.ct.length = p.names.length)
    (hct : ∀ c, c ∈ s.ct → 0 ≤ c ∧ c ≤ 7) (hin : Bools w iv inp) (hil : inp.length = (Ld.kindL p.names 1).length) :
    Calls Tryz.prog 126 #[v, stV gi gc p.names.length, iv] w fun e w' => ∃ gi' gc', e = .returned (stV gi' gc' p.names.length) ∧ StAt w' gi' gc' (Sc.step p s inp) ∧ w.heap.size ≤ gi' ∧ w.heap.size ≤ gc' ∧ Below w.heap.size w w' := by
  obtain ⟨n, hnn⟩ : ∃ n, n = p.names.length := ⟨_, rfl⟩
  obtain ⟨nv, rv, rfl, hn, hr⟩ := h
  have HPR : Hid (IsPrg w p (.agg #[nv, rv])) := ⟨nv, rv, rfl, hn, hr⟩
  obtain ⟨na, nk, nc, rfl⟩ := slice_of hn
  obtain ⟨ra, rk, rc, rfl⟩ := slice_ofR hr
  have HIN := hide hin
  obtain ⟨ia, ic, rfl, _, _⟩ := hin
  obtain ⟨wA, hwA⟩ : ∃ wA, wA = ((w.alloc (.cells #[.slice na nk nc, .slice ra rk rc] 83)).alloc (.cells #[.slice (some ⟨gi, 0, none⟩) n n, .slice (some ⟨gc, 0, none⟩) n n] 105)).alloc (.cells #[.slice none 0 0, .slice none 0 0] 105) := ⟨_, rfl⟩
  have hbA : Below w.heap.size w wA := by rw [hwA]; exact below_alloc3 _ _ _ _
  have hzA : wA.heap.size = w.heap.size + 1 + 1 + 1 := by rw [hwA]; simp
  have hA : wA.heap[w.heap.size + 1 + 1]? = some (.cells #[.slice none 0 0, .slice none 0 0] 105 (0, 0)) := by rw [hwA]; exact (cells3 _ _ _ _).2.2
  have HST := hide (step_any p _ _ gi gc s inp wA (HPR.out.below hbA) hck (hs.below hbA) hsi hsc hct (HIN.out.below hbA) hil)
  rw [← hnn] at HST ⊢
  unfold stV at *
  rw [hwA] at HST
  have HWA := hide hwA
  have HBA := hide hbA
  have HNN := hide hnn
  clear hwA hn hr hs hbA hnn hil hsi hsc
  go_enter Tryz.func126, Tryz.ntmps126
  go_wp2_with fail
  refine HST.out.mono ?_
  rintro e w1 ⟨gi', gc', rfl, hst, hg1, hg2, hb1⟩
  rw [← HWA.out] at hg1 hg2 hb1
  have hz1 := hb1.size
  have hA1 := (hb1.block _ (by omega)).trans hA
  obtain ⟨z0, z1, z2, z3⟩ := two_cells hA1
  have HS2 := hide (fun x y o => set2_alloc hA1 x y o)
  have HST1 := hide hst
  have HB1 := hide (HBA.out.trans (hb1.mono HBA.out.size))
  have hzl : w.heap.size + 1 + 1 < w1.heap.size := by omega
  clear hst hb1 HST hA hA1
  unfold stV
  go_wp2_with fail
  refine bodyPost_ret_by (v := stV gi' gc' n) ?_ rfl ?_
  · obtain ⟨y0, y1⟩ := HS2.out (.slice (some ⟨gi', 0, none⟩) n n) (.slice (some ⟨gc', 0, none⟩) n n) (.cells #[.slice (some ⟨gi', 0, none⟩) n n, .slice (some ⟨gc', 0, none⟩) n n] 105)
    simp [results, Tryz.results126, go_sem, stV, y0, y1]
  · refine ⟨gi', gc', rfl, ?_, by omega, by omega, ?_⟩
    · have hl := HST1.out.lt
      refine HST1.out.moved ?_ ?_
      · rw [Below.heap_alloc _ _ _ (by simp [World.setCell]; omega), Below.heap_setCell _ _ _ _ (fun e => by simp at e; omega), Below.heap_setCell _ _ _ _ (fun e => by simp at e; omega)]
      · rw [Below.heap_alloc _ _ _ (by simp [World.setCell]; omega), Below.heap_setCell _ _ _ _ (fun e => by simp at e; omega), Below.heap_setCell _ _ _ _ (fun e => by simp at e; omega)]
    · exact ((HB1.out.setCell (p := ⟨w.heap.size + 1 + 1, 0, none⟩) (by show w.heap.size ≤ w.heap.size + 1 + 1; omega) _).setCell (p := ⟨w.heap.size + 1 + 1, 1, none⟩) (by show w.heap.size ≤ w.heap.size + 1 + 1; omega) _).alloc (by simp [World.setCell]; omega) _
theorem ptrNe (w : World) (a : Addr) : (binOp BinOp.eql 22 (.pointer (some a)) (.pointer none)).run Tryz.prog w = .ok (.bool false) w := by kernel_rfl
set_option maxHeartbeats 2000000 in
set_option maxRecDepth 100000 in
theorem Input_any (bm : Nat) (p : Ld.Prg) (nv rv nx pv sv : Value) (S I i : Nat) (w : World) (h : MachAt w bm nv rv S I nx pv sv) (hp : IsPrg w p (.agg #[nv, rv])) (hi : i < I) (hck : Ld.check p = none) :
    Calls Tryz.prog 125 #[.pointer (some ⟨bm, 0, none⟩), .int .i64 (i : Int)] w fun e w' => ∃ g, e = .returned (slV g (Ld.kindL p.names 1).length) ∧ RowIs w' g 4 ((bitsTo i (Ld.kindL p.names 1).length).map boolV) ∧ w.heap.size ≤ g ∧ Below w.heap.size w w' := by
  obtain ⟨⟨c0, c1⟩, ⟨c2, c3⟩, c4, c5, c6⟩ := h.cells
  have hq : (Ld.kindL p.names 1).length ≤ 12 := Nat.le_trans (Ld.placesTo_le _ _ _) (Ld.check_names p hck).1
  obtain ⟨nv', rv', he, hn, hr⟩ := hp
  simp only [Value.agg.injEq, List.toArray_eq_iff, List.cons.injEq, and_true] at he
  obtain ⟨rfl, rfl⟩ := he
  have HKI := hide (Kind_any p.names nv rv 1 w hn (slice_ofR hr))
  obtain ⟨na, nk, nc, rfl⟩ := slice_of hn
  obtain ⟨ra, rk, rc, rfl⟩ := slice_ofR hr
  have pn := fun w a => ptrNe w a
  clear hn hr h c2 c4 c5 c6
  have hi' : (i : Int) < (I : Int) := by omega
  generalize (Ld.kindL p.names 1).length = q at *
  go_enter Tryz.func125, Tryz.ntmps125
  go_wp2_with fail
  refine HKI.out.mono ?_
  rintro e w1 ⟨kv, rfl, hown, hb1⟩
  obtain ⟨ka, kc, rfl⟩ := own_slice hown
  have HB1 := hide hb1
  have HTB := hide (toBools_any (i : Int) q w1 (by omega))
  clear hown hb1 HKI
  go_wp2_with fail
  refine HTB.out.mono ?_
  rintro e w2 ⟨g, rfl, hrow, hg, hb2⟩
  have HROW := hide hrow
  have HB2 := hide (HB1.out.trans (hb2.mono HB1.out.size))
  have hs1 := HB1.out.size
  clear hrow hb2 HTB
  unfold slV
  go_wp2_with fail
  go_ret
  exact ⟨g, rfl, HROW.out, by omega, HB2.out⟩
end
section
open Go.RowKit
theorem Tryz.infoInts : (Tryz.prog.info? 36).map (fun i => (i.zero, i.size, i.bytes)) = some (some (.slice none 0 0), 1, 24) := by kernel_rfl
theorem makeBss (n : Nat) (hn : n ≤ 1000000) (w : World) : (Instr.makeSlice 31 (.int .i64 (n : Int)) (.int .i64 (n : Int))).run Tryz.prog w = .ok (.slice (some ⟨w.heap.size, 0, none⟩) n n) (w.alloc (.cells ⟨List.replicate n (.slice none 0 0)⟩ 51)) :=
  make_one Tryz.underlying31 Tryz.infoBools rfl (by decide) n hn w
theorem makeIss (n : Nat) (hn : n ≤ 1000000) (w : World) : (Instr.makeSlice 46 (.int .i64 (n : Int)) (.int .i64 (n : Int))).run Tryz.prog w = .ok (.slice (some ⟨w.heap.size, 0, none⟩) n n) (w.alloc (.cells ⟨List.replicate n (.slice none 0 0)⟩ 36)) :=
  make_one Tryz.underlying46 Tryz.infoInts rfl (by decide) n hn w
/-- of m rows in a row of slices the first ones are laid -/
structure LL (W : World) (g : Nat) (t2 t1 : TypeId) (m n lo : Nat) (us : List Nat) (rows : Nat → List Value) : Prop where
  top : RowIs W g t2 ((us.map fun b => slV b n) ++ List.replicate (m - us.length) (.slice none 0 0))
  row : ∀ (j b : Nat), us[j]? = some b → RowIs W b t1 (rows j) ∧ lo ≤ b
theorem LL.empty {W : World} {g : Nat} {t2 t1 : TypeId} {m n lo : Nat} {rows : Nat → List Value} (h : RowIs W g t2 (List.replicate m (.slice none 0 0))) : LL W g t2 t1 m n lo [] rows := ⟨h, fun j b h => by simp at h⟩
theorem LL.lt {W : World} {g : Nat} {t2 t1 : TypeId} {m n lo : Nat} {us : List Nat} {rows : Nat → List Value} (h : LL W g t2 t1 m n lo us rows) (j b : Nat) (hj : us[j]? = some b) : b < W.heap.size := (h.row j b hj).1.lt
theorem LL.below {W W' : World} {g : Nat} {t2 t1 : TypeId} {m n lo : Nat} {us : List Nat} {rows : Nat → List Value} (h : LL W g t2 t1 m n lo us rows) (hb : Below W.heap.size W W') : LL W' g t2 t1 m n lo us rows := ⟨h.top.below hb, fun j b hj => ⟨(h.row j b hj).1.below hb, (h.row j b hj).2⟩⟩
theorem LL.cell {W : World} {g : Nat} {t2 t1 : TypeId} {m n lo : Nat} {us : List Nat} {rows : Nat → List Value} (h : LL W g t2 t1 m n lo us rows) (j b : Nat) (hj : us[j]? = some b) : W.cell? ⟨g, j, none⟩ = some (slV b n) :=
  h.top.cell j _ (by rw [List.getElem?_append_left (by rw [List.length_map]; exact (List.getElem?_eq_some_iff.1 hj).1), List.getElem?_map, hj]; rfl)
theorem LL.next {W : World} {g : Nat} {t2 t1 : TypeId} {m n lo : Nat} {us : List Nat} {rows : Nat → List Value} (h : LL W g t2 t1 m n lo us rows) (hm : us.length < m) : W.cell? ⟨g, us.length, none⟩ = some (.slice none 0 0) ∧ W.frozen? ⟨g, us.length, none⟩ = false :=
  ⟨h.top.cell _ _ (by rw [List.getElem?_append_right (by simp), List.getElem?_replicate, if_pos (by simp; omega)]), h.top.frozen _⟩
/-- the next row is laid -/
theorem LL.put {W W' : World} {g : Nat} {t2 t1 : TypeId} {m n lo b : Nat} {us : List Nat} {rows : Nat → List Value} (h : LL W g t2 t1 m n lo us rows) (hm : us.length < m) (hg : g < lo) (hb : lo ≤ b) (hrow : RowIs W' b t1 (rows us.length)) (hk : ∀ k, k < W.heap.size → W'.heap[k]? = (W.setCell ⟨g, us.length, none⟩ (slV b n)).heap[k]?) : LL W' g t2 t1 m n lo (us ++ [b]) rows := by
  have h1 := h.top.set us.length (slV b n)
  have h2 := fill_set (us.map fun b => slV b n) (.slice none 0 0) (slV b n) m (by simpa using hm)
  rw [List.length_map] at h2
  rw [h2] at h1
  refine ⟨?_, fun j x hj => ?_⟩
  · have h3 : RowIs W' g t2 _ := (hk g h.top.lt).trans h1
    simpa using h3
  · by_cases hjl : j < us.length
    · rw [List.getElem?_append_left hjl] at hj
      obtain ⟨h3, h4⟩ := h.row j x hj
      exact ⟨(hk x h3.lt).trans (h3.other g _ _ (by omega)), h4⟩
    · rw [List.getElem?_append_right (by omega)] at hj
      have hj2 : j - us.length < [b].length := (List.getElem?_eq_some_iff.1 hj).1
      have : j = us.length := by simp at hj2; omega
      subst this
      rw [Nat.sub_self] at hj
      simp only [List.getElem?_cons_zero, Option.some.injEq] at hj
      subst hj
      exact ⟨hrow, hb⟩
theorem cell_set_other (W : World) (b i j : Nat) (x v : Value) (hij : i ≠ j) (h : W.cell? ⟨b, i, none⟩ = some v) : (W.setCell ⟨b, j, none⟩ x).cell? ⟨b, i, none⟩ = some v := (World.cell?_setCell_other W ⟨b, j, none⟩ ⟨b, i, none⟩ x (by intro e; exact hij (congrArg Addr.off e).symm)).trans h
theorem cell_alloc_keep (W : World) (o : Obj) (p : Addr) (v : Value) (h : W.cell? p = some v) : (W.alloc o).cell? p = some v := (World.cell?_alloc_some W p o (by rw [h]; rfl)).trans h
theorem setCell_congr {A B : World} (p : Addr) (v : Value) {k : Nat} (h : B.heap[k]? = A.heap[k]?) : (B.setCell p v).heap[k]? = (A.setCell p v).heap[k]? := by simp [World.setCell, Array.getElem?_modify, h]
/-- the two tables are made -/
structure Made2 (W0 : World) (bm : Nat) (nv rv pv : Value) (S I : Nat) (gN gS : Nat) (W : World) : Prop where
  mach : MachAt W bm nv rv S I (slV gN S) pv (slV gS S)
  nx : RowIs W gN 36 (List.replicate S (.slice none 0 0))
  se : RowIs W gS 36 (List.replicate S (.slice none 0 0))
  ln : W0.heap.size ≤ gN ∧ W0.heap.size ≤ gS ∧ gN ≠ gS
  old : ∀ k, k < W0.heap.size → k ≠ bm → W.heap[k]? = W0.heap[k]?
  size : W0.heap.size + 2 ≤ W.heap.size
  os : W.os = W0.os ∧ W.tape = W0.tape ∧ W.output = W0.output
theorem made2_of {W0 : World} {bm : Nat} {nv rv pv nx sv : Value} {S I : Nat} (h : MachAt W0 bm nv rv S I nx pv sv) (a b : Nat) (hab : (a = W0.heap.size ∧ b = W0.heap.size + 1) ∨ (a = W0.heap.size + 1 ∧ b = W0.heap.size)) (c : List Value) (hc : c = List.replicate S (.slice none 0 0)) :
    Made2 W0 bm nv rv pv S I a b ((((W0.setCell ⟨bm, 4, none⟩ (slV a S)).setCell ⟨bm, 6, none⟩ (slV b S)).alloc (.cells ⟨c⟩ 36)).alloc (.cells ⟨c⟩ 36)).drew := by
  have hl : bm < W0.heap.size := (Array.getElem?_eq_some_iff.1 h).1
  obtain ⟨W1, hW1⟩ : ∃ W1, W1 = (W0.setCell ⟨bm, 4, none⟩ (slV a S)).setCell ⟨bm, 6, none⟩ (slV b S) := ⟨_, rfl⟩
  have h1 : MachAt W1 bm nv rv S I (slV a S) pv (slV b S) := by
    rw [hW1]
    unfold MachAt at *
    simp [World.setCell, Array.getElem?_modify, h]
  have hz : W1.heap.size = W0.heap.size := by rw [hW1]; simp [World.setCell]
  have ho : ∀ k, k ≠ bm → W1.heap[k]? = W0.heap[k]? := fun k hk => by rw [hW1, Below.heap_setCell _ _ _ _ (fun e => hk e), Below.heap_setCell _ _ _ _ (fun e => hk e)]
  have hos : W1.os = W0.os ∧ W1.tape = W0.tape ∧ W1.output = W0.output := by rw [hW1]; exact ⟨rfl, rfl, rfl⟩
  rw [← hW1]
  clear hW1
  have n1 : RowIs ((W1.alloc (.cells ⟨c⟩ 36)).alloc (.cells ⟨c⟩ 36)).drew W0.heap.size 36 (List.replicate S (.slice none 0 0)) := by
    rw [← hc, ← hz]; exact (RowIs.new W1 36 c).alloc _
  have n2 : RowIs ((W1.alloc (.cells ⟨c⟩ 36)).alloc (.cells ⟨c⟩ 36)).drew (W0.heap.size + 1) 36 (List.replicate S (.slice none 0 0)) := by
    have := RowIs.new (W1.alloc (.cells ⟨c⟩ 36)) 36 c
    rw [World.size_alloc, hz] at this
    rw [← hc]; exact this
  have hold : ∀ k, k < W0.heap.size → ((W1.alloc (.cells ⟨c⟩ 36)).alloc (.cells ⟨c⟩ 36)).drew.heap[k]? = W1.heap[k]? := fun k hk => (Below.heap_alloc (W1.alloc (.cells ⟨c⟩ 36)) _ k (by simp; omega)).trans (Below.heap_alloc W1 _ k (by omega))
  rcases hab with ⟨rfl, rfl⟩ | ⟨rfl, rfl⟩
  · exact ⟨(hold bm hl).trans h1, n1, n2, ⟨Nat.le_refl _, by omega, by omega⟩, fun k hk hne => (hold k hk).trans (ho k hne), by simp; omega, hos⟩
  · exact ⟨(hold bm hl).trans h1, n2, n1, ⟨by omega, Nat.le_refl _, by omega⟩, fun k hk hne => (hold k hk).trans (ho k hne), by simp; omega, hos⟩
end
section
open Go.RowKit
/-- a block in which no texts and no interface values lie -/
def Off (w : World) (b : Nat) : Prop := ∀ i u, w.cell? ⟨b, i, none⟩ = some u → (∀ s, u ≠ .string s) ∧ ∀ t y, u ≠ .iface t y
theorem IsEx.offB {ok : Nat → Prop} {w : World} {B : Nat → Prop} (hb : ∀ b, B b → Off w b) : ∀ (x : Ex) (v : Value), IsEx ok w x v → IsEx (fun g => ok g ∧ ¬ B g) w x v := by
  intro x
  induction x using Ex.ind with
  | h k nm l ih =>
    intro v h
    have hrow : ∀ g, Row w g (l.map fun x => IsEx ok w x) → Row w g (l.map fun x => IsEx (fun g => ok g ∧ ¬ B g) w x) := by
      intro g hr i P hP
      rw [List.getElem?_map] at hP
      cases hl : l[i]? with
      | none => rw [hl] at hP; simp at hP
      | some y =>
        rw [hl] at hP
        simp only [Option.map_some, Option.some.injEq] at hP
        obtain ⟨u, hu, hx⟩ := hr i (IsEx ok w y) (by rw [List.getElem?_map, hl]; rfl)
        exact ⟨u, hu, by rw [← hP]; exact ih y (List.mem_of_getElem? hl) u hx⟩
    have hlist : ∀ t, IsList ok w t l.length (l.map fun x => IsEx ok w x) v → IsList (fun g => ok g ∧ ¬ B g) w t l.length (l.map fun x => IsEx (fun g => ok g ∧ ¬ B g) w x) v := by
      rintro t ⟨h1, h2, g, cap, h3, h4, h5, h6⟩
      refine ⟨h1, h2, g, cap, h3, h4, ⟨h5, fun hB => ?_⟩, hrow g h6⟩
      have hl : l[0]? = some (l[0]'(by omega)) := List.getElem?_eq_getElem _
      obtain ⟨u, hu, hx⟩ := h6 0 (IsEx ok w (l[0]'(by omega))) (by rw [List.getElem?_map, hl]; rfl)
      obtain ⟨tt, yy, hy⟩ := IsEx.iface _ _ hx
      exact (hb g hB 0 u hu).2 tt yy hy
    match k, h with
    | 0, h => simp only [IsEx] at h ⊢; exact h
    | 1, h => simp only [IsEx] at h ⊢; exact h
    | 2, h => simp only [IsEx] at h ⊢; exact h
    | 3, h => simp only [IsEx] at h ⊢; exact h
    | 4, h => simp only [IsEx] at h ⊢; exact h
    | 5, h =>
      simp only [IsEx] at h ⊢
      obtain ⟨h1, h2, u, h3, h4⟩ := h
      refine ⟨h1, h2, u, h3, ?_⟩
      intro P hP
      rw [List.getElem?_map] at hP
      cases hl : l[0]? with
      | none => rw [hl] at hP; simp at hP
      | some y =>
        rw [hl] at hP
        simp only [Option.map_some, Option.some.injEq] at hP
        rw [← hP]
        exact ih y (List.mem_of_getElem? hl) u (h4 _ (by rw [List.getElem?_map, hl]; rfl))
    | 6, h => simp only [IsEx] at h ⊢; exact ⟨h.1, hlist _ h.2⟩
    | 7, h => simp only [IsEx] at h ⊢; exact ⟨h.1, hlist _ h.2⟩
    | n + 8, h => simp only [IsEx] at h
theorem IsPrg.offB {w w' : World} {p : Ld.Prg} {v : Value} (h : IsPrg w p v) {B : Nat → Prop} (hb : ∀ b, B b → Off w b) (hk : ∀ k, k < w.heap.size → ¬ B k → w'.heap[k]? = w.heap[k]?) : IsPrg w' p v := by
  have hc : ∀ g i u, ¬ B g → w.cell? ⟨g, i, none⟩ = some u → w'.cell? ⟨g, i, none⟩ = some u := fun g i u hg hu => by
    rw [World.cell?_of_block (w' := w') (w := w) (hk g (World.block_lt_of_cell? _ _ hu) hg)]; exact hu
  obtain ⟨nv, rv, h1, h2, h3⟩ := h
  refine ⟨nv, rv, h1, ?_, ?_⟩
  · rcases h2 with h2 | ⟨g, cap, e1, e2, e3, e4⟩
    · exact .inl h2
    · refine .inr ⟨g, cap, e1, e2, e3, fun i n hi => ?_⟩
      obtain ⟨f1, f2, f3, f4⟩ := e4 i n hi
      have hg : ¬ B g := fun hB => (hb g hB _ _ f1).1 _ rfl
      exact ⟨hc g _ _ hg f1, hc g _ _ hg f2, hc g _ _ hg f3, f4⟩
  · rcases h3 with h3 | ⟨g, cap, e1, e2, e3, e4⟩
    · exact .inl h3
    · refine .inr ⟨g, cap, e1, e2, e3, fun i n hi => ?_⟩
      obtain ⟨u, f1, f2, f3, f4, f5, f6⟩ := e4 i n hi
      have hg : ¬ B g := fun hB => (hb g hB _ _ f2).1 _ rfl
      refine ⟨u, hc g _ _ hg f1, hc g _ _ hg f2, hc g _ _ hg f3, f4, f5, ?_⟩
      cases hcd : n.cond with
      | none => rw [hcd] at f6; exact f6
      | some x =>
        rw [hcd] at f6
        exact ⟨IsEx.stay (fun g i u hg hc2 => hc g i u hg.2 hc2) (fun _ _ => trivial) x u (IsEx.offB hb x u f6.1), f6.2⟩
theorem off_row {W : World} {g : Nat} {t : TypeId} {l : List Value} (h : RowIs W g t l) (hl : ∀ u, u ∈ l → (∀ s, u ≠ .string s) ∧ ∀ t y, u ≠ .iface t y) : Off W g := by
  intro i u hu
  rw [Lib.cell_of_heap h] at hu
  exact hl u (List.mem_of_getElem? (by simpa using hu))
end
end Go.Proofs.YtgldbliohpfljaaGreatDoor
