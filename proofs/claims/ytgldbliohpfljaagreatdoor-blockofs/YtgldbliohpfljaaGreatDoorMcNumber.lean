/-
  The walk of package machine's number.
-/
import Derived.Test.YtgldbliohpfljaaGreatDoorMcBackAll
namespace Go.Proofs.YtgldbliohpfljaaGreatDoor
open Go.RowKit
attribute [local go_sem] Oper.semAt_some
namespace Mc
/-- the number, as the loop makes it: the last part first -/
def acc (l : List (Nat × Bool)) (s : Sc.St) (pre : List Nat) : Nat := pre.foldl (fun m k => m * (l.getD k (1, false)).1 + told (l.getD k (1, false)) (s.is.getD k false) (s.ct.getD k 0)) 0
theorem acc_snoc (l : List (Nat × Bool)) (s : Sc.St) (pre : List Nat) (k : Nat) : acc l s (pre ++ [k]) = acc l s pre * (l.getD k (1, false)).1 + told (l.getD k (1, false)) (s.is.getD k false) (s.ct.getD k 0) := by
  unfold acc; rw [List.foldl_append]; rfl
theorem acc_last (l : List (Nat × Bool)) (s : Sc.St) (hi : s.is.length = l.length) (hc : s.ct.length = l.length) : ∀ d j, j + d = l.length → acc l s (lastOnes l.length j) = number (l.drop j) (s.is.drop j) (s.ct.drop j)
  | 0, j, h => by
    have : j = l.length := by omega
    subst this
    rw [lastOnes_all, List.drop_length]
    rfl
  | d + 1, j, h => by
    have hj : j < l.length := by omega
    rw [← lastOnes_next l.length j hj, acc_snoc, acc_last l s hi hc d (j + 1) (by omega)]
    rw [List.drop_eq_getElem_cons hj, List.drop_eq_getElem_cons (l := s.is) (by omega : j < s.is.length), List.drop_eq_getElem_cons (l := s.ct) (by omega : j < s.ct.length), number_cons]
    simp [hj, hi, hc]
theorem acc_lt (l : List (Nat × Bool)) (s : Sc.St) (hi : s.is.length = l.length) (hc : s.ct.length = l.length) (hp : ∀ x, x ∈ l → okP x) (hok : ∀ (k : Nat) x c, l[k]? = some x → s.ct[k]? = some c → okS x c) (j : Nat) (hj : j ≤ l.length) : acc l s (lastOnes l.length j) < total l := by
  rw [acc_last l s hi hc (l.length - j) j (by omega)]
  have h1 := number_lt (l.drop j) (s.is.drop j) (s.ct.drop j) (fun x hx => hp x (List.mem_of_mem_drop hx)) (by simp [hi]) (by simp [hc]) (fun k x c hx hc => hok (j + k) x c (by rw [List.getElem?_drop] at hx; exact hx) (by rw [List.getElem?_drop] at hc; exact hc))
  have h2 : total l = total (l.take j) * total (l.drop j) := by rw [← total_append, List.take_append_drop]
  have h3 := total_pos (l.take j) (fun x hx => hp x (List.mem_of_mem_take hx))
  rw [h2]
  exact Nat.lt_of_lt_of_le h1 (Nat.le_mul_of_pos_left _ h3)
end Mc
theorem wpOp_in {P : Program} {ops : Array Oper} {Q : Exit → Act → World → Prop} {i : Nat} {o : Oper} {K : Act → World → Prop} {a : Act} {w : World} (ho : ops[i]? = some o) (hw : Region.wanted o (yielded ops a.tmps) = true) (h : o.wp P a w K Q) : wpOp P ops Q i K a w := by
  unfold wpOp
  rw [ho]
  simp only [hw, if_true]
  exact .inl h
theorem wpOp_k {P : Program} {ops : Array Oper} {Q : Exit → Act → World → Prop} {i : Nat} {o : Oper} {K : Act → World → Prop} {a : Act} {w : World} (ho : ops[i]? = some o) (hw : Region.wanted o (yielded ops a.tmps) = true) (h : ∀ K' : Act → World → Prop, (∀ a w, K a w → K' a w) → o.wp P a w K' Q) : wpOp P ops Q i K a w := wpOp_in ho hw (h K fun _ _ h => h)
/-- what the loop keeps -/
structure NumI (w : World) (gi gc n : Nat) (m : Nat) (W : World) : Prop where
  bel : Below w.heap.size w W
  st : W.heap[w.heap.size]? = some (.cells #[.slice (some ⟨gi, 0, none⟩) n n, .slice (some ⟨gc, 0, none⟩) n n] 105 (0, 0))
  var : W.heap[w.heap.size + 1]? = some (.cells #[.int .i64 (m : Int)] 3 (0, 0))
theorem NumI.turn {w : World} {gi gc n m : Nat} {A B : World} {row : Option Nat} (h : NumI w gi gc n m A) (hg : A.grownBy B row) (hr : ∀ r, row = some r → w.heap.size + 2 ≤ r) : NumI w gi gc n m B := by
  have h1 := (Array.getElem?_eq_some_iff.1 h.st).1
  have h2 := (Array.getElem?_eq_some_iff.1 h.var).1
  refine ⟨h.bel.grown hg (by omega) (fun r e => by have := hr r e; omega), ?_, ?_⟩
  · rw [hg.block _ h1 (fun e => by have := hr _ e.symm; omega)]; exact h.st
  · rw [hg.block _ h2 (fun e => by have := hr _ e.symm; omega)]; exact h.var
set_option maxHeartbeats 4000000 in
set_option maxRecDepth 100000 in
theorem number_any (l : List (Nat × Bool)) (g gi gc : Nat) (s : Sc.St) (w : World) (h : RowIs w g 234 (l.flatMap ptCells)) (hl : l.length ≤ 12) (hs : StAt w gi gc s) (hi : s.is.length = l.length) (hc : s.ct.length = l.length)
    (hp : ∀ x, x ∈ l → Mc.okP x) (hT : Mc.total l ≤ 4096) (h8 : ∀ x, x ∈ l → x.1 ≤ 8) (hok : ∀ (k : Nat) x c, l[k]? = some x → s.ct[k]? = some c → Mc.okS x c) :
    Calls Tryz.prog 127 #[slV g l.length, stV gi gc l.length] w fun e w' => e = .returned (.int .i64 (Mc.number l s.is s.ct : Int)) ∧ Below w.heap.size w w' := by
  have HBK := hide (fun W => Backward_any (slV g l.length) _ _ _ rfl W)
  have hgl := h.lt
  have HROW := hide h
  have HST := hide hs
  have hmx : Tryz.prog.follows .mixedOrders = true := by kernel_rfl
  have HEND := hide (Mc.acc_last l s hi hc l.length 0 (by omega))
  have HLT := hide (fun j hj => Mc.acc_lt l s hi hc hp hok j hj)
  refine callsIn_wide.1 (callsIn_of_wp_marks (n := 0) Tryz.func127 rfl trivial ?_ rfl)
  simp only [Tryz.ntmps127, List.size_toArray, List.length_cons, List.length_nil, Nat.reduceAdd, Nat.reduceSub, Array.replicate_succ, Array.replicate_zero, List.push_toArray, List.append_toArray, List.nil_append, List.cons_append]
  unfold stV slV at *
  obtain ⟨w0, hw0⟩ : ∃ w0, w0 = (w.alloc (.cells #[.slice (some ⟨gi, 0, none⟩) l.length l.length, .slice (some ⟨gc, 0, none⟩) l.length l.length] 105)).alloc (.cells #[.int .i64 0] 3) := ⟨_, rfl⟩
  have hz0 : w0.heap.size = w.heap.size + 1 + 1 := by rw [hw0]; simp
  gi_wp2_with fail
  refine ⟨trivial, rfl, ?_⟩
  rw [← hw0]
  refine (callsIn_wide.2 (HBK.out _)).mono ?_
  rintro e w1 ⟨rfl, hw1⟩
  have hz1 : w1.heap.size = w.heap.size + 3 := by rw [hw1]; simp [hz0]
  have hb0 : Below w.heap.size w w0 := by rw [hw0]; exact ((Below.refl _ w).alloc (Nat.le_refl _) _).alloc (by simp) _
  have hb1 : Below w0.heap.size w0 w1 := by rw [hw1]; exact (Below.refl _ w0).alloc (Nat.le_refl _) _
  have e0 : w0.heap[w.heap.size]? = some (.cells #[.slice (some ⟨gi, 0, none⟩) l.length l.length, .slice (some ⟨gc, 0, none⟩) l.length l.length] 105 (0, 0)) := by rw [hw0]; exact (Below.heap_alloc _ _ _ (by simp)).trans (heap_alloc_new w _)
  have e1 : w0.heap[w.heap.size + 1]? = some (.cells #[.int .i64 0] 3 (0, 0)) := by
    rw [hw0]
    have := heap_alloc_new (w.alloc (.cells #[.slice (some ⟨gi, 0, none⟩) l.length l.length, .slice (some ⟨gc, 0, none⟩) l.length l.length] 105)) (.cells #[.int .i64 0] 3)
    rw [World.size_alloc] at this
    exact this
  have hI0 : NumI w gi gc l.length 0 w1 := ⟨hb0.trans (hb1.mono (by omega)), (hb1.block _ (by omega)).trans e0, (hb1.block _ (by omega)).trans e1⟩
  have ebx : w1.heap[w.heap.size + 1 + 1]? = some (.cells #[slV g l.length] 100 (0, 0)) := by rw [hw1, ← hz0]; exact heap_alloc_new _ _
  have hseq := back_seq l g (w.heap.size + 1 + 1) w1 hl ebx
  rw [hz0]
  clear hw1 hw0
  gi_wp2_with fail
  refine range_lawK (gf := 202) (lb := #[.pointer (some ⟨w.heap.size + 1 + 1, 0, none⟩)]) rfl (fun _ _ => by kernel_rfl) hseq (fun k hk => by omega) (fun k hk => by omega) (fun _ => rfl)
    (fun pre W => NumI w gi gc l.length (Mc.acc l s pre) W) (fun _ _ => False)
    (fun pre W h => HROW.out.belowN h.bel hgl)
    (fun pre A B row h hg hr => h.turn hg (fun r e => by have := hr r e; unfold TurnX at this; omega)) (fun _ _ _ _ h _ _ => h)
    hI0
    (fun x W => W.alloc (.cells #[.int .i64 ((l.getD x (1, false)).1 : Int), .bool (l.getD x (1, false)).2] 234)) (fun x W => (Below.refl _ W).alloc (Nat.le_refl _) _)
    (fun x W => { tmps := #[.slice (some ⟨g, 0, none⟩) l.length l.length, .agg #[.slice (some ⟨gi, 0, none⟩) l.length l.length, .slice (some ⟨gc, 0, none⟩) l.length l.length], undef, .pointer (some ⟨w.heap.size, 0, none⟩), .int .i64 0, .pointer (some ⟨w.heap.size + 1, 0, none⟩), .int .i64 (x : Int), .pointer (some ⟨W.heap.size, 0, none⟩), .slice (some ⟨g, 0, none⟩) l.length l.length, .func (.func 202) #[] #[.pointer (some ⟨w.heap.size + 1 + 1, 0, none⟩)], .int .i64 (x : Int), .agg #[.int .i64 ((l.getD x (1, false)).1 : Int), .bool (l.getD x (1, false)).2], undef, undef, undef, undef, undef, undef, undef, undef, undef, undef, undef, undef, undef, undef, undef, undef, undef, undef], defers := [] }) ?assign ?body ?done ?stop
  case assign =>
    intro lb x W K hK
    unfold ptAt
    gi_wp2
    exact hK
  case done =>
    rintro xs W hS hI hdf
    subst hS
    rw [HEND.out] at hI
    have v0 : W.cell? ⟨w.heap.size + 1, 0, none⟩ = some (.int .i64 (Mc.number l s.is s.ct : Int)) := by rw [Lib.cell_of_heap hI.var]; rfl
    have HI := hide hI.bel
    clear hI
    have HD := hide hdf
    clear hdf
    gi_wp2_with fail
    refine ⟨by simp, .inl ⟨_, _, rfl, run_takeDeferred HD.out, ?_⟩⟩
    have hg := grownBy_putObj' W w1.heap.size (.deferred none)
    exact ⟨_, results_tmp rfl _ _ _, rfl, HI.out.grown hg (by have := (Array.getElem?_eq_some_iff.1 HD.out).1; omega) (fun k hk => by cases hk; omega)⟩
  case stop => exact fun _ _ _ h => h.elim
  case body =>
    rintro lb pre x W U hsz hUo hUs hI ⟨hxl, hpre⟩
    have hacc : Mc.acc l s (pre ++ [x]) < 4096 := by
      rw [hpre, lastOnes_next l.length x hxl]
      exact Nat.lt_of_lt_of_le (HLT.out x (by omega)) hT
    have hap : Mc.acc l s pre < 4096 := by rw [hpre]; exact Nat.lt_of_lt_of_le (HLT.out (x + 1) (by omega)) hT
    have HSN := hide (Mc.acc_snoc l s pre x)
    have hgd : l.getD x (1, false) = l[x] := by simp [hxl]
    have h8x := h8 _ (List.getElem_mem hxl)
    have hox := hok x l[x] (s.ct[x]'(by omega)) (List.getElem?_eq_getElem hxl) (List.getElem?_eq_getElem _)
    have hcx : s.ct.getD x 0 = s.ct[x]'(by omega) := by simp [hc, hxl]
    rw [← hcx] at hox
    have hsA : w1.heap.size + 2 ≤ W.heap.size := by omega
    have hUz : U.heap.size = W.heap.size + 1 := by rw [hUs]; simp
    have hUx : U.heap[W.heap.size]? = some (.cells #[.int .i64 ((l.getD x (1, false)).1 : Int), .bool (l.getD x (1, false)).2] 234 (0, 0)) := (hUo _ (by omega)).trans (heap_alloc_new W _)
    have hstU : StAt U gi gc s := ⟨(hI.bel.block _ HST.out.lt.1).trans HST.out.bi, (hI.bel.block _ HST.out.lt.2).trans HST.out.bc⟩
    have s1 : U.cell? ⟨w.heap.size + 1, 0, none⟩ = some (.int .i64 (Mc.acc l s pre : Int)) := by rw [Lib.cell_of_heap hI.var]; rfl
    have s2 : U.cell? ⟨W.heap.size, 0, none⟩ = some (.int .i64 ((l.getD x (1, false)).1 : Int)) := by rw [Lib.cell_of_heap hUx]; rfl
    have s3 : U.cell? ⟨W.heap.size, 1, none⟩ = some (.bool (l.getD x (1, false)).2) := by rw [Lib.cell_of_heap hUx]; rfl
    have s4 : U.cell? ⟨w.heap.size, 0, none⟩ = some (.slice (some ⟨gi, 0, none⟩) l.length l.length) := by rw [Lib.cell_of_heap hI.st]; rfl
    have s5 : U.cell? ⟨w.heap.size, 1, none⟩ = some (.slice (some ⟨gc, 0, none⟩) l.length l.length) := by rw [Lib.cell_of_heap hI.st]; rfl
    have s6 := hstU.cellI x (by omega)
    have s7 := hstU.cellC x (by omega)
    have hxi : (x : Int) < (l.length : Int) := by omega
    rw [hgd] at s2 s3 HSN ⊢
    have HTD := hide (fun Z => told_any' (l[x].1 : Int) l[x].2 (s.is.getD x false) (s.ct.getD x 0) Z)
    have HTV : Hid ((if l[x].2 then s.ct.getD x 0 else if s.is.getD x false && decide (1 < (l[x].1 : Int)) then 1 else 0) = ((Mc.told l[x] (s.is.getD x false) (s.ct.getD x 0) : Nat) : Int)) := by
      show _ = _
      unfold Mc.told
      cases hq : l[x].2 with
      | true => have := (hox hq).1; simp only [if_true]; omega
      | false =>
        simp only [Bool.false_eq_true, if_false]
        have : decide (1 < (l[x].1 : Int)) = decide (1 < l[x].1) := by rw [decide_eq_decide]; omega
        rw [this]
        split <;> rfl
    obtain ⟨tv, htv⟩ : ∃ tv, tv = Mc.told l[x] (s.is.getD x false) (s.ct.getD x 0) := ⟨_, rfl⟩
    rw [← htv] at HTV HSN
    rw [HTV.out] at HTD
    generalize hofx : l[x].1 = of at *
    generalize hcnx : l[x].2 = cn at *
    generalize s.is.getD x false = iv at *
    generalize s.ct.getD x 0 = cv at *
    obtain ⟨pr, hpr⟩ : ∃ pr, pr = Mc.acc l s pre * of := ⟨_, rfl⟩
    rw [← hpr] at HSN
    have hpi : ((Mc.acc l s pre : Nat) : Int) * (of : Int) = (pr : Int) := by rw [hpr, Int.natCast_mul]
    have hprb : pr ≤ 32768 := by rw [hpr]; exact Nat.mul_le_mul (Nat.le_of_lt hap) h8x
    have hsum : pr + tv < 4096 := by rw [← HSN.out]; exact hacc
    clear hpre hcx hgd hofx hcnx htv hpr hox
    gi_wp2_with fail
    obtain ⟨V, hV⟩ : ∃ V, V = U.drew.alloc (.cells #[.int .i64 (of : Int), .bool cn] 234) := ⟨_, rfl⟩
    have ca : ∀ {p : Addr} {v : Value}, U.cell? p = some v → V.cell? p = some v := fun {p v} hp => by rw [hV]; exact (World.cell?_alloc_some U.drew p _ (by show (U.cell? p).isSome = true; rw [hp]; rfl)).trans hp
    have hVb : ∀ k, k < U.heap.size → V.heap[k]? = U.heap[k]? := fun k hk => by rw [hV]; exact Below.heap_alloc _ _ _ hk
    have hVz : V.heap.size = U.heap.size + 1 := by rw [hV]; simp
    have hvl : w.heap.size + 1 < U.heap.size := (Array.getElem?_eq_some_iff.1 hI.var).1
    have hvV := (hVb _ hvl).trans hI.var
    have HFIN : Hid (∀ a, BodyX (TurnX (fun _ k => k = w.heap.size + 1 + 1) w1.heap.size) (fun pre W => NumI w gi gc l.length (Mc.acc l s pre) W) (fun _ _ => False) (pre ++ [x]) U .normal a (V.setCell ⟨w.heap.size + 1, 0, none⟩ (.int .i64 ((pr : Int) + (tv : Int))))) := by
      intro a
      have hsl := (Array.getElem?_eq_some_iff.1 hI.st).1
      have hk : ∀ k, k ≠ w.heap.size + 1 → k < U.heap.size → (V.setCell ⟨w.heap.size + 1, 0, none⟩ (.int .i64 ((pr : Int) + (tv : Int)))).heap[k]? = U.heap[k]? := fun k h1 h2 => by
        rw [Below.heap_setCell _ _ _ _ (fun e => h1 e)]; exact hVb k h2
      have hVo : V.os = U.os ∧ V.tape = U.tape ∧ V.output = U.output := by rw [hV]; exact ⟨rfl, rfl, rfl⟩
      refine ⟨⟨by simp [World.setCell]; omega, fun k hk2 => hk k ?_ ?_⟩, ⟨hVo.1.trans hI.bel.os, hVo.2.1.trans hI.bel.tape, hVo.2.2.trans hI.bel.output, ?_, fun k h1 => ?_⟩, ?_, ?_⟩
      · unfold TurnX at hk2; omega
      · unfold TurnX at hk2; omega
      · have := hI.bel.size; simp [World.setCell]; omega
      · rw [hk k (by omega) (by omega)]; exact hI.bel.block k h1
      · rw [hk _ (by omega) hsl]; exact hI.st
      · rw [HSN.out, Int.natCast_add]
        simp [World.setCell, Array.getElem?_modify, hvV]
    have y0 : V.cell? ⟨w.heap.size + 1, 0, none⟩ = some (.int .i64 (Mc.acc l s pre : Int)) := by rw [Lib.cell_of_heap hvV]; rfl
    have y1 : V.frozen? ⟨w.heap.size + 1, 0, none⟩ = false := Lib.frozen_of_heap hvV 0
    have sb : ∀ {b i : Nat} {v : Value}, b ≠ w.heap.size + 1 → U.cell? ⟨b, i, none⟩ = some v → (V.setCell ⟨w.heap.size + 1, 0, none⟩ (.int .i64 ((pr : Int) + (tv : Int)))).cell? ⟨b, i, none⟩ = some v := fun {b i v} hb hp => by
      rw [World.cell?_of_block (w' := V.setCell ⟨w.heap.size + 1, 0, none⟩ (.int .i64 ((pr : Int) + (tv : Int)))) (w := V) (a := ⟨b, i, none⟩) (Below.heap_setCell _ _ _ _ (fun e => hb e))]
      exact ca hp
    have SB : Hid ((V.setCell ⟨w.heap.size + 1, 0, none⟩ (.int .i64 ((pr : Int) + (tv : Int)))).cell? ⟨W.heap.size, 0, none⟩ = some (.int .i64 (of : Int)) ∧ (V.setCell ⟨w.heap.size + 1, 0, none⟩ (.int .i64 ((pr : Int) + (tv : Int)))).cell? ⟨W.heap.size, 1, none⟩ = some (.bool cn) ∧ (V.setCell ⟨w.heap.size + 1, 0, none⟩ (.int .i64 ((pr : Int) + (tv : Int)))).cell? ⟨w.heap.size, 0, none⟩ = some (.slice (some ⟨gi, 0, none⟩) l.length l.length) ∧ (V.setCell ⟨w.heap.size + 1, 0, none⟩ (.int .i64 ((pr : Int) + (tv : Int)))).cell? ⟨w.heap.size, 1, none⟩ = some (.slice (some ⟨gc, 0, none⟩) l.length l.length) ∧ (V.setCell ⟨w.heap.size + 1, 0, none⟩ (.int .i64 ((pr : Int) + (tv : Int)))).cell? ⟨gi, x, none⟩ = some (.bool iv) ∧ (V.setCell ⟨w.heap.size + 1, 0, none⟩ (.int .i64 ((pr : Int) + (tv : Int)))).cell? ⟨gc, x, none⟩ = some (.int .i64 cv)) :=
      ⟨sb (by omega) s2, sb (by omega) s3, sb (by omega) s4, sb (by omega) s5, sb (by have := HST.out.lt.1; omega) s6, sb (by have := HST.out.lt.2; omega) s7⟩
    have HCA : Hid (V.cell? ⟨W.heap.size, 0, none⟩ = some (.int .i64 (of : Int)) ∧ V.cell? ⟨W.heap.size, 1, none⟩ = some (.bool cn) ∧ V.cell? ⟨w.heap.size, 0, none⟩ = some (.slice (some ⟨gi, 0, none⟩) l.length l.length) ∧ V.cell? ⟨w.heap.size, 1, none⟩ = some (.slice (some ⟨gc, 0, none⟩) l.length l.length) ∧ V.cell? ⟨gi, x, none⟩ = some (.bool iv) ∧ V.cell? ⟨gc, x, none⟩ = some (.int .i64 cv)) := ⟨ca s2, ca s3, ca s4, ca s5, ca s6, ca s7⟩
    have HVE := hide hV
    clear hV sb ca hVb hvV
    refine region_in (S := fun Z => Z.cell? ⟨W.heap.size, 0, none⟩ = some (.int .i64 (of : Int)) ∧ Z.cell? ⟨W.heap.size, 1, none⟩ = some (.bool cn) ∧ Z.cell? ⟨w.heap.size, 0, none⟩ = some (.slice (some ⟨gi, 0, none⟩) l.length l.length) ∧ Z.cell? ⟨w.heap.size, 1, none⟩ = some (.slice (some ⟨gc, 0, none⟩) l.length l.length) ∧ Z.cell? ⟨gi, x, none⟩ = some (.bool iv) ∧ Z.cell? ⟨gc, x, none⟩ = some (.int .i64 cv)) hmx (by kernel_rfl) ?hq ?_
    case hq =>
      rintro ⟨a, Z, hh⟩
      exact hh
    refine wpAnyH_take (i := 1) (v := .pointer (some ⟨W.heap.size, 0, none⟩)) rfl (by kernel_rfl) (by kernel_rfl) (by kernel_rfl) (fun _ _ _ h => h) (Or.inl ⟨by rfl, ?_⟩) ⟨s2, s3, s4, s5, s6, s7⟩ ?_
    · rintro Z ⟨z2, z3, z4, z5, z6, z7⟩
      go_simp
    refine wpAnyH_take (i := 2) (v := .int .i64 (of : Int)) rfl (by kernel_rfl) (by kernel_rfl) (by kernel_rfl) (fun _ _ _ h => h) (Or.inl ⟨by rfl, ?_⟩) ⟨s2, s3, s4, s5, s6, s7⟩ ?_
    · rintro Z ⟨z2, z3, z4, z5, z6, z7⟩
      go_simp
    refine wpAnyH_take (i := 4) (v := .agg #[.int .i64 (of : Int), .bool cn]) rfl (by kernel_rfl) (by kernel_rfl) (by kernel_rfl) (fun _ _ _ h => h) (Or.inl ⟨by rfl, ?_⟩) ⟨s2, s3, s4, s5, s6, s7⟩ ?_
    · rintro Z ⟨z2, z3, z4, z5, z6, z7⟩
      go_simp
    refine wpAnyH_take (i := 5) (v := .pointer (some ⟨w.heap.size, 0, none⟩)) rfl (by kernel_rfl) (by kernel_rfl) (by kernel_rfl) (fun _ _ _ h => h) (Or.inl ⟨by rfl, ?_⟩) ⟨s2, s3, s4, s5, s6, s7⟩ ?_
    · rintro Z ⟨z2, z3, z4, z5, z6, z7⟩
      go_simp
    refine wpAnyH_take (i := 6) (v := .slice (some ⟨gi, 0, none⟩) l.length l.length) rfl (by kernel_rfl) (by kernel_rfl) (by kernel_rfl) (fun _ _ _ h => h) (Or.inl ⟨by rfl, ?_⟩) ⟨s2, s3, s4, s5, s6, s7⟩ ?_
    · rintro Z ⟨z2, z3, z4, z5, z6, z7⟩
      go_simp
    refine wpAnyH_take (i := 7) (v := .int .i64 (x : Int)) rfl (by kernel_rfl) (by kernel_rfl) (by kernel_rfl) (fun _ _ _ h => h) (Or.inl ⟨by rfl, ?_⟩) ⟨s2, s3, s4, s5, s6, s7⟩ ?_
    · rintro Z ⟨z2, z3, z4, z5, z6, z7⟩
      go_simp
    refine wpAnyH_take (i := 8) (v := .pointer (some ⟨gi, x, none⟩)) rfl (by kernel_rfl) (by kernel_rfl) (by kernel_rfl) (fun _ _ _ h => h) (Or.inl ⟨by rfl, ?_⟩) ⟨s2, s3, s4, s5, s6, s7⟩ ?_
    · rintro Z ⟨z2, z3, z4, z5, z6, z7⟩
      go_simp
    refine wpAnyH_take (i := 9) (v := .bool iv) rfl (by kernel_rfl) (by kernel_rfl) (by kernel_rfl) (fun _ _ _ h => h) (Or.inl ⟨by rfl, ?_⟩) ⟨s2, s3, s4, s5, s6, s7⟩ ?_
    · rintro Z ⟨z2, z3, z4, z5, z6, z7⟩
      go_simp
    refine wpAnyH_take (i := 10) (v := .pointer (some ⟨w.heap.size, 1, none⟩)) rfl (by kernel_rfl) (by kernel_rfl) (by kernel_rfl) (fun _ _ _ h => h) (Or.inl ⟨by rfl, ?_⟩) ⟨s2, s3, s4, s5, s6, s7⟩ ?_
    · rintro Z ⟨z2, z3, z4, z5, z6, z7⟩
      go_simp
    refine wpAnyH_take (i := 11) (v := .slice (some ⟨gc, 0, none⟩) l.length l.length) rfl (by kernel_rfl) (by kernel_rfl) (by kernel_rfl) (fun _ _ _ h => h) (Or.inl ⟨by rfl, ?_⟩) ⟨s2, s3, s4, s5, s6, s7⟩ ?_
    · rintro Z ⟨z2, z3, z4, z5, z6, z7⟩
      go_simp
    refine wpAnyH_take (i := 12) (v := .int .i64 (x : Int)) rfl (by kernel_rfl) (by kernel_rfl) (by kernel_rfl) (fun _ _ _ h => h) (Or.inl ⟨by rfl, ?_⟩) ⟨s2, s3, s4, s5, s6, s7⟩ ?_
    · rintro Z ⟨z2, z3, z4, z5, z6, z7⟩
      go_simp
    refine wpAnyH_take (i := 13) (v := .pointer (some ⟨gc, x, none⟩)) rfl (by kernel_rfl) (by kernel_rfl) (by kernel_rfl) (fun _ _ _ h => h) (Or.inl ⟨by rfl, ?_⟩) ⟨s2, s3, s4, s5, s6, s7⟩ ?_
    · rintro Z ⟨z2, z3, z4, z5, z6, z7⟩
      go_simp
    refine wpAnyH_take (i := 14) (v := .int .i64 cv) rfl (by kernel_rfl) (by kernel_rfl) (by kernel_rfl) (fun _ _ _ h => h) (Or.inl ⟨by rfl, ?_⟩) ⟨s2, s3, s4, s5, s6, s7⟩ ?_
    · rintro Z ⟨z2, z3, z4, z5, z6, z7⟩
      go_simp
    refine wpAnyH_all (rs := [0, 15]) (by kernel_rfl) (by simp) ?_
    intro i hmem
    rcases List.mem_cons.1 hmem with rfl | hmem
    · refine wpOp_k rfl (by rfl) (fun K' hK => ?_)
      go_simp
      refine hK _ _ ⟨⟨s2, s3, s4, s5, s6, s7⟩, ?_⟩
      clear hK K'
      refine wpAnyH_take (i := 3) (v := .int .i64 (pr : Int)) rfl (by kernel_rfl) (by kernel_rfl) (by kernel_rfl) (fun _ _ _ h => h) (Or.inl ⟨by rfl, ?_⟩) ⟨s2, s3, s4, s5, s6, s7⟩ ?_
      · rintro Z ⟨z2, z3, z4, z5, z6, z7⟩
        go_simp
        (rw [IntKind.wrap_i64]; omega)
      refine wpAnyH_all (rs := [15]) (by kernel_rfl) (by simp) ?_
      intro i hmem
      obtain rfl := List.mem_singleton.1 hmem
      refine wpOp_k rfl (by rfl) (fun K' hK => ?_)
      go_simp
      refine (HTD.out _).mono ?_
      rintro e Z ⟨rfl, hZ⟩
      have hZV : Z = V := hZ.trans HVE.out.symm
      clear hZ
      subst hZV
      refine hK _ _ ⟨HCA.out, ?_⟩
      clear hK K'
      refine wpAnyH_take (i := 16) (v := .int .i64 ((pr : Int) + (tv : Int))) rfl (by kernel_rfl) (by kernel_rfl) (by kernel_rfl) (fun _ _ _ h => h) (Or.inl ⟨by rfl, ?_⟩) HCA.out ?_
      · rintro Z ⟨z2, z3, z4, z5, z6, z7⟩
        go_simp
        rw [IntKind.wrap_i64]; omega
      refine wpAnyH_all (rs := [17]) (by kernel_rfl) (by simp) ?_
      intro i hmem
      obtain rfl := List.mem_singleton.1 hmem
      refine wpOp_k rfl (by rfl) (fun K' hK => ?_)
      go_simp
      refine hK _ _ ⟨SB.out, ?_⟩
      refine wpAnyH_done (by kernel_rfl) ?_ _
      exact HFIN.out { tmps := #[], defers := [] }
    · obtain rfl := List.mem_singleton.1 hmem
      refine wpOp_k rfl (by rfl) (fun K' hK => ?_)
      go_simp
      refine (HTD.out _).mono ?_
      rintro e Z ⟨rfl, hZ⟩
      have hZV : Z = V := hZ.trans HVE.out.symm
      clear hZ
      subst hZV
      refine hK _ _ ⟨HCA.out, ?_⟩
      clear hK K'
      refine wpAnyH_all (rs := [0]) (by kernel_rfl) (by simp) ?_
      intro i hmem
      obtain rfl := List.mem_singleton.1 hmem
      refine wpOp_k rfl (by rfl) (fun K' hK => ?_)
      go_simp
      refine hK _ _ ⟨HCA.out, ?_⟩
      clear hK K'
      refine wpAnyH_take (i := 3) (v := .int .i64 (pr : Int)) rfl (by kernel_rfl) (by kernel_rfl) (by kernel_rfl) (fun _ _ _ h => h) (Or.inl ⟨by rfl, ?_⟩) HCA.out ?_
      · rintro Z ⟨z2, z3, z4, z5, z6, z7⟩
        go_simp
        (rw [IntKind.wrap_i64]; omega)
      refine wpAnyH_take (i := 16) (v := .int .i64 ((pr : Int) + (tv : Int))) rfl (by kernel_rfl) (by kernel_rfl) (by kernel_rfl) (fun _ _ _ h => h) (Or.inl ⟨by rfl, ?_⟩) HCA.out ?_
      · rintro Z ⟨z2, z3, z4, z5, z6, z7⟩
        go_simp
        rw [IntKind.wrap_i64]; omega
      refine wpAnyH_all (rs := [17]) (by kernel_rfl) (by simp) ?_
      intro i hmem
      obtain rfl := List.mem_singleton.1 hmem
      refine wpOp_k rfl (by rfl) (fun K' hK => ?_)
      go_simp
      refine hK _ _ ⟨SB.out, ?_⟩
      refine wpAnyH_done (by kernel_rfl) ?_ _
      exact HFIN.out { tmps := #[], defers := [] }
end Go.Proofs.YtgldbliohpfljaaGreatDoor
