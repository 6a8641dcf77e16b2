/-
  The walk of package reach's Path.
-/
import Derived.Test.YtdmnikbhkpcdpaaGreatDoorRcPthMAll
namespace Go.Proofs.YtdmnikbhkpcdpaaGreatDoor
open Go.RowKit
attribute [local go_sem] Oper.semAt_some
/-- what Path comes to -/
def Pathed (w : World) (q : Rc.Qu) (s : Nat) (e : Ending) (w' : World) : Prop := Below w.heap.size w w' ∧ (if (q.at_ s).far < 0 then e = .returned (.tuple #[.slice none 0 0, .iface 58 (.int .i64 8)]) else ∃ g, e = .returned (.tuple #[slV g (q.at_ s).far.toNat, .nilIface]) ∧ RowIs w' g 3 ((Rc.pathOf q (q.at_ s).far.toNat s).map intV) ∧ w.heap.size ≤ g)
/-- what the loop keeps: d inputs of the way are filled -/
structure PthI (w : World) (bT bS bP g gp S n : Nat) (q : Rc.Qu) (s d : Nat) (W : World) : Prop where
  bel : Below w.heap.size w W
  vT : W.heap[bT]? = some (.cells #[.int .i64 (Rc.back q d s : Int)] 3 (0, 0))
  vS : W.heap[bS]? = some (.cells #[slV g S] 97 (0, 0))
  vP : W.heap[bP]? = some (.cells #[slV gp n] 22 (0, 0))
  row : RowIs W gp 3 (pthRow q s n d)
  stp : RowIs W g 100 (q.steps.flatMap stpCells)
theorem PthI.turn {w : World} {bT bS bP g gp S n : Nat} {q : Rc.Qu} {s d : Nat} {A B : World} {row : Option Nat} (h : PthI w bT bS bP g gp S n q s d A) (hg : A.grownBy B row) (hr : ∀ r, row = some r → w.heap.size ≤ r ∧ r ≠ bT ∧ r ≠ bS ∧ r ≠ bP ∧ r ≠ g ∧ r ≠ gp) : PthI w bT bS bP g gp S n q s d B := by
  have hb : ∀ b, b < A.heap.size → (b = bT ∨ b = bS ∨ b = bP ∨ b = g ∨ b = gp) → B.heap[b]? = A.heap[b]? := fun b hb hx => hg.block b hb (fun e => by have := hr b e.symm; omega)
  refine ⟨h.bel.grown hg h.bel.size (fun r e => (hr r e).1), (hb _ (Array.getElem?_eq_some_iff.1 h.vT).1 (by simp)).trans h.vT, (hb _ (Array.getElem?_eq_some_iff.1 h.vS).1 (by simp)).trans h.vS, (hb _ (Array.getElem?_eq_some_iff.1 h.vP).1 (by simp)).trans h.vP, (hb _ h.row.lt (by simp)).trans h.row, (hb _ h.stp.lt (by simp)).trans h.stp⟩
theorem not_in_last (n : Nat) (pre : List Nat) (j : Nat) (hp : pre = lastOnes n (n - pre.length)) (hj : j < n) (hn : j ∉ pre) : j < n - pre.length := by
  refine Classical.byContradiction fun hx => hn ?_
  rw [hp]
  unfold lastOnes
  rw [List.mem_reverse]
  exact List.mem_iff_getElem.2 ⟨j - (n - pre.length), by simp; omega, by rw [List.getElem_drop, List.getElem_range]; omega⟩
set_option maxHeartbeats 8000000 in
set_option maxRecDepth 100000 in
theorem Path_any (bm S I gN : Nat) (next : Nat → List Nat) (uN : List Nat) (s : Nat) (w : World) (h : NextAt w bm S I next gN uN) (hS1 : 1 ≤ S) (hS : S ≤ 4096) (hI : I ≤ 64) (hnl : ∀ s, (next s).length = I) (hnx : ∀ f s, f < S → s ∈ next f → s < S) (hs : s < S) :
    Calls Tryz.prog 21 #[.pointer (some ⟨bm, 0, none⟩), .int .i64 (s : Int)] w (Pathed w (Rc.walk next S) s) := by
  have hmx : Tryz.prog.follows .mixedOrders = true := by kernel_rfl
  have HW := hide (fun W (hW : Below w.heap.size w W) => walk_any bm S I gN next uN W (h.below hW) hS1 hS hI hnl hnx)
  have HFR := hide (Rc.walk_far next S hS1 hnx)
  have pn := fun w a => ptrNe w a
  obtain ⟨q, hq⟩ : ∃ q, q = Rc.walk next S := ⟨_, rfl⟩
  have HQ := hide hq
  rw [← hq] at HFR ⊢
  have c4 := h.1
  have hbm : bm < w.heap.size := World.block_lt_of_cell? _ _ c4
  obtain ⟨wA, hwA⟩ : ∃ wA, wA = w.alloc (.cells #[.int .i64 (s : Int)] 3) := ⟨_, rfl⟩
  have hbA : Below w.heap.size w wA := by rw [hwA]; exact (Below.refl _ _).alloc (Nat.le_refl _) _
  have hsA : wA.heap.size = w.heap.size + 1 := by rw [hwA]; simp
  have hA : wA.heap[w.heap.size]? = some (.cells #[.int .i64 (s : Int)] 3 (0, 0)) := by rw [hwA]; exact heap_alloc_new _ _
  have a0 : wA.cell? ⟨w.heap.size, 0, none⟩ = some (.int .i64 (s : Int)) := by rw [Lib.cell_of_heap hA]; rfl
  have a4 := (hbA.cell (p := ⟨bm, 4, none⟩) hbm).trans c4
  have HBA := hide hbA
  have HA := hide hA
  have hsS : (s : Int) < (S : Int) := by omega
  have hs0 : ¬ (s : Int) < 0 := by omega
  have hSs : ¬ S ≤ s := by omega
  clear h hnl hnx hq hbA hA c4
  refine callsIn_wide.1 (callsIn_of_wp_marks (n := 0) Tryz.func21 rfl trivial ?_ rfl)
  simp only [Tryz.ntmps21, List.size_toArray, List.length_cons, List.length_nil, Nat.reduceAdd, Nat.reduceSub, Array.replicate_succ, Array.replicate_zero, List.push_toArray, List.append_toArray, List.nil_append, List.cons_append]
  refine wpIn_wide.2 ?_
  go_wp2_with fail
  rw [← hwA]
  clear hwA
  go_quiet (fail)
  obtain ⟨wD, hwD⟩ : ∃ wD, wD = wA.drewN nq := ⟨_, rfl⟩
  have hbD : Below wA.heap.size wA wD := by rw [hwD]; exact ⟨rfl, rfl, rfl, Nat.le_refl _, fun _ _ => rfl⟩
  have HBD := hide (HBA.out.trans (hbD.mono HBA.out.size))
  have hzD : wD.heap.size = wA.heap.size := by rw [hwD]; rfl
  have HDA := hide ((hbD.block _ (by omega)).trans HA.out)
  rw [← hwD]
  have HW1 := hide (HW.out wD HBD.out)
  clear hwD hbD HW a0 a4
  go_wp2_with fail
  refine HW1.out.mono ?_
  rintro e w1 ⟨g, rfl, hrow, hg, hb1⟩
  rw [← HQ.out] at hrow
  have hz1 := hb1.size
  have hT1 := (hb1.block _ (by omega)).trans HDA.out
  have HB1 := hide (HBD.out.trans (hb1.mono HBD.out.size))
  have hsl : s < q.steps.length := by rw [HFR.out.len]; exact hs
  have d0 : w1.cell? ⟨w.heap.size, 0, none⟩ = some (.int .i64 (s : Int)) := by rw [Lib.cell_of_heap hT1]; rfl
  have d2 : w1.cell? ⟨g, s * 3, none⟩ = some (.int .i64 (q.at_ s).far) := (stp_cell hrow s hsl).1
  have hgl := hrow.lt
  have hwl : w.heap.size < w1.heap.size := by omega
  have HT1 := hide hT1
  have HR1 := hide hrow
  obtain ⟨fr, hfr⟩ : ∃ fr, fr = (q.at_ s).far := ⟨_, rfl⟩
  have HFA := hide hfr
  rw [← hfr] at d2
  obtain ⟨l1, l2, l3⟩ := HFR.out.low s hs
  rw [← hfr] at l1 l2 l3
  have HB2 : Hid (∀ o, Below w.heap.size w (w1.alloc o)) := fun o => HB1.out.alloc HB1.out.size o
  unfold slV
  clear hrow hb1 hT1 HW1 hfr
  by_cases hneg : fr < 0
  · have HN1 : Hid ((q.at_ s).far < 0) := by rw [← HFA.out]; exact hneg
    go_wp2_with fail
    refine ⟨_, results_tmp2 rfl _ _ _, HB2.out _, ?_⟩
    rw [if_pos HN1.out]; rfl
  obtain ⟨n, hn⟩ : ∃ n : Nat, fr = (n : Int) := ⟨fr.toNat, by omega⟩
  subst hn
  have hnS : n < S := by omega
  have mk := fun w => makeIs n (by omega) w
  obtain ⟨cS, hcS⟩ : ∃ c, c = List.replicate n (Value.int .i64 0) := ⟨_, rfl⟩
  rw [← hcS] at mk
  have HCS := hide hcS
  obtain ⟨w3, hw3⟩ : ∃ w3, w3 = ((w1.alloc (.cells #[.slice (some ⟨g, 0, none⟩) S S] 97)).alloc (.cells ⟨cS⟩ 3)).alloc (.cells #[.slice (some ⟨w1.heap.size + 1, 0, none⟩) n n] 22) := ⟨_, rfl⟩
  have HBK := hide (fun W => BackwardI_any (slV (w1.heap.size + 1) n) _ _ _ rfl W)
  unfold slV at HBK
  clear hcS hneg
  go_wp2_with fail
  refine (HBK.out _).mono ?_
  rintro e w4 ⟨rfl, hw4⟩
  rw [← hw3] at hw4
  have hz3 : w3.heap.size = w1.heap.size + 3 := by rw [hw3]; simp
  have hz4 : w4.heap.size = w1.heap.size + 4 := by rw [hw4]; simp [hz3]
  have hk3 : ∀ b, b < w1.heap.size → w3.heap[b]? = w1.heap[b]? := fun b hb => by rw [hw3, Below.heap_alloc _ _ _ (by simp; omega), Below.heap_alloc _ _ _ (by simp; omega), Below.heap_alloc _ _ _ hb]
  have hk4 : ∀ b, b < w3.heap.size → w4.heap[b]? = w3.heap[b]? := fun b hb => by rw [hw4, Below.heap_alloc _ _ _ hb]
  have e1 : w3.heap[w1.heap.size]? = some (.cells #[slV g S] 97 (0, 0)) := by rw [hw3]; exact (cells3 w1 _ _ _).1
  have e2 : w3.heap[w1.heap.size + 1]? = some (.cells ⟨cS⟩ 3 (0, 0)) := by rw [hw3]; exact (cells3 w1 _ _ _).2.1
  have e3 : w3.heap[w1.heap.size + 1 + 1]? = some (.cells #[slV (w1.heap.size + 1) n] 22 (0, 0)) := by rw [hw3]; exact (cells3 w1 _ _ _).2.2
  have hb13 : Below w1.heap.size w1 w3 := by rw [hw3]; exact below_alloc3 _ _ _ _
  have hb34 : Below w3.heap.size w3 w4 := by rw [hw4]; exact (Below.refl _ _).alloc (Nat.le_refl _) _
  have HI0 : Hid (PthI w w.heap.size w1.heap.size (w1.heap.size + 1 + 1) g (w1.heap.size + 1) S n q s 0 w4) := by
    have hb14 : Below w1.heap.size w1 w4 := hb13.trans (hb34.mono hb13.size)
    refine ⟨HB1.out.trans (hb14.mono HB1.out.size), (hb14.block _ hwl).trans HT1.out, (hk4 _ (by omega)).trans e1, (hk4 _ (by omega)).trans e3, ?_, HR1.out.below hb14⟩
    rw [pthRow_zero, ← HCS.out]
    exact (hk4 _ (by omega)).trans e2
  have hseq := backI_seq n (w1.heap.size + 1) (w1.heap.size + 1 + 1 + 1) w4 (by omega) (by rw [hw4, show w1.heap.size + 1 + 1 + 1 = w3.heap.size by omega]; exact heap_alloc_new _ _)
  have eB : (((w1.alloc (.cells #[.slice (some ⟨g, 0, none⟩) S S] 97)).alloc (.cells ⟨cS⟩ 3)).alloc (.cells #[.slice (some ⟨w1.heap.size + 1, 0, none⟩) n n] 22)).heap.size = w1.heap.size + 1 + 1 + 1 := by simp
  rw [eB]
  clear hw3 hw4 hk3 hk4 e1 e2 e3 hb13 hb34 eB mk d0 d2
  go_wp2_with fail
  refine (wpIn_wide (n := 0)).1 ?_
  refine range_lawP (gf := 84) (lb := #[.pointer (some ⟨w1.heap.size + 1 + 1 + 1, 0, none⟩)]) rfl (fun _ _ => by kernel_rfl) hseq (fun k hk => by omega) (fun k hk => by omega) (fun _ => rfl)
    (fun pre W => pre = lastOnes n (n - pre.length) ∧ pre.length ≤ n ∧ PthI w w.heap.size w1.heap.size (w1.heap.size + 1 + 1) g (w1.heap.size + 1) S n q s pre.length W) (fun _ _ => False)
    (fun pre W h j hj hnp => h.2.2.row.cell j _ (pthRow_at q s n pre.length j (not_in_last n pre j h.1 hj hnp)))
    (fun pre A B row h hg hr => ⟨h.1, h.2.1, h.2.2.turn hg (fun r e => by have := hr r e; unfold TurnX at this; omega)⟩) (fun _ _ _ _ h _ _ => h)
    ⟨(lastOnes_all n).symm, Nat.zero_le _, HI0.out⟩
    (fun _ W => W) (fun x W => Below.refl _ W)
    (fun x W => { tmps := #[.pointer (some ⟨bm, 0, none⟩), .int .i64 (s : Int), undef, .pointer (some ⟨w.heap.size, 0, none⟩), .slice none 0 0, .nilIface, .pointer (some ⟨w1.heap.size, 0, none⟩), .pointer (some ⟨w1.heap.size + 1 + 1, 0, none⟩), .int .i64 (x : Int), .pointer (some ⟨bm, 0, none⟩), .bool false, undef, .int .i64 (s : Int), .bool (Decidable.decide ((s : Int) < 0)), .bool (Decidable.decide ((s : Int) < 0)), .int .i64 (s : Int), .pointer (some ⟨bm, 0, none⟩), .pointer (some ⟨bm, 0, none⟩), .pointer (some ⟨bm, 4, none⟩), .slice (some ⟨gN, 0, none⟩) S S, .int .i64 (S : Int), .bool false, .bool (Decidable.decide ((s : Int) < 0)), undef, .pointer (some ⟨bm, 0, none⟩), .slice (some ⟨g, 0, none⟩) S S, .slice (some ⟨g, 0, none⟩) S S, .int .i64 (s : Int), .pointer (some ⟨g, s * 3, none⟩), .pointer (some ⟨g, s * 3, none⟩), .int .i64 (n : Int), .bool (Decidable.decide ((n : Int) < 0)), undef, .slice (some ⟨g, 0, none⟩) S S, .int .i64 (s : Int), .pointer (some ⟨g, s * 3, none⟩), .pointer (some ⟨g, s * 3, none⟩), .int .i64 (n : Int), .slice (some ⟨w1.heap.size + 1, 0, none⟩) n n, .slice (some ⟨w1.heap.size + 1, 0, none⟩) n n, .func (.func 84) #[] #[.pointer (some ⟨w1.heap.size + 1 + 1 + 1, 0, none⟩)], .int .i64 (x : Int), .int .i64 0, undef, undef, undef, undef, undef, undef, undef, undef, undef, undef, undef, undef, undef, undef], defers := [] }) ?assign ?body ?done ?stop
  case assign =>
    intro lb x W K hK
    unfold atZero
    gi_wp2
    exact hK
  case stop => exact fun _ _ _ h => h.elim
  case done =>
    rintro xs W hS2 ⟨_, _, hI⟩ hdf
    subst hS2
    rw [lastOnes_len, Nat.sub_zero] at hI
    have v0 : W.cell? ⟨w1.heap.size + 1 + 1, 0, none⟩ = some (.slice (some ⟨w1.heap.size + 1, 0, none⟩) n n) := by rw [Lib.cell_of_heap hI.vP]; rfl
    rw [hz4] at hdf
    have HI := hide hI
    have HD := hide hdf
    have HNN : Hid ¬ ((q.at_ s).far < 0) := by show ¬ _; rw [← HFA.out]; omega
    have HNT : Hid ((q.at_ s).far.toNat = n) := by show _ = _; rw [← HFA.out]; omega
    clear hI hdf
    go_wp2_with fail
    refine ⟨by simp, .inl ⟨_, _, rfl, run_takeDeferred HD.out, ?_⟩⟩
    have hgp := grownBy_putObj' W (w1.heap.size + 4) (.deferred none)
    have hlt := (Array.getElem?_eq_some_iff.1 HD.out).1
    have HI2 := HI.out.turn hgp (fun r e => by cases e; omega)
    refine ⟨_, results_tmp2 rfl _ _ _, HI2.bel, ?_⟩
    rw [if_neg (by have := HNN.out; omega)]
    refine ⟨w1.heap.size + 1, by rw [HNT.out]; rfl, ?_, by omega⟩
    rw [HNT.out, ← pthRow_all]
    exact HI2.row
  case body =>
    rintro lb pre x W U hsz hUo hUs ⟨hp1, hp2, hI⟩ ⟨hxl, hpre⟩
    have hlen : pre.length = n - (x + 1) := by rw [hpre, lastOnes_len]
    obtain ⟨d, hd⟩ : ∃ d, d = pre.length := ⟨_, rfl⟩
    rw [← hd] at hI hlen
    have hdn : d < n := by omega
    have hxd : x = n - d - 1 := by omega
    obtain ⟨tS, tF⟩ := Rc.back_far HFR.out n s hs HFA.out.symm d (by omega)
    obtain ⟨t, ht⟩ : ∃ t, t = Rc.back q d s := ⟨_, rfl⟩
    rw [← ht] at tS tF
    have htl : t < q.steps.length := by rw [HFR.out.len]; exact tS
    obtain ⟨_, r1, r2⟩ := stp_cell hI.stp t htl
    change U.cell? _ = some (.int .i64 ((q.at_ t).frm : Int)) at r1
    change U.cell? _ = some (.int .i64 ((q.at_ t).by_ : Int)) at r2
    have s0 : U.cell? ⟨w.heap.size, 0, none⟩ = some (.int .i64 (t : Int)) := by rw [Lib.cell_of_heap hI.vT, ← ht]; rfl
    have s1 : U.cell? ⟨w1.heap.size, 0, none⟩ = some (.slice (some ⟨g, 0, none⟩) S S) := by rw [Lib.cell_of_heap hI.vS]; rfl
    have s2 : U.cell? ⟨w1.heap.size + 1 + 1, 0, none⟩ = some (.slice (some ⟨w1.heap.size + 1, 0, none⟩) n n) := by rw [Lib.cell_of_heap hI.vP]; rfl
    have s3 : U.cell? ⟨w1.heap.size + 1, x, none⟩ = some (.int .i64 0) := hI.row.cell x _ (pthRow_at q s n d x (by omega))
    have f3 := hI.row.frozen x
    have htS : (t : Int) < (S : Int) := by omega
    have hxn : (x : Int) < (n : Int) := by omega
    obtain ⟨V, hV⟩ : ∃ V, V = (U.setCell ⟨w1.heap.size + 1, x, none⟩ (.int .i64 ((q.at_ t).by_ : Int))).drew := ⟨_, rfl⟩
    have hVk : ∀ b, b ≠ w1.heap.size + 1 → V.heap[b]? = U.heap[b]? := fun b hb => by rw [hV]; exact Below.heap_setCell _ _ _ _ (fun e => hb e)
    have hVz : V.heap.size = U.heap.size := by rw [hV]; simp [World.setCell]
    have hVc : ∀ (b i : Nat) v, b ≠ w1.heap.size + 1 → U.cell? ⟨b, i, none⟩ = some v → V.cell? ⟨b, i, none⟩ = some v := fun b i v hb hv => (World.cell?_of_block (w' := V) (w := U) (a := ⟨b, i, none⟩) (hVk b hb)).trans hv
    have z0 := hVc _ _ _ (by omega) s0
    have z1 := hVc _ _ _ (by omega) s1
    have z2 := hVc _ _ _ (by omega) s2
    have z3 := hVc _ _ _ (by omega) r1
    have z4 := hVc _ _ _ (by omega) r2
    have f0 : V.frozen? ⟨w.heap.size, 0, none⟩ = false := Lib.frozen_of_heap ((hVk _ (by omega)).trans hI.vT) 0
    have HFIN : Hid (∀ a, BodyX (TurnX (fun _ k => k = w1.heap.size + 1 + 1 + 1) w4.heap.size) (fun pre W => pre = lastOnes n (n - pre.length) ∧ pre.length ≤ n ∧ PthI w w.heap.size w1.heap.size (w1.heap.size + 1 + 1) g (w1.heap.size + 1) S n q s pre.length W) (fun _ _ => False) (pre ++ [x]) U .normal a (V.setCell ⟨w.heap.size, 0, none⟩ (.int .i64 ((q.at_ t).frm : Int)))) := by
      intro a
      have hk : ∀ b, b ≠ w1.heap.size + 1 → b ≠ w.heap.size → (V.setCell ⟨w.heap.size, 0, none⟩ (.int .i64 ((q.at_ t).frm : Int))).heap[b]? = U.heap[b]? := fun b h1 h2 => by rw [Below.heap_setCell _ _ _ _ (fun e => h2 e)]; exact hVk b h1
      have hVo : V.os = U.os ∧ V.tape = U.tape ∧ V.output = U.output := by rw [hV]; exact ⟨rfl, rfl, rfl⟩
      refine ⟨⟨by simp [World.setCell, hVz], fun k hk2 => hk k ?_ ?_⟩, ?_, ?_, ?_, ?_, ?_, ?_, ?_, ?_⟩
      · unfold TurnX at hk2; omega
      · unfold TurnX at hk2; omega
      · rw [List.length_append, List.length_singleton, ← hd, hpre, lastOnes_next n x hxl]
        rw [show n - (d + 1) = x by omega]
      · rw [List.length_append, List.length_singleton, ← hd]; omega
      · refine ⟨hVo.1.trans hI.bel.os, hVo.2.1.trans hI.bel.tape, hVo.2.2.trans hI.bel.output, by have := hI.bel.size; simp [World.setCell, hVz]; omega, fun k h1 => ?_⟩
        rw [hk k (by omega) (by omega)]; exact hI.bel.block k h1
      · rw [List.length_append, List.length_singleton, ← hd, Rc.back_succ, ← ht]
        have := (hVk w.heap.size (by omega)).trans hI.vT
        simp [World.setCell, Array.getElem?_modify, this]
      · rw [hk _ (by omega) (by omega)]; exact hI.vS
      · rw [hk _ (by omega) (by omega)]; exact hI.vP
      · rw [List.length_append, List.length_singleton, ← hd, ← pthRow_next q s n d hdn, ← ht]
        have h1 := (hI.row.set x (.int .i64 ((q.at_ t).by_ : Int)))
        rw [hxd] at h1 hV
        have h2 : RowIs V (w1.heap.size + 1) 3 ((pthRow q s n d).set (n - d - 1) (.int .i64 ((q.at_ t).by_ : Int))) := by rw [hV]; exact h1
        exact h2.other _ _ _ (by omega)
      · exact (hk _ (by omega) (by omega)).trans hI.stp
    have HVE := hide hV
    have HXD := hide hxd
    have HTT := hide ht
    clear hV hVk hVc hp1 hpre hd hlen hxd ht
    generalize (q.at_ t).frm = tf at *
    generalize (q.at_ t).by_ = tb at *
    gi_wp2_with fail
    refine region_in (S := fun Z => Z.cell? ⟨w.heap.size, 0, none⟩ = some (.int .i64 (t : Int)) ∧ Z.cell? ⟨w1.heap.size, 0, none⟩ = some (.slice (some ⟨g, 0, none⟩) S S) ∧ Z.cell? ⟨w1.heap.size + 1 + 1, 0, none⟩ = some (.slice (some ⟨w1.heap.size + 1, 0, none⟩) n n) ∧ Z.cell? ⟨g, t * 3 + 2, none⟩ = some (.int .i64 (tb : Int))) hmx (by kernel_rfl) ?hq ?_
    case hq =>
      rintro ⟨a, Z, hh⟩
      exact hh
    refine wpAnyH_take (i := 0) (v := .slice (some ⟨w1.heap.size + 1, 0, none⟩) n n) rfl (by kernel_rfl) (by kernel_rfl) (by kernel_rfl) (fun _ _ _ h => h) (Or.inl ⟨by rfl, ?_⟩) ⟨s0, s1, s2, r2⟩ ?_
    · rintro Z ⟨y0, y1, y2, y3⟩
      go_simp
    refine wpAnyH_take (i := 1) (v := .int .i64 (x : Int)) rfl (by kernel_rfl) (by kernel_rfl) (by kernel_rfl) (fun _ _ _ h => h) (Or.inl ⟨by rfl, ?_⟩) ⟨s0, s1, s2, r2⟩ ?_
    · rintro Z ⟨y0, y1, y2, y3⟩
      go_simp
    refine wpAnyH_take (i := 2) (v := .slice (some ⟨g, 0, none⟩) S S) rfl (by kernel_rfl) (by kernel_rfl) (by kernel_rfl) (fun _ _ _ h => h) (Or.inl ⟨by rfl, ?_⟩) ⟨s0, s1, s2, r2⟩ ?_
    · rintro Z ⟨y0, y1, y2, y3⟩
      go_simp
    refine wpAnyH_take (i := 3) (v := .int .i64 (t : Int)) rfl (by kernel_rfl) (by kernel_rfl) (by kernel_rfl) (fun _ _ _ h => h) (Or.inl ⟨by rfl, ?_⟩) ⟨s0, s1, s2, r2⟩ ?_
    · rintro Z ⟨y0, y1, y2, y3⟩
      go_simp
    refine wpAnyH_take (i := 4) (v := .pointer (some ⟨g, t * 3, none⟩)) rfl (by kernel_rfl) (by kernel_rfl) (by kernel_rfl) (fun _ _ _ h => h) (Or.inl ⟨by rfl, ?_⟩) ⟨s0, s1, s2, r2⟩ ?_
    · rintro Z ⟨y0, y1, y2, y3⟩
      go_simp
    refine wpAnyH_take (i := 5) (v := .pointer (some ⟨g, t * 3 + 2, none⟩)) rfl (by kernel_rfl) (by kernel_rfl) (by kernel_rfl) (fun _ _ _ h => h) (Or.inl ⟨by rfl, ?_⟩) ⟨s0, s1, s2, r2⟩ ?_
    · rintro Z ⟨y0, y1, y2, y3⟩
      go_simp
    refine wpAnyH_take (i := 6) (v := .int .i64 (tb : Int)) rfl (by kernel_rfl) (by kernel_rfl) (by kernel_rfl) (fun _ _ _ h => h) (Or.inl ⟨by rfl, ?_⟩) ⟨s0, s1, s2, r2⟩ ?_
    · rintro Z ⟨y0, y1, y2, y3⟩
      go_simp
    refine wpAnyH_take (i := 7) (v := .pointer (some ⟨w1.heap.size + 1, x, none⟩)) rfl (by kernel_rfl) (by kernel_rfl) (by kernel_rfl) (fun _ _ _ h => h) (Or.inl ⟨by rfl, ?_⟩) ⟨s0, s1, s2, r2⟩ ?_
    · rintro Z ⟨y0, y1, y2, y3⟩
      go_simp
    refine wpAnyH_all (rs := [8]) (by kernel_rfl) (by simp) ?_
    intro i hmem
    obtain rfl := List.mem_singleton.1 hmem
    refine wpOp_k rfl (by rfl) (fun K' hK => ?_)
    go_simp
    rw [← HVE.out]
    refine hK _ _ ⟨⟨z0, z1, z2, z4⟩, ?_⟩
    clear hK K'
    refine wpAnyH_done (by kernel_rfl) ?_ _
    gi_wp2_with fail
    exact HFIN.out _
end Go.Proofs.YtdmnikbhkpcdpaaGreatDoor
