/-
  The walk of package reach's Path. A machine's table, state by state. The walk of ReachFars: in how few scans each state is come to, and by which inputs, is the document's.
-/
import Derived.Test.YtkfikffnljnepaaGreatDoorRcPthMAll
import Derived.Test.YtkfikffnljnepaaGreatDoorLwMachsAll
import Derived.Test.YtkfikffnljnepaaGreatDoorRfFarWAll
import Derived.Test.YtkfikffnljnepaaGreatDoorRcAheadAll
import Derived.Test.YtkfikffnljnepaaGreatDoorRcFarEAll
namespace Go.Proofs.YtkfikffnljnepaaGreatDoor
section
open Go.RowKit
attribute [local go_sem] Oper.semAt_some
/-- what Path comes to -/
def Pathed (w : World) (q : Rc.Qu) (s : Nat) (e : Ending) (w' : World) : Prop := Below w.heap.size w w' ∧ (if (q.at_ s).far < 0 then e = .returned (.tuple #[.slice none 0 0, .iface 35 (.int .i64 8)]) else ∃ g, e = .returned (.tuple #[slV g (q.at_ s).far.toNat, .nilIface]) ∧ RowIs w' g 3 ((Rc.pathOf q (q.at_ s).far.toNat s).map intV) ∧ w.heap.size ≤ g)
/-- what the loop keeps: d inputs of the way are filled -/
structure PthI (w : World) (bT bS bP g gp S n : Nat) (q : Rc.Qu) (s d : Nat) (W : World) : Prop where
  bel : Below w.heap.size w W
  vT : W.heap[bT]? = some (.cells #[.int .i64 (Rc.back q d s : Int)] 3 (0, 0))
  vS : W.heap[bS]? = some (.cells #[slV g S] 63 (0, 0))
  vP : W.heap[bP]? = some (.cells #[slV gp n] 26 (0, 0))
  row : RowIs W gp 3 (pthRow q s n d)
  stp : RowIs W g 66 (q.steps.flatMap stpCells)
theorem PthI.turn {w : World} {bT bS bP g gp S n : Nat} {q : Rc.Qu} {s d : Nat} {A B : World} {row : Option Nat} (h : PthI w bT bS bP g gp S n q s d A) (hg : A.grownBy B row) (hr : ∀ r, row = some r → w.heap.size ≤ r ∧ r ≠ bT ∧ r ≠ bS ∧ r ≠ bP ∧ r ≠ g ∧ r ≠ gp) : PthI w bT bS bP g gp S n q s d B := by
  have hb : ∀ b, b < A.heap.size → (b = bT ∨ b = bS ∨ b = bP ∨ b = g ∨ b = gp) → B.heap[b]? = A.heap[b]? := fun b hb hx => hg.block b hb (fun e => by have := hr b e.symm; omega)
  refine ⟨h.bel.grown hg h.bel.size (fun r e => (hr r e).1), (hb _ (Array.getElem?_eq_some_iff.1 h.vT).1 (by simp)).trans h.vT, (hb _ (Array.getElem?_eq_some_iff.1 h.vS).1 (by simp)).trans h.vS, (hb _ (Array.getElem?_eq_some_iff.1 h.vP).1 (by simp)).trans h.vP, (hb _ h.row.lt (by simp)).trans h.row, (hb _ h.stp.lt (by simp)).trans h.stp⟩
theorem not_in_last (n : Nat) (pre : List Nat) (j : Nat) (hp : pre = lastOnes n (n - pre.length)) (hj : j < n) (hn : j ∉ pre) : j < n - pre.length := by
  refine Classical.byContradiction fun hx => hn ?_
  rw [hp]
  unfold lastOnes
  rw [List.mem_reverse]
  exact List.mem_iff_getElem.2 ⟨j - (n - pre.length), by simp; omega, by rw [List.getElem_drop, List.getElem_range]; omega⟩
set_option maxHeartbeats 8000000 in
set_option maxRecDepth 100000 in
theorem Path_any (bm S I gN : Nat) (next : Nat → List Nat) (uN : List Nat) (s : Nat) (w : World) (h : NextAt w bm S I next gN uN) (hS1 : 1 ≤ S) (hS : S ≤ 4096) (hI : I ≤ 64) (hnl : ∀ s, (next s).length = I) (hnx : ∀ f s, f < S → s ∈ next f → s < S) (hs : s < S) :
    Calls Tryz.prog 9 #[.pointer (some ⟨bm, 0, none⟩), .int .i64 (s : Int)] w (Pathed w (Rc.walk next S) s) := by
  have hmx : Tryz.prog.follows .mixedOrders = true := by kernel_rfl
  have HW := hide (fun W (hW : Below w.heap.size w W) => walk_any bm S I gN next uN W (h.below hW) hS1 hS hI hnl hnx)
  have HFR := hide (Rc.walk_far next S hS1 hnx)
  have pn := fun w a => ptrNe w a
  obtain ⟨q, hq⟩ : ∃ q, q = Rc.walk next S := ⟨_, rfl⟩
  have HQ := hide hq
  rw [← hq] at HFR ⊢
  have c4 := h.1
  have hbm : bm < w.heap.size := World.block_lt_of_cell? _ _ c4
  obtain ⟨wA, hwA⟩ : ∃ wA, wA = w.alloc (.cells #[.int .i64 (s : Int)] 3) := ⟨_, rfl⟩
  have hbA : Below w.heap.size w wA := by rw [hwA]; exact (Below.refl _ _).alloc (Nat.le_refl _) _
  have hsA : wA.heap.size = w.heap.size + 1 := by rw [hwA]; simp
  have hA : wA.heap[w.heap.size]? = some (.cells #[.int .i64 (s : Int)] 3 (0, 0)) := by rw [hwA]; exact heap_alloc_new _ _
  have a0 : wA.cell? ⟨w.heap.size, 0, none⟩ = some (.int .i64 (s : Int)) := by rw [Lib.cell_of_heap hA]; rfl
  have a4 := (hbA.cell (p := ⟨bm, 4, none⟩) hbm).trans c4
  have HBA := hide hbA
  have HA := hide hA
  have hsS : (s : Int) < (S : Int) := by omega
  have hs0 : ¬ (s : Int) < 0 := by omega
  have hSs : ¬ S ≤ s := by omega
  clear h hnl hnx hq hbA hA c4
  refine callsIn_wide.1 (callsIn_of_wp_marks (n := 0) Tryz.func9 rfl trivial ?_ rfl)
  simp only [Tryz.ntmps9, List.size_toArray, List.length_cons, List.length_nil, Nat.reduceAdd, Nat.reduceSub, Array.replicate_succ, Array.replicate_zero, List.push_toArray, List.append_toArray, List.nil_append, List.cons_append]
  refine wpIn_wide.2 ?_
  go_wp2_with fail
  rw [← hwA]
  clear hwA
  go_quiet (fail)
  obtain ⟨wD, hwD⟩ : ∃ wD, wD = wA.drewN nq := ⟨_, rfl⟩
  have hbD : Below wA.heap.size wA wD := by rw [hwD]; exact ⟨rfl, rfl, rfl, Nat.le_refl _, fun _ _ => rfl⟩
  have HBD := hide (HBA.out.trans (hbD.mono HBA.out.size))
  have hzD : wD.heap.size = wA.heap.size := by rw [hwD]; rfl
  have HDA := hide ((hbD.block _ (by omega)).trans HA.out)
  rw [← hwD]
  have HW1 := hide (HW.out wD HBD.out)
  clear hwD hbD HW a0 a4
  go_wp2_with fail
  refine HW1.out.mono ?_
  rintro e w1 ⟨g, rfl, hrow, hg, hb1⟩
  rw [← HQ.out] at hrow
  have hz1 := hb1.size
  have hT1 := (hb1.block _ (by omega)).trans HDA.out
  have HB1 := hide (HBD.out.trans (hb1.mono HBD.out.size))
  have hsl : s < q.steps.length := by rw [HFR.out.len]; exact hs
  have d0 : w1.cell? ⟨w.heap.size, 0, none⟩ = some (.int .i64 (s : Int)) := by rw [Lib.cell_of_heap hT1]; rfl
  have d2 : w1.cell? ⟨g, s * 3, none⟩ = some (.int .i64 (q.at_ s).far) := (stp_cell hrow s hsl).1
  have hgl := hrow.lt
  have hwl : w.heap.size < w1.heap.size := by omega
  have HT1 := hide hT1
  have HR1 := hide hrow
  obtain ⟨fr, hfr⟩ : ∃ fr, fr = (q.at_ s).far := ⟨_, rfl⟩
  have HFA := hide hfr
  rw [← hfr] at d2
  obtain ⟨l1, l2, l3⟩ := HFR.out.low s hs
  rw [← hfr] at l1 l2 l3
  have HB2 : Hid (∀ o, Below w.heap.size w (w1.alloc o)) := fun o => HB1.out.alloc HB1.out.size o
  unfold slV
  clear hrow hb1 hT1 HW1 hfr
  by_cases hneg : fr < 0
  · have HN1 : Hid ((q.at_ s).far < 0) := by rw [← HFA.out]; exact hneg
    go_wp2_with fail
    refine ⟨_, results_tmp2 rfl _ _ _, HB2.out _, ?_⟩
    rw [if_pos HN1.out]; rfl
  obtain ⟨n, hn⟩ : ∃ n : Nat, fr = (n : Int) := ⟨fr.toNat, by omega⟩
  subst hn
  have hnS : n < S := by omega
  have mk := fun w => makeIs n (by omega) w
  obtain ⟨cS, hcS⟩ : ∃ c, c = List.replicate n (Value.int .i64 0) := ⟨_, rfl⟩
  rw [← hcS] at mk
  have HCS := hide hcS
  obtain ⟨w3, hw3⟩ : ∃ w3, w3 = ((w1.alloc (.cells #[.slice (some ⟨g, 0, none⟩) S S] 63)).alloc (.cells ⟨cS⟩ 3)).alloc (.cells #[.slice (some ⟨w1.heap.size + 1, 0, none⟩) n n] 26) := ⟨_, rfl⟩
  have HBK := hide (fun W => BackwardI_any (slV (w1.heap.size + 1) n) _ _ _ rfl W)
  unfold slV at HBK
  clear hcS hneg
  go_wp2_with fail
  refine (HBK.out _).mono ?_
  rintro e w4 ⟨rfl, hw4⟩
  rw [← hw3] at hw4
  have hz3 : w3.heap.size = w1.heap.size + 3 := by rw [hw3]; simp
  have hz4 : w4.heap.size = w1.heap.size + 4 := by rw [hw4]; simp [hz3]
  have hk3 : ∀ b, b < w1.heap.size → w3.heap[b]? = w1.heap[b]? := fun b hb => by rw [hw3, Below.heap_alloc _ _ _ (by simp; omega), Below.heap_alloc _ _ _ (by simp; omega), Below.heap_alloc _ _ _ hb]
  have hk4 : ∀ b, b < w3.heap.size → w4.heap[b]? = w3.heap[b]? := fun b hb => by rw [hw4, Below.heap_alloc _ _ _ hb]
  have e1 : w3.heap[w1.heap.size]? = some (.cells #[slV g S] 63 (0, 0)) := by rw [hw3]; exact (cells3 w1 _ _ _).1
  have e2 : w3.heap[w1.heap.size + 1]? = some (.cells ⟨cS⟩ 3 (0, 0)) := by rw [hw3]; exact (cells3 w1 _ _ _).2.1
  have e3 : w3.heap[w1.heap.size + 1 + 1]? = some (.cells #[slV (w1.heap.size + 1) n] 26 (0, 0)) := by rw [hw3]; exact (cells3 w1 _ _ _).2.2
  have hb13 : Below w1.heap.size w1 w3 := by rw [hw3]; exact below_alloc3 _ _ _ _
  have hb34 : Below w3.heap.size w3 w4 := by rw [hw4]; exact (Below.refl _ _).alloc (Nat.le_refl _) _
  have HI0 : Hid (PthI w w.heap.size w1.heap.size (w1.heap.size + 1 + 1) g (w1.heap.size + 1) S n q s 0 w4) := by
    have hb14 : Below w1.heap.size w1 w4 := hb13.trans (hb34.mono hb13.size)
    refine ⟨HB1.out.trans (hb14.mono HB1.out.size), (hb14.block _ hwl).trans HT1.out, (hk4 _ (by omega)).trans e1, (hk4 _ (by omega)).trans e3, ?_, HR1.out.below hb14⟩
    rw [pthRow_zero, ← HCS.out]
    exact (hk4 _ (by omega)).trans e2
  have hseq := backI_seq n (w1.heap.size + 1) (w1.heap.size + 1 + 1 + 1) w4 (by omega) (by rw [hw4, show w1.heap.size + 1 + 1 + 1 = w3.heap.size by omega]; exact heap_alloc_new _ _)
  have eB : (((w1.alloc (.cells #[.slice (some ⟨g, 0, none⟩) S S] 63)).alloc (.cells ⟨cS⟩ 3)).alloc (.cells #[.slice (some ⟨w1.heap.size + 1, 0, none⟩) n n] 26)).heap.size = w1.heap.size + 1 + 1 + 1 := by simp
  rw [eB]
  clear hw3 hw4 hk3 hk4 e1 e2 e3 hb13 hb34 eB mk d0 d2
  go_wp2_with fail
  refine (wpIn_wide (n := 0)).1 ?_
  refine range_lawP (gf := 50) (lb := #[.pointer (some ⟨w1.heap.size + 1 + 1 + 1, 0, none⟩)]) rfl (fun _ _ => by kernel_rfl) hseq (fun k hk => by omega) (fun k hk => by omega) (fun _ => rfl)
    (fun pre W => pre = lastOnes n (n - pre.length) ∧ pre.length ≤ n ∧ PthI w w.heap.size w1.heap.size (w1.heap.size + 1 + 1) g (w1.heap.size + 1) S n q s pre.length W) (fun _ _ => False)
    (fun pre W h j hj hnp => h.2.2.row.cell j _ (pthRow_at q s n pre.length j (not_in_last n pre j h.1 hj hnp)))
    (fun pre A B row h hg hr => ⟨h.1, h.2.1, h.2.2.turn hg (fun r e => by have := hr r e; unfold TurnX at this; omega)⟩) (fun _ _ _ _ h _ _ => h)
    ⟨(lastOnes_all n).symm, Nat.zero_le _, HI0.out⟩
    (fun _ W => W) (fun x W => Below.refl _ W)
    (fun x W => { tmps := #[.pointer (some ⟨bm, 0, none⟩), .int .i64 (s : Int), undef, .pointer (some ⟨w.heap.size, 0, none⟩), .slice none 0 0, .nilIface, .pointer (some ⟨w1.heap.size, 0, none⟩), .pointer (some ⟨w1.heap.size + 1 + 1, 0, none⟩), .int .i64 (x : Int), .pointer (some ⟨bm, 0, none⟩), .bool false, undef, .int .i64 (s : Int), .bool (Decidable.decide ((s : Int) < 0)), .bool (Decidable.decide ((s : Int) < 0)), .int .i64 (s : Int), .pointer (some ⟨bm, 0, none⟩), .pointer (some ⟨bm, 0, none⟩), .pointer (some ⟨bm, 4, none⟩), .slice (some ⟨gN, 0, none⟩) S S, .int .i64 (S : Int), .bool false, .bool (Decidable.decide ((s : Int) < 0)), undef, .pointer (some ⟨bm, 0, none⟩), .slice (some ⟨g, 0, none⟩) S S, .slice (some ⟨g, 0, none⟩) S S, .int .i64 (s : Int), .pointer (some ⟨g, s * 3, none⟩), .pointer (some ⟨g, s * 3, none⟩), .int .i64 (n : Int), .bool (Decidable.decide ((n : Int) < 0)), undef, .slice (some ⟨g, 0, none⟩) S S, .int .i64 (s : Int), .pointer (some ⟨g, s * 3, none⟩), .pointer (some ⟨g, s * 3, none⟩), .int .i64 (n : Int), .slice (some ⟨w1.heap.size + 1, 0, none⟩) n n, .slice (some ⟨w1.heap.size + 1, 0, none⟩) n n, .func (.func 50) #[] #[.pointer (some ⟨w1.heap.size + 1 + 1 + 1, 0, none⟩)], .int .i64 (x : Int), .int .i64 0, undef, undef, undef, undef, undef, undef, undef, undef, undef, undef, undef, undef, undef, undef], defers := [] }) ?assign ?body ?done ?stop
  case assign =>
    intro lb x W K hK
    unfold atZero
    gi_wp2
    exact hK
  case stop => exact fun _ _ _ h => h.elim
  case done =>
    rintro xs W hS2 ⟨_, _, hI⟩ hdf
    subst hS2
    rw [lastOnes_len, Nat.sub_zero] at hI
    have v0 : W.cell? ⟨w1.heap.size + 1 + 1, 0, none⟩ = some (.slice (some ⟨w1.heap.size + 1, 0, none⟩) n n) := by rw [Lib.cell_of_heap hI.vP]; rfl
    rw [hz4] at hdf
    have HI := hide hI
    have HD := hide hdf
    have HNN : Hid ¬ ((q.at_ s).far < 0) := by show ¬ _; rw [← HFA.out]; omega
    have HNT : Hid ((q.at_ s).far.toNat = n) := by show _ = _; rw [← HFA.out]; omega
    clear hI hdf
    go_wp2_with fail
    refine ⟨by simp, .inl ⟨_, _, rfl, run_takeDeferred HD.out, ?_⟩⟩
    have hgp := grownBy_putObj' W (w1.heap.size + 4) (.deferred none)
    have hlt := (Array.getElem?_eq_some_iff.1 HD.out).1
    have HI2 := HI.out.turn hgp (fun r e => by cases e; omega)
    refine ⟨_, results_tmp2 rfl _ _ _, HI2.bel, ?_⟩
    rw [if_neg (by have := HNN.out; omega)]
    refine ⟨w1.heap.size + 1, by rw [HNT.out]; rfl, ?_, by omega⟩
    rw [HNT.out, ← pthRow_all]
    exact HI2.row
  case body =>
    rintro lb pre x W U hsz hUo hUs ⟨hp1, hp2, hI⟩ ⟨hxl, hpre⟩
    have hlen : pre.length = n - (x + 1) := by rw [hpre, lastOnes_len]
    obtain ⟨d, hd⟩ : ∃ d, d = pre.length := ⟨_, rfl⟩
    rw [← hd] at hI hlen
    have hdn : d < n := by omega
    have hxd : x = n - d - 1 := by omega
    obtain ⟨tS, tF⟩ := Rc.back_far HFR.out n s hs HFA.out.symm d (by omega)
    obtain ⟨t, ht⟩ : ∃ t, t = Rc.back q d s := ⟨_, rfl⟩
    rw [← ht] at tS tF
    have htl : t < q.steps.length := by rw [HFR.out.len]; exact tS
    obtain ⟨_, r1, r2⟩ := stp_cell hI.stp t htl
    change U.cell? _ = some (.int .i64 ((q.at_ t).frm : Int)) at r1
    change U.cell? _ = some (.int .i64 ((q.at_ t).by_ : Int)) at r2
    have s0 : U.cell? ⟨w.heap.size, 0, none⟩ = some (.int .i64 (t : Int)) := by rw [Lib.cell_of_heap hI.vT, ← ht]; rfl
    have s1 : U.cell? ⟨w1.heap.size, 0, none⟩ = some (.slice (some ⟨g, 0, none⟩) S S) := by rw [Lib.cell_of_heap hI.vS]; rfl
    have s2 : U.cell? ⟨w1.heap.size + 1 + 1, 0, none⟩ = some (.slice (some ⟨w1.heap.size + 1, 0, none⟩) n n) := by rw [Lib.cell_of_heap hI.vP]; rfl
    have s3 : U.cell? ⟨w1.heap.size + 1, x, none⟩ = some (.int .i64 0) := hI.row.cell x _ (pthRow_at q s n d x (by omega))
    have f3 := hI.row.frozen x
    have htS : (t : Int) < (S : Int) := by omega
    have hxn : (x : Int) < (n : Int) := by omega
    obtain ⟨V, hV⟩ : ∃ V, V = (U.setCell ⟨w1.heap.size + 1, x, none⟩ (.int .i64 ((q.at_ t).by_ : Int))).drew := ⟨_, rfl⟩
    have hVk : ∀ b, b ≠ w1.heap.size + 1 → V.heap[b]? = U.heap[b]? := fun b hb => by rw [hV]; exact Below.heap_setCell _ _ _ _ (fun e => hb e)
    have hVz : V.heap.size = U.heap.size := by rw [hV]; simp [World.setCell]
    have hVc : ∀ (b i : Nat) v, b ≠ w1.heap.size + 1 → U.cell? ⟨b, i, none⟩ = some v → V.cell? ⟨b, i, none⟩ = some v := fun b i v hb hv => (World.cell?_of_block (w' := V) (w := U) (a := ⟨b, i, none⟩) (hVk b hb)).trans hv
    have z0 := hVc _ _ _ (by omega) s0
    have z1 := hVc _ _ _ (by omega) s1
    have z2 := hVc _ _ _ (by omega) s2
    have z3 := hVc _ _ _ (by omega) r1
    have z4 := hVc _ _ _ (by omega) r2
    have f0 : V.frozen? ⟨w.heap.size, 0, none⟩ = false := Lib.frozen_of_heap ((hVk _ (by omega)).trans hI.vT) 0
    have HFIN : Hid (∀ a, BodyX (TurnX (fun _ k => k = w1.heap.size + 1 + 1 + 1) w4.heap.size) (fun pre W => pre = lastOnes n (n - pre.length) ∧ pre.length ≤ n ∧ PthI w w.heap.size w1.heap.size (w1.heap.size + 1 + 1) g (w1.heap.size + 1) S n q s pre.length W) (fun _ _ => False) (pre ++ [x]) U .normal a (V.setCell ⟨w.heap.size, 0, none⟩ (.int .i64 ((q.at_ t).frm : Int)))) := by
      intro a
      have hk : ∀ b, b ≠ w1.heap.size + 1 → b ≠ w.heap.size → (V.setCell ⟨w.heap.size, 0, none⟩ (.int .i64 ((q.at_ t).frm : Int))).heap[b]? = U.heap[b]? := fun b h1 h2 => by rw [Below.heap_setCell _ _ _ _ (fun e => h2 e)]; exact hVk b h1
      have hVo : V.os = U.os ∧ V.tape = U.tape ∧ V.output = U.output := by rw [hV]; exact ⟨rfl, rfl, rfl⟩
      refine ⟨⟨by simp [World.setCell, hVz], fun k hk2 => hk k ?_ ?_⟩, ?_, ?_, ?_, ?_, ?_, ?_, ?_, ?_⟩
      · unfold TurnX at hk2; omega
      · unfold TurnX at hk2; omega
      · rw [List.length_append, List.length_singleton, ← hd, hpre, lastOnes_next n x hxl]
        rw [show n - (d + 1) = x by omega]
      · rw [List.length_append, List.length_singleton, ← hd]; omega
      · refine ⟨hVo.1.trans hI.bel.os, hVo.2.1.trans hI.bel.tape, hVo.2.2.trans hI.bel.output, by have := hI.bel.size; simp [World.setCell, hVz]; omega, fun k h1 => ?_⟩
        rw [hk k (by omega) (by omega)]; exact hI.bel.block k h1
      · rw [List.length_append, List.length_singleton, ← hd, Rc.back_succ, ← ht]
        have := (hVk w.heap.size (by omega)).trans hI.vT
        simp [World.setCell, Array.getElem?_modify, this]
      · rw [hk _ (by omega) (by omega)]; exact hI.vS
      · rw [hk _ (by omega) (by omega)]; exact hI.vP
      · rw [List.length_append, List.length_singleton, ← hd, ← pthRow_next q s n d hdn, ← ht]
        have h1 := (hI.row.set x (.int .i64 ((q.at_ t).by_ : Int)))
        rw [hxd] at h1 hV
        have h2 : RowIs V (w1.heap.size + 1) 3 ((pthRow q s n d).set (n - d - 1) (.int .i64 ((q.at_ t).by_ : Int))) := by rw [hV]; exact h1
        exact h2.other _ _ _ (by omega)
      · exact (hk _ (by omega) (by omega)).trans hI.stp
    have HVE := hide hV
    have HXD := hide hxd
    have HTT := hide ht
    clear hV hVk hVc hp1 hpre hd hlen hxd ht
    generalize (q.at_ t).frm = tf at *
    generalize (q.at_ t).by_ = tb at *
    gi_wp2_with fail
    refine region_in (S := fun Z => Z.cell? ⟨w.heap.size, 0, none⟩ = some (.int .i64 (t : Int)) ∧ Z.cell? ⟨w1.heap.size, 0, none⟩ = some (.slice (some ⟨g, 0, none⟩) S S) ∧ Z.cell? ⟨w1.heap.size + 1 + 1, 0, none⟩ = some (.slice (some ⟨w1.heap.size + 1, 0, none⟩) n n) ∧ Z.cell? ⟨g, t * 3 + 2, none⟩ = some (.int .i64 (tb : Int))) hmx (by kernel_rfl) ?hq ?_
    case hq =>
      rintro ⟨a, Z, hh⟩
      exact hh
    refine wpAnyH_take (i := 0) (v := .slice (some ⟨w1.heap.size + 1, 0, none⟩) n n) rfl (by kernel_rfl) (by kernel_rfl) (by kernel_rfl) (fun _ _ _ h => h) (Or.inl ⟨by rfl, ?_⟩) ⟨s0, s1, s2, r2⟩ ?_
    · rintro Z ⟨y0, y1, y2, y3⟩
      go_simp
    refine wpAnyH_take (i := 1) (v := .int .i64 (x : Int)) rfl (by kernel_rfl) (by kernel_rfl) (by kernel_rfl) (fun _ _ _ h => h) (Or.inl ⟨by rfl, ?_⟩) ⟨s0, s1, s2, r2⟩ ?_
    · rintro Z ⟨y0, y1, y2, y3⟩
      go_simp
    refine wpAnyH_take (i := 2) (v := .slice (some ⟨g, 0, none⟩) S S) rfl (by kernel_rfl) (by kernel_rfl) (by kernel_rfl) (fun _ _ _ h => h) (Or.inl ⟨by rfl, ?_⟩) ⟨s0, s1, s2, r2⟩ ?_
    · rintro Z ⟨y0, y1, y2, y3⟩
      go_simp
    refine wpAnyH_take (i := 3) (v := .int .i64 (t : Int)) rfl (by kernel_rfl) (by kernel_rfl) (by kernel_rfl) (fun _ _ _ h => h) (Or.inl ⟨by rfl, ?_⟩) ⟨s0, s1, s2, r2⟩ ?_
    · rintro Z ⟨y0, y1, y2, y3⟩
      go_simp
    refine wpAnyH_take (i := 4) (v := .pointer (some ⟨g, t * 3, none⟩)) rfl (by kernel_rfl) (by kernel_rfl) (by kernel_rfl) (fun _ _ _ h => h) (Or.inl ⟨by rfl, ?_⟩) ⟨s0, s1, s2, r2⟩ ?_
    · rintro Z ⟨y0, y1, y2, y3⟩
      go_simp
    refine wpAnyH_take (i := 5) (v := .pointer (some ⟨g, t * 3 + 2, none⟩)) rfl (by kernel_rfl) (by kernel_rfl) (by kernel_rfl) (fun _ _ _ h => h) (Or.inl ⟨by rfl, ?_⟩) ⟨s0, s1, s2, r2⟩ ?_
    · rintro Z ⟨y0, y1, y2, y3⟩
      go_simp
    refine wpAnyH_take (i := 6) (v := .int .i64 (tb : Int)) rfl (by kernel_rfl) (by kernel_rfl) (by kernel_rfl) (fun _ _ _ h => h) (Or.inl ⟨by rfl, ?_⟩) ⟨s0, s1, s2, r2⟩ ?_
    · rintro Z ⟨y0, y1, y2, y3⟩
      go_simp
    refine wpAnyH_take (i := 7) (v := .pointer (some ⟨w1.heap.size + 1, x, none⟩)) rfl (by kernel_rfl) (by kernel_rfl) (by kernel_rfl) (fun _ _ _ h => h) (Or.inl ⟨by rfl, ?_⟩) ⟨s0, s1, s2, r2⟩ ?_
    · rintro Z ⟨y0, y1, y2, y3⟩
      go_simp
    refine wpAnyH_all (rs := [8]) (by kernel_rfl) (by simp) ?_
    intro i hmem
    obtain rfl := List.mem_singleton.1 hmem
    refine wpOp_k rfl (by rfl) (fun K' hK => ?_)
    go_simp
    rw [← HVE.out]
    refine hK _ _ ⟨⟨z0, z1, z2, z4⟩, ?_⟩
    clear hK K'
    refine wpAnyH_done (by kernel_rfl) ?_ _
    gi_wp2_with fail
    exact HFIN.out _
end
section
open Go.RowKit
theorem IsMach.next {W : World} {bm : Nat} {p : Ld.Prg} (h : IsMach W bm p) : ∃ gN uN, NextAt W bm (Mc.total (Mc.parts p)) (2 ^ (Ld.kindL p.names 1).length) (Mc.nexts p) gN uN := by
  obtain ⟨nv, rv, g, gN, gS, lo, uN, uS, h1, ⟨⟨h2, _⟩, h3, _⟩, _⟩ := h
  refine ⟨gN, uN, h1.cells.2.2.1, h2, fun s b hs => ⟨h3.cell s b hs, fun i x hx => ?_⟩⟩
  have hr := (h3.row s b hs).1
  rw [Mc.nexts_row] at hr
  exact hr.cell i _ (by rw [List.getElem?_map, hx]; rfl)
end
section
open Go.RowKit
namespace Rf
theorem ptrNe3 (w : World) (a : Addr) : (binOp BinOp.eql 22 (.pointer (some a)) (.pointer none)).run Tryz.prog w = .ok (.bool false) w := by kernel_rfl
theorem ints_rowI {W : World} {g : Nat} {l : List Int} (h : RowIs W g 3 (l.map iV)) (hl : ∀ x, x ∈ l → I64 x) : Ints W (.slice (some ⟨g, 0, none⟩) l.length l.length) l :=
  .inr ⟨g, 0, l.length, rfl, Nat.le_refl _, fun k x hx => ⟨by rw [Nat.zero_add]; exact h.cell k _ (by rw [List.getElem?_map, hx]; rfl), hl x (List.mem_of_getElem? hx)⟩⟩
def fars (next : Nat → List Nat) (S : Nat) : List Int := (Rc.walk next S).steps.map (·.far)
theorem fars_row (next : Nat → List Nat) (S : Nat) : (Rc.walk next S).steps.map farV = (fars next S).map iV := by
  unfold fars
  rw [List.map_map]
  rfl
theorem fars_len (next : Nat → List Nat) (S : Nat) (hS : 1 ≤ S) (hn : ∀ f s, f < S → s ∈ next f → s < S) : (fars next S).length = S := by
  unfold fars
  rw [List.length_map]
  exact (Rc.walk_far next S hS hn).len
theorem fars_at (next : Nat → List Nat) (S : Nat) (hS : 1 ≤ S) (hn : ∀ f s, f < S → s ∈ next f → s < S) (s : Nat) (hs : s < S) : (fars next S)[s]? = some ((Rc.walk next S).at_ s).far := by
  have hl := (Rc.walk_far next S hS hn).len
  have hsl : s < (Rc.walk next S).steps.length := by omega
  unfold fars Rc.Qu.at_
  rw [List.getElem?_map, List.getElem?_eq_getElem hsl]
  simp [hsl]
theorem fars_same (next : Nat → List Nat) (S : Nat) (hS : 1 ≤ S) (hn : ∀ f s, f < S → s ∈ next f → s < S) (d : List Int) (hl : d.length = S) (h : Dist next S (fun s => d.getD s 0)) : d = fars next S := by
  apply List.ext_getElem?
  intro i
  by_cases hi : i < S
  · have h1 : d.getD i 0 = ((Rc.walk next S).at_ i).far := h.same (dist_walk next S hS hn) i hi
    have hil : i < d.length := by omega
    rw [fars_at next S hS hn i hi, List.getElem?_eq_getElem hil, ← h1]
    simp [hil]
  · rw [List.getElem?_eq_none (by omega), List.getElem?_eq_none (by rw [fars_len next S hS hn]; omega)]
theorem fars_64 (next : Nat → List Nat) (S : Nat) (hS : 1 ≤ S) (hS4 : S ≤ 4096) (hn : ∀ f s, f < S → s ∈ next f → s < S) : ∀ x, x ∈ fars next S → I64 x := fun x hx => by
  obtain ⟨i, hi, rfl⟩ := List.getElem_of_mem hx
  have hiS : i < S := by rw [fars_len next S hS hn] at hi; exact hi
  have h1 := fars_at next S hS hn i hiS
  rw [List.getElem?_eq_getElem hi] at h1
  have h2 := (Rc.walk_far next S hS hn).low i hiS
  rw [Option.some.inj h1]
  unfold I64
  omega
set_option maxHeartbeats 16000000 in
set_option maxRecDepth 100000 in
theorem reachFars_of (hbo : ∀ (s : ByteArray) (w : World), s.size ≤ maxLen → Laid w → PLaid w → Calls Tryz.prog 17 #[.string s] w (Sl.Both s w)) (s : ByteArray) (tz : Int) (w : World) (hs : s.size ≤ maxLen) (hL : Laid w) (hP : PLaid w) :
    Calls Tryz.prog 3 #[.string s, .int .i64 tz] w fun e w' => e = .returned (.bool true) ∧ Below w.heap.size w w' := by
  have HMS := hide (machines_of hbo s 60 w hs hL hP)
  have HL := hide hL
  clear hL hP
  go_enter Tryz.func3, Tryz.ntmps3
  go_wp2_with fail
  refine HMS.out.mono ?_
  rintro e w1 ⟨hb1, he⟩
  clear HMS
  rcases he with rfl | ⟨p, bm, bx, rfl, _, hmach, hrm, hck, hok, hq4, hS60⟩
  · have HB1 := hide hb1
    clear hb1
    go_wp2_with fail
    go_ret
    exact ⟨rfl, HB1.out⟩
  · have HB1 := hide hb1
    have pn := fun w a => ptrNe3 w a
    obtain ⟨gN, uN, hna⟩ := hmach.next
    obtain ⟨nv3, rv3, nx, us, qb, k1, _, k3⟩ := hrm
    have hrow := k3.rowsI (nextsL_small p hck _ _ hok.2)
    rw [nextsL_map p hck] at hrow
    have hnl := fun s => Mc.nexts_len p s
    have hnx : ∀ f s, f < Mc.total (Mc.parts p) → s ∈ Mc.nexts p f → s < Mc.total (Mc.parts p) := fun f s _ hs => Mc.nexts_lt p hck f s hs
    have hS1 : 1 ≤ Mc.total (Mc.parts p) := Mc.total_pos _ (Mc.parts_ok p)
    have hI16 : 2 ^ (Ld.kindL p.names 1).length ≤ 16 := Nat.pow_le_pow_right (by decide) hq4
    generalize Mc.nexts p = next at *
    generalize Mc.total (Mc.parts p) = S at *
    generalize 2 ^ (Ld.kindL p.names 1).length = I at *
    have HNA := hide hna
    have HXM := hide k1
    have HRW := hide hrow
    have HNL := hide hnl
    have HNX := hide hnx
    have HWX : Hid (∀ W, Below w1.heap.size w1 W → Below w.heap.size w W) := fun W hW => HB1.out.trans (hW.mono HB1.out.size)
    have HLB : Hid (∀ W (e : Int), Below w1.heap.size w1 W → Calls Tryz.prog 10 #[.iface 35 (.int .i64 e), .int .i64 e] W fun e w' => e = .returned (.bool true) ∧ Below W.heap.size W w') := fun W e hW => Sl.lbare_any e W (HL.out.below (HWX.out W hW)).door
    have HXS : Hid (∀ W, Below w1.heap.size w1 W → W.cell? ⟨bx, 2, none⟩ = some (.int .i64 (S : Int))) := fun W hW => (HXM.out.below hW).cells.2.1.1
    have HFL := hide (fars_len next S hS1 hnx)
    have HFT := hide (fars_at next S hS1 hnx)
    have HF6 := hide (fars_64 next S hS1 (by omega) hnx)
    have HFA := hide (Far_any bm S I gN next uN w1 hna hS1 (by omega) (by omega) hnl hnx)
    have HFX : Hid (∀ W, Below w1.heap.size w1 W → Calls Tryz.prog 8 #[.pointer (some ⟨bx, 0, none⟩)] W (FarD W S next)) := fun W hW => RFar_any bx S I _ _ _ next W (HXM.out.below hW) (HRW.out.below hW) HNL.out HNX.out hS1 (by omega) (by omega)
    have HPX : Hid (∀ W, Below w1.heap.size w1 W → Calls Tryz.prog 11 #[.pointer (some ⟨bx, 0, none⟩)] W (PathsD W S next)) := fun W hW => RPaths_any bx S I _ _ _ next W (HXM.out.below hW) (HRW.out.below hW) HNL.out HNX.out hS1 (by omega) (by omega)
    have HFE := hide (fars_same next S hS1 hnx)
    clear hb1 hmach k1 k3 hrow hnl hnx hna hok hck hq4
    go_wp2_with fail
    refine HFA.out.mono ?_
    rintro e w2 ⟨ga, rfl, hra, _, hb⟩
    rw [fars_row] at hra
    have HB2 : Hid (Below w1.heap.size w1 w2) := hb
    have HRA : Hid (∀ W, Below w2.heap.size w2 W → RowIs W ga 3 ((fars next S).map iV)) := fun W hW => hra.below hW
    have HX2 := hide (HFX.out w2 HB2.out)
    clear hb hra HFA
    unfold slV
    go_wp2_with fail
    refine HX2.out.mono ?_
    rintro e w3 ⟨gx, dl, rfl, hdr, hdl, hds, _, hb⟩
    have HB23 : Hid (Below w2.heap.size w2 w3) := hb
    have HB3 : Hid (Below w1.heap.size w1 w3) := then_ HB2.out hb
    have hde := HFE.out dl hdl hds
    rw [hde] at hdr
    have hi1 : Ints w3 (.slice (some ⟨ga, 0, none⟩) S S) (fars next S) := by have h := ints_rowI (HRA.out w3 hb) HF6.out; rw [HFL.out] at h; exact h
    have hi2 : Ints w3 (.slice (some ⟨gx, 0, none⟩) S S) (fars next S) := by have h := ints_rowI hdr HF6.out; rw [HFL.out] at h; exact h
    have HS3 := hide (lsameI_any _ _ _ w3 hi1 hi2 (by rw [HFL.out]; omega))
    clear hb hdr hdl hds hde hi1 hi2 HX2
    go_wp2_with fail
    refine HS3.out.mono ?_
    rintro e w4 ⟨rfl, hb⟩
    have HB24 : Hid (Below w2.heap.size w2 w4) := then_ HB23.out hb
    have HB4 : Hid (Below w1.heap.size w1 w4) := then_ HB3.out hb
    clear hb HS3
    have HRAW : Hid (∀ W, Below w4.heap.size w4 W → RowIs W ga 3 ((fars next S).map iV)) := fun W hW => HRA.out W (then_ HB24.out hW)
    have HWX4 : Hid (∀ W, Below w4.heap.size w4 W → Below w1.heap.size w1 W) := fun W hW => then_ HB4.out hW
    by_cases hbad : tz < 0 ∨ (S : Int) ≤ tz
    · have HPA := hide (Path_out bm S I gN next uN tz w4 (HNA.out.below HB4.out) hbad)
      go_wp2_with fail
      refine HPA.out.mono ?_
      rintro e w5 ⟨rfl, hb⟩
      have HB5 : Hid (Below w4.heap.size w4 w5) := hb
      have HN5 := hide (Far_nil w5)
      clear hb HPA
      go_wp2_with fail
      refine HN5.out.mono ?_
      rintro e w6 ⟨rfl, hb⟩
      have HB6 : Hid (Below w4.heap.size w4 w6) := then_ HB5.out hb
      have HN6 := hide (Path_nil 0 w6)
      clear hb HN5
      go_wp2_with fail
      refine HN6.out.mono ?_
      rintro e w7 ⟨rfl, hb⟩
      have HB7 : Hid (Below w4.heap.size w4 w7) := then_ HB6.out hb
      have HA7 := hide (HLB.out w7 7 (HWX4.out w7 HB7.out))
      clear hb HN6
      go_wp2_with fail
      refine HA7.out.mono ?_
      rintro e w8 ⟨rfl, hb⟩
      have HB8 : Hid (Below w4.heap.size w4 w8) := then_ HB7.out hb
      have HA8 := hide (HLB.out w8 7 (HWX4.out w8 HB8.out))
      clear hb HA7
      go_wp2_with fail
      refine HA8.out.mono ?_
      rintro e w9 ⟨rfl, hb⟩
      have HB9 : Hid (Below w4.heap.size w4 w9) := then_ HB8.out hb
      have c9 := HXS.out w9 (HWX4.out w9 HB9.out)
      have HA9 := hide (HLB.out w9 2 (HWX4.out w9 HB9.out))
      clear hb HA8
      by_cases g1 : tz < 0
      · go_wp2_with fail
        refine HA9.out.mono ?_
        rintro e w10 ⟨rfl, hb⟩
        have HF := hide (HWX.out w10 (HWX4.out w10 (then_ HB9.out hb)))
        clear hb HA9
        go_wp2_with fail
        go_ret
        exact ⟨ret_bool (by first | rfl | simp), HF.out⟩
      have g2 : (S : Int) ≤ tz := by omega
      go_wp2_with fail
      refine HA9.out.mono ?_
      rintro e w10 ⟨rfl, hb⟩
      have HF := hide (HWX.out w10 (HWX4.out w10 (then_ HB9.out hb)))
      clear hb HA9
      go_wp2_with fail
      go_ret
      exact ⟨ret_bool (by first | rfl | simp), HF.out⟩
    · obtain ⟨tn, rfl⟩ : ∃ tn : Nat, tz = (tn : Int) := ⟨tz.toNat, by omega⟩
      have htS : tn < S := by omega
      have g1 : ¬ (tn : Int) < 0 := by omega
      have g2 : ¬ (S : Int) ≤ (tn : Int) := by omega
      have g3 : (tn : Int) < (S : Int) := by omega
      have HPA := hide (Path_any bm S I gN next uN tn w4 (HNA.out.below HB4.out) hS1 (by omega) (by omega) HNL.out HNX.out htS)
      have HCF : Hid (∀ W, Below w4.heap.size w4 W → W.cell? ⟨ga, tn, none⟩ = some (.int .i64 ((Rc.walk next S).at_ tn).far)) := fun W hW => (HRAW.out W hW).cell tn _ (by rw [List.getElem?_map, HFT.out tn htS]; rfl)
      have HLW := hide ((Rc.walk_far next S hS1 HNX.out).low tn htS)
      obtain ⟨fr, hfr⟩ : ∃ fr, fr = ((Rc.walk next S).at_ tn).far := ⟨_, rfl⟩
      have HFR := hide hfr
      rw [← hfr] at HCF HLW
      clear hbad hfr
      by_cases hneg : fr < 0
      · go_wp2_with fail
        refine HPA.out.mono ?_
        rintro e w5 ⟨hb, he⟩
        rw [← HFR.out, if_pos hneg] at he
        subst he
        have HB5 : Hid (Below w4.heap.size w4 w5) := hb
        have HN5 := hide (Far_nil w5)
        clear hb HPA
        go_wp2_with fail
        refine HN5.out.mono ?_
        rintro e w6 ⟨rfl, hb⟩
        have HB6 : Hid (Below w4.heap.size w4 w6) := then_ HB5.out hb
        have HN6 := hide (Path_nil 0 w6)
        clear hb HN5
        go_wp2_with fail
        refine HN6.out.mono ?_
        rintro e w7 ⟨rfl, hb⟩
        have HB7 : Hid (Below w4.heap.size w4 w7) := then_ HB6.out hb
        have HA7 := hide (HLB.out w7 7 (HWX4.out w7 HB7.out))
        clear hb HN6
        go_wp2_with fail
        refine HA7.out.mono ?_
        rintro e w8 ⟨rfl, hb⟩
        have HB8 : Hid (Below w4.heap.size w4 w8) := then_ HB7.out hb
        have HA8 := hide (HLB.out w8 7 (HWX4.out w8 HB8.out))
        clear hb HA7
        go_wp2_with fail
        refine HA8.out.mono ?_
        rintro e w9 ⟨rfl, hb⟩
        have HB9 : Hid (Below w4.heap.size w4 w9) := then_ HB8.out hb
        have c9 := HXS.out w9 (HWX4.out w9 HB9.out)
        have f9 := HCF.out w9 HB9.out
        have HA9 := hide (HLB.out w9 8 (HWX4.out w9 HB9.out))
        clear hb HA8
        go_wp2_with fail
        refine HA9.out.mono ?_
        rintro e w10 ⟨rfl, hb⟩
        have HF := hide (HWX.out w10 (HWX4.out w10 (then_ HB9.out hb)))
        clear hb HA9
        go_wp2_with fail
        go_ret
        exact ⟨ret_bool (by first | rfl | simp), HF.out⟩
      · have HNG : Hid (0 ≤ ((Rc.walk next S).at_ tn).far) := by show 0 ≤ _; rw [← HFR.out]; omega
        obtain ⟨n, hn⟩ : ∃ n : Nat, fr = (n : Int) := ⟨fr.toNat, by omega⟩
        subst hn
        have hnS : n ≤ S := by have := HLW.out.2.1; omega
        have HPL : Hid ((Rc.pathOf (Rc.walk next S) n tn).length = n) := Rc.pathOf_len _ _ _
        go_wp2_with fail
        refine HPA.out.mono ?_
        rintro e w5 ⟨hb, he⟩
        rw [if_neg (Int.not_lt.2 HNG.out), ← HFR.out] at he
        obtain ⟨gp, rfl, hrp, _⟩ := he
        rw [Int.toNat_natCast] at hrp ⊢
        have HB5 : Hid (Below w4.heap.size w4 w5) := hb
        have HRP : Hid (∀ W, Below w5.heap.size w5 W → RowIs W gp 3 ((Rc.pathOf (Rc.walk next S) n tn).map intV)) := fun W hW => hrp.below hW
        have HN5 := hide (Far_nil w5)
        clear hb hrp HPA
        unfold slV
        go_wp2_with fail
        refine HN5.out.mono ?_
        rintro e w6 ⟨rfl, hb⟩
        have HB56 : Hid (Below w5.heap.size w5 w6) := hb
        have HB6 : Hid (Below w4.heap.size w4 w6) := then_ HB5.out hb
        have HN6 := hide (Path_nil 0 w6)
        clear hb HN5
        go_wp2_with fail
        refine HN6.out.mono ?_
        rintro e w7 ⟨rfl, hb⟩
        have HB57 : Hid (Below w5.heap.size w5 w7) := then_ HB56.out hb
        have HB7 : Hid (Below w4.heap.size w4 w7) := then_ HB6.out hb
        have HA7 := hide (HLB.out w7 7 (HWX4.out w7 HB7.out))
        clear hb HN6
        go_wp2_with fail
        refine HA7.out.mono ?_
        rintro e w8 ⟨rfl, hb⟩
        have HB58 : Hid (Below w5.heap.size w5 w8) := then_ HB57.out hb
        have HB8 : Hid (Below w4.heap.size w4 w8) := then_ HB7.out hb
        have HA8 := hide (HLB.out w8 7 (HWX4.out w8 HB8.out))
        clear hb HA7
        go_wp2_with fail
        refine HA8.out.mono ?_
        rintro e w9 ⟨rfl, hb⟩
        have HB59 : Hid (Below w5.heap.size w5 w9) := then_ HB58.out hb
        have HB9 : Hid (Below w4.heap.size w4 w9) := then_ HB8.out hb
        have c9 := HXS.out w9 (HWX4.out w9 HB9.out)
        have f9 := HCF.out w9 HB9.out
        have HX9 := hide (HPX.out w9 (HWX4.out w9 HB9.out))
        clear hb HA8
        go_wp2_with fail
        refine HX9.out.mono ?_
        rintro e w10 ⟨gq, uq, out, rfl, hoa, hpi, hb⟩
        have HB10 : Hid (Below w4.heap.size w4 w10) := then_ HB9.out hb
        have hnear := hpi.near tn htS n HFR.out.symm hnS
        obtain ⟨a, ca, hu, _, hca, hcells⟩ := hoa.yes tn _ hnear
        have cu := hoa.row.cell tn _ hu
        have hi2 := ints_row2 hca hcells
        have hi1 : Ints w10 (.slice (some ⟨gp, 0, none⟩) n n) (asI (Rc.pathOf (Rc.walk next S) n tn)) := by
          have h := ints_row2 (W := w10) (a := gp) (c := n) (p := Rc.pathOf (Rc.walk next S) n tn) (by rw [HPL.out]; exact Nat.le_refl _) (fun k x hx => ⟨(hcells k x hx).1, (HRP.out w10 (then_ HB59.out hb)).cell k _ (by rw [List.getElem?_map, hx]; rfl)⟩)
          rw [HPL.out] at h
          exact h
        rw [HPL.out] at cu hi2
        have HS10 := hide (lsameI_any _ _ _ w10 hi1 hi2 (by rw [asI_len, HPL.out]; omega))
        clear hb hoa hpi hnear hu hca hcells hi1 hi2 HX9
        go_wp2_with fail
        refine HS10.out.mono ?_
        rintro e w11 ⟨rfl, hb⟩
        have HF := hide (HWX.out w11 (HWX4.out w11 (then_ HB10.out hb)))
        clear hb HS10
        go_wp2_with fail
        go_ret
        exact ⟨ret_bool (by first | rfl | simp), HF.out⟩
end Rf
end
end Go.Proofs.YtkfikffnljnepaaGreatDoor
