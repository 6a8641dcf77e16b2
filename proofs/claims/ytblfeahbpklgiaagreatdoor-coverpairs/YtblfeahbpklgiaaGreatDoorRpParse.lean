/-
  The walk of the document's ExprParse: what it reads of a text is what the plain function 'parse' says.
-/
import Derived.Test.YtblfeahbpklgiaaGreatDoorRpPiece
import Derived.Test.YtblfeahbpklgiaaGreatDoorParse
namespace Go.Proofs.YtblfeahbpklgiaaGreatDoor
open Go.RowKit
def faultV (err pl : Int) : Value := .agg #[.int .i64 err, .int .i64 pl]
/-- What ExprParse comes to in memory: a fault, or an expression; nothing that was there has turned. -/
def ParsedR (w : World) (r : (Nat × Option Nat) ⊕ Ex) (e : Ending) (w' : World) : Prop :=
  Below w.heap.size w w' ∧
  match r with
  | .inl (err, none) => e = .returned (.tuple #[.pointer none, faultV (err : Int) (-1)]) ∧ err ≠ 0
  | .inl (err, some p) => e = .returned (.tuple #[.pointer none, faultV (err : Int) (p : Int)]) ∧ err ≠ 0
  | .inr x => ∃ g, e = .returned (.tuple #[.pointer (some ⟨g, 0, none⟩), faultV 0 (-1)]) ∧ IsRx (fun g => w.heap.size ≤ g) w' x g
/-- the document's Fine, as it is laid -/
def Fine (w : World) : Prop := w.cell? ⟨0, 0, none⟩ = some (.int .i64 0) ∧ w.cell? ⟨0, 1, none⟩ = some (.int .i64 (-1))
theorem Fine.below {w w' : World} (h : Fine w) (hb : Below w.heap.size w w') : Fine w' :=
  ⟨(hb.cell (World.block_lt_of_cell? _ _ h.1)).trans h.1, (hb.cell (World.block_lt_of_cell? _ _ h.2)).trans h.2⟩
set_option maxHeartbeats 1000000 in
set_option maxRecDepth 100000 in
theorem rbare_any (n : Int) (w : World) : Calls Tryz.prog 17 #[.int .i64 n] w fun e w' => e = .returned (faultV n (-1)) ∧ Below w.heap.size w w' := by
  go_enter Tryz.func17, Tryz.ntmps17
  go_wp2
  refine bodyPost_ret_by (v := faultV n (-1)) ?_ rfl ⟨rfl, ?_⟩
  · simp [results, Tryz.results17, go_sem, faultV]
  · exact (Below.refl _ _).alloc (Nat.le_refl _) _
theorem below_drew1 {B : Nat} {a w : World} (h : Below B a w) : Below B a w.drew := ⟨h.os, h.tape, h.output, h.size, h.block⟩
/-- a fault's box -/
structure Box (B : Nat) (w : World) : Prop where
  c0 : w.cell? ⟨B, 0, none⟩ = some (.int .i64 0)
  c1 : w.cell? ⟨B, 1, none⟩ = some (.int .i64 0)
  f0 : w.frozen? ⟨B, 0, none⟩ = false
  f1 : w.frozen? ⟨B, 1, none⟩ = false
theorem Box.put {B : Nat} {w : World} (h : Box B w) (x y : Int) : ((w.setCell ⟨B, 0, none⟩ (.int .i64 x)).setCell ⟨B, 1, none⟩ (.int .i64 y)).cell? ⟨B, 0, none⟩ = some (.int .i64 x) ∧ ((w.setCell ⟨B, 0, none⟩ (.int .i64 x)).setCell ⟨B, 1, none⟩ (.int .i64 y)).cell? ⟨B, 1, none⟩ = some (.int .i64 y) := by
  constructor
  · rw [World.cell?_setCell_other _ _ _ _ (by simp)]; exact World.cell?_setCell_same _ _ _ h.c0
  · exact World.cell?_setCell_same _ _ _ ((World.cell?_setCell_other _ _ _ _ (by simp)).trans h.c1)
theorem Box.of_block {B : Nat} {w w' : World} (h : Box B w) (e : w'.heap[B]? = w.heap[B]?) : Box B w' :=
  ⟨(World.cell?_of_block (w := w) e).trans h.c0, (World.cell?_of_block (w := w) e).trans h.c1, (World.frozen?_of_block (w := w) e).trans h.f0, (World.frozen?_of_block (w := w) e).trans h.f1⟩
theorem Box.new (w : World) : Box w.heap.size (w.alloc (.cells #[.int .i64 0, .int .i64 0] 44)) := by
  constructor <;> simp [go_sem]
set_option maxHeartbeats 4000000 in
set_option maxRecDepth 100000 in
theorem ExprParse_any (s : ByteArray) (w : World) (hs : s.size ≤ maxLen) (hf : Fine w) :
    Calls Tryz.prog 10 #[.string s] w (ParsedR w (Ex.parse s.data.toList)) := by
  unfold maxLen at hs
  have HL : Hid (s.data.toList.length = s.size) := by show _ = _; simp
  have hb1 : Below w.heap.size w (w.alloc (.cells #[.int .i64 0, .int .i64 0] 44)) := (Below.refl _ w).alloc (Nat.le_refl _) _
  have HBW := hide (fun (w' : World) (hb : Below w.heap.size w w') (x y : Int) => (hb.setCell (p := ⟨w.heap.size, 0, none⟩) (Nat.le_refl _) (.int .i64 x)).setCell (p := ⟨w.heap.size, 1, none⟩) (Nat.le_refl _) (.int .i64 y))
  by_cases h2 : 2000 < s.size
  · have h2' : (2000 : Int) < (s.size : Int) := by omega
    have HF : Hid (Ex.parse s.data.toList = .inl (4, none)) := parse_long _ (by rw [HL.out]; exact h2)
    have HB1 := hide hb1
    clear h2 hf hb1
    go_enter Tryz.func10, Tryz.ntmps10
    go_wp2_with fail
    refine (rbare_any 4 _).mono ?_
    rintro e w1 ⟨rfl, hb2⟩
    have hbox := (Box.new w).of_block (hb2.block w.heap.size (by simp))
    have HPUT := hide (hbox.put 4 (-1))
    have HB2 := hide (HB1.out.trans (hb2.mono (by simp)))
    obtain ⟨c0, c1, f0, f1⟩ := hbox
    unfold faultV
    clear hb2
    go_wp2_with fail
    refine bodyPost_ret_by (v := .tuple #[.pointer none, faultV 4 (-1)]) ?_ rfl ?_
    · simp [results, Tryz.results10, go_sem, faultV, HPUT.out.1, HPUT.out.2]
    · rw [HF.out]
      exact ⟨HBW.out _ HB2.out _ _, rfl, by decide⟩
  · have h2' : ¬ (2000 : Int) < (s.size : Int) := by omega
    have hs2 : s.size ≤ 2000 := by omega
    have HN : Hid (¬ 2000 < s.data.toList.length) := by rw [HL.out]; exact h2
    have HFI := hide hf
    have hA := Ex.pieceP_adv s.data.toList 20
    have HWA := hide (Ex.wholeP_adv s.data.toList _ hA)
    have hfa : ∀ o, (w.alloc o).cell? ⟨0, 0, none⟩ = some (.int .i64 0) := fun o => (World.cell?_alloc_old _ _ _ (Nat.ne_of_lt (World.block_lt_of_cell? _ _ hf.1))).trans hf.1
    have hfb : ∀ o, (w.alloc o).cell? ⟨0, 1, none⟩ = some (.int .i64 (-1)) := fun o => (World.cell?_alloc_old _ _ _ (Nat.ne_of_lt (World.block_lt_of_cell? _ _ hf.2))).trans hf.2
    have hrd : Rp (w.heap.size + 1) s 0 0 (-1) ((w.alloc (.cells #[.int .i64 0, .int .i64 0] 44)).alloc (.cells #[.string s, .int .i64 0, .int .i64 0, .int .i64 (-1)] 61)) := by
      constructor <;> simp [go_sem]
    have HC := hide (rwhole_any (w.heap.size + 1) s 20 0 _ hA _ (rpiece_any (w.heap.size + 1) s hs2 ((w.alloc (.cells #[.int .i64 0, .int .i64 0] 44)).alloc (.cells #[.string s, .int .i64 0, .int .i64 0, .int .i64 (-1)] 61)) 20 0 rfl) hs2 0 _ (Keep.refl _ _) hrd (Nat.zero_le _))
    have HB : Hid (∀ w', Keep (w.heap.size + 1) ((w.alloc (.cells #[.int .i64 0, .int .i64 0] 44)).alloc (.cells #[.string s, .int .i64 0, .int .i64 0, .int .i64 (-1)] 61)) w' → Below w.heap.size w w' ∧ Box w.heap.size w' ∧ Fine w') := fun w' hk => by
      have hbe : Below w.heap.size w w' := (hb1.alloc (by simp) _).trans (hk.below (by simp; omega) (by omega))
      refine ⟨hbe, ?_, HFI.out.below hbe⟩
      refine (Box.new w).of_block ((hk.block w.heap.size (by simp; omega) (by omega)).trans ?_)
      exact Below.heap_alloc _ _ _ (by simp)
    obtain ⟨T, hT⟩ : ∃ T, T = Ex.wholeP s.data.toList (Ex.pieceP s.data.toList 20) 0 := ⟨_, rfl⟩
    have HT := hide hT
    rw [← hT] at HC
    obtain ⟨hf0, hf1⟩ := hf
    clear hT hA hrd h2 hb1
    go_enter Tryz.func10, Tryz.ntmps10
    go_wp2_with fail
    refine HC.out.mono ?_
    intro e w1 hq
    obtain ⟨q0, he⟩ := hq.ptr
    subst he
    clear HC hf0 hf1 hfa hfb
    match T, hq, HT with
    | .inl (err, p), ⟨hk, q, i', _, hi', herr, hrp⟩, HT =>
      have HF := hide (parse_err _ HN.out err p HT.out.symm)
      have HBE := hide (HB.out _ hk).1
      have hbox := (HB.out _ hk).2.1
      have HPUT := hide (hbox.put (err : Int) (p : Int))
      have e1 : ((err : Int) == 0) = false := beq_eq_false_iff_ne.2 (by omega)
      have e2 : ((err : Int) != 0) = true := by simp; omega
      obtain ⟨c0, c1, c2, c3, f1, f2, f3⟩ := hrp
      obtain ⟨d0, d1, g0, g1⟩ := hbox
      clear hk
      go_wp2_with fail
      go_region
      all_goals
        go_wp2_with fail
        refine bodyPost_ret_by (v := .tuple #[.pointer none, faultV (err : Int) (p : Int)]) ?_ rfl ?_
        · simp [results, Tryz.results10, go_sem, faultV, HPUT.out.1, HPUT.out.2]
        · rw [HF.out]
          exact ⟨below_drew1 (HBW.out _ HBE.out _ _), rfl, herr⟩
    | .inr (x, m), ⟨hk, g, he, hx, hrp⟩, HT =>
      simp only [Ending.returned.injEq, Value.pointer.injEq] at he
      subst he
      have hm := (HWA.out 0 x m (Nat.zero_le _) HT.out.symm).2
      rw [HL.out] at hm
      have HX := hide hx
      have HK := hide hk
      have HNX := hide (rnext_any _ s m 0 (-1) w1 hrp hm hs2)
      have HMORE := hide (parse_more _ HN.out x m HT.out.symm)
      have HFINE := hide (parse_fine _ HN.out x m HT.out.symm)
      have hle := Ex.skip_le s.data.toList m (by rw [HL.out]; exact hm)
      have HSK : Hid (Ex.skip s.data.toList (Ex.skip s.data.toList m) = Ex.skip s.data.toList m) := skip_skip _ _ (by rw [HL.out]; exact hm)
      have HEND : Hid (¬ Ex.skip s.data.toList m < s.size → rsg s.data.toList (Ex.skip s.data.toList m) = 0) := fun h => rsg_end s _ h
      rw [HL.out] at HMORE HFINE hle
      obtain ⟨c0, c1, c2, c3, f1, f2, f3⟩ := hrp
      clear hk hx
      generalize Ex.skip s.data.toList m = q at *
      generalize rsg s.data.toList q = c at *
      go_wp2_with fail
      refine HNX.out.mono ?_
      rintro e w2 ⟨rfl, hr2, hk2⟩
      have HK2 := hide (HK.out.trans hk2)
      have HX2 : Hid (IsRx (fun g => w.heap.size ≤ g ∧ g ≠ w.heap.size ∧ g ≠ w.heap.size + 1) w2 x g) := by
        refine IsRx.stay (Stay.keep hk2 fun g hg e => ?_) (fun g hg => ⟨?_, ?_, ?_⟩) x g HX.out <;> simp at hg <;> omega
      have HR2 := hide hr2
      clear c0 c1 c2 c3 f1 f2 f3 HNX hk2
      have hbox := (HB.out _ HK2.out).2.1
      obtain ⟨c0, c1, c2, c3, f1, f2, f3⟩ := hr2
      by_cases hq : q < s.size
      · have hq' : (q : Int) < (s.size : Int) := by omega
        have HF := hide (HMORE.out hq)
        have HFL := hide (rfail_any _ s q (-1) 3 w2 HR2.out hle hs2)
        rw [HSK.out] at HFL
        clear HMORE HFINE HEND hbox
        cases hc0 : ((c : Int) != 0) with
        | true =>
          go_wp2_with fail
          refine HFL.out.mono ?_
          rintro e w3 ⟨rfl, hr3, hk3⟩
          have hk4 := HK2.out.trans hk3
          have hbox := (HB.out _ hk4).2.1
          have HBE := hide (HB.out _ hk4).1
          have HPUT := hide (hbox.put 3 (q : Int))
          clear c0 c1 c2 c3 f1 f2 f3 hk3 hk4 HFL
          obtain ⟨c0, c1, c2, c3, f1, f2, f3⟩ := hr3
          obtain ⟨d0, d1, g0, g1⟩ := hbox
          go_wp2_with fail
          go_region
          all_goals
            go_wp2_with fail
            refine bodyPost_ret_by (v := .tuple #[.pointer none, faultV 3 (q : Int)]) ?_ rfl ?_
            · simp [results, Tryz.results10, go_sem, faultV, HPUT.out.1, HPUT.out.2]
            · rw [HF.out]
              exact ⟨below_drew1 (HBW.out _ HBE.out _ _), rfl, by decide⟩
        | false =>
          go_wp2_with fail
          refine HFL.out.mono ?_
          rintro e w3 ⟨rfl, hr3, hk3⟩
          have hk4 := HK2.out.trans hk3
          have hbox := (HB.out _ hk4).2.1
          have HBE := hide (HB.out _ hk4).1
          have HPUT := hide (hbox.put 3 (q : Int))
          clear c0 c1 c2 c3 f1 f2 f3 hk3 hk4 HFL
          obtain ⟨c0, c1, c2, c3, f1, f2, f3⟩ := hr3
          obtain ⟨d0, d1, g0, g1⟩ := hbox
          go_wp2_with fail
          go_region
          all_goals
            go_wp2_with fail
            refine bodyPost_ret_by (v := .tuple #[.pointer none, faultV 3 (q : Int)]) ?_ rfl ?_
            · simp [results, Tryz.results10, go_sem, faultV, HPUT.out.1, HPUT.out.2]
            · rw [HF.out]
              exact ⟨below_drew1 (HBW.out _ HBE.out _ _), rfl, by decide⟩
      · have hc := HEND.out hq
        have hq' : ¬ (q : Int) < (s.size : Int) := by omega
        have HF := hide (HFINE.out hq)
        have HBE := hide (HB.out _ HK2.out).1
        have HPUT := hide (hbox.put 0 (-1))
        have hfi := (HB.out _ HK2.out).2.2
        obtain ⟨hfi0, hfi1⟩ := hfi
        obtain ⟨d0, d1, g0, g1⟩ := hbox
        clear HMORE HFINE HEND
        subst hc
        go_wp2_with fail
        go_region
        all_goals
          go_wp2_with fail
          refine bodyPost_ret_by (v := .tuple #[.pointer (some ⟨g, 0, none⟩), faultV 0 (-1)]) ?_ rfl ?_
          · simp [results, Tryz.results10, go_sem, faultV, HPUT.out.1, HPUT.out.2]
          · rw [HF.out]
            refine ⟨below_drew1 (HBW.out _ HBE.out _ _), g, rfl, ?_⟩
            refine IsRx.stay (fun g' i u hg hc => ?_) (fun g' hg => hg.1) x g HX2.out
            show ((w2.setCell ⟨w.heap.size, 0, none⟩ (.int .i64 0)).setCell ⟨w.heap.size, 1, none⟩ (.int .i64 (-1))).cell? ⟨g', i, none⟩ = some u
            rw [World.cell?_setCell_other _ _ _ _ (by first | (simp; done) | (simp; omega)), World.cell?_setCell_other _ _ _ _ (by first | (simp; done) | (simp; omega))]
            exact hc
end Go.Proofs.YtblfeahbpklgiaaGreatDoor
