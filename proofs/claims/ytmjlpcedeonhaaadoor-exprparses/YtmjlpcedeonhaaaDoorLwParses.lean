/-
  The walk of ExprParses: any text is an expression, or refused where the document tells, and is written as it tells.
-/
import Derived.Test.YtmjlpcedeonhaaaDoorErPlace
import Derived.Test.YtmjlpcedeonhaaaDoorRpParse
import Derived.Test.YtmjlpcedeonhaaaDoorParse
import Derived.Test.YtmjlpcedeonhaaaDoorTxList
import Derived.Test.YtmjlpcedeonhaaaDoorRxText
namespace Go.Proofs.YtmjlpcedeonhaaaDoor
open Go.RowKit ErAs
set_option maxHeartbeats 2000000 in
set_option maxRecDepth 100000 in
theorem at_any (er : Value) (n pl : Int) (w : World) (hg : Door w) (hf : ErrAt er n pl w) :
    Calls Tryd.prog 7 #[er, faultV n pl] w fun e w' => e = .returned (.bool true) ∧ Below w.heap.size w w' := by
  obtain ⟨w1, hw1⟩ : ∃ w1, w1 = w.alloc (.cells #[.int .i64 n, .int .i64 pl] 25) := ⟨_, rfl⟩
  have hb1 : Below w.heap.size w w1 := by rw [hw1]; exact (Below.refl _ _).alloc (Nat.le_refl _) _
  have hg1 : Door w1 := (hb1.cell (World.block_lt_of_cell? _ _ hg)).trans hg
  have hf1 : ErrAt er n pl w1 := by
    rcases hf with h | ⟨a, h, h1, h2⟩
    · exact .inl h
    · exact .inr ⟨a, h, (hb1.cell (World.block_lt_of_cell? _ _ h1)).trans h1, (hb1.cell (World.block_lt_of_cell? _ _ h2)).trans h2⟩
  have HC := hide (Place_any er n pl w1 hg1 hf1)
  have hh : w1.heap[w.heap.size]? = some (.cells #[.int .i64 n, .int .i64 pl] 25 (0, 0)) := by rw [hw1]; exact heap_alloc_new _ _
  have HH := hide hh
  have HS1 : Hid (w1.heap.size = w.heap.size + 1) := by show _ = _; rw [hw1]; simp
  obtain ⟨te, ve, hte⟩ : ∃ te ve, er = .iface te ve := by
    rcases hf with ⟨rfl, _⟩ | ⟨q, rfl, _⟩
    · exact ⟨_, _, rfl⟩
    · exact ⟨_, _, rfl⟩
  subst hte
  have HB1 := hide hb1
  have HW1 := hide hw1
  rw [hw1] at HC
  unfold faultV
  clear hg hf hg1 hf1 hb1 hw1 hh
  go_enter Tryd.func7, Tryd.ntmps7
  go_wp2_with fail
  refine HC.out.mono ?_
  rintro e w2 ⟨rfl, hb⟩
  rw [← HW1.out] at hb
  have c0 : w2.cell? ⟨w.heap.size, 0, none⟩ = some (.int .i64 n) := by rw [hb.cell (p := ⟨w.heap.size, 0, none⟩) (by rw [HS1.out]; simp), Lib.cell_of_heap HH.out]; rfl
  have c1 : w2.cell? ⟨w.heap.size, 1, none⟩ = some (.int .i64 pl) := by rw [hb.cell (p := ⟨w.heap.size, 1, none⟩) (by rw [HS1.out]; simp), Lib.cell_of_heap HH.out]; rfl
  have HB := hide hb
  clear hb HC
  go_wp2_with fail
  go_ret
  exact ⟨ret_bool (by simp), HB1.out.trans (HB.out.mono HB1.out.size)⟩
set_option maxHeartbeats 4000000 in
set_option maxRecDepth 100000 in
theorem parses_any (s : ByteArray) (w : World) (hs : s.size ≤ maxLen) (hf : Fine w) (hg : Door w) :
    Calls Tryd.prog 3 #[.string s] w fun e w' => e = .returned (.bool true) ∧ Below w.heap.size w w' := by
  have hs' : s.size ≤ maxLen := hs
  unfold maxLen at hs
  by_cases h2 : 2100 < s.size
  · have h2' : (2100 : Int) < (s.size : Int) := by omega
    clear hf hg
    go_enter Tryd.func3, Tryd.ntmps3
    go_wp2_with fail
    go_ret
    exact ⟨rfl, Below.refl _ _⟩
  · have h2' : ¬ (2100 : Int) < (s.size : Int) := by omega
    have HR := hide (ExprParse_any s w hs' hf)
    have HP := hide (fun w1 => Parse_any s w1 hs')
    have HSZ := hide (fun x h => Ex.parse_bnd s.data.toList x h)
    have HG := hide hg
    generalize Ex.parse s.data.toList = r at *
    clear hf hg
    match r, HR, HP, HSZ with
    | .inl (err, none), HR, HP, _ =>
      go_enter Tryd.func3, Tryd.ntmps3
      go_wp2_with fail
      refine HR.out.mono ?_
      rintro e w1 ⟨hb, rfl, he⟩
      have heb : ((err : Int) != 0) = true := by simp; omega
      have HB := hide hb
      unfold faultV
      clear hb he HR
      go_wp2_with fail
      refine (HP.out _).mono ?_
      rintro e w2 ⟨hb2, rfl⟩
      obtain ⟨er, hte⟩ : ∃ er, er = Value.iface 23 (.int .i64 (err : Int)) := ⟨_, rfl⟩
      have hea : ErrAt er (err : Int) (-1) w2 := .inl ⟨hte, rfl⟩
      have hba : Below w1.heap.size w1 (w1.alloc (.cells #[.int .i64 (err : Int), .int .i64 (-1)] 25)) := (Below.refl _ _).alloc (Nat.le_refl _) _
      have hh := heap_alloc_new w1 (.cells #[.int .i64 (err : Int), .int .i64 (-1)] 25)
      have c0 : w2.cell? ⟨w1.heap.size, 0, none⟩ = some (.int .i64 (err : Int)) := by rw [hb2.cell (p := ⟨w1.heap.size, 0, none⟩) (by simp), Lib.cell_of_heap hh]; rfl
      have c1 : w2.cell? ⟨w1.heap.size, 1, none⟩ = some (.int .i64 (-1)) := by rw [hb2.cell (p := ⟨w1.heap.size, 1, none⟩) (by simp), Lib.cell_of_heap hh]; rfl
      have hb12 : Below w1.heap.size w1 w2 := hba.trans (hb2.mono (by simp))
      have HB2 := hide (HB.out.trans (hb12.mono HB.out.size))
      have hg2 : Door w2 := (HB2.out.cell (World.block_lt_of_cell? _ _ HG.out)).trans HG.out
      have HA := hide (at_any er (err : Int) (-1) w2 hg2 hea)
      subst hte
      unfold faultV at HA
      clear hba hh hb12 hb2 hg2 hea HP
      go_wp2_with fail
      refine HA.out.mono ?_
      rintro e w3 ⟨rfl, hb3⟩
      have HB3 := hide hb3
      clear hb3
      go_wp2_with fail
      go_ret
      exact ⟨rfl, HB2.out.trans (HB3.out.mono HB2.out.size)⟩
    | .inl (err, some p), HR, HP, _ =>
      go_enter Tryd.func3, Tryd.ntmps3
      go_wp2_with fail
      refine HR.out.mono ?_
      rintro e w1 ⟨hb, rfl, he⟩
      have heb : ((err : Int) != 0) = true := by simp; omega
      have HB := hide hb
      unfold faultV
      clear hb he HR
      go_wp2_with fail
      refine (HP.out _).mono ?_
      rintro e w2 ⟨hb2, er, rfl, a, _, hte, ha0, ha1⟩
      have hea : ErrAt er (err : Int) (p : Int) w2 := .inr ⟨a, hte, ha0, ha1⟩
      have hba : Below w1.heap.size w1 (w1.alloc (.cells #[.int .i64 (err : Int), .int .i64 ((p : Int))] 25)) := (Below.refl _ _).alloc (Nat.le_refl _) _
      have hh := heap_alloc_new w1 (.cells #[.int .i64 (err : Int), .int .i64 ((p : Int))] 25)
      have c0 : w2.cell? ⟨w1.heap.size, 0, none⟩ = some (.int .i64 (err : Int)) := by rw [hb2.cell (p := ⟨w1.heap.size, 0, none⟩) (by simp), Lib.cell_of_heap hh]; rfl
      have c1 : w2.cell? ⟨w1.heap.size, 1, none⟩ = some (.int .i64 ((p : Int))) := by rw [hb2.cell (p := ⟨w1.heap.size, 1, none⟩) (by simp), Lib.cell_of_heap hh]; rfl
      have hb12 : Below w1.heap.size w1 w2 := hba.trans (hb2.mono (by simp))
      have HB2 := hide (HB.out.trans (hb12.mono HB.out.size))
      have hg2 : Door w2 := (HB2.out.cell (World.block_lt_of_cell? _ _ HG.out)).trans HG.out
      have HA := hide (at_any er (err : Int) ((p : Int)) w2 hg2 hea)
      subst hte
      unfold faultV at HA
      clear hba hh hb12 hb2 hg2 hea HP
      go_wp2_with fail
      refine HA.out.mono ?_
      rintro e w3 ⟨rfl, hb3⟩
      have HB3 := hide hb3
      clear hb3
      go_wp2_with fail
      go_ret
      exact ⟨rfl, HB2.out.trans (HB3.out.mono HB2.out.size)⟩
    | .inr x, HR, HP, HSZ =>
      have hx := HSZ.out x rfl
      have HXS : Hid (x.text.length ≤ 1000000) := by show _ ≤ _; omega
      clear hx
      go_enter Tryd.func3, Tryd.ntmps3
      go_wp2_with fail
      refine HR.out.mono ?_
      rintro e w1 ⟨hb, g, rfl, hg⟩
      have HB := hide hb
      have HGX := hide hg
      unfold faultV
      clear hb hg HR HSZ
      go_wp2_with fail
      refine (HP.out _).mono ?_
      rintro e w2 ⟨hb2, v, rfl, hv⟩
      have hba : Below w1.heap.size w1 (w1.alloc (.cells #[.int .i64 0, .int .i64 (-1)] 25)) := (Below.refl _ _).alloc (Nat.le_refl _) _
      have hh := heap_alloc_new w1 (.cells #[.int .i64 0, .int .i64 (-1)] 25)
      have c0 : w2.cell? ⟨w1.heap.size, 0, none⟩ = some (.int .i64 0) := by rw [hb2.cell (p := ⟨w1.heap.size, 0, none⟩) (by simp), Lib.cell_of_heap hh]; rfl
      have hb12 : Below w1.heap.size w1 w2 := hba.trans (hb2.mono (by simp))
      have HB12 := hide hb12
      have HB2 := hide (HB.out.trans (hb12.mono HB.out.size))
      have HT := hide (Text_any _ x v w2 hv HXS.out)
      have HX := hide (fun (w3 : World) (hb3 : Below w2.heap.size w2 w3) => rtext_any x g w3 (HGX.out.on (HB12.out.trans (hb3.mono HB12.out.size))) HXS.out)
      obtain ⟨tu, yu, hiu⟩ := IsEx.iface _ v hv
      subst hiu
      clear hba hh hb12 hb2 hv HP
      go_wp2_with fail
      refine HT.out.mono ?_
      rintro e w3 ⟨rfl, hb3⟩
      have HB3 := hide hb3
      have HX3 := hide (HX.out w3 hb3)
      clear hb3 HX
      go_wp2_with fail
      refine HX3.out.mono ?_
      rintro e w4 ⟨rfl, hb4⟩
      have HB4 := hide hb4
      clear hb4
      go_wp2_with fail
      go_ret
      exact ⟨ret_bool (by simp), HB2.out.trans ((HB3.out.trans (HB4.out.mono HB3.out.size)).mono HB2.out.size)⟩
end Go.Proofs.YtmjlpcedeonhaaaDoor
