/-
  The walks of package lasso's timesOf, next, not, anytime.
-/
import Derived.Test.YtmdblokmplbpmaaDoorLsConcat
namespace Go.Proofs.YtmdblokmplbpmaaDoor
namespace Ls
open Go.RowKit
theorem set2_below {w W : World} {b : Nat} (x y : Value) (h : Below w.heap.size w W) (hb : w.heap.size ≤ b) : Below w.heap.size w ((W.setCell ⟨b, 0, none⟩ x).setCell ⟨b, 1, none⟩ y) := (h.setCell hb _).setCell hb _
theorem two_new0 (W : World) (x y : Value) (t : TypeId) : (W.alloc (.cells #[x, y] t)).cell? ⟨W.heap.size, 0, none⟩ = some x := by rw [Lib.cell_of_heap (heap_alloc_new W _)]; rfl
theorem two_new1 (W : World) (x y : Value) (t : TypeId) : (W.alloc (.cells #[x, y] t)).cell? ⟨W.heap.size, 1, none⟩ = some y := by rw [Lib.cell_of_heap (heap_alloc_new W _)]; rfl
set_option maxHeartbeats 4000000 in
set_option maxRecDepth 100000 in
theorem timesOf_any (A R : List (List (List UInt8))) (av rv : Value) (w : World) (hA : Rows w av A) (hR : Rows w rv R) (h0 : 0 < R.length) (h60 : A.length + R.length ≤ 60) :
    Calls Tryd.prog 24 #[.agg #[av, rv]] w fun e w' => ∃ v, e = .returned (.agg #[v, .int .i64 (A.length : Int)]) ∧ Rows w' v (A ++ R) ∧ Below w.heap.size w w' := by
  obtain ⟨ua, va, ea⟩ := hA.vals
  obtain ⟨ur, vr, er⟩ := hR.vals
  have HC := hide (fun (W : World) (g : Nat) (hW : Below w.heap.size w W) => concat_any ua ur av rv g W (va.below hW) (vr.below hW) ea.slice er.slice (by rw [er.1]; exact h0) (by rw [ea.1, er.1]; exact h60))
  obtain ⟨len, hln⟩ : ∃ len, len = (ua ++ ur).length := ⟨_, rfl⟩
  rw [← hln] at HC
  have HLN := hide hln
  clear hln
  have HE := hide (ea.append er)
  have HL : Hid ((A ++ R).length ≤ maxLen) := by rw [List.length_append]; unfold maxLen; show _ ≤ _; omega
  clear ea er va vr
  obtain ⟨aa, ac, rfl⟩ := hA.slice
  obtain ⟨ra, rc, rfl⟩ := hR.slice
  clear hA hR
  obtain ⟨wB, hwB⟩ : ∃ wB, wB = (w.alloc (.cells #[.slice aa A.length ac, .slice ra R.length rc] 24)).alloc (.cells #[.slice none 0 0, .int .i64 0] 67) := ⟨_, rfl⟩
  have hsz : wB.heap.size = w.heap.size + 2 := by rw [hwB]; simp
  have HBB : Hid (Below w.heap.size w wB) := by rw [hwB]; exact (newB _ _).trans ((newB _ _).mono (by simp))
  have c0 : wB.cell? ⟨w.heap.size, 0, none⟩ = some (.slice aa A.length ac) := by rw [hwB]; exact cell_alloc_keep _ _ _ _ (by rw [Lib.cell_of_heap (heap_alloc_new w _)]; rfl)
  have c1 : wB.cell? ⟨w.heap.size, 1, none⟩ = some (.slice ra R.length rc) := by rw [hwB]; exact cell_alloc_keep _ _ _ _ (by rw [Lib.cell_of_heap (heap_alloc_new w _)]; rfl)
  generalize A.length = n at *
  generalize R.length = m at *
  have hrow : RowIs wB (w.heap.size + 1) 67 [.slice none 0 0, .int .i64 0] := by rw [hwB]; have := RowIs.new (w.alloc (.cells #[.slice aa n ac, .slice ra m rc] 24)) 67 [.slice none 0 0, .int .i64 0]; simpa using this
  have HROW := hide hrow
  have HSZ := hide hsz
  clear hrow hsz
  go_enter Tryd.func24, Tryd.ntmps24
  go_wp2_with fail
  rw [← hwB]
  have HWB := hide hwB
  clear hwB
  have HD := hide (drewB wB)
  go_region_held3 (fun W => W.cell? ⟨w.heap.size, 0, none⟩ = some (.slice aa n ac) ∧ W.cell? ⟨w.heap.size, 1, none⟩ = some (.slice ra m rc)) ((first
     | exact ⟨c0, c1⟩ | exact ⟨kept HD.out c0, kept HD.out c1⟩
     | exact ⟨cell_alloc_keep _ _ _ _ (kept HD.out c0), cell_alloc_keep _ _ _ _ (kept HD.out c1)⟩
     | exact ⟨kept HB1.out c0, kept HB1.out c1⟩
     | exact ⟨cell_set_block _ _ _ _ _ _ _ (by omega) (cell_set_block _ _ _ _ _ _ _ (by omega) (kept HB1.out c0)), cell_set_block _ _ _ _ _ _ _ (by omega) (cell_set_block _ _ _ _ _ _ _ (by omega) (kept HB1.out c1))⟩)) ((first
     | (go_at_call 38; (refine (HC.out _ _ (HBB.out.trans ((then_ HD.out (newB _ _)).mono HBB.out.size)) (two_new0 wB.drew _ _ _) (two_new1 wB.drew _ _ _)).mono ?_); rintro e w1 ⟨v1, rfl, hr1, hb1⟩; have HB1 : Hid (Below wB.heap.size wB w1) := then_ (then_ HD.out (newB _ _)) hb1; have HR1 := hide hr1; obtain ⟨a1, cp1, rfl⟩ := own_slice hr1; have z0 := (HROW.out.below HB1.out).cell 0 _ rfl; have z1 := (HROW.out.below HB1.out).cell 1 _ rfl; have f0 := (HROW.out.below HB1.out).frozen 0; have f1 := (HROW.out.below HB1.out).frozen 1; clear hb1 hr1)))
  have HBW := hide (HBB.out.trans (HB1.out.mono HBB.out.size))
  go_wp2_with fail
  have hs0 : w.heap.size + 1 < wB.heap.size := by rw [HSZ.out]; omega
  refine bodyPost_ret_by (v := .agg #[.slice a1 len cp1, .int .i64 (n : Int)]) ?_ rfl ?_
  · simp [results, Tryd.results24, go_sem, z0, z1]
  · refine ⟨_, rfl, ?_, set2_below _ _ HBW.out (by omega)⟩
    have hb2 := set2_below (b := w.heap.size + 1) (.slice a1 len cp1) (.int .i64 (n : Int)) HBW.out (by omega)
    refine rows_own (us := ua ++ ur) (q := 0) ?_ HL.out (HE.out.below hb2)
    have ho := HR1.out
    rw [← HLN.out]
    refine ⟨ho.1, ?_⟩
    rcases ho.2 with h | ⟨g, cap, cur, e1, e2, e3, e4⟩
    · exact .inl h
    · refine .inr ⟨g, cap, cur, e1, Nat.zero_le _, ?_, e4⟩
      have hne : g ≠ w.heap.size + 1 := by simp at e2; omega
      rw [Below.heap_setCell _ _ _ _ (fun e => hne e), Below.heap_setCell _ _ _ _ (fun e => hne e)]
      exact e3
end Ls
end Go.Proofs.YtmdblokmplbpmaaDoor
