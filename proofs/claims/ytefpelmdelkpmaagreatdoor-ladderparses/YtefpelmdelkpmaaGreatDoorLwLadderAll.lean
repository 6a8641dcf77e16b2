/-
  The walks of Place, and of the law's own at. The walk of the statements' own at: is an error this fault? The walk of the statement LadderParses.
-/
import Derived.Test.YtefpelmdelkpmaaGreatDoorLdTakeAll
import Derived.WalkMore
import Derived.Test.YtefpelmdelkpmaaGreatDoorRpParse
import Derived.Test.YtefpelmdelkpmaaGreatDoorRlParse
import Derived.Test.YtefpelmdelkpmaaGreatDoorRlToldAll
namespace Go.Proofs.YtefpelmdelkpmaaGreatDoor
section
namespace ErAs
open Go.RowKit
/-- an error that the program hands back, its Errno and its place -/
def ErrAt (er : Value) (n pl : Int) (w : World) : Prop := (er = .iface 47 (.int .i64 n) ∧ pl = -1) ∨ ∃ a, er = .iface 79 (.pointer (some ⟨a, 0, none⟩)) ∧ w.cell? ⟨a, 0, none⟩ = some (.int .i64 n) ∧ w.cell? ⟨a, 1, none⟩ = some (.int .i64 pl)
theorem ErrAt.finds {er : Value} {n pl : Int} {w : World} (h : ErrAt er n pl w) : Finds er n w := by
  rcases h with ⟨h, _⟩ | ⟨a, h, h1, _⟩
  · exact .inl h
  · exact .inr ⟨_, h, h1⟩
set_option maxHeartbeats 2000000 in
set_option maxRecDepth 100000 in
theorem Place_any (er : Value) (n pl : Int) (w : World) (hg : Door w) (hf : ErrAt er n pl w) :
    Calls Tryz.prog 26 #[er] w fun e w' => e = .returned (.tuple #[.int .i64 n, .int .i64 pl]) ∧ Below w.heap.size w w' := by
  have HC := hide (Tell_any er n w hg hf.finds)
  clear hg
  rcases hf with ⟨rfl, rfl⟩ | ⟨a, rfl, h0, h1⟩
  · have sE := atE
    have sU := unE
    go_enter Tryz.func26, Tryz.ntmps26
    go_wp2_with fail
    refine HC.out.mono ?_
    rintro e w1 ⟨rfl, hb⟩
    have HB := hide hb
    clear hb HC
    go_wp2_with fail
    refine wp_loop_rounds 1 ?_
    rw [rounds_succ]
    go_wp2_with fail
    refine bodyPost_ret_by (v := .tuple #[.int .i64 n, .int .i64 (-1)]) ?_ rfl ⟨rfl, HB.out⟩
    simp [results, Tryz.results26, go_sem]
  · have sA := atA
    go_enter Tryz.func26, Tryz.ntmps26
    go_wp2_with fail
    refine HC.out.mono ?_
    rintro e w1 ⟨rfl, hb⟩
    have HB := hide hb
    have h1' := (hb.cell (World.block_lt_of_cell? _ _ h1)).trans h1
    clear hb HC h0 h1
    go_wp2_with fail
    refine wp_loop_rounds 1 ?_
    rw [rounds_succ]
    go_wp2_with fail
    go_quiet (fail)
    go_wp2_with fail
    refine bodyPost_ret_by (v := .tuple #[.int .i64 n, .int .i64 pl]) ?_ rfl ⟨rfl, ⟨HB.out.os, HB.out.tape, HB.out.output, HB.out.size, HB.out.block⟩⟩
    simp [results, Tryz.results26, go_sem]
end ErAs
end
section
open Go.RowKit ErAs
set_option maxHeartbeats 2000000 in
set_option maxRecDepth 100000 in
theorem at_any (er : Value) (n pl : Int) (w : World) (hg : Door w) (hf : ErrAt er n pl w) :
    Calls Tryz.prog 7 #[er, faultV n pl] w fun e w' => e = .returned (.bool true) ∧ Below w.heap.size w w' := by
  obtain ⟨w1, hw1⟩ : ∃ w1, w1 = w.alloc (.cells #[.int .i64 n, .int .i64 pl] 49) := ⟨_, rfl⟩
  have hb1 : Below w.heap.size w w1 := by rw [hw1]; exact (Below.refl _ _).alloc (Nat.le_refl _) _
  have hg1 : Door w1 := (hb1.cell (World.block_lt_of_cell? _ _ hg)).trans hg
  have hf1 : ErrAt er n pl w1 := by
    rcases hf with h | ⟨a, h, h1, h2⟩
    · exact .inl h
    · exact .inr ⟨a, h, (hb1.cell (World.block_lt_of_cell? _ _ h1)).trans h1, (hb1.cell (World.block_lt_of_cell? _ _ h2)).trans h2⟩
  have HC := hide (Place_any er n pl w1 hg1 hf1)
  have hh : w1.heap[w.heap.size]? = some (.cells #[.int .i64 n, .int .i64 pl] 49 (0, 0)) := by rw [hw1]; exact heap_alloc_new _ _
  have HH := hide hh
  have HS1 : Hid (w1.heap.size = w.heap.size + 1) := by show _ = _; rw [hw1]; simp
  obtain ⟨te, ve, hte⟩ : ∃ te ve, er = .iface te ve := by
    rcases hf with ⟨rfl, _⟩ | ⟨q, rfl, _⟩
    · exact ⟨_, _, rfl⟩
    · exact ⟨_, _, rfl⟩
  subst hte
  have HB1 := hide hb1
  have HW1 := hide hw1
  rw [hw1] at HC
  unfold faultV
  clear hg hf hg1 hf1 hb1 hw1 hh
  go_enter Tryz.func7, Tryz.ntmps7
  go_wp2_with fail
  refine HC.out.mono ?_
  rintro e w2 ⟨rfl, hb⟩
  rw [← HW1.out] at hb
  have c0 : w2.cell? ⟨w.heap.size, 0, none⟩ = some (.int .i64 n) := by rw [hb.cell (p := ⟨w.heap.size, 0, none⟩) (by rw [HS1.out]; simp), Lib.cell_of_heap HH.out]; rfl
  have c1 : w2.cell? ⟨w.heap.size, 1, none⟩ = some (.int .i64 pl) := by rw [hb.cell (p := ⟨w.heap.size, 1, none⟩) (by rw [HS1.out]; simp), Lib.cell_of_heap HH.out]; rfl
  have HB := hide hb
  clear hb HC
  go_wp2_with fail
  go_ret
  exact ⟨ret_bool (by simp), HB1.out.trans (HB.out.mono HB1.out.size)⟩
end
section
open Go.RowKit
theorem names_slice {w : World} {sv : Value} {ns : List Ld.Nme} (h : NamesAt w sv ns) : ∃ a n c, sv = .slice a n c := by
  rcases h with ⟨_, a, c, rfl⟩ | ⟨g, cap, rfl, _⟩
  · exact ⟨_, _, _, rfl⟩
  · exact ⟨_, _, _, rfl⟩
theorem rungs_slice {w : World} {sv : Value} {rs : List Ld.Rng} (h : RungsAt w sv rs) : ∃ a n c, sv = .slice a n c := by
  rcases h with ⟨_, a, c, rfl⟩ | ⟨g, cap, rfl, _⟩
  · exact ⟨_, _, _, rfl⟩
  · exact ⟨_, _, _, rfl⟩
set_option maxHeartbeats 8000000 in
set_option maxRecDepth 100000 in
theorem ladderParses_any (s : ByteArray) (w : World) (hs : s.size ≤ maxLen) (hL : Laid w) (hP : PLaid w) :
    Calls Tryz.prog 4 #[.string s] w fun e w' => e = .returned (.bool true) ∧ Below w.heap.size w w' := by
  obtain ⟨T, hT⟩ : ∃ T, T = s.data.toList := ⟨_, rfl⟩
  have HST : Hid (s = ⟨T.toArray⟩) := by show _ = _; rw [hT]
  have hTl : T.length = s.size := by rw [hT]; simp
  have HRP := hide (rparse_any s w hP)
  rw [← hT] at HRP
  have HLP : Hid (∀ W, Below w.heap.size w W → Calls Tryz.prog 19 #[.string s] W (LParsed W (Ld.parse T))) := fun W hW => by
    rw [HST.out]
    exact LParse_any T W (by rw [hTl]; exact hs) (hL.below hW)
  have HL := hide hL
  have HP := hide hP
  unfold maxLen at hs
  clear hT hL hP
  by_cases hA : 3000 < s.size ∧ s.size ≤ 20000
  · have h1 : (3000 : Int) < (s.size : Int) := by omega
    have h2 : (s.size : Int) ≤ 20000 := by omega
    go_enter Tryz.func4, Tryz.ntmps4
    go_wp2_with fail
    go_ret
    exact ⟨rfl, Below.refl _ _⟩
  by_cases hB : 30000 < s.size
  · have h1 : (3000 : Int) < (s.size : Int) := by omega
    have h2 : ¬ (s.size : Int) ≤ 20000 := by omega
    have h3 : (30000 : Int) < (s.size : Int) := by omega
    go_enter Tryz.func4, Tryz.ntmps4
    go_wp2_with fail
    go_ret
    exact ⟨rfl, Below.refl _ _⟩
  have h3 : ¬ (30000 : Int) < (s.size : Int) := by omega
  obtain ⟨res, hres⟩ : ∃ res, res = Ld.parse T := ⟨_, rfl⟩
  rw [← hres] at HRP HLP
  clear hres
  go_enter Tryz.func4, Tryz.ntmps4
  go_upto_region 1 with fail
  go_cut [19] (fun t wx => t = .bool false ∧ Hid (w = wx))
  case first =>
    by_cases h1 : 3000 < s.size
    · have h1i : (3000 : Int) < (s.size : Int) := by omega
      have h2i : ¬ (s.size : Int) ≤ 20000 := by omega
      go_wp2_with fail
      go_meet
      exact ⟨rfl, by first | exact trivial | exact (rfl : _ = _)⟩
    · have h1i : ¬ (3000 : Int) < (s.size : Int) := by omega
      go_wp2_with fail
      go_meet
      exact ⟨rfl, by first | exact trivial | exact (rfl : _ = _)⟩
  case rest =>
    obtain ⟨rfl, HWW⟩ := hcut
    obtain rfl := HWW.out
    clear HWW
    go_wp2_with fail
    refine HRP.out.mono ?_
    intro e w1 hq
    obtain ⟨hb1, hq⟩ := hq
    clear HRP
    match res, hq, HLP with
    | .inl (er, pl), hq, HLP =>
      have her := hq.2
      obtain ⟨plv, rfl, hmap⟩ : ∃ plv : Int, e = .returned (.tuple #[.agg #[.slice none 0 0, .slice none 0 0], faultV (er : Int) plv]) ∧ ∀ (W : World) (u : Value), ErrIs W u (some (er, pl)) → ErAs.ErrAt u (er : Int) plv W := by
        cases pl with
        | none => exact ⟨-1, hq.1, fun W u h => .inl ⟨h, rfl⟩⟩
        | some pp => exact ⟨(pp : Int), hq.1, fun W u h => by obtain ⟨a, h1, h2, h3⟩ := h; exact .inr ⟨a, h1, h2, h3⟩⟩
      have HMP := hide hmap
      clear hq hmap
      obtain ⟨wB, hwB⟩ : ∃ wB, wB = (w1.alloc (.cells #[.slice none 0 0, .slice none 0 0] 32)).alloc (.cells #[.int .i64 (er : Int), .int .i64 plv] 49) := ⟨_, rfl⟩
      have hb1B : Below w1.heap.size w1 wB := by rw [hwB]; exact ((Below.refl _ _).alloc (Nat.le_refl _) _).alloc (by simp) _
      have hbB : Below w.heap.size w wB := hb1.trans (hb1B.mono hb1.size)
      have hfB : wB.heap[w1.heap.size + 1]? = some (.cells #[.int .i64 (er : Int), .int .i64 plv] 49 (0, 0)) := by
        rw [hwB]
        have h1 := heap_alloc_new (w1.alloc (.cells #[.slice none 0 0, .slice none 0 0] 32)) (.cells #[.int .i64 (er : Int), .int .i64 plv] 49)
        rw [World.size_alloc] at h1
        exact h1
      have hzB : wB.heap.size = w1.heap.size + 2 := by rw [hwB]; simp
      have HPA := hide (HLP.out wB hbB)
      have HBB := hide hbB
      have HFB := hide hfB
      have HZB := hide hzB
      have heri : ¬ ((er : Nat) : Int) = 0 := by omega
      rw [hwB] at HPA
      have HWB := hide hwB
      unfold faultV
      clear hwB hb1B hbB hfB hzB hb1 HLP
      go_wp2_with fail
      refine HPA.out.mono ?_
      rw [← HWB.out]
      intro e w2 hq
      obtain ⟨hb2, u, rfl, hu⟩ := hq
      obtain ⟨wC, hwC⟩ : ∃ wC, wC = w2.alloc (.cells #[.slice none 0 0, .slice none 0 0] 28) := ⟨_, rfl⟩
      have hb2C : Below w2.heap.size w2 wC := by rw [hwC]; exact (Below.refl _ _).alloc (Nat.le_refl _) _
      have hbBC : Below wB.heap.size wB wC := hb2.trans (hb2C.mono hb2.size)
      have hbC : Below w.heap.size w wC := HBB.out.trans (hbBC.mono HBB.out.size)
      have hfC := (hbBC.block (w1.heap.size + 1) (by rw [HZB.out]; omega)).trans HFB.out
      have c0 : wC.cell? ⟨w1.heap.size + 1, 0, none⟩ = some (.int .i64 (er : Int)) := by rw [Lib.cell_of_heap hfC]; rfl
      have c1 : wC.cell? ⟨w1.heap.size + 1, 1, none⟩ = some (.int .i64 plv) := by rw [Lib.cell_of_heap hfC]; rfl
      have hea := HMP.out _ _ (hu.below hb2C)
      have hat := at_any u (er : Int) plv wC (HL.out.below hbC).door hea
      unfold faultV at hat
      have HAT := hide hat
      have p0 : wC.cell? ⟨w2.heap.size, 0, none⟩ = some (.slice none 0 0) := by rw [hwC]; exact Lib.cell_of_heap (heap_alloc_new w2 _) 0
      have p1 : wC.cell? ⟨w2.heap.size, 1, none⟩ = some (.slice none 0 0) := by rw [hwC]; exact Lib.cell_of_heap (heap_alloc_new w2 _) 1
      obtain ⟨te, ve, hte⟩ : ∃ te ve, u = .iface te ve := by
        rcases hea with ⟨rfl, _⟩ | ⟨q, rfl, _⟩
        · exact ⟨_, _, rfl⟩
        · exact ⟨_, _, rfl⟩
      subst hte
      have HBC := hide hbC
      have HWC := hide hwC
      clear hb2 hu hb2C hbBC hbC hfC hea hat HPA
      go_upto_region 5 with fail
      rw [← HWC.out]
      clear hwC
      go_wp2_with fail
      refine HAT.out.mono ?_
      rintro e w3 ⟨rfl, hb3⟩
      have p0' := (hb3.cell (World.block_lt_of_cell? _ _ p0)).trans p0
      have p1' := (hb3.cell (World.block_lt_of_cell? _ _ p1)).trans p1
      have HB3 := hide (HBC.out.trans (hb3.mono HBC.out.size))
      clear hb3 p0 p1 c0 c1 HAT
      go_wp2_with fail
      go_ret
      exact ⟨rfl, HB3.out⟩
    | .inr p, hq, HLP =>
      obtain ⟨nv, rv, rfl, hprg, hck⟩ := hq
      obtain ⟨na, nn, nc, hnv⟩ : ∃ a n c, nv = .slice a n c := by
        obtain ⟨nv', rv', he, hn, _⟩ := hprg
        simp only [Value.agg.injEq, List.toArray_eq_iff, List.cons.injEq, and_true] at he
        obtain ⟨rfl, rfl⟩ := he
        obtain ⟨a, n, c, h⟩ := names_slice hn
        exact ⟨a, n, c, h⟩
      obtain ⟨ra, rn, rc, hrv⟩ : ∃ a n c, rv = .slice a n c := by
        obtain ⟨nv', rv', he, _, hr⟩ := hprg
        simp only [Value.agg.injEq, List.toArray_eq_iff, List.cons.injEq, and_true] at he
        obtain ⟨rfl, rfl⟩ := he
        obtain ⟨a, c, h, _⟩ := hr.slice
        exact ⟨a, _, c, h⟩
      subst hnv
      subst hrv
      obtain ⟨wB, hwB⟩ : ∃ wB, wB = (w1.alloc (.cells #[.slice na nn nc, .slice ra rn rc] 32)).alloc (.cells #[.int .i64 0, .int .i64 (-1)] 49) := ⟨_, rfl⟩
      have hb1B : Below w1.heap.size w1 wB := by rw [hwB]; exact ((Below.refl _ _).alloc (Nat.le_refl _) _).alloc (by simp) _
      have hbB : Below w.heap.size w wB := hb1.trans (hb1B.mono hb1.size)
      have hpB : wB.heap[w1.heap.size]? = some (.cells #[.slice na nn nc, .slice ra rn rc] 32 (0, 0)) := by
        rw [hwB, Below.heap_alloc _ _ _ (by simp)]; exact heap_alloc_new _ _
      have hfB : wB.heap[w1.heap.size + 1]? = some (.cells #[.int .i64 0, .int .i64 (-1)] 49 (0, 0)) := by
        rw [hwB]
        have h1 := heap_alloc_new (w1.alloc (.cells #[.slice na nn nc, .slice ra rn rc] 32)) (.cells #[.int .i64 0, .int .i64 (-1)] 49)
        rw [World.size_alloc] at h1
        exact h1
      have hzB : wB.heap.size = w1.heap.size + 2 := by rw [hwB]; simp
      have HRB := hide (hprg.below hb1B)
      have HPA := hide (HLP.out wB hbB)
      have HBB := hide hbB
      have HPB := hide hpB
      have HFB := hide hfB
      have HZB := hide hzB
      have HCK := hide hck
      rw [hwB] at HPA
      have HWB := hide hwB
      unfold faultV
      clear hwB hb1B hbB hfB hpB hzB hb1 HLP hprg hck
      go_wp2_with fail
      refine HPA.out.mono ?_
      rw [← HWB.out]
      intro e w2 hq
      obtain ⟨hb2, v, rfl, hv, _⟩ := hq
      obtain ⟨nv2, rv2, rfl, hn2, hr2⟩ := hv
      have HV2 : Hid (IsPrg w2 p (.agg #[nv2, rv2])) := ⟨nv2, rv2, rfl, hn2, hr2⟩
      obtain ⟨na2, nn2, nc2, rfl⟩ := names_slice hn2
      obtain ⟨ra2, rn2, rc2, rfl⟩ := rungs_slice hr2
      obtain ⟨wC, hwC⟩ : ∃ wC, wC = w2.alloc (.cells #[.slice na2 nn2 nc2, .slice ra2 rn2 rc2] 28) := ⟨_, rfl⟩
      have hb2C : Below w2.heap.size w2 wC := by rw [hwC]; exact (Below.refl _ _).alloc (Nat.le_refl _) _
      have hbBC : Below wB.heap.size wB wC := hb2.trans (hb2C.mono hb2.size)
      have hbC : Below w.heap.size w wC := HBB.out.trans (hbBC.mono HBB.out.size)
      have hfC := (hbBC.block (w1.heap.size + 1) (by rw [HZB.out]; omega)).trans HFB.out
      have hpC := (hbBC.block w1.heap.size (by rw [HZB.out]; omega)).trans HPB.out
      have hqC : wC.heap[w2.heap.size]? = some (.cells #[.slice na2 nn2 nc2, .slice ra2 rn2 rc2] 28 (0, 0)) := by rw [hwC]; exact heap_alloc_new w2 _
      have c0 : wC.cell? ⟨w1.heap.size + 1, 0, none⟩ = some (.int .i64 0) := by rw [Lib.cell_of_heap hfC]; rfl
      have HSS : Hid (∀ W, Below wC.heap.size wC W → W.cell? ⟨w2.heap.size, 0, none⟩ = some (.slice na2 nn2 nc2) ∧ W.cell? ⟨w2.heap.size, 1, none⟩ = some (.slice ra2 rn2 rc2) ∧ W.cell? ⟨w1.heap.size, 0, none⟩ = some (.slice na nn nc) ∧ W.cell? ⟨w1.heap.size, 1, none⟩ = some (.slice ra rn rc)) := fun W hW => by
        have h1 := (hW.block _ (Array.getElem?_eq_some_iff.1 hqC).1).trans hqC
        have h2 := (hW.block _ (Array.getElem?_eq_some_iff.1 hpC).1).trans hpC
        exact ⟨by rw [Lib.cell_of_heap h1]; rfl, by rw [Lib.cell_of_heap h1]; rfl, by rw [Lib.cell_of_heap h2]; rfl, by rw [Lib.cell_of_heap h2]; rfl⟩
      obtain ⟨q0, q1, q2, q3⟩ := HSS.out wC (Below.refl _ _)
      have HTX : Hid (∀ W, Below wC.heap.size wC W → Calls Tryz.prog 13 #[.agg #[.slice na2 nn2 nc2, .slice ra2 rn2 rc2]] W fun e w' => e = .returned (.string ⟨(Ld.text p).toArray⟩) ∧ Below wC.heap.size wC w') := fun W hW => by
        have h1 := hbC.trans (hW.mono hbC.size)
        have h2 := HL.out.below h1
        refine (LText_any p _ W ((HV2.out.below hb2C).below hW) h2.words h2.pows h2.low).mono ?_
        rintro e w' ⟨rfl, h3⟩
        exact ⟨rfl, hW.trans (h3.mono hW.size)⟩
      have HRT : Hid (∀ W, Below wC.heap.size wC W → Calls Tryz.prog 14 #[.agg #[.slice na nn nc, .slice ra rn rc]] W fun e w' => e = .returned (.string ⟨(Ld.text p).toArray⟩) ∧ Below wC.heap.size wC w') := fun W hW => by
        have h1 := hbC.trans (hW.mono hbC.size)
        have h2 := HP.out.below h1
        refine (rptext_any p _ W ((HRB.out.below hbBC).below hW) h2.wd.words h2.pows (Nat.lt_of_lt_of_le (by decide : 9 < 14) h2.low) HCK.out).mono ?_
        rintro e w' ⟨rfl, h3⟩
        exact ⟨rfl, hW.trans (h3.mono hW.size)⟩
      have HDA : Hid (Below wC.heap.size wC wC.drew) := ⟨rfl, rfl, rfl, Nat.le_refl _, fun _ _ => rfl⟩
      have HBC := hide hbC
      have HWC := hide hwC
      generalize (Ld.text p).toArray = tx at *
      clear hb2 hb2C hbBC hbC hfC hpC hqC hn2 hr2 HPA HV2 HRB
      go_upto_region 5 with fail
      rw [← HWC.out]
      clear hwC
      go_upto_region 7 with fail
      go_region_held3 (fun W => W.cell? ⟨w2.heap.size, 0, none⟩ = some (.slice na2 nn2 nc2) ∧ W.cell? ⟨w2.heap.size, 1, none⟩ = some (.slice ra2 rn2 rc2) ∧ W.cell? ⟨w1.heap.size, 0, none⟩ = some (.slice na nn nc) ∧ W.cell? ⟨w1.heap.size, 1, none⟩ = some (.slice ra rn rc)) ((first | exact HSS.out _ (Below.refl _ _) | exact HSS.out _ HDA.out | exact HSS.out _ HB4.out | exact HSS.out _ HB5.out)) ((first
        | (go_at_call 13; (with_reducible refine (HTX.out _ (by first | exact HDA.out | exact HB5.out)).mono ?_); rintro e w4 ⟨rfl, hb4⟩; have HB4 := hide hb4; clear hb4)
        | (go_at_call 14; (with_reducible refine (HRT.out _ (by first | exact HDA.out | exact HB4.out)).mono ?_); rintro e w5 ⟨rfl, hb5⟩; have HB5 := hide hb5; clear hb5)))
      all_goals go_wp2_with fail
      all_goals go_ret
      all_goals first
        | exact ⟨rfl, HBC.out.trans (HB5.out.mono HBC.out.size)⟩
        | exact ⟨rfl, HBC.out.trans (HB4.out.mono HBC.out.size)⟩
end
end Go.Proofs.YtefpelmdelkpmaaGreatDoor
