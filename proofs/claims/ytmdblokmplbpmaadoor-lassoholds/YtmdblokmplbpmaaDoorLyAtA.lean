/-
  The walk of the document's At, at And, Or and Next.
-/
import Derived.Test.YtmdblokmplbpmaaDoorLyAtB
import Derived.Test.YtmdblokmplbpmaaDoorLyFork
namespace Go.Proofs.YtmdblokmplbpmaaDoor
namespace Ls
open Go.RowKit
set_option maxHeartbeats 8000000 in
set_option maxRecDepth 100000 in
theorem rat_and (nm : List UInt8) (y z : Fm) (hy : RAtOK y) (hz : RAtOK z) : RAtOK ⟨false, 4, nm, [y, z]⟩ := by
  intro hwf A R av rv v w t hA hR h0 h60 hnb hF ht
  obtain ⟨-, hnm, -, b, sa, sc, -, rfl, d0, d1, d2, hrow⟩ := isF_node.1 hF
  have HST := hide (AtS.first A R av rv w)
  obtain ⟨wB, hwB⟩ : ∃ wB, wB = ((w.alloc (.cells #[av, rv] 29)).alloc (.cells #[.int .i64 (A.length : Int)] 3)) := ⟨_, rfl⟩
  rw [← hwB] at HST
  have e0 := kept HST.out.B d0
  have e1 := kept HST.out.B d1
  have e2 := kept HST.out.B d2
  have ea := HST.out.a
  have er := HST.out.r
  have HFD := hide (fun i hi W hW => HST.out.fold hR h0 h60 i hi W hW)
  have HAA := hide hA
  have HRR := hide hR
  have HD := hide (drewB wB)
  have hal : (A.length : Int) ≤ 60 := by omega
  have hrl : (R.length : Int) ≤ 60 := by omega
  have hti : (t : Int) ≤ 60 := by omega
  have h0i : (0 : Int) < (R.length : Int) := by omega
  have hmx : (t : Int) < (A.length : Int) ∨ ¬ (t : Int) < (A.length : Int) := Decidable.em _
  obtain ⟨g, o, u, -, rfl, -, hc, hyu⟩ := hrow 0 y rfl
  obtain ⟨g', o', u2, -, hsa', -, hcb, hzu⟩ := hrow 1 z rfl
  simp only [Option.some.injEq, Addr.mk.injEq, and_true] at hsa'
  obtain ⟨rfl, rfl⟩ := hsa'
  have HC := hide (fun s (hs : s < A.length + R.length) W (hW : Below w.heap.size w W) => hy ((wf_parts hwf).2 y (by simp)) A R av rv u W s (hA.below hW) (hR.below hW) h0 h60 hnb (hyu.below hW) hs)
  have HC2 := hide (fun s (hs : s < A.length + R.length) W (hW : Below w.heap.size w W) => hz ((wf_parts hwf).2 z (by simp)) A R av rv u2 W s (hA.below hW) (hR.below hW) h0 h60 hnb (hzu.below hW) hs)
  have HS : Hid (sem (A ++ R) A.length ⟨false, 4, nm, [y, z]⟩ t = (sem (A ++ R) A.length y t && sem (A ++ R) A.length z t)) := by show _ = _; rw [sem_eq]; rfl
  have ec : wB.cell? ⟨g, o, none⟩ = some u := kept HST.out.B hc
  have ec1 : wB.cell? ⟨g, o + 1, none⟩ = some u2 := kept HST.out.B hcb
  obtain ⟨pu, rfl⟩ := hyu.ptr
  obtain ⟨pz, rfl⟩ := hzu.ptr
  obtain ⟨aa, ac, rfl⟩ := hA.slice
  obtain ⟨ra, rc, rfl⟩ := hR.slice
  have HWB := hide hwB
  have HT0 := hide ht
  have H60 := hide h60
  have HNB := hide hnb
  clear hnb
  have HC1 := hide (HC.out t ht wB.drew (then_ HST.out.B HD.out))
  have HC3 := hide (fun W hW => HC2.out t ht W hW)
  have HKC : Hid (∀ W, Below wB.heap.size wB W → W.cell? ⟨b, 2, none⟩ = some (.slice (some ⟨g, o, none⟩) 2 sc) ∧ W.cell? ⟨g, o, none⟩ = some (.pointer pu) ∧ W.cell? ⟨g, o + 1, none⟩ = some (.pointer pz) ∧ W.cell? ⟨w.heap.size, 0, none⟩ = some (.slice aa A.length ac) ∧ W.cell? ⟨w.heap.size, 1, none⟩ = some (.slice ra R.length rc)) := fun W hW => ⟨kept hW e2, kept hW ec, kept hW ec1, kept hW ea, kept hW er⟩
  clear hwf hA hR hF hrow hwB d0 d1 d2 h0 h60 ht hyu hy hc hzu hz hcb
  generalize sem (A ++ R) A.length y t = by_ at *
  generalize sem (A ++ R) A.length z t = bz at *
  have hby : by_ = false ∨ by_ = true := by cases by_ <;> simp
  rcases hby with rfl | rfl <;> rcases hmx with hmx | hmx
  · go_enter Tryd.func12, Tryd.ntmps12
    go_upto_region 4 with fail
    rw [← HWB.out]
    go_wp2_with fail
    refine wp_region_noPanic ?_
    refine wp_region_held_drew (S := (fun W => W.cell? ⟨b, 2, none⟩ = some (.slice (some ⟨g, o, none⟩) 2 sc) ∧ W.cell? ⟨g, o, none⟩ = some (.pointer pu) ∧ W.cell? ⟨g, o + 1, none⟩ = some (.pointer pz) ∧ W.cell? ⟨w.heap.size, 0, none⟩ = some (.slice aa A.length ac) ∧ W.cell? ⟨w.heap.size, 1, none⟩ = some (.slice ra R.length rc))) (by kernel_rfl) (HKC.out _ HD.out) (fun hHeld => ?_)
    refine take_at 0 67 (.pointer (some ⟨b, 0, none⟩)) rfl rfl (by kernel_rfl) (by kernel_rfl) (by kernel_rfl) (fun _ _ _ h => h) hHeld (Or.inl ⟨by rfl, ?_⟩) ?_
    · rintro Z ⟨z0, z1, z2, z3, z4⟩
      go_simp
    simp only [List.setIfInBounds_toArray, List.set_cons_zero, List.set_cons_succ]
    refine take_at 1 68 (.pointer (some ⟨b, 0, none⟩)) rfl rfl (by kernel_rfl) (by kernel_rfl) (by kernel_rfl) (fun _ _ _ h => h) hHeld (Or.inl ⟨by rfl, ?_⟩) ?_
    · rintro Z ⟨z0, z1, z2, z3, z4⟩
      go_simp
    simp only [List.setIfInBounds_toArray, List.set_cons_zero, List.set_cons_succ]
    refine take_at 2 69 (.pointer (some ⟨b, 2, none⟩)) rfl rfl (by kernel_rfl) (by kernel_rfl) (by kernel_rfl) (fun _ _ _ h => h) hHeld (Or.inl ⟨by rfl, ?_⟩) ?_
    · rintro Z ⟨z0, z1, z2, z3, z4⟩
      go_simp
    simp only [List.setIfInBounds_toArray, List.set_cons_zero, List.set_cons_succ]
    refine take_at 3 70 (.slice (some ⟨g, o, none⟩) 2 sc) rfl rfl (by kernel_rfl) (by kernel_rfl) (by kernel_rfl) (fun _ _ _ h => h) hHeld (Or.inl ⟨by rfl, ?_⟩) ?_
    · rintro Z ⟨z0, z1, z2, z3, z4⟩
      go_simp
    simp only [List.setIfInBounds_toArray, List.set_cons_zero, List.set_cons_succ]
    refine take_at 4 71 (.pointer (some ⟨g, o, none⟩)) rfl rfl (by kernel_rfl) (by kernel_rfl) (by kernel_rfl) (fun _ _ _ h => h) hHeld (Or.inl ⟨by rfl, ?_⟩) ?_
    · rintro Z ⟨z0, z1, z2, z3, z4⟩
      go_simp
    simp only [List.setIfInBounds_toArray, List.set_cons_zero, List.set_cons_succ]
    refine take_at 5 72 (.pointer pu) rfl rfl (by kernel_rfl) (by kernel_rfl) (by kernel_rfl) (fun _ _ _ h => h) hHeld (Or.inl ⟨by rfl, ?_⟩) ?_
    · rintro Z ⟨z0, z1, z2, z3, z4⟩
      go_simp
    simp only [List.setIfInBounds_toArray, List.set_cons_zero, List.set_cons_succ]
    refine take_at 6 73 (.agg #[.slice aa A.length ac, .slice ra R.length rc]) rfl rfl (by kernel_rfl) (by kernel_rfl) (by kernel_rfl) (fun _ _ _ h => h) hHeld (Or.inl ⟨by rfl, ?_⟩) ?_
    · rintro Z ⟨z0, z1, z2, z3, z4⟩
      go_simp
    simp only [List.setIfInBounds_toArray, List.set_cons_zero, List.set_cons_succ]
    refine take_at 7 74 (.int .i64 (t : Int)) rfl rfl (by kernel_rfl) (by kernel_rfl) (by kernel_rfl) (fun _ _ _ h => h) hHeld (Or.inl ⟨by rfl, ?_⟩) ?_
    · rintro Z ⟨z0, z1, z2, z3, z4⟩
      go_simp
    simp only [List.setIfInBounds_toArray, List.set_cons_zero, List.set_cons_succ]
    refine only_one (i := 8) (by kernel_rfl) ?_
    refine wpOp_k rfl (by rfl) (fun K' hK => ?_)
    go_simp
    go_at_call 12
    refine HC1.out.mono ?_
    rintro e w1 ⟨rfl, hb1⟩
    have HB1 := hide (then_ HD.out hb1)
    have HBW1 := hide (then_ HST.out.B HB1.out)
    have hS1 := HKC.out w1 HB1.out
    clear hb1
    refine hK _ _ ⟨hS1, ?_⟩
    refine only_one (i := 9) (by kernel_rfl) ?_
    refine wpOp_k rfl (by rfl) (fun K' hK => ?_)
    go_simp
    refine hK _ _ ⟨hS1, ?_⟩
    refine skip_at 10 77 9 true rfl rfl rfl (by rfl) (by kernel_rfl) (by kernel_rfl) (by kernel_rfl) (fun _ _ _ h => h) hS1 ?_
    simp only [List.setIfInBounds_toArray, List.set_cons_zero, List.set_cons_succ]
    refine skip_at 11 78 9 true rfl rfl rfl (by rfl) (by kernel_rfl) (by kernel_rfl) (by kernel_rfl) (fun _ _ _ h => h) hS1 ?_
    simp only [List.setIfInBounds_toArray, List.set_cons_zero, List.set_cons_succ]
    refine skip_at 12 79 9 true rfl rfl rfl (by rfl) (by kernel_rfl) (by kernel_rfl) (by kernel_rfl) (fun _ _ _ h => h) hS1 ?_
    simp only [List.setIfInBounds_toArray, List.set_cons_zero, List.set_cons_succ]
    refine skip_at 13 80 9 true rfl rfl rfl (by rfl) (by kernel_rfl) (by kernel_rfl) (by kernel_rfl) (fun _ _ _ h => h) hS1 ?_
    simp only [List.setIfInBounds_toArray, List.set_cons_zero, List.set_cons_succ]
    refine skip_at 14 81 9 true rfl rfl rfl (by rfl) (by kernel_rfl) (by kernel_rfl) (by kernel_rfl) (fun _ _ _ h => h) hS1 ?_
    simp only [List.setIfInBounds_toArray, List.set_cons_zero, List.set_cons_succ]
    refine skip_at 15 82 9 true rfl rfl rfl (by rfl) (by kernel_rfl) (by kernel_rfl) (by kernel_rfl) (fun _ _ _ h => h) hS1 ?_
    simp only [List.setIfInBounds_toArray, List.set_cons_zero, List.set_cons_succ]
    refine skip_at 16 83 9 true rfl rfl rfl (by rfl) (by kernel_rfl) (by kernel_rfl) (by kernel_rfl) (fun _ _ _ h => h) hS1 ?_
    simp only [List.setIfInBounds_toArray, List.set_cons_zero, List.set_cons_succ]
    refine skip_at 17 84 9 true rfl rfl rfl (by rfl) (by kernel_rfl) (by kernel_rfl) (by kernel_rfl) (fun _ _ _ h => h) hS1 ?_
    simp only [List.setIfInBounds_toArray, List.set_cons_zero, List.set_cons_succ]
    refine skip_at 18 85 9 true rfl rfl rfl (by rfl) (by kernel_rfl) (by kernel_rfl) (by kernel_rfl) (fun _ _ _ h => h) hS1 ?_
    simp only [List.setIfInBounds_toArray, List.set_cons_zero, List.set_cons_succ]
    refine only_one (i := 19) (by kernel_rfl) ?_
    refine wpOp_k rfl (by rfl) (fun K' hK => ?_)
    go_simp
    refine hK _ _ ⟨hS1, ?_⟩
    refine only_one (i := 20) (by kernel_rfl) ?_
    refine wpOp_k rfl (by rfl) (fun K' hK => ?_)
    go_simp
    refine hK _ _ ⟨hS1, ?_⟩
    refine none_left (by kernel_rfl) ?_
    refine NoPanic.normal ?_
    go_wp2_with fail
    go_ret
    exact ⟨ret_bool (by rw [HS.out]; simp), HBW1.out⟩
  · go_enter Tryd.func12, Tryd.ntmps12
    go_upto_region 4 with fail
    rw [← HWB.out]
    go_wp2_with fail
    refine wp_region_noPanic ?_
    refine wp_region_held_drew (S := (fun W => W.cell? ⟨b, 2, none⟩ = some (.slice (some ⟨g, o, none⟩) 2 sc) ∧ W.cell? ⟨g, o, none⟩ = some (.pointer pu) ∧ W.cell? ⟨g, o + 1, none⟩ = some (.pointer pz) ∧ W.cell? ⟨w.heap.size, 0, none⟩ = some (.slice aa A.length ac) ∧ W.cell? ⟨w.heap.size, 1, none⟩ = some (.slice ra R.length rc))) (by kernel_rfl) (HKC.out _ HD.out) (fun hHeld => ?_)
    refine take_at 0 67 (.pointer (some ⟨b, 0, none⟩)) rfl rfl (by kernel_rfl) (by kernel_rfl) (by kernel_rfl) (fun _ _ _ h => h) hHeld (Or.inl ⟨by rfl, ?_⟩) ?_
    · rintro Z ⟨z0, z1, z2, z3, z4⟩
      go_simp
    simp only [List.setIfInBounds_toArray, List.set_cons_zero, List.set_cons_succ]
    refine take_at 1 68 (.pointer (some ⟨b, 0, none⟩)) rfl rfl (by kernel_rfl) (by kernel_rfl) (by kernel_rfl) (fun _ _ _ h => h) hHeld (Or.inl ⟨by rfl, ?_⟩) ?_
    · rintro Z ⟨z0, z1, z2, z3, z4⟩
      go_simp
    simp only [List.setIfInBounds_toArray, List.set_cons_zero, List.set_cons_succ]
    refine take_at 2 69 (.pointer (some ⟨b, 2, none⟩)) rfl rfl (by kernel_rfl) (by kernel_rfl) (by kernel_rfl) (fun _ _ _ h => h) hHeld (Or.inl ⟨by rfl, ?_⟩) ?_
    · rintro Z ⟨z0, z1, z2, z3, z4⟩
      go_simp
    simp only [List.setIfInBounds_toArray, List.set_cons_zero, List.set_cons_succ]
    refine take_at 3 70 (.slice (some ⟨g, o, none⟩) 2 sc) rfl rfl (by kernel_rfl) (by kernel_rfl) (by kernel_rfl) (fun _ _ _ h => h) hHeld (Or.inl ⟨by rfl, ?_⟩) ?_
    · rintro Z ⟨z0, z1, z2, z3, z4⟩
      go_simp
    simp only [List.setIfInBounds_toArray, List.set_cons_zero, List.set_cons_succ]
    refine take_at 4 71 (.pointer (some ⟨g, o, none⟩)) rfl rfl (by kernel_rfl) (by kernel_rfl) (by kernel_rfl) (fun _ _ _ h => h) hHeld (Or.inl ⟨by rfl, ?_⟩) ?_
    · rintro Z ⟨z0, z1, z2, z3, z4⟩
      go_simp
    simp only [List.setIfInBounds_toArray, List.set_cons_zero, List.set_cons_succ]
    refine take_at 5 72 (.pointer pu) rfl rfl (by kernel_rfl) (by kernel_rfl) (by kernel_rfl) (fun _ _ _ h => h) hHeld (Or.inl ⟨by rfl, ?_⟩) ?_
    · rintro Z ⟨z0, z1, z2, z3, z4⟩
      go_simp
    simp only [List.setIfInBounds_toArray, List.set_cons_zero, List.set_cons_succ]
    refine take_at 6 73 (.agg #[.slice aa A.length ac, .slice ra R.length rc]) rfl rfl (by kernel_rfl) (by kernel_rfl) (by kernel_rfl) (fun _ _ _ h => h) hHeld (Or.inl ⟨by rfl, ?_⟩) ?_
    · rintro Z ⟨z0, z1, z2, z3, z4⟩
      go_simp
    simp only [List.setIfInBounds_toArray, List.set_cons_zero, List.set_cons_succ]
    refine take_at 7 74 (.int .i64 (t : Int)) rfl rfl (by kernel_rfl) (by kernel_rfl) (by kernel_rfl) (fun _ _ _ h => h) hHeld (Or.inl ⟨by rfl, ?_⟩) ?_
    · rintro Z ⟨z0, z1, z2, z3, z4⟩
      go_simp
    simp only [List.setIfInBounds_toArray, List.set_cons_zero, List.set_cons_succ]
    refine only_one (i := 8) (by kernel_rfl) ?_
    refine wpOp_k rfl (by rfl) (fun K' hK => ?_)
    go_simp
    go_at_call 12
    refine HC1.out.mono ?_
    rintro e w1 ⟨rfl, hb1⟩
    have HB1 := hide (then_ HD.out hb1)
    have HBW1 := hide (then_ HST.out.B HB1.out)
    have hS1 := HKC.out w1 HB1.out
    clear hb1
    refine hK _ _ ⟨hS1, ?_⟩
    refine only_one (i := 9) (by kernel_rfl) ?_
    refine wpOp_k rfl (by rfl) (fun K' hK => ?_)
    go_simp
    refine hK _ _ ⟨hS1, ?_⟩
    refine skip_at 10 77 9 true rfl rfl rfl (by rfl) (by kernel_rfl) (by kernel_rfl) (by kernel_rfl) (fun _ _ _ h => h) hS1 ?_
    simp only [List.setIfInBounds_toArray, List.set_cons_zero, List.set_cons_succ]
    refine skip_at 11 78 9 true rfl rfl rfl (by rfl) (by kernel_rfl) (by kernel_rfl) (by kernel_rfl) (fun _ _ _ h => h) hS1 ?_
    simp only [List.setIfInBounds_toArray, List.set_cons_zero, List.set_cons_succ]
    refine skip_at 12 79 9 true rfl rfl rfl (by rfl) (by kernel_rfl) (by kernel_rfl) (by kernel_rfl) (fun _ _ _ h => h) hS1 ?_
    simp only [List.setIfInBounds_toArray, List.set_cons_zero, List.set_cons_succ]
    refine skip_at 13 80 9 true rfl rfl rfl (by rfl) (by kernel_rfl) (by kernel_rfl) (by kernel_rfl) (fun _ _ _ h => h) hS1 ?_
    simp only [List.setIfInBounds_toArray, List.set_cons_zero, List.set_cons_succ]
    refine skip_at 14 81 9 true rfl rfl rfl (by rfl) (by kernel_rfl) (by kernel_rfl) (by kernel_rfl) (fun _ _ _ h => h) hS1 ?_
    simp only [List.setIfInBounds_toArray, List.set_cons_zero, List.set_cons_succ]
    refine skip_at 15 82 9 true rfl rfl rfl (by rfl) (by kernel_rfl) (by kernel_rfl) (by kernel_rfl) (fun _ _ _ h => h) hS1 ?_
    simp only [List.setIfInBounds_toArray, List.set_cons_zero, List.set_cons_succ]
    refine skip_at 16 83 9 true rfl rfl rfl (by rfl) (by kernel_rfl) (by kernel_rfl) (by kernel_rfl) (fun _ _ _ h => h) hS1 ?_
    simp only [List.setIfInBounds_toArray, List.set_cons_zero, List.set_cons_succ]
    refine skip_at 17 84 9 true rfl rfl rfl (by rfl) (by kernel_rfl) (by kernel_rfl) (by kernel_rfl) (fun _ _ _ h => h) hS1 ?_
    simp only [List.setIfInBounds_toArray, List.set_cons_zero, List.set_cons_succ]
    refine skip_at 18 85 9 true rfl rfl rfl (by rfl) (by kernel_rfl) (by kernel_rfl) (by kernel_rfl) (fun _ _ _ h => h) hS1 ?_
    simp only [List.setIfInBounds_toArray, List.set_cons_zero, List.set_cons_succ]
    refine only_one (i := 19) (by kernel_rfl) ?_
    refine wpOp_k rfl (by rfl) (fun K' hK => ?_)
    go_simp
    refine hK _ _ ⟨hS1, ?_⟩
    refine only_one (i := 20) (by kernel_rfl) ?_
    refine wpOp_k rfl (by rfl) (fun K' hK => ?_)
    go_simp
    refine hK _ _ ⟨hS1, ?_⟩
    refine none_left (by kernel_rfl) ?_
    refine NoPanic.normal ?_
    go_wp2_with fail
    go_ret
    exact ⟨ret_bool (by rw [HS.out]; simp), HBW1.out⟩
  · go_enter Tryd.func12, Tryd.ntmps12
    go_upto_region 4 with fail
    rw [← HWB.out]
    go_wp2_with fail
    go_region_held3 (fun W => W.cell? ⟨b, 2, none⟩ = some (.slice (some ⟨g, o, none⟩) 2 sc) ∧ W.cell? ⟨g, o, none⟩ = some (.pointer pu) ∧ W.cell? ⟨g, o + 1, none⟩ = some (.pointer pz) ∧ W.cell? ⟨w.heap.size, 0, none⟩ = some (.slice aa A.length ac) ∧ W.cell? ⟨w.heap.size, 1, none⟩ = some (.slice ra R.length rc)) ((first
      | exact HKC.out _ HD.out | exact HKC.out _ HB1.out | exact HKC.out _ HB2.out)) ((first
      | (go_at_call 12; (with_reducible refine HC1.out.mono ?_); rintro e w1 ⟨rfl, hb1⟩; have HB1 := hide (then_ HD.out hb1); have HBW1 := hide (then_ HST.out.B HB1.out); have HC4 := hide (HC3.out w1 HBW1.out); clear hb1)
      | (go_at_call 12; (with_reducible refine HC4.out.mono ?_); rintro e w2 ⟨rfl, hb2⟩; have HB2 := hide (then_ HB1.out hb2); have HBW1 := hide (then_ HST.out.B HB2.out); clear hb2)))
    all_goals
      go_wp2_with fail
      go_ret
      exact ⟨ret_bool (by rw [HS.out]; simp), HBW1.out⟩
  · go_enter Tryd.func12, Tryd.ntmps12
    go_upto_region 4 with fail
    rw [← HWB.out]
    go_wp2_with fail
    go_region_held3 (fun W => W.cell? ⟨b, 2, none⟩ = some (.slice (some ⟨g, o, none⟩) 2 sc) ∧ W.cell? ⟨g, o, none⟩ = some (.pointer pu) ∧ W.cell? ⟨g, o + 1, none⟩ = some (.pointer pz) ∧ W.cell? ⟨w.heap.size, 0, none⟩ = some (.slice aa A.length ac) ∧ W.cell? ⟨w.heap.size, 1, none⟩ = some (.slice ra R.length rc)) ((first
      | exact HKC.out _ HD.out | exact HKC.out _ HB1.out | exact HKC.out _ HB2.out)) ((first
      | (go_at_call 12; (with_reducible refine HC1.out.mono ?_); rintro e w1 ⟨rfl, hb1⟩; have HB1 := hide (then_ HD.out hb1); have HBW1 := hide (then_ HST.out.B HB1.out); have HC4 := hide (HC3.out w1 HBW1.out); clear hb1)
      | (go_at_call 12; (with_reducible refine HC4.out.mono ?_); rintro e w2 ⟨rfl, hb2⟩; have HB2 := hide (then_ HB1.out hb2); have HBW1 := hide (then_ HST.out.B HB2.out); clear hb2)))
    all_goals
      go_wp2_with fail
      go_ret
      exact ⟨ret_bool (by rw [HS.out]; simp), HBW1.out⟩
end Ls
end Go.Proofs.YtmdblokmplbpmaaDoor
