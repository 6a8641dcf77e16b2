/-
  The walk of the statement LassoTurns.
-/
import Derived.Test.YtdkfbnokbjliiaaDoorLsKeep
import Derived.Test.YtdkfbnokbjliiaaDoorLsTurnM
import Derived.Test.YtdkfbnokbjliiaaDoorLsTurn9
namespace Go.Proofs.YtdkfbnokbjliiaaDoor
namespace Ls
open Go.RowKit
set_option maxHeartbeats 16000000 in
set_option maxRecDepth 100000 in
theorem lassoTurns_any (A R : List (List (List UInt8))) (l : List St) (av rv lv : Value) (w : World) (hA : Rows w av A) (hR : Rows w rv R) (hla : A.length ≤ mx) (hlr : R.length ≤ mx) (hl : Steps w lv l) (hP : PT w) :
    Calls Tryd.prog 3 #[.agg #[av, rv], lv] w fun e w' => e = .returned (.bool true) ∧ Below w.heap.size w w' := by
  have q1 := errNeq
  have q2 := nilNeq
  have q3 := errEql
  obtain ⟨wA, hwA⟩ : ∃ wA, wA = w.alloc (.cells #[av, rv] 24) := ⟨_, rfl⟩
  have HBA : Hid (Below w.heap.size w wA) := by rw [hwA]; exact newB _ _
  have ca0 : wA.cell? ⟨w.heap.size, 0, none⟩ = some av := by rw [hwA]; exact two_new0 _ _ _ _
  have ca1 : wA.cell? ⟨w.heap.size, 1, none⟩ = some rv := by rw [hwA]; exact two_new1 _ _ _ _
  have HFL := hide (fun (h : l.length ≤ 100) => Formula_any l lv wA (hl.below HBA.out) h)
  have HAA := hide (hA.below HBA.out)
  have HRA := hide (hR.below HBA.out)
  have HPA := hide (hP.below HBA.out)
  obtain ⟨aa, ac, rfl⟩ := hA.slice
  obtain ⟨ra, rc, rfl⟩ := hR.slice
  obtain ⟨la, lc, rfl⟩ := hl.slice
  have hll : l.length ≤ maxLen := by obtain ⟨_, _, _, h, _⟩ := hl; exact h
  have HWA := hide hwA
  have hla' : A.length ≤ mx := hla
  have hlr' : R.length ≤ mx := hlr
  unfold mx at hla' hlr'
  unfold maxLen at hll
  clear hwA hA hR hl hP
  by_cases h1 : 16 < l.length
  · have h1i : (16 : Int) < (l.length : Int) := by omega
    go_enter Tryd.func3, Tryd.ntmps3
    go_wp2_with fail
    rw [← HWA.out]
    go_ret
    exact ⟨rfl, HBA.out⟩
  have h1i : ¬ (16 : Int) < (l.length : Int) := by omega
  by_cases h3 : 40 < A.length + 2 * R.length
  · have h3i : (40 : Int) < (A.length : Int) + 2 * (R.length : Int) := by omega
    go_enter Tryd.func3, Tryd.ntmps3
    go_wp2_with fail
    rw [← HWA.out]
    go_ret
    exact ⟨rfl, HBA.out⟩
  have h3i : ¬ (40 : Int) < (A.length : Int) + 2 * (R.length : Int) := by omega
  have h40 : A.length + 2 * R.length ≤ 40 := by omega
  have HF1 := hide (HFL.out (by omega))
  clear HFL
  go_enter Tryd.func3, Tryd.ntmps3
  go_wp2_with fail
  rw [← HWA.out]
  refine HF1.out.mono ?_
  rintro e w1 ⟨vf, rfl, hf1, hb1⟩
  have HB := hide hb1
  have If := hide hf1
  have HC := hide (Holds_any A R (formula l) _ _ _ w1 (HAA.out.below hb1) (HRA.out.below hb1) hla hlr hf1 (HPA.out.below hb1))
  have d0 := kept hb1 ca0
  have d1 := kept hb1 ca1
  obtain ⟨pf, rfl⟩ := hf1.ptr
  clear hf1 hb1 HF1 HWA h1 h3 h1i h3i hll hla' hlr'
  generalize formula l = x at *
  go_wp2_with fail
  refine HC.out.mono ?_
  rintro e w2 ⟨hb2, hres⟩
  have HB2 := hide (then_ HB.out hb2)
  have If2 := hide (If.out.below hb2)
  rcases hres with ⟨kk, hrx, rfl⟩ | ⟨hrx, g2, rfl, hr2⟩
  · rw [errV_some]
    clear hb2 hrx HC d0 d1
    go_wp2_with fail
    refine (lassoed_any w2 (HPA.out.below HB2.out)).mono ?_
    rintro e w3 ⟨rfl, hb3⟩
    have HB3 := hide (then_ HB2.out hb3)
    clear hb3
    go_wp2_with fail
    refine (lassoed_any w3 (HPA.out.below HB3.out)).mono ?_
    rintro e w4 ⟨rfl, hb4⟩
    have HB4 := hide (then_ HBA.out (then_ HB3.out hb4))
    clear hb4
    go_wp2_with fail
    go_ret
    exact ⟨rfl, HB4.out⟩
  · have hck : check A R = none := by
      unfold wrong2 at hrx
      cases hck : check A R with
      | none => rfl
      | some k => rw [hck] at hrx; cases hrx
    have hrt : right x = none := by unfold wrong2 at hrx; rw [hck] at hrx; exact hrx
    obtain ⟨hr0, h60⟩ := check_none hck
    obtain ⟨R0, Rt, rfl⟩ : ∃ R0 Rt, R = R0 :: Rt := by
      match R, hr0 with
      | R0 :: Rt, _ => exact ⟨R0, Rt, rfl⟩
    have HRT := hide hrt
    have HCK := hide hck
    have HR2 := hide hr2
    obtain ⟨n, hn⟩ : ∃ n, n = A.length := ⟨_, rfl⟩
    obtain ⟨r, hr⟩ : ∃ r, r = (R0 :: Rt).length := ⟨_, rfl⟩
    have HN := hide hn
    have HRL := hide hr
    have HLN : Hid ((A ++ R0 :: Rt).length = n + r) := by rw [HN.out, HRL.out]; show _ = _; simp
    have hr1 : 1 ≤ r := by rw [hr]; simp
    have hnr : n + 2 * r ≤ 40 := by rw [hn, hr]; exact h40
    have HLA := hide hla
    have HLR := hide hlr
    rw [HLN.out] at HR2 ⊢
    rw [← hr] at HRA ca1 ⊢
    rw [← hn] at HAA ca0 ⊢
    clear hb2 hrx HC d0 d1 hck hrt h60 hr2 hr0 hn hr hla hlr h40
    obtain ⟨N, hN⟩ : ∃ N, N = n + r := ⟨_, rfl⟩
    have HNN := hide hN
    rw [← hN] at HR2 HLN ⊢
    clear hN
    go_wp2_with fail
    refine (lassoed_any w2 (HPA.out.below HB2.out)).mono ?_
    rintro e w3 ⟨rfl, hb3⟩
    have HB3 := hide (then_ HB2.out hb3)
    have If3 := hide (If2.out.below hb3)
    have HR3 := hide (HR2.out.below hb3)
    have d0 := kept HB3.out ca0
    have d1 := kept HB3.out ca1
    clear hb3 If2 HR2 If
    go_wp2_with fail
    go_quiet (fail)
    obtain ⟨w4, hw4⟩ : ∃ w4, w4 = w3.drewN nq := ⟨_, rfl⟩
    have hb34 : Below w3.heap.size w3 w4 := by rw [hw4]; exact ⟨rfl, rfl, rfl, Nat.le_refl _, fun _ _ => rfl⟩
    rw [← hw4]
    have HB4 := hide (then_ HB3.out hb34)
    have If4 := hide (If3.out.below hb34)
    have HR4 := hide (HR3.out.below hb34)
    have HRR := hide (HRA.out.below HB4.out)
    have HRAA := hide (HAA.out.below HB4.out)
    clear hw4 hb34 d0 d1 If3 HR3
    have d0 := kept HB4.out ca0
    have d1 := kept HB4.out ca1
    obtain ⟨ua, hva, hea⟩ := HRAA.out.vals
    obtain ⟨ur, hvr, her⟩ := HRR.out.vals
    obtain ⟨u0, us, rfl⟩ : ∃ u0 us, ur = u0 :: us := by
      match ur, her.1 with
      | u0 :: us, _ => exact ⟨u0, us, rfl⟩
    obtain ⟨gr, orr, hra, hrc, hc0⟩ : ∃ gr orr, ra = some ⟨gr, orr, none⟩ ∧ r ≤ rc ∧ w4.cell? ⟨gr, orr, none⟩ = some u0 := by
      obtain ⟨a, c, e1, e2⟩ := hvr
      obtain ⟨g, o, e3, e4, e5⟩ := e2 0 u0 rfl
      simp only [Value.slice.injEq] at e1
      obtain ⟨rfl, e6, rfl⟩ := e1
      exact ⟨g, o, e3, by rw [e6]; exact e4, e5⟩
    subst hra
    have hus : ∃ a k c, u0 = .slice a k c := her.slice u0 (by simp)
    have HU0 := hide hus
    obtain ⟨u0a, u0n, u0c, rfl⟩ := hus
    have HVA := hide hva
    have HVR := hide hvr
    have HEA := hide hea
    have HER := hide her
    have hrl : (r : Int) ≤ (rc : Int) := by omega
    have hr1i : (1 : Int) ≤ (r : Int) := by omega
    have hr1l : (0 : Int) < (r : Int) := by omega
    have hrz : ¬ r = 0 := by omega
    obtain ⟨o1, ho1⟩ : ∃ o1, o1 = if rc = 1 then orr else orr + 1 := ⟨_, rfl⟩
    have HO1 := hide ho1
    clear ho1
    have HD := hide (drewB w4)
    have HKS : Hid (∀ W, Below w4.heap.size w4 W → W.cell? ⟨w.heap.size, 0, none⟩ = some (.slice aa n ac) ∧ W.cell? ⟨w.heap.size, 1, none⟩ = some (.slice (some ⟨gr, orr, none⟩) r rc) ∧ W.cell? ⟨gr, orr, none⟩ = some (.slice u0a u0n u0c)) := fun W hW => ⟨kept hW d0, kept hW d1, kept hW hc0⟩
    clear hva hvr hea her
    go_wp2_with fail
    refine wp_region_noPanic ?_
    refine wp_region_held_drew (S := fun W => W.cell? ⟨w.heap.size, 0, none⟩ = some (.slice aa n ac) ∧ W.cell? ⟨w.heap.size, 1, none⟩ = some (.slice (some ⟨gr, orr, none⟩) r rc) ∧ W.cell? ⟨gr, orr, none⟩ = some (.slice u0a u0n u0c)) (by kernel_rfl) (HKS.out _ HD.out) (fun hHeld => ?_)
    refine take_at 1 58 (.pointer (some ⟨w.heap.size, 0, none⟩)) rfl rfl (by kernel_rfl) (by kernel_rfl) (by kernel_rfl) (fun _ _ _ h => h) hHeld (Or.inl ⟨by rfl, ?_⟩) ?_
    · rintro Z ⟨z0, z1, z2⟩
      go_simp
    simp only [List.setIfInBounds_toArray, List.set_cons_zero, List.set_cons_succ]
    refine take_at 2 59 (.slice aa n ac) rfl rfl (by kernel_rfl) (by kernel_rfl) (by kernel_rfl) (fun _ _ _ h => h) hHeld (Or.inl ⟨by rfl, ?_⟩) ?_
    · rintro Z ⟨z0, z1, z2⟩
      go_simp
    simp only [List.setIfInBounds_toArray, List.set_cons_zero, List.set_cons_succ]
    refine take_at 4 61 (.pointer (some ⟨w.heap.size, 1, none⟩)) rfl rfl (by kernel_rfl) (by kernel_rfl) (by kernel_rfl) (fun _ _ _ h => h) hHeld (Or.inl ⟨by rfl, ?_⟩) ?_
    · rintro Z ⟨z0, z1, z2⟩
      go_simp
    simp only [List.setIfInBounds_toArray, List.set_cons_zero, List.set_cons_succ]
    refine take_at 5 62 (.slice (some ⟨gr, orr, none⟩) r rc) rfl rfl (by kernel_rfl) (by kernel_rfl) (by kernel_rfl) (fun _ _ _ h => h) hHeld (Or.inl ⟨by rfl, ?_⟩) ?_
    · rintro Z ⟨z0, z1, z2⟩
      go_simp
    simp only [List.setIfInBounds_toArray, List.set_cons_zero, List.set_cons_succ]
    refine take_at 6 63 (.pointer (some ⟨gr, orr, none⟩)) rfl rfl (by kernel_rfl) (by kernel_rfl) (by kernel_rfl) (fun _ _ _ h => h) hHeld (Or.inl ⟨by rfl, ?_⟩) ?_
    · rintro Z ⟨z0, z1, z2⟩
      go_simp
    simp only [List.setIfInBounds_toArray, List.set_cons_zero, List.set_cons_succ]
    refine take_at 7 64 (.slice u0a u0n u0c) rfl rfl (by kernel_rfl) (by kernel_rfl) (by kernel_rfl) (fun _ _ _ h => h) hHeld (Or.inl ⟨by rfl, ?_⟩) ?_
    · rintro Z ⟨z0, z1, z2⟩
      go_simp
    simp only [List.setIfInBounds_toArray, List.set_cons_zero, List.set_cons_succ]
    refine take_at 11 68 (.pointer (some ⟨w.heap.size, 1, none⟩)) rfl rfl (by kernel_rfl) (by kernel_rfl) (by kernel_rfl) (fun _ _ _ h => h) hHeld (Or.inl ⟨by rfl, ?_⟩) ?_
    · rintro Z ⟨z0, z1, z2⟩
      go_simp
    simp only [List.setIfInBounds_toArray, List.set_cons_zero, List.set_cons_succ]
    refine take_at 12 69 (.slice (some ⟨gr, orr, none⟩) r rc) rfl rfl (by kernel_rfl) (by kernel_rfl) (by kernel_rfl) (fun _ _ _ h => h) hHeld (Or.inl ⟨by rfl, ?_⟩) ?_
    · rintro Z ⟨z0, z1, z2⟩
      go_simp
    simp only [List.setIfInBounds_toArray, List.set_cons_zero, List.set_cons_succ]
    refine take_at 13 70 (.slice (some ⟨gr, o1, none⟩) (r - 1) (rc - 1)) rfl rfl (by kernel_rfl) (by kernel_rfl) (by kernel_rfl) (fun _ _ _ h => h) hHeld (Or.inl ⟨by rfl, ?_⟩) ?_
    · rintro Z ⟨z0, z1, z2⟩
      by_cases hc1 : rc = 1
      · have ho := HO1.out
        rw [if_pos hc1] at ho
        subst ho
        have hr11 : r = 1 := by omega
        subst hc1
        subst hr11
        go_simp
      · have ho := HO1.out
        rw [if_neg hc1] at ho
        subst ho
        go_simp
        try exact hc1
    simp only [List.setIfInBounds_toArray, List.set_cons_zero, List.set_cons_succ]
    refine take_at 15 72 (.pointer (some ⟨w.heap.size, 1, none⟩)) rfl rfl (by kernel_rfl) (by kernel_rfl) (by kernel_rfl) (fun _ _ _ h => h) hHeld (Or.inl ⟨by rfl, ?_⟩) ?_
    · rintro Z ⟨z0, z1, z2⟩
      go_simp
    simp only [List.setIfInBounds_toArray, List.set_cons_zero, List.set_cons_succ]
    refine take_at 16 73 (.slice (some ⟨gr, orr, none⟩) r rc) rfl rfl (by kernel_rfl) (by kernel_rfl) (by kernel_rfl) (fun _ _ _ h => h) hHeld (Or.inl ⟨by rfl, ?_⟩) ?_
    · rintro Z ⟨z0, z1, z2⟩
      go_simp
    simp only [List.setIfInBounds_toArray, List.set_cons_zero, List.set_cons_succ]
    refine take_at 17 74 (.pointer (some ⟨gr, orr, none⟩)) rfl rfl (by kernel_rfl) (by kernel_rfl) (by kernel_rfl) (fun _ _ _ h => h) hHeld (Or.inl ⟨by rfl, ?_⟩) ?_
    · rintro Z ⟨z0, z1, z2⟩
      go_simp
    simp only [List.setIfInBounds_toArray, List.set_cons_zero, List.set_cons_succ]
    refine take_at 18 75 (.slice u0a u0n u0c) rfl rfl (by kernel_rfl) (by kernel_rfl) (by kernel_rfl) (fun _ _ _ h => h) hHeld (Or.inl ⟨by rfl, ?_⟩) ?_
    · rintro Z ⟨z0, z1, z2⟩
      go_simp
    simp only [List.setIfInBounds_toArray, List.set_cons_zero, List.set_cons_succ]
    have hVA4 : Vals w4.drew (.slice aa n ac) ua := HVA.out.below HD.out
    have hVR4 : Vals w4.drew (.slice (some ⟨gr, o1, none⟩) (r - 1) (rc - 1)) us := by
      have hlen : us.length = r - 1 := by
        have h1 := HER.out.1
        rw [← HRL.out] at h1
        simp at h1
        omega
      refine ⟨some ⟨gr, o1, none⟩, rc - 1, by rw [hlen], fun k u hk => ⟨gr, o1, rfl, by omega, ?_⟩⟩
      have hkl := (List.getElem?_eq_some_iff.1 hk).1
      have ho := HO1.out
      rw [if_neg (by omega)] at ho
      obtain ⟨a, c, e1, e2⟩ := HVR.out
      obtain ⟨g, o, e3, _, e5⟩ := e2 (k + 1) u (by simpa using hk)
      simp only [Value.slice.injEq] at e1
      obtain ⟨rfl, _, _⟩ := e1
      simp only [Option.some.injEq, Addr.mk.injEq, and_true] at e3
      obtain ⟨rfl, rfl⟩ := e3
      rw [ho, show orr + 1 + k = orr + (k + 1) by omega]
      exact kept HD.out e5
    have hsa : ∀ u, u ∈ ua → ∃ a n c, u = Value.slice a n c := HEA.out.slice
    have hsr : ∀ u, u ∈ us → ∃ a n c, u = Value.slice a n c := fun u hu => HER.out.slice u (by simp [hu])
    have hual : ua.length ≤ 100 := by rw [HEA.out.1, ← HN.out]; omega
    have husl : us.length ≤ 100 := by have h1 := HER.out.1; rw [← HRL.out] at h1; simp at h1; omega
    refine region8 _ _ w4.drew ua us (.slice u0a u0n u0c) (.slice aa n ac) (.slice (some ⟨gr, o1, none⟩) (r - 1) (rc - 1)) _ _ rfl rfl rfl (by decide +kernel) (by decide +kernel) (fwd_of (by kernel_rfl)) (fun l h => ready_dep (e := ⟨0, .data⟩) h rfl (by simp) rfl) (fun l h => ⟨ready_dep (e := ⟨3, .data⟩) h rfl (by simp) rfl, ready_dep (e := ⟨8, .data⟩) h rfl (by simp) rfl⟩) (fun l h => ⟨ready_dep (e := ⟨9, .chain⟩) h rfl (by simp) rfl, ready_dep (e := ⟨10, .data⟩) h rfl (by simp) rfl⟩) (fun l h => ⟨ready_dep (e := ⟨14, .data⟩) h rfl (by simp) rfl, ready_dep (e := ⟨19, .data⟩) h rfl (by simp) rfl⟩) (fun l h => ready_dep (e := ⟨20, .data⟩) h rfl (by simp) rfl) (fun l h => ⟨ready_dep (e := ⟨21, .data⟩) h rfl (by simp) rfl, ready_dep (e := ⟨22, .data⟩) h rfl (by simp) rfl⟩) ?_ ?_ ?_ ?_ ?_ ?_ ?_ ?_ ?_ ?_ ?_ rfl rfl rfl rfl hVA4 hVR4 hsa hsr ⟨_, _, _, rfl⟩ hual husl (fun W hW => HKS.out W (then_ HD.out hW)) ?_
    · intro a w K h
      refine wpOp_k rfl (by rfl) (fun K' hK => ?_)
      go_simp
      exact hK _ _ h
    · intro a w K h
      refine wpOp_k rfl (by rfl) (fun K' hK => ?_)
      go_simp
      exact hK _ _ h
    · intro a w K e1 h
      rw [Array.getD_eq_getD_getElem?] at e1
      refine wpOp_k rfl (by rfl) (fun K' hK => ?_)
      go_simp
      exact hK _ _ h
    · intro a w K e1 h
      rw [Array.getD_eq_getD_getElem?] at e1
      refine wpOp_k rfl (by rfl) (fun K' hK => ?_)
      go_simp
      exact hK _ _ h
    · intro a w K h
      refine wpOp_k rfl (by rfl) (fun K' hK => ?_)
      go_simp
      exact hK _ _ h
    · intro a w K vp vq v' w' e1 e2 er h
      exact wpOp_in rfl (by rfl) (Lib.wp_append_run w (.tmp 57) (.tmp 59) 22 22 rfl vp vq e1 e2 v' w' er h)
    · intro a w K vp vq v' w' e1 e2 er h
      exact wpOp_in rfl (by rfl) (Lib.wp_append_run w (.tmp 60) (.tmp 65) 22 22 rfl vp vq e1 e2 v' w' er h)
    · intro a w K vp vq v' w' e1 e2 er h
      exact wpOp_in rfl (by rfl) (Lib.wp_append_run w (.tmp 67) (.tmp 70) 22 22 rfl vp vq e1 e2 v' w' er h)
    · intro a w K vp vq v' w' e1 e2 er h
      exact wpOp_in rfl (by rfl) (Lib.wp_append_run w (.tmp 71) (.tmp 76) 22 22 rfl vp vq e1 e2 v' w' er h)
    · rintro a w K vp vq ⟨a1, n1, k1, rfl⟩ ⟨a2, n2, k2, rfl⟩ e1 e2 h
      rw [Array.getD_eq_getD_getElem?] at e1 e2
      refine wpOp_k rfl (by rfl) (fun K' hK => ?_)
      go_simp
      exact hK _ _ h
    · rintro a w K b vp vq ⟨a1, n1, k1, rfl⟩ ⟨a2, n2, k2, rfl⟩ e1 e2 hr h
      rw [Array.getD_eq_getD_getElem?] at e1 e2
      refine wpOp_k rfl (by rfl) (fun K' hK => ?_)
      have z0 := hr.cell 0 _ rfl
      have z1 := hr.cell 1 _ rfl
      have f0 := hr.frozen 0
      have f1 := hr.frozen 1
      go_simp
      exact hK _ _ h
    · intro s W c1 c2 b hbW ho1 ho2 hs10 hcb0 hcb1
      refine NoPanic.normal ?_
      rw [fr_sets, hs10]
      simp only [List.setIfInBounds_toArray, List.set_cons_zero, List.set_cons_succ]
      have hb5 : Below w4.heap.size w4 W := then_ HD.out hbW
      have HB5 := hide (then_ HB4.out hb5)
      have If5 := hide (If4.out.below hb5)
      have HR5 := hide (HR4.out.below hb5)
      have HTA : Hid (Rows W (s 66) (A ++ [R0])) := ho1.rows (by rw [List.length_append, ← HN.out]; unfold maxLen; simp; omega) ((HEA.out.append (⟨rfl, fun k rr hk => by
        match k, hk with
        | 0, hk => cases hk; exact ⟨_, rfl, by obtain ⟨u, h1, h2⟩ := HER.out.2 0 R0 rfl; cases h1; exact h2⟩
        | k + 1, hk => simp at hk⟩ : Each w4 [.slice u0a u0n u0c] [R0])).below hb5)
      have HTR : Hid (Rows W (s 77) (Rt ++ [R0])) := ho2.rows (by rw [List.length_append]; have h1 := HRL.out; simp at h1; unfold maxLen; simp; omega) ((Each.append (⟨by have h1 := HER.out.1; simpa using h1, fun k rr hk => HER.out.2 (k + 1) rr (by simpa using hk)⟩ : Each w4 us Rt) (⟨rfl, fun k rr hk => by
        match k, hk with
        | 0, hk => cases hk; exact ⟨_, rfl, by obtain ⟨u, h1, h2⟩ := HER.out.2 0 R0 rfl; cases h1; exact h2⟩
        | k + 1, hk => simp at hk⟩ : Each w4 [.slice u0a u0n u0c] [R0])).below hb5)
      have e0 := kept hb5 d0
      have e1 := kept hb5 d1
      have HVR5 : Hid (Vals W (.slice (some ⟨gr, orr, none⟩) r rc) (.slice u0a u0n u0c :: us)) := HVR.out.below hb5
      have HER5 : Hid (Each W (.slice u0a u0n u0c :: us) (R0 :: Rt)) := HER.out.below hb5
      have HAA5 := hide (HRAA.out.below hb5)
      obtain ⟨t66, ht66⟩ := own1_slice ho1
      obtain ⟨t77, ht77⟩ := own1_slice ho2
      have HCB0 := hide hcb0
      have HCB1 := hide hcb1
      generalize s 57 = y57 at *
      generalize s 60 = y60 at *
      generalize s 65 = y65 at *
      generalize s 66 = y66 at *
      generalize s 67 = y67 at *
      generalize s 71 = y71 at *
      generalize s 76 = y76 at *
      generalize s 77 = y77 at *
      generalize s 78 = y78 at *
      obtain ⟨t66n, t66c, rfl⟩ := ht66
      obtain ⟨t77n, t77c, rfl⟩ := ht77
      have HD5 := hide (drewB W)
      have HKS5 : Hid (∀ W', Below W.heap.size W W' → W'.cell? ⟨w.heap.size, 0, none⟩ = some (.slice aa n ac) ∧ W'.cell? ⟨w.heap.size, 1, none⟩ = some (.slice (some ⟨gr, orr, none⟩) r rc)) := fun W' hW => ⟨kept hW e0, kept hW e1⟩
      clear hbW ho1 ho2 hs10 hcb0 hcb1 hb5 HKS hHeld hVA4 hVR4 hsa hsr hual husl
      go_wp2_with fail
      refine wp_region_noPanic ?_
      refine wp_region_held_drew (S := fun W => W.cell? ⟨w.heap.size, 0, none⟩ = some (.slice aa n ac) ∧ W.cell? ⟨w.heap.size, 1, none⟩ = some (.slice (some ⟨gr, orr, none⟩) r rc)) (by kernel_rfl) (HKS5.out _ HD5.out) (fun hHeld => ?_)
      refine take_at 0 79 (.pointer (some ⟨w.heap.size, 0, none⟩)) rfl rfl (by kernel_rfl) (by kernel_rfl) (by kernel_rfl) (fun _ _ _ h => h) hHeld (Or.inl ⟨by rfl, ?_⟩) ?_
      · rintro Z ⟨z0, z1⟩
        go_simp
      simp only [List.setIfInBounds_toArray, List.set_cons_zero, List.set_cons_succ]
      refine take_at 1 80 (.slice aa n ac) rfl rfl (by kernel_rfl) (by kernel_rfl) (by kernel_rfl) (fun _ _ _ h => h) hHeld (Or.inl ⟨by rfl, ?_⟩) ?_
      · rintro Z ⟨z0, z1⟩
        go_simp
      simp only [List.setIfInBounds_toArray, List.set_cons_zero, List.set_cons_succ]
      refine take_at 3 82 (.pointer (some ⟨w.heap.size, 1, none⟩)) rfl rfl (by kernel_rfl) (by kernel_rfl) (by kernel_rfl) (fun _ _ _ h => h) hHeld (Or.inl ⟨by rfl, ?_⟩) ?_
      · rintro Z ⟨z0, z1⟩
        go_simp
      simp only [List.setIfInBounds_toArray, List.set_cons_zero, List.set_cons_succ]
      refine take_at 4 83 (.slice (some ⟨gr, orr, none⟩) r rc) rfl rfl (by kernel_rfl) (by kernel_rfl) (by kernel_rfl) (fun _ _ _ h => h) hHeld (Or.inl ⟨by rfl, ?_⟩) ?_
      · rintro Z ⟨z0, z1⟩
        go_simp
      simp only [List.setIfInBounds_toArray, List.set_cons_zero, List.set_cons_succ]
      refine take_at 6 85 (.pointer (some ⟨w.heap.size, 1, none⟩)) rfl rfl (by kernel_rfl) (by kernel_rfl) (by kernel_rfl) (fun _ _ _ h => h) hHeld (Or.inl ⟨by rfl, ?_⟩) ?_
      · rintro Z ⟨z0, z1⟩
        go_simp
      simp only [List.setIfInBounds_toArray, List.set_cons_zero, List.set_cons_succ]
      refine take_at 7 86 (.slice (some ⟨gr, orr, none⟩) r rc) rfl rfl (by kernel_rfl) (by kernel_rfl) (by kernel_rfl) (fun _ _ _ h => h) hHeld (Or.inl ⟨by rfl, ?_⟩) ?_
      · rintro Z ⟨z0, z1⟩
        go_simp
      simp only [List.setIfInBounds_toArray, List.set_cons_zero, List.set_cons_succ]
      have hurl : (Value.slice u0a u0n u0c :: us).length ≤ 100 := by have h1 := HER5.out.1; rw [← HRL.out] at h1; omega
      refine region9 _ _ W.drew (.slice u0a u0n u0c :: us) (.slice aa n ac) (.slice (some ⟨gr, orr, none⟩) r rc) _ _ rfl rfl rfl (by decide +kernel) (by decide +kernel) (fwd_of (by kernel_rfl)) (fun l h => ready_dep (e := ⟨2, .data⟩) h rfl (by simp) rfl) (fun l h => ready_dep (e := ⟨5, .data⟩) h rfl (by simp) rfl) (fun l h => ready_dep (e := ⟨8, .data⟩) h rfl (by simp) rfl) (fun l h => ⟨ready_dep (e := ⟨9, .data⟩) h rfl (by simp) rfl, ready_dep (e := ⟨10, .data⟩) h rfl (by simp) rfl⟩) ?_ ?_ ?_ ?_ ?_ ?_ rfl rfl rfl (HVR5.out.below HD5.out) HER5.out.slice ⟨_, _, _, rfl⟩ hurl (fun W' hW => HKS5.out W' (then_ HD5.out hW)) ?_
      · intro a w K h
        refine wpOp_k rfl (by rfl) (fun K' hK => ?_)
        go_simp
        exact hK _ _ h
      · intro a w K h
        refine wpOp_k rfl (by rfl) (fun K' hK => ?_)
        go_simp
        exact hK _ _ h
      · intro a w K vp vq v' w' e1 e2 er h
        exact wpOp_in rfl (by rfl) (Lib.wp_append_run w (.tmp 81) (.tmp 83) 22 22 rfl vp vq e1 e2 v' w' er h)
      · intro a w K vp vq v' w' e1 e2 er h
        exact wpOp_in rfl (by rfl) (Lib.wp_append_run w (.tmp 84) (.tmp 86) 22 22 rfl vp vq e1 e2 v' w' er h)
      · rintro a w K vp vq ⟨a1, n1, k1, rfl⟩ ⟨a2, n2, k2, rfl⟩ e1 e2 h
        rw [Array.getD_eq_getD_getElem?] at e1 e2
        refine wpOp_k rfl (by rfl) (fun K' hK => ?_)
        go_simp
        exact hK _ _ h
      · rintro a w K b vp vq ⟨a1, n1, k1, rfl⟩ ⟨a2, n2, k2, rfl⟩ e1 e2 hr h
        rw [Array.getD_eq_getD_getElem?] at e1 e2
        refine wpOp_k rfl (by rfl) (fun K' hK => ?_)
        have z0 := hr.cell 0 _ rfl
        have z1 := hr.cell 1 _ rfl
        have f0 := hr.frozen 0
        have f1 := hr.frozen 1
        go_simp
        exact hK _ _ h
      · intro s W6 c6 b6 hbW ho1 hs11 hcc0 hcc1
        refine NoPanic.normal ?_
        rw [fr9_sets, hs11]
        simp only [List.setIfInBounds_toArray, List.set_cons_zero, List.set_cons_succ]
        have hb6 : Below W.heap.size W W6 := then_ HD5.out hbW
        have HB6 := hide (then_ HB5.out hb6)
        have If6 := hide (If5.out.below hb6)
        have HR6 := hide (HR5.out.below hb6)
        have HTA6 := hide (HTA.out.below hb6)
        have HTR6 := hide (HTR.out.below hb6)
        have HAA6 := hide (HAA5.out.below hb6)
        have HTW : Hid (Rows W6 (s 87) ((R0 :: Rt) ++ (R0 :: Rt))) := ho1.rows (by rw [List.length_append, ← HRL.out]; unfold maxLen; omega) ((HER5.out.append HER5.out).below hb6)
        obtain ⟨t87, ht87⟩ := own1_slice ho1
        have b0 := kept hb6 HCB0.out
        have b1 := kept hb6 HCB1.out
        have HCC0 := hide hcc0
        have HCC1 := hide hcc1
        have HL1 : Hid (((A ++ [R0]) ++ (Rt ++ [R0])).length = N + 1) := by have h1 := HRL.out; have h2 := HN.out; have h3 := HNN.out; show _ = _; simp at h1 ⊢; omega
        have HL2 : Hid ((A ++ ((R0 :: Rt) ++ (R0 :: Rt))).length = n + 2 * r) := by have h1 := HRL.out; have h2 := HN.out; show _ = _; rw [List.length_append, List.length_append, ← h1, ← h2]; omega
        have HCT : Hid (check (A ++ [R0]) (Rt ++ [R0]) = none) := turned_check HCK.out (by have h1 := HRL.out; have h2 := HN.out; simp at h1; omega)
        have HCW : Hid (check A ((R0 :: Rt) ++ (R0 :: Rt)) = none) := twice_check HCK.out (by rw [← HRL.out, ← HN.out]; omega)
        have mxs : ∀ k : Nat, k ≤ 1000 → k ≤ mx := fun k hk => by unfold mx; omega
        have HH1 := hide (Holds_any (A ++ [R0]) (Rt ++ [R0]) x _ _ _ W6 HTA6.out HTR6.out (mxs _ (by rw [List.length_append, ← HN.out]; simp; omega)) (mxs _ (by have h1 := HRL.out; simp at h1 ⊢; omega)) If6.out (HPA.out.below HB6.out))
        have HH2 := hide (fun W' (hW : Below W6.heap.size W6 W') => Holds_any A ((R0 :: Rt) ++ (R0 :: Rt)) x _ _ _ W' (HAA6.out.below hW) (HTW.out.below hW) HLA.out (mxs _ (by rw [List.length_append, ← HRL.out]; omega)) (If6.out.below hW) (HPA.out.below (then_ HB6.out hW)))
        have HX1 : Hid (∀ e w', Held (A ++ [R0]) (Rt ++ [R0]) x W6 e w' → Below W6.heap.size W6 w' ∧ ∃ g, e = .returned (.tuple #[.slice (some ⟨g, 0, none⟩) (N + 1) (N + 1), .nilIface]) ∧ BRow w' g (N + 1) (sem ((A ++ [R0]) ++ (Rt ++ [R0])) (n + 1) x)) := fun e w' h => by
          obtain ⟨hb, h⟩ := h
          refine ⟨hb, ?_⟩
          rcases h with ⟨k, h1, _⟩ | ⟨_, g, h2, h3⟩
          · have : wrong2 (A ++ [R0]) (Rt ++ [R0]) x = none := by unfold wrong2; rw [HCT.out]; exact HRT.out
            rw [this] at h1; cases h1
          · rw [HL1.out] at h2 h3
            have e : (A ++ [R0]).length = n + 1 := by rw [List.length_append, ← HN.out]; rfl
            rw [e] at h3
            exact ⟨g, h2, h3⟩
        have HX2 : Hid (∀ W' e w', Held A ((R0 :: Rt) ++ (R0 :: Rt)) x W' e w' → Below W'.heap.size W' w' ∧ ∃ g, e = .returned (.tuple #[.slice (some ⟨g, 0, none⟩) (n + 2 * r) (n + 2 * r), .nilIface]) ∧ BRow w' g (n + 2 * r) (sem (A ++ ((R0 :: Rt) ++ (R0 :: Rt))) n x)) := fun W' e w' h => by
          obtain ⟨hb, h⟩ := h
          refine ⟨hb, ?_⟩
          rcases h with ⟨k, h1, _⟩ | ⟨_, g, h2, h3⟩
          · have : wrong2 A ((R0 :: Rt) ++ (R0 :: Rt)) x = none := by unfold wrong2; rw [HCW.out]; exact HRT.out
            rw [this] at h1; cases h1
          · rw [HL2.out] at h2 h3
            rw [← HN.out] at h3
            exact ⟨g, h2, h3⟩
        have HB1 : Hid (∀ i, i < N → sem ((A ++ [R0]) ++ (Rt ++ [R0])) (n + 1) x i = sem (A ++ R0 :: Rt) A.length x i) := fun i hi => by
          have := (turn_bis A R0 Rt).sem x i i (.inl ⟨rfl, by have h1 := HRL.out; have h2 := HN.out; have h3 := HNN.out; simp at h1; omega⟩)
          rw [← HN.out] at this ⊢
          exact this.symm
        have HB1n : Hid (sem ((A ++ [R0]) ++ (Rt ++ [R0])) (n + 1) x N = sem (A ++ R0 :: Rt) A.length x n) := by
          have := (turn_bis A R0 Rt).sem x n N (.inr ⟨HN.out, by have h1 := HRL.out; have h2 := HN.out; have h3 := HNN.out; simp at h1; omega⟩)
          rw [← HN.out] at this ⊢
          exact this.symm
        have HB2a : Hid (∀ i, i < N → sem (A ++ ((R0 :: Rt) ++ (R0 :: Rt))) n x i = sem (A ++ R0 :: Rt) A.length x i) := fun i hi => by
          have := (twice_bis A (R0 :: Rt) (by simp)).sem x i i (.inl ⟨rfl, by have h1 := HRL.out; have h2 := HN.out; have h3 := HNN.out; omega⟩)
          rw [← HN.out] at this ⊢
          exact this.symm
        have HB2b : Hid (∀ i, n ≤ i → i < N → sem (A ++ ((R0 :: Rt) ++ (R0 :: Rt))) n x (i + r) = sem (A ++ R0 :: Rt) A.length x i) := fun i hn hi => by
          have := (twice_bis A (R0 :: Rt) (by simp)).sem x i (i + r) (.inr ⟨by have h2 := HN.out; omega, by have h1 := HRL.out; have h2 := HN.out; have h3 := HNN.out; omega, by have h1 := HRL.out; omega⟩)
          rw [← HN.out] at this ⊢
          exact this.symm
        generalize sem ((A ++ [R0]) ++ (Rt ++ [R0])) (n + 1) x = sm1 at *
        generalize sem (A ++ ((R0 :: Rt) ++ (R0 :: Rt))) n x = sm2 at *
        generalize sem (A ++ R0 :: Rt) A.length x = sm at *
        generalize s 81 = y81 at *
        generalize s 84 = y84 at *
        generalize s 87 = y87 at *
        generalize s 88 = y88 at *
        obtain ⟨t87n, t87c, rfl⟩ := ht87
        clear hbW ho1 hs11 hcc0 hcc1 HKS5 hHeld hurl e0 e1 d0 d1 hc0 HTA HTR HVR5 HER5 HAA5
        go_wp2_with fail
        refine HH1.out.mono ?_
        rintro e w7 hres
        obtain ⟨hb7, g7, rfl, hr7⟩ := HX1.out _ _ hres
        have HB7 := hide hb7
        have HR17 := hide hr7
        have HRa7 := hide (HR6.out.below hb7)
        have cc0 := kept hb7 HCC0.out
        have cc1 := kept hb7 HCC1.out
        have HC7 := hide (HH2.out w7 hb7)
        clear hres hb7 hr7 HH1 HH2 b0 b1
        go_wp2_with fail
        refine HC7.out.mono ?_
        rintro e w8 hres
        obtain ⟨hb8, g8, rfl, hr8⟩ := HX2.out _ _ _ hres
        have HB8 := hide (then_ HBA.out (then_ HB6.out (then_ HB7.out hb8)))
        have HS1 := hide (HR17.out.below hb8)
        have HSa := hide (HRa7.out.below hb8)
        have HS2 := hide hr8
        clear hres hb8 hr8 HC7 cc0 cc1
        have hNi : (N : Int) = (n : Int) + (r : Int) := by have := HNN.out; omega
        have n1 : ((N : Int) != (n : Int) + (r : Int)) = false := by simp; omega
        have n2 : (((N + 1 : Nat) : Int) != (n : Int) + (r : Int) + 1) = false := by simp; omega
        have n3 : (((n + 2 * r : Nat) : Int) != (n : Int) + 2 * (r : Int)) = false := by simp
        have HNI := hide hNi
        clear hNi
        go_wp2_with fail
        go_loopw [16] (fun iv wr => ∃ i : Nat, i ≤ N ∧ iv = .int .i64 (i : Int) ∧ Hid (Below w8.heap.size w8 wr)) (fun iv _ => N - (intOf iv).toNat)
        case atStart => exact ⟨0, Nat.zero_le _, rfl, Below.refl _ _⟩
        case round =>
          obtain ⟨i, hi, rfl, HBL⟩ := hrel
          by_cases hlt : i < N
          · have z1 := (HS1.out.below HBL.out).cell i (by omega)
            have z2 := (HS2.out.below HBL.out).cell i (by have := HNN.out; omega)
            have za := (HSa.out.below HBL.out).cell i hlt
            rw [HB1.out i hlt] at z1
            rw [HB2a.out i hlt] at z2
            have hi1 : (i : Int) < (n : Int) + (r : Int) := by have := HNI.out; omega
            have hi2 : (i : Int) < (N : Int) := by omega
            have hi3 : (i : Int) < ((N + 1 : Nat) : Int) := by omega
            have hi4 : (i : Int) < ((n + 2 * r : Nat) : Int) := by have := HNI.out; omega
            have HDN : Hid (∀ k, Below w8.heap.size w8 (wr.drewN k)) := fun k => HBL.out.trans ⟨rfl, rfl, rfl, Nat.le_refl _, fun _ _ => rfl⟩
            by_cases hni : n ≤ i
            · have z3 := (HS2.out.below HBL.out).cell (i + r) (by have := HNN.out; omega)
              rw [HB2b.out i hni hlt] at z3
              have g1 : Decidable.decide ((n : Int) ≤ (i : Int)) = true := by simp; omega
              have hi5 : (i : Int) + (r : Int) < ((n + 2 * r : Nat) : Int) := by have := HNI.out; omega
              have hi6 : (0 : Int) ≤ (i : Int) + (r : Int) := by omega
              generalize sm i = y at *
              cases y
              all_goals
                go_wp2_with fail
                go_quiet (fail)
                go_wp2_with fail
                go_roundw
                case rel => exact ⟨i + 1, by omega, by go_num, HDN.out _⟩
                case measure => simp [intOf]; omega
            · have g1 : Decidable.decide ((n : Int) ≤ (i : Int)) = false := by simp; omega
              generalize sm i = y at *
              cases y
              all_goals
                go_wp2_with fail
                go_quiet (fail)
                go_wp2_with fail
                go_roundw
                case rel => exact ⟨i + 1, by omega, by go_num, HDN.out _⟩
                case measure => simp [intOf]; omega
          · have hiN : i = N := by omega
            have z1 := (HS1.out.below HBL.out).cell N (by omega)
            have za := (HSa.out.below HBL.out).cell n (by have := HNN.out; omega)
            rw [HB1n.out] at z1
            have hi1 : ¬ (i : Int) < (n : Int) + (r : Int) := by have := HNI.out; omega
            have z1' : wr.cell? ⟨g7, n + r, none⟩ = some (.bool (sm n)) := by rw [← HNN.out]; exact z1
            have hi3 : (n : Int) + (r : Int) < ((N + 1 : Nat) : Int) := by have := HNI.out; omega
            have hi4 : (n : Int) < (N : Int) := by have := HNI.out; omega
            have hi6 : (0 : Int) ≤ (n : Int) + (r : Int) := by omega
            have HDN : Hid (∀ k, Below w.heap.size w (wr.drewN k)) := fun k => then_ HB8.out (HBL.out.trans ⟨rfl, rfl, rfl, Nat.le_refl _, fun _ _ => rfl⟩)
            generalize sm n = y at *
            clear z1
            cases y
            all_goals
              go_wp2_with fail
              go_quiet (fail)
              go_wp2_with fail
              go_ret
              exact ⟨rfl, HDN.out _⟩
end Ls
end Go.Proofs.YtdkfbnokbjliiaaDoor
