/-
  The walk of the document's WordCheck: it is check.
-/
import Derived.Test.YtmdblokmplbpmaaDoorLyAtN
import Derived.Test.YtmdblokmplbpmaaDoorLyNamed
namespace Go.Proofs.YtmdblokmplbpmaaDoor
namespace Ls
open Go.RowKit
set_option maxHeartbeats 16000000 in
set_option maxRecDepth 100000 in
theorem rword_any (A R : List (List (List UInt8))) (av rv : Value) (w : World) (hA : Rows w av A) (hR : Rows w rv R) (hla : A.length ≤ mx) (hlr : R.length ≤ mx) :
    Calls Tryd.prog 6 #[.agg #[av, rv]] w fun e w' => e = .returned (.int .i64 ((check A R).getD 0 : Int)) ∧ Below w.heap.size w w' := by
  unfold mx at hla hlr
  obtain ⟨wB, hwB⟩ : ∃ wB, wB = w.alloc (.cells #[av, rv] 29) := ⟨_, rfl⟩
  have HB0 : Hid (Below w.heap.size w wB) := by rw [hwB]; exact newB _ _
  have r1 : RowIs wB w.heap.size 29 [av, rv] := by rw [hwB]; exact RowIs.new _ _ _
  have ea := r1.cell 0 _ rfl
  have er := r1.cell 1 _ rfl
  have HD := hide (drewB wB)
  obtain ⟨ua, hVA, hEA⟩ := (hA.below HB0.out).vals
  obtain ⟨us, hVR, hER⟩ := (hR.below HB0.out).vals
  have HSU : Hid (∀ W, Below wB.heap.size wB W → ∀ (k : Nat) (r : List (List UInt8)), (A ++ R)[k]? = some r → ∃ u, (ua ++ us)[k]? = some u ∧ Strs W u r) := fun W hW k r hk => by
    obtain ⟨u, h1, h2⟩ := (hEA.append hER).2 k r hk
    exact ⟨u, h1, h2.below hW⟩
  have HVA := hide hVA
  have HVR := hide hVR
  have HSA := hide (fun u hu => hEA.slice u hu)
  have HSR := hide (fun u hu => hER.slice u hu)
  have hla2 := hEA.1
  have hlr2 := hER.1
  obtain ⟨aa, ac, rfl⟩ := hA.slice
  obtain ⟨ra, rc, rfl⟩ := hR.slice
  have HWB := hide hwB
  have HCK : Hid (check A R = if R.length < 1 ∨ 60 < A.length + R.length then some 4 else if ((A ++ R).any badRow) = true then some 5 else none) := by show _ = _; unfold check; rw [List.any_append]
  by_cases h0 : R.length = 0
  · have HE : Hid (check A R = some 4) := by show _ = _; rw [HCK.out, if_pos (.inl (by omega))]
    have h0i : (R.length : Int) = 0 := by omega
    have h0b : ((R.length : Int) == 0) = true := by rw [h0i]; rfl
    clear h0 h0i
    clear hwB hA hR hVA hVR hEA hER hla2 hlr2 r1
    go_enter Tryd.func6, Tryd.ntmps6
    go_upto_region 1 with fail
    rw [← HWB.out]
    go_wp2_with fail
    go_ret
    exact ⟨by rw [HE.out]; rfl, HB0.out⟩
  have h0i : ¬ (R.length : Int) = 0 := by omega
  have h0b : ((R.length : Int) == 0) = false := beq_eq_false_iff_ne.2 h0i
  by_cases h60 : 60 < A.length + R.length
  · have HE : Hid (check A R = some 4) := by show _ = _; rw [HCK.out, if_pos (.inr h60)]
    have h60i : (60 : Int) < (A.length : Int) + (R.length : Int) := by omega
    clear hwB hA hR hVA hVR hEA hER hla2 hlr2 r1
    go_enter Tryd.func6, Tryd.ntmps6
    go_upto_region 1 with fail
    rw [← HWB.out]
    go_wp2_with fail
    go_ret
    exact ⟨by rw [HE.out]; rfl, HB0.out⟩
  have h60i : ¬ (60 : Int) < (A.length : Int) + (R.length : Int) := by omega
  have HCK2 : Hid (check A R = if ((A ++ R).any badRow) = true then some 5 else none) := by show _ = _; rw [HCK.out, if_neg (by omega)]
  have HLA : Hid (ua.length ≤ 1000) := by show _ ≤ _; omega
  have HLR : Hid (us.length ≤ 1000) := by show _ ≤ _; omega
  have HLX : Hid (([] ++ ua).length ≤ 1000) := by show _ ≤ _; simp; omega
  obtain ⟨N, hN⟩ : ∃ N, N = A.length + R.length := ⟨_, rfl⟩
  have HLEN : Hid ((([] : List Value) ++ ua ++ us).length = N) := by show _ = _; rw [hN]; simp; omega
  have HNL : Hid ((A ++ R).length = N) := by show _ = _; rw [hN, len_app]
  have HCELL : Hid (∀ (W : World) (c : Nat) (v : Value) (cap : Nat), v = .slice (some ⟨c, 0, none⟩) ([] ++ ua ++ us).length cap → W.ownsRow wB.heap.size 58 1 v ([] ++ ua ++ us).length ([] ++ ua ++ us) → ∀ (i : Nat) (u : Value), (ua ++ us)[i]? = some u → W.cell? ⟨c, i, none⟩ = some u) := fun W c v cap hv ho i u hu => by
    obtain ⟨g, cap', e1, _, _, q⟩ := own_at ho (by rw [List.nil_append, List.length_append, hla2, hlr2]; omega)
    rw [hv] at e1
    simp only [Value.slice.injEq, Option.some.injEq, Addr.mk.injEq, and_true] at e1
    rw [e1.1]
    exact q i u (by rw [List.nil_append]; exact hu)
  have HKC : Hid (∀ W, Below wB.heap.size wB W → W.cell? ⟨w.heap.size, 0, none⟩ = some (.slice aa A.length ac) ∧ W.cell? ⟨w.heap.size, 1, none⟩ = some (.slice ra R.length rc)) := fun W hW => ⟨kept hW ea, kept hW er⟩
  have HD0 : Hid (Below wB.heap.size wB wB.drew) := HD.out
  have hN60 : N ≤ 60 := by omega
  clear hwB hA hR hVA hVR hEA hER hla2 hlr2 r1 hN HCK
  go_enter Tryd.func6, Tryd.ntmps6
  go_upto_region 1 with fail
  rw [← HWB.out]
  go_wp2_with fail
  refine wp_region_noPanic ?_
  refine wp_region_held_drew (S := fun W => W.cell? ⟨w.heap.size, 0, none⟩ = some (.slice aa A.length ac) ∧ W.cell? ⟨w.heap.size, 1, none⟩ = some (.slice ra R.length rc)) (by kernel_rfl) (HKC.out _ HD.out) (fun hHeld => ?_)
  refine take_at 1 22 (.pointer (some ⟨w.heap.size, 0, none⟩)) rfl rfl (by kernel_rfl) (by kernel_rfl) (by kernel_rfl) (fun _ _ _ h => h) hHeld (Or.inl ⟨by rfl, ?_⟩) ?_
  · rintro Z ⟨z0, z1⟩
    go_simp
  simp only [List.setIfInBounds_toArray, List.set_cons_zero, List.set_cons_succ]
  refine take_at 2 23 (.slice aa A.length ac) rfl rfl (by kernel_rfl) (by kernel_rfl) (by kernel_rfl) (fun _ _ _ h => h) hHeld (Or.inl ⟨by rfl, ?_⟩) ?_
  · rintro Z ⟨z0, z1⟩
    go_simp
  simp only [List.setIfInBounds_toArray, List.set_cons_zero, List.set_cons_succ]
  refine take_at 4 25 (.pointer (some ⟨w.heap.size, 1, none⟩)) rfl rfl (by kernel_rfl) (by kernel_rfl) (by kernel_rfl) (fun _ _ _ h => h) hHeld (Or.inl ⟨by rfl, ?_⟩) ?_
  · rintro Z ⟨z0, z1⟩
    go_simp
  simp only [List.setIfInBounds_toArray, List.set_cons_zero, List.set_cons_succ]
  refine take_at 5 26 (.slice ra R.length rc) rfl rfl (by kernel_rfl) (by kernel_rfl) (by kernel_rfl) (fun _ _ _ h => h) hHeld (Or.inl ⟨by rfl, ?_⟩) ?_
  · rintro Z ⟨z0, z1⟩
    go_simp
  simp only [List.setIfInBounds_toArray, List.set_cons_zero, List.set_cons_succ]
  refine take_at 8 29 (.int .i64 0) rfl rfl (by kernel_rfl) (by kernel_rfl) (by kernel_rfl) (fun _ _ _ h => h) hHeld (Or.inl ⟨by rfl, ?_⟩) ?_
  · rintro Z ⟨z0, z1⟩
    go_simp
  simp only [List.setIfInBounds_toArray, List.set_cons_zero, List.set_cons_succ]
  refine only_one (i := 0) (by kernel_rfl) ?_
  refine wpOp_k rfl (by rfl) (fun K' hK => ?_)
  go_simp
  refine hK _ _ ?_
  have hb_x1 : Below wB.heap.size wB ((wB.alloc (.cells #[] 58)).drew) := then_ HD0.out (newB wB.drew _)
  have ho_x1 : Own1 wB.heap.size ((wB.alloc (.cells #[] 58)).drew) wB.drew.heap.size (.slice (some ⟨wB.drew.heap.size, 0, none⟩) 0 0) [] := own_empty wB.heap.size wB.drew (Below.size HD0.out)
  generalize (wB.alloc (.cells #[] 58)).drew = x1 at *
  refine ⟨HKC.out _ hb_x1, ?_⟩
  refine only_one (i := 3) (by kernel_rfl) ?_
  obtain ⟨c_x2, v_x2, x2, er_x2, ho_x2, gr_x2, -⟩ := own_append ho_x1 (HVA.out.below hb_x1) HSA.out (Below.size hb_x1) (by simp) HLA.out
  have hb_x2 := below_app hb_x1 ho_x1 gr_x2
  refine wpOp_in rfl (by rfl) (Lib.wp_append_run x1 (.tmp 21) (.tmp 23) 22 22 rfl _ _ rfl rfl v_x2 x2 er_x2 ⟨HKC.out _ hb_x2, ?_⟩)
  refine only_one (i := 6) (by kernel_rfl) ?_
  obtain ⟨c_x3, v_x3, x3, er_x3, ho_x3, gr_x3, -⟩ := own_append ho_x2 (HVR.out.below hb_x2) HSR.out (Below.size hb_x2) HLX.out HLR.out
  have hb_x3 := below_app hb_x2 ho_x2 gr_x3
  refine wpOp_in rfl (by rfl) (Lib.wp_append_run x2 (.tmp 24) (.tmp 26) 22 22 rfl _ _ rfl rfl v_x3 x3 er_x3 ⟨HKC.out _ hb_x3, ?_⟩)
  obtain ⟨capz, hvz, hoz, hlz⟩ := ho_x3
  have HCZ := hide (HCELL.out _ _ _ capz hvz hoz)
  have HBZ := hide hb_x3
  have HSUZ := hide (HSU.out _ hb_x3)
  have hlq := HLEN.out
  rw [List.nil_append] at hlq
  simp only [List.nil_append] at hvz
  rw [hlq] at hvz
  subst hvz
  refine only_one (i := 7) (by kernel_rfl) ?_
  refine wpOp_k rfl (by rfl) (fun K' hK => ?_)
  go_simp
  refine hK _ _ ⟨HKC.out _ HBZ.out, ?_⟩
  refine none_left (by kernel_rfl) ?_
  refine NoPanic.normal ?_
  have HBF := hide (then_ HB0.out HBZ.out)
  clear HKC HVA HVR HSA HSR HLA HLR HLX HCELL
  have HBAD : Hid (∀ k r, (A ++ R)[k]? = some r → badRow r = true → check A R = some 5) := fun k r hk hb => by
    rw [HCK2.out, if_pos]
    rw [List.any_eq_true]
    exact ⟨r, List.mem_of_getElem? hk, hb⟩
  generalize hLL : A ++ R = L at *
  have HLL := hide hLL
  clear hLL
  go_wp2_with fail
  go_loop [29] (fun iv => ∃ j : Nat, j ≤ N ∧ iv = .int .i64 (j : Int) ∧ Hid ((L.take j).any badRow = false)) (fun iv => N - (intOf iv).toNat)
  case atStart => exact ⟨0, Nat.zero_le _, rfl, rfl⟩
  case round =>
    obtain ⟨j, hj, rfl, HT⟩ := hrel
    by_cases hlt : j < N
    · have hjl : j < L.length := by rw [HNL.out]; exact hlt
      have hji : (j : Int) < (N : Int) := by omega
      obtain ⟨u, hu, hsu⟩ := HSUZ.out j _ (List.getElem?_eq_getElem hjl)
      have hcu := HCZ.out j u hu
      have HST := hide hsu
      have HNX : Hid (badRow L[j] = false → (L.take (j + 1)).any badRow = false) := fun h => by
        rw [List.take_succ_eq_append_getElem hjl, List.any_append, HT.out]; simp [h]
      have HB5 : Hid (badRow L[j] = true → check A R = some 5) := HBAD.out j _ (List.getElem?_eq_getElem hjl)
      obtain ⟨ux, uc, rfl⟩ := hsu.slice
      have hml := hsu.len
      unfold maxLen at hml
      clear hu hsu
      generalize L[j] = row at *
      obtain ⟨m, hm⟩ : ∃ m, m = row.length := ⟨_, rfl⟩
      have HM := hide hm
      rw [← hm] at hcu HST hml
      clear hm hjl
      go_wp2_with fail
      go_loop [35] (fun iv => ∃ i : Nat, i ≤ m ∧ iv = .int .i64 (i : Int) ∧ Hid ((row.take i).any badName = false)) (fun iv => m - (intOf iv).toNat)
      case atStart => exact ⟨0, Nat.zero_le _, rfl, rfl⟩
      case round =>
        obtain ⟨i, hi, rfl, HTI⟩ := hrel
        by_cases hli : i < m
        · have hil : i < row.length := by rw [← HM.out]; exact hli
          have hii : (i : Int) < (m : Int) := by omega
          obtain ⟨g, o, rfl, c0, hnl⟩ := HST.out.cell i _ (List.getElem?_eq_getElem hil)
          have HNM := hide (refName_at row[i] x3 hnl)
          have HNXI : Hid (badName row[i] = false → (row.take (i + 1)).any badName = false) := fun h => by
            rw [List.take_succ_eq_append_getElem hil, List.any_append, HTI.out]; simp [h]
          have HBB : Hid (badName row[i] = true → badRow row = true) := fun h => by
            unfold badRow; rw [List.any_eq_true]; exact ⟨_, List.getElem_mem hil, h⟩
          have HBN : Hid (badName row[i] = !Nm.name row[i]) := rfl
          clear hnl
          generalize row[i] = nm at *
          generalize badName nm = bn at *
          clear hil
          cases hnn : Nm.name nm with
          | true =>
            rw [hnn] at HNM HBN
            have HN1 := hide (HNXI.out HBN.out)
            clear hnn HNXI HBB HBN
            go_wp2_with fail
            refine HNM.out.mono ?_
            rintro e wz ⟨rfl, rfl⟩
            clear HNM
            go_wp2_with fail
            go_round
            case rel => exact ⟨i + 1, by omega, by go_num, HN1.out⟩
            case measure => simp [intOf]; omega
          | false =>
            rw [hnn] at HNM HBN
            have HE := hide (HB5.out (HBB.out HBN.out))
            clear hnn HNXI HBB HBN
            go_wp2_with fail
            refine HNM.out.mono ?_
            rintro e wz ⟨rfl, rfl⟩
            clear HNM
            go_wp2_with fail
            go_ret
            exact ⟨by rw [HE.out]; rfl, HBF.out⟩
        · have him : i = m := by omega
          have hii : ¬ (i : Int) < (m : Int) := by omega
          have HN1 := hide (HNX.out (by
            have := HTI.out
            rw [List.take_of_length_le (by rw [← HM.out]; omega)] at this
            exact this))
          clear HTI HB5
          go_wp2_with fail
          go_round
          case rel => exact ⟨j + 1, by omega, by go_num, HN1.out⟩
          case measure => simp [intOf]; omega
    · have hjn : j = N := by omega
      have hji : ¬ (j : Int) < (N : Int) := by omega
      have HE : Hid (check A R = none) := by
        show _ = _
        have := HT.out
        rw [List.take_of_length_le (by rw [HNL.out]; omega)] at this
        rw [HCK2.out, this]; rfl
      clear HT
      go_wp2_with fail
      go_ret
      exact ⟨by rw [HE.out]; rfl, HBF.out⟩
end Ls
end Go.Proofs.YtmdblokmplbpmaaDoor
