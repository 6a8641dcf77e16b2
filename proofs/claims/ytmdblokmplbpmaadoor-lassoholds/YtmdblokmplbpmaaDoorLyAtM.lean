/-
  The walk of the document's At, at names.
-/
import Derived.Test.YtmdblokmplbpmaaDoorLyAtN
namespace Go.Proofs.YtmdblokmplbpmaaDoor
namespace Ls
open Go.RowKit
set_option maxHeartbeats 16000000 in
set_option maxRecDepth 100000 in
theorem rat_atom (nm : List UInt8) (l : List Fm) : RAtOK ⟨false, 1, nm, l⟩ := by
  intro hwf A R av rv v w t hA hR h0 h60 hnb hF ht
  obtain ⟨-, hnm, -, b, sa, sc, -, rfl, d0, d1, d2, hrow⟩ := isF_node.1 hF
  have HST := hide (AtS.first A R av rv w)
  obtain ⟨wB, hwB⟩ : ∃ wB, wB = ((w.alloc (.cells #[av, rv] 29)).alloc (.cells #[.int .i64 (A.length : Int)] 3)) := ⟨_, rfl⟩
  rw [← hwB] at HST
  have e0 := kept HST.out.B d0
  have e1 := kept HST.out.B d1
  have e2 := kept HST.out.B d2
  have ea := HST.out.a
  have er := HST.out.r
  have HFD := hide (fun i hi W hW => HST.out.fold hR h0 h60 i hi W hW)
  have HAA := hide hA
  have HRR := hide hR
  have HD := hide (drewB wB)
  have hal : (A.length : Int) ≤ 60 := by omega
  have hrl : (R.length : Int) ≤ 60 := by omega
  have hti : (t : Int) ≤ 60 := by omega
  have h0i : (0 : Int) < (R.length : Int) := by omega
  have hmx : (t : Int) < (A.length : Int) ∨ ¬ (t : Int) < (A.length : Int) := Decidable.em _
  have HS : Hid (sem (A ++ R) A.length ⟨false, 1, nm, l⟩ t = ((A ++ R).getD t []).contains nm) := by show _ = _; rw [sem_eq]; rfl
  obtain ⟨ua, hVA, hEA⟩ := (hA.below HST.out.B).vals
  obtain ⟨us, hVR, hER⟩ := (hR.below HST.out.B).vals
  have htl : t < (A ++ R).length := by rw [len_app]; exact ht
  obtain ⟨rw_, hrw⟩ : ∃ rw_, rw_ = (A ++ R).getD t [] := ⟨_, rfl⟩
  have hget : (A ++ R)[t]? = some rw_ := by rw [hrw, List.getD_eq_getElem?_getD, List.getElem?_eq_getElem htl]; rfl
  obtain ⟨u, hu, hsu⟩ := (hEA.append hER).2 t rw_ hget
  have HSU : Hid (∀ W, Below wB.heap.size wB W → Strs W u rw_) := fun W hW => hsu.below hW
  have HEM : Hid (nm = [] → ¬ [] ∈ rw_) := fun _ => hnb rw_ (List.mem_of_getElem? hget)
  have HNM := hide hnm
  have HVA := hide hVA
  have HVR := hide hVR
  have HSA := hide (fun u hu => hEA.slice u hu)
  have HSR := hide (fun u hu => hER.slice u hu)
  have hla := hEA.1
  have hlr := hER.1
  have HLA : Hid (ua.length ≤ 1000) := by show _ ≤ _; omega
  have HLR : Hid (us.length ≤ 1000) := by show _ ≤ _; omega
  have HLX : Hid (([] ++ ua).length ≤ 1000) := by show _ ≤ _; simp; omega
  obtain ⟨N, hN⟩ : ∃ N, N = A.length + R.length := ⟨_, rfl⟩
  have HLEN : Hid ((([] : List Value) ++ ua ++ us).length = N) := by show _ = _; rw [hN]; simp; omega
  have HCELL : Hid (∀ (W : World) (c : Nat) (v : Value) (cap : Nat), v = .slice (some ⟨c, 0, none⟩) ([] ++ ua ++ us).length cap → W.ownsRow wB.heap.size 58 1 v ([] ++ ua ++ us).length ([] ++ ua ++ us) → W.cell? ⟨c, t, none⟩ = some u) := fun W c v cap hv ho => by
    obtain ⟨g, cap', e1, _, _, q⟩ := own_at ho (by rw [List.nil_append, List.length_append, hla, hlr]; omega)
    rw [hv] at e1
    simp only [Value.slice.injEq, Option.some.injEq, Addr.mk.injEq, and_true] at e1
    rw [e1.1]
    exact q t u (by rw [List.nil_append]; exact hu)
  rw [← hrw] at HS
  have HFK : Hid (∀ W, Below wB.heap.size wB W → Calls Tryd.prog 26 #[.int .i64 (t : Int), .pointer (some ⟨w.heap.size + 1, 0, none⟩), .pointer (some ⟨w.heap.size, 0, none⟩)] W fun e w' => e = .returned (.int .i64 (t : Int)) ∧ Below W.heap.size W w') := fun W hW => by
    have h := HFD.out t (by omega) W hW
    rw [fold_small ht] at h
    exact h
  obtain ⟨aa, ac, rfl⟩ := hA.slice
  obtain ⟨ra, rc, rfl⟩ := hR.slice
  have HWB := hide hwB
  have HT0 := hide ht
  have H60 := hide h60
  have HNB := hide hnb
  clear hnb
  have HKC : Hid (∀ W, Below wB.heap.size wB W → W.cell? ⟨w.heap.size, 0, none⟩ = some (.slice aa A.length ac) ∧ W.cell? ⟨w.heap.size, 1, none⟩ = some (.slice ra R.length rc)) := fun W hW => ⟨kept hW ea, kept hW er⟩
  have HKN : Hid (∀ W, Below wB.heap.size wB W → W.cell? ⟨b, 0, none⟩ = some (.int .i64 1) ∧ W.cell? ⟨b, 1, none⟩ = some (.string ⟨nm.toArray⟩)) := fun W hW => ⟨kept hW e0, kept hW e1⟩
  have HD0 : Hid (Below wB.heap.size wB wB.drew) := HD.out
  have htN : (t : Int) < (N : Int) := by omega
  clear hwf hA hR hF hrow hwB d0 d1 d2 h0 h60 ht hVA hVR hEA hER hla hlr hget hu hsu hrw htl hnm hN
  rcases hmx with hmx | hmx
  all_goals
    go_enter Tryd.func12, Tryd.ntmps12
    go_upto_region 4 with fail
    rw [← HWB.out]
    go_wp2_with fail
    refine wp_region_noPanic ?_
    refine wp_region_held_drew (S := fun W => W.cell? ⟨w.heap.size, 0, none⟩ = some (.slice aa A.length ac) ∧ W.cell? ⟨w.heap.size, 1, none⟩ = some (.slice ra R.length rc)) (by kernel_rfl) (HKC.out _ HD.out) (fun hHeld => ?_)
    refine take_at 1 33 (.pointer (some ⟨w.heap.size, 0, none⟩)) rfl rfl (by kernel_rfl) (by kernel_rfl) (by kernel_rfl) (fun _ _ _ h => h) hHeld (Or.inl ⟨by rfl, ?_⟩) ?_
    · rintro Z ⟨z0, z1⟩
      go_simp
    simp only [List.setIfInBounds_toArray, List.set_cons_zero, List.set_cons_succ]
    refine take_at 2 34 (.slice aa A.length ac) rfl rfl (by kernel_rfl) (by kernel_rfl) (by kernel_rfl) (fun _ _ _ h => h) hHeld (Or.inl ⟨by rfl, ?_⟩) ?_
    · rintro Z ⟨z0, z1⟩
      go_simp
    simp only [List.setIfInBounds_toArray, List.set_cons_zero, List.set_cons_succ]
    refine take_at 4 36 (.pointer (some ⟨w.heap.size, 1, none⟩)) rfl rfl (by kernel_rfl) (by kernel_rfl) (by kernel_rfl) (fun _ _ _ h => h) hHeld (Or.inl ⟨by rfl, ?_⟩) ?_
    · rintro Z ⟨z0, z1⟩
      go_simp
    simp only [List.setIfInBounds_toArray, List.set_cons_zero, List.set_cons_succ]
    refine take_at 5 37 (.slice ra R.length rc) rfl rfl (by kernel_rfl) (by kernel_rfl) (by kernel_rfl) (fun _ _ _ h => h) hHeld (Or.inl ⟨by rfl, ?_⟩) ?_
    · rintro Z ⟨z0, z1⟩
      go_simp
    simp only [List.setIfInBounds_toArray, List.set_cons_zero, List.set_cons_succ]
    refine take_at 7 39 (.func (.func 26) #[] #[.pointer (some ⟨w.heap.size + 1, 0, none⟩), .pointer (some ⟨w.heap.size, 0, none⟩)]) rfl rfl (by kernel_rfl) (by kernel_rfl) (by kernel_rfl) (fun _ _ _ h => h) hHeld (Or.inl ⟨by rfl, ?_⟩) ?_
    · rintro Z ⟨z0, z1⟩
      go_simp
    simp only [List.setIfInBounds_toArray, List.set_cons_zero, List.set_cons_succ]
    refine take_at 8 40 (.int .i64 (t : Int)) rfl rfl (by kernel_rfl) (by kernel_rfl) (by kernel_rfl) (fun _ _ _ h => h) hHeld (Or.inl ⟨by rfl, ?_⟩) ?_
    · rintro Z ⟨z0, z1⟩
      go_simp
    simp only [List.setIfInBounds_toArray, List.set_cons_zero, List.set_cons_succ]
    refine only_one (i := 0) (by kernel_rfl) ?_
    refine wpOp_k rfl (by rfl) (fun K' hK => ?_)
    go_simp
    refine hK _ _ ?_
    have hb_x1 : Below wB.heap.size wB ((wB.alloc (.cells #[] 58)).drew) := then_ HD0.out (newB wB.drew _)
    have ho_x1 : Own1 wB.heap.size ((wB.alloc (.cells #[] 58)).drew) wB.drew.heap.size (.slice (some ⟨wB.drew.heap.size, 0, none⟩) 0 0) [] := own_empty wB.heap.size wB.drew (Below.size HD0.out)
    generalize (wB.alloc (.cells #[] 58)).drew = x1 at *
    refine ⟨HKC.out _ hb_x1, ?_⟩
    refine only_one (i := 3) (by kernel_rfl) ?_
    obtain ⟨c_x2, v_x2, x2, er_x2, ho_x2, gr_x2, -⟩ := own_append ho_x1 (HVA.out.below hb_x1) HSA.out (Below.size hb_x1) (by simp) HLA.out
    have hb_x2 := below_app hb_x1 ho_x1 gr_x2
    refine wpOp_in rfl (by rfl) (Lib.wp_append_run x1 (.tmp 32) (.tmp 34) 22 22 rfl _ _ rfl rfl v_x2 x2 er_x2 ⟨HKC.out _ hb_x2, ?_⟩)
    refine only_one (i := 6) (by kernel_rfl) ?_
    obtain ⟨c_x3, v_x3, x3, er_x3, ho_x3, gr_x3, -⟩ := own_append ho_x2 (HVR.out.below hb_x2) HSR.out (Below.size hb_x2) HLX.out HLR.out
    have hb_x3 := below_app hb_x2 ho_x2 gr_x3
    refine wpOp_in rfl (by rfl) (Lib.wp_append_run x2 (.tmp 35) (.tmp 37) 22 22 rfl _ _ rfl rfl v_x3 x3 er_x3 ⟨HKC.out _ hb_x3, ?_⟩)
    refine only_one (i := 9) (by kernel_rfl) ?_
    refine wpOp_k rfl (by rfl) (fun K' hK => ?_)
    go_simp
    go_at_call 26
    refine (HFK.out x3 hb_x3).mono ?_
    rintro e x4 ⟨rfl, hd_x4⟩
    have hb_x4 := then_ hb_x3 hd_x4
    have ho_x4 := Own1.below ho_x3 hd_x4
    refine hK _ _ ⟨HKC.out _ hb_x4, ?_⟩
    obtain ⟨capz, hvz, hoz, hlz⟩ := ho_x4
    have hcz := HCELL.out _ _ _ capz hvz hoz
    have HBZ := hide hb_x4
    have HSUZ := hide (HSU.out _ hb_x4)
    have hlq := HLEN.out
    rw [List.nil_append] at hlq
    simp only [List.nil_append] at hvz
    rw [hlq] at hvz
    subst hvz
    refine only_one (i := 10) (by kernel_rfl) ?_
    refine wpOp_k rfl (by rfl) (fun K' hK => ?_)
    go_simp
    refine hK _ _ ⟨HKC.out _ HBZ.out, ?_⟩
    refine only_one (i := 11) (by kernel_rfl) ?_
    refine wpOp_k rfl (by rfl) (fun K' hK => ?_)
    go_simp
    refine hK _ _ ⟨HKC.out _ HBZ.out, ?_⟩
    refine only_one (i := 12) (by kernel_rfl) ?_
    refine wpOp_k rfl (by rfl) (fun K' hK => ?_)
    go_simp
    refine hK _ _ ⟨HKC.out _ HBZ.out, ?_⟩
    refine none_left (by kernel_rfl) ?_
    refine NoPanic.normal ?_
    obtain ⟨ux, uc, hux⟩ := HSUZ.out.slice
    subst hux
    have HIX := hide (index_any _ _ nm _ HSUZ.out HEM.out HNM.out)
    obtain ⟨z0, z1⟩ := HKN.out _ HBZ.out
    go_wp2_with fail
    refine HIX.out.mono ?_
    rintro e xf ⟨nn, rfl, hff, rfl⟩
    obtain ⟨ff1, ff2, ff3⟩ := hff
    have HFF : Hid (decide (0 ≤ nn) = rw_.contains nm) := ff1
    clear ff1
    go_wp2_with fail
    go_ret
    exact ⟨ret_bool (by rw [HS.out]; exact HFF.out), then_ HST.out.B HBZ.out⟩
end Ls
end Go.Proofs.YtmdblokmplbpmaaDoor
