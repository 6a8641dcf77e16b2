/-
  The walks of the statements' own pick, sameInts and sameBools. The walks of the statements' own sameInts and sameBools: nothing is changed. The walk of the statements' own inputs: so many bits of each number.
-/
import Derived.Test.YtgoabhclnicepaaGreatDoorKeIntsBAll
import Derived.Test.YtgoabhclnicepaaGreatDoorKeIntsDAll
namespace Go.Proofs.YtgoabhclnicepaaGreatDoor
section
open Go.RowKit
set_option maxHeartbeats 2000000 in
set_option maxRecDepth 100000 in
theorem pick_any (x : Int) (I : Nat) (w : World) (h1 : 1 ≤ I) (h2 : I ≤ 100000) :
    Calls Tryz.prog 7 #[.int .i64 x, .int .i64 (I : Int)] w fun e w' => e = .returned (.int .i64 (x % 18446744073709551616 % (I : Int))) ∧ w' = w := by
  go_enter Tryz.func7, Tryz.ntmps7
  go_wp2_with fail
  refine bodyPost_ret (results_tmp rfl _ _ _) rfl ⟨?_, rfl⟩
  have e1 : IntKind.u64.wrap x = x % 18446744073709551616 := IntKind.wrap_u64 x
  have h3 : 0 ≤ x % 18446744073709551616 := Int.emod_nonneg _ (by decide)
  have h4 : 0 ≤ x % 18446744073709551616 % (I : Int) := Int.emod_nonneg _ (by omega)
  have h5 : x % 18446744073709551616 % (I : Int) < (I : Int) := Int.emod_lt_of_pos _ (by omega)
  have e2 : wrap64 (x % 18446744073709551616 % (I : Int)) = x % 18446744073709551616 % (I : Int) := by unfold wrap64; omega
  rw [e1, Int.tmod_eq_emod_of_nonneg h3, e2]
  rfl
theorem Bools.len {w : World} {v : Value} {l : List Bool} (h : Bools w v l) : l.length ≤ 1000000 := by obtain ⟨_, _, _, h, _⟩ := h; exact h
theorem Bools.slice {w : World} {v : Value} {l : List Bool} (h : Bools w v l) : ∃ a c, v = .slice a l.length c := by obtain ⟨a, c, h, _⟩ := h; exact ⟨a, c, h⟩
set_option maxHeartbeats 2000000 in
set_option maxRecDepth 100000 in
theorem sameI_any (l : List Int) (u v : Value) (w : World) (hu : Ints w u l) (hv : Ints w v l) (hl : l.length ≤ 1000000) :
    Calls Tryz.prog 16 #[u, v] w fun e w' => e = .returned (.bool true) ∧ Below w.heap.size w w' := by
  have HU := hide hu
  have HV := hide hv
  obtain ⟨n, hn⟩ : ∃ n, n = l.length := ⟨_, rfl⟩
  have HN := hide hn
  obtain ⟨ua, uc, rfl⟩ := hu.slice
  obtain ⟨va, vc, rfl⟩ := hv.slice
  rw [← hn] at HU HV hl ⊢
  clear hu hv hn
  go_enter Tryz.func16, Tryz.ntmps16
  go_wp2_with fail
  go_loopw [5] (fun i wr => ∃ k : Nat, k ≤ n ∧ i = .int .i64 (k : Int) ∧ Hid (Below w.heap.size w wr)) (fun i _ => n - (intOf i).toNat)
  case atStart => exact ⟨0, Nat.zero_le _, rfl, Below.refl _ _⟩
  case round =>
    obtain ⟨k, hk, rfl, HB⟩ := hrel
    by_cases hlt : k < n
    · have hkl : k < l.length := by rw [← HN.out]; exact hlt
      have hx := List.getElem?_eq_getElem hkl
      obtain ⟨g1, o1, e1, d1⟩ := (HU.out.below HB.out).cell k _ hx
      obtain ⟨g2, o2, e2, d2⟩ := (HV.out.below HB.out).cell k _ hx
      subst e1
      subst e2
      generalize l[k] = x at *
      clear hx
      go_wp2_with fail
      go_quiet (fail)
      go_wp2_with fail
      go_roundw
      case rel => exact ⟨k + 1, by omega, by go_num, HB.out.trans ⟨rfl, rfl, rfl, Nat.le_refl _, fun _ _ => rfl⟩⟩
      case measure => simp [intOf]; omega
    · have hkn : k = n := by omega
      subst hkn
      go_wp2_with fail
      go_ret
      exact ⟨rfl, HB.out⟩
set_option maxHeartbeats 2000000 in
set_option maxRecDepth 100000 in
theorem sameB_any (l : List Bool) (u v : Value) (w : World) (hu : Bools w u l) (hv : Bools w v l) :
    Calls Tryz.prog 15 #[u, v] w fun e w' => e = .returned (.bool true) ∧ Below w.heap.size w w' := by
  have HU := hide hu
  have HV := hide hv
  obtain ⟨n, hn⟩ : ∃ n, n = l.length := ⟨_, rfl⟩
  have HN := hide hn
  have hl6 := hu.len
  obtain ⟨ua, uc, rfl⟩ := hu.slice
  obtain ⟨va, vc, rfl⟩ := hv.slice
  rw [← hn] at HU HV hl6 ⊢
  clear hu hv hn
  go_enter Tryz.func15, Tryz.ntmps15
  go_wp2_with fail
  go_loopw [5] (fun i wr => ∃ k : Nat, k ≤ n ∧ i = .int .i64 (k : Int) ∧ Hid (Below w.heap.size w wr)) (fun i _ => n - (intOf i).toNat)
  case atStart => exact ⟨0, Nat.zero_le _, rfl, Below.refl _ _⟩
  case round =>
    obtain ⟨k, hk, rfl, HB⟩ := hrel
    by_cases hlt : k < n
    · have hkl : k < l.length := by rw [← HN.out]; exact hlt
      have hx := List.getElem?_eq_getElem hkl
      obtain ⟨a1, c1, e1, _, b1⟩ := HU.out.below HB.out
      obtain ⟨a2, c2, e2, _, b2⟩ := HV.out.below HB.out
      simp only [Value.slice.injEq] at e1 e2
      obtain ⟨g1, ga1, d1⟩ := b1 k _ hx
      obtain ⟨g2, ga2, d2⟩ := b2 k _ hx
      obtain ⟨e1, _, _⟩ := e1
      obtain ⟨e2, _, _⟩ := e2
      rw [ga1] at e1
      rw [ga2] at e2
      subst e1
      subst e2
      clear b1 b2 ga1 ga2
      generalize l[k] = x at *
      clear hx
      go_wp2_with fail
      go_quiet (fail)
      go_wp2_with fail
      go_roundw
      case rel => exact ⟨k + 1, by omega, by go_num, HB.out.trans ⟨rfl, rfl, rfl, Nat.le_refl _, fun _ _ => rfl⟩⟩
      case measure => simp [intOf]; omega
    · have hkn : k = n := by omega
      subst hkn
      go_wp2_with fail
      go_ret
      exact ⟨rfl, HB.out⟩
end
section
open Go.RowKit
set_option maxHeartbeats 2000000 in
set_option maxRecDepth 100000 in
theorem sameIQ_any (l : List Int) (u v : Value) (w : World) (hu : Ints w u l) (hv : Ints w v l) (hl : l.length ≤ 1000000) :
    Calls Tryz.prog 16 #[u, v] w fun e w' => e = .returned (.bool true) ∧ ∃ m, w' = w.drewN m := by
  have HU := hide hu
  have HV := hide hv
  obtain ⟨n, hn⟩ : ∃ n, n = l.length := ⟨_, rfl⟩
  have HN := hide hn
  obtain ⟨ua, uc, rfl⟩ := hu.slice
  obtain ⟨va, vc, rfl⟩ := hv.slice
  rw [← hn] at HU HV hl ⊢
  clear hu hv hn
  go_enter Tryz.func16, Tryz.ntmps16
  go_wp2_with fail
  go_loopw [5] (fun i wr => ∃ k : Nat, k ≤ n ∧ i = .int .i64 (k : Int) ∧ Hid (∃ m, wr = w.drewN m)) (fun i _ => n - (intOf i).toNat)
  case atStart => exact ⟨0, Nat.zero_le _, rfl, 0, rfl⟩
  case round =>
    obtain ⟨k, hk, rfl, HE⟩ := hrel
    have HB : Hid (Below w.heap.size w wr) := by obtain ⟨m, hm⟩ := HE.out; rw [hm]; exact ⟨rfl, rfl, rfl, Nat.le_refl _, fun _ _ => rfl⟩
    by_cases hlt : k < n
    · have hkl : k < l.length := by rw [← HN.out]; exact hlt
      have hx := List.getElem?_eq_getElem hkl
      obtain ⟨g1, o1, e1, d1⟩ := (HU.out.below HB.out).cell k _ hx
      obtain ⟨g2, o2, e2, d2⟩ := (HV.out.below HB.out).cell k _ hx
      subst e1
      subst e2
      generalize l[k] = x at *
      clear hx
      go_wp2_with fail
      go_quiet (fail)
      go_wp2_with fail
      go_roundw
      case rel => exact ⟨k + 1, by omega, by go_num, by obtain ⟨m, hm⟩ := HE.out; exact ⟨_, by rw [hm, World.drewN_drewN]⟩⟩
      case measure => simp [intOf]; omega
    · have hkn : k = n := by omega
      subst hkn
      go_wp2_with fail
      go_ret
      exact ⟨rfl, HE.out⟩
set_option maxHeartbeats 2000000 in
set_option maxRecDepth 100000 in
theorem sameBQ_any (l : List Bool) (u v : Value) (w : World) (hu : Bools w u l) (hv : Bools w v l) :
    Calls Tryz.prog 15 #[u, v] w fun e w' => e = .returned (.bool true) ∧ ∃ m, w' = w.drewN m := by
  have HU := hide hu
  have HV := hide hv
  obtain ⟨n, hn⟩ : ∃ n, n = l.length := ⟨_, rfl⟩
  have HN := hide hn
  have hl6 := hu.len
  obtain ⟨ua, uc, rfl⟩ := hu.slice
  obtain ⟨va, vc, rfl⟩ := hv.slice
  rw [← hn] at HU HV hl6 ⊢
  clear hu hv hn
  go_enter Tryz.func15, Tryz.ntmps15
  go_wp2_with fail
  go_loopw [5] (fun i wr => ∃ k : Nat, k ≤ n ∧ i = .int .i64 (k : Int) ∧ Hid (∃ m, wr = w.drewN m)) (fun i _ => n - (intOf i).toNat)
  case atStart => exact ⟨0, Nat.zero_le _, rfl, 0, rfl⟩
  case round =>
    obtain ⟨k, hk, rfl, HE⟩ := hrel
    have HB : Hid (Below w.heap.size w wr) := by obtain ⟨m, hm⟩ := HE.out; rw [hm]; exact ⟨rfl, rfl, rfl, Nat.le_refl _, fun _ _ => rfl⟩
    by_cases hlt : k < n
    · have hkl : k < l.length := by rw [← HN.out]; exact hlt
      have hx := List.getElem?_eq_getElem hkl
      obtain ⟨a1, c1, e1, _, b1⟩ := HU.out.below HB.out
      obtain ⟨a2, c2, e2, _, b2⟩ := HV.out.below HB.out
      simp only [Value.slice.injEq] at e1 e2
      obtain ⟨g1, ga1, d1⟩ := b1 k _ hx
      obtain ⟨g2, ga2, d2⟩ := b2 k _ hx
      obtain ⟨e1, _, _⟩ := e1
      obtain ⟨e2, _, _⟩ := e2
      rw [ga1] at e1
      rw [ga2] at e2
      subst e1
      subst e2
      clear b1 b2 ga1 ga2
      generalize l[k] = x at *
      clear hx
      go_wp2_with fail
      go_quiet (fail)
      go_wp2_with fail
      go_roundw
      case rel => exact ⟨k + 1, by omega, by go_num, by obtain ⟨m, hm⟩ := HE.out; exact ⟨_, by rw [hm, World.drewN_drewN]⟩⟩
      case measure => simp [intOf]; omega
    · have hkn : k = n := by omega
      subst hkn
      go_wp2_with fail
      go_ret
      exact ⟨rfl, HE.out⟩
end
section
open Go.RowKit
set_option maxHeartbeats 8000000 in
set_option maxRecDepth 100000 in
theorem kinputsR_any (l : List Int) (lv : Value) (many : Nat) (w : World) (hl : Ints w lv l) (h60 : l.length ≤ 60) (hm : many ≤ 12) :
    Calls Tryz.prog 9 #[lv, .int .i64 (many : Int)] w fun e w' => ∃ v us, e = .returned v ∧ InsR w.heap.size w' v us (l.map fun x => bitsTo x many) ∧ Below w.heap.size w w' := by
  obtain ⟨i0, hi0, hz0, hz1, hz2⟩ := info_parts Tryz.infoBool
  obtain ⟨i1, hi1, hy0, hy1, hy2⟩ := info_parts Tryz.infoBools
  have HLI := hide hl
  obtain ⟨la, lc, rfl⟩ := hl.slice
  obtain ⟨c, hcc⟩ : ∃ c, c = l.length := ⟨_, rfl⟩
  have HC := hide hcc
  rw [← hcc] at HLI h60 ⊢
  clear hl hcc
  go_enter Tryz.func9, Tryz.ntmps9
  go_wp2_with fail
  go_loopw [5, 6] (fun o i wr => ∃ k : Nat, k ≤ c ∧ i = .int .i64 (k : Int) ∧ (∃ a cp, o = .slice a k cp) ∧ Hid (∃ us, InsR w.heap.size wr o us ((l.take k).map fun x => bitsTo x many)) ∧ Hid (Below w.heap.size w wr)) (fun _ i _ => c - (intOf i).toNat)
  case atStart => exact ⟨0, Nat.zero_le _, rfl, ⟨_, _, rfl⟩, ⟨[], InsR.nil _ _⟩, Below.refl _ _⟩
  case round =>
    obtain ⟨k, hk, rfl, ⟨oa, oc, rfl⟩, HI, HB⟩ := hrel
    by_cases hlt : k < c
    · have hkl : k < l.length := by rw [← HC.out]; exact hlt
      obtain ⟨g, o, hla, hca, hcell⟩ : ∃ g o, la = some ⟨g, o, none⟩ ∧ c ≤ lc ∧ ∀ W, Below w.heap.size w W → W.cell? ⟨g, o + k, none⟩ = some (.int .i64 l[k]) ∧ I64 l[k] := by
        rcases HLI.out with ⟨h0, _⟩ | ⟨g, o, cap, h1, h2, h3⟩
        · rw [h0] at hkl; simp at hkl
        · simp only [Value.slice.injEq] at h1
          refine ⟨g, o, h1.1, by rw [h1.2.2, h1.2.1]; exact h2, fun W hW => ?_⟩
          obtain ⟨h4, h5⟩ := h3 k _ (List.getElem?_eq_getElem hkl)
          exact ⟨(hW.cell (World.block_lt_of_cell? _ _ h4)).trans h4, h5⟩
      subst hla
      have HCL := hide hcell
      have HTK := hide (List.take_succ_eq_append_getElem hkl)
      clear hcell
      generalize l[k] = x at *
      have hqw := HB.out.size
      obtain ⟨us, hus⟩ := HI.out
      have HUS := hide hus
      clear HI hus
      obtain ⟨wo, rfl⟩ : ∃ wo, wo = wr := ⟨_, rfl⟩
      go_wp2_with fail
      go_loopw [7, 8] (fun ii kk wi => ∃ j : Nat, j ≤ many ∧ kk = .int .i64 (j : Int) ∧ (∃ a cp, ii = .slice a j cp) ∧ Hid (wi.ownsRow wo.heap.size 4 1 ii j ((bitsTo x j).map boolV)) ∧ Hid (Below wo.heap.size wo wi)) (fun _ kk _ => many - (intOf kk).toNat)
      case atStart => exact ⟨0, Nat.zero_le _, rfl, ⟨_, _, rfl⟩, World.ownsRow_nil _ _ _ _, Below.refl _ _⟩
      case round =>
        obtain ⟨j, hj, rfl, ⟨ja, jc, rfl⟩, HO, HBI⟩ := hrel
        have hsz := HBI.out.size
        by_cases hjm : j < many
        · obtain ⟨hcx, hxx⟩ := HCL.out wr (HB.out.trans (HBI.out.mono HB.out.size))
          have HOWN : Hid (∀ o, (wr.alloc o).ownsRow wo.heap.size 4 1 (.slice ja j jc) j ((bitsTo x j).map boolV)) := fun o => HO.out.alloc o
          have HONE : Hid (∀ (b : Bool), ∀ u ∈ [Value.bool b], u.oneCell' = true) := by
            intro b u hu
            simp only [List.mem_cons, List.not_mem_nil, or_false] at hu
            subst hu; rfl
          have HFIN : Hid (∀ (o : Obj) (g cap : Nat) (wC : World), wC.ownsRow wo.heap.size 4 1 (.slice (some ⟨g, 0, none⟩) (j + 1) cap) (j + 1) ((bitsTo x j).map boolV ++ [.bool (bitB x j)]) → (wr.alloc o).grownBy wC (Value.slice ja j jc).ownBlock →
              wC.ownsRow wo.heap.size 4 1 (.slice (some ⟨g, 0, none⟩) (j + 1) cap) (j + 1) ((bitsTo x (j + 1)).map boolV) ∧ Below wo.heap.size wo wC) := by
            intro o g cap wC hown hgrow
            refine ⟨?_, (HBI.out.alloc HBI.out.size o).grown hgrow (by simp; omega) (fun j e => (HO.out.lt j e).1)⟩
            rw [bitsTo_succ, List.map_append]
            exact hown
          clear HO
          go_wp2_with (at_builtin; refine wpList_append_lies _ rfl (.tmp 20) (.tmp 29) 46 rfl wo.heap.size 4 i0 _ 1 1 Tryz.underlying46 hi0 hz0 hz1 hz2 rfl (by decide) (.slice ja j jc) j ((bitsTo x j).map boolV) rfl (HOWN.out _) ⟨wr.heap.size, 0, none⟩ 1 1 [.bool _] rfl rfl (World.news_of_block (heap_alloc_new wr _)) (HONE.out _) (by decide) (by unfold maxLen; omega) (by omega) (by simp; omega) (wr.heap.size + 1) (by simp) ?_; intro g2 cap2 wC hown hgrow hat hltg)
          obtain ⟨hoC, hbC⟩ := HFIN.out _ g2 cap2 wC hown hgrow
          exact ⟨⟨j + 1, by omega, by go_num, ⟨_, _, rfl⟩, hoC, hbC⟩, by simp [intOf]; omega⟩
        · have hjn : j = many := by omega
          subst hjn
          have HOWN : Hid (∀ o, (wr.alloc o).ownsRow w.heap.size 46 1 (.slice oa k oc) k us) := fun o => by
            have := own_below HUS.out.own HBI.out
            simp only [List.length_map, List.length_take, Nat.min_eq_left (Nat.le_of_lt hkl)] at this
            exact this.alloc o
          have HONE : Hid (∀ u ∈ [Value.slice ja j jc], u.oneCell' = true) := by
            intro u hu
            simp only [List.mem_cons, List.not_mem_nil, or_false] at hu
            subst hu; rfl
          have HFIN : Hid (∀ (o : Obj) (g cap : Nat) (wC : World), wC.ownsRow w.heap.size 46 1 (.slice (some ⟨g, 0, none⟩) (k + 1) cap) (k + 1) (us ++ [.slice ja j jc]) → (wr.alloc o).grownBy wC (Value.slice oa k oc).ownBlock →
              InsR w.heap.size wC (.slice (some ⟨g, 0, none⟩) (k + 1) cap) (us ++ [.slice ja j jc]) ((l.take (k + 1)).map fun x => bitsTo x j) ∧ Below w.heap.size w wC) := by
            intro o g cap wC hown hgrow
            have hln : ((l.take k).map fun x => bitsTo x j).length = k := by simp; omega
            have hu : wr.ownsRow w.heap.size 4 1 (.slice ja j jc) (bitsTo x j).length ((bitsTo x j).map boolV) := by rw [bitsTo_len]; exact own_mono HO.out hqw
            have hp := (HUS.out.below HBI.out).put hu o (by rw [hln]; exact hown) hgrow
            rw [HTK.out, List.map_append]
            refine ⟨hp, ?_⟩
            have hb := HB.out.trans (HBI.out.mono hqw)
            exact (hb.alloc hb.size o).grown hgrow (by simp; omega) (fun i e => (HUS.out.own.lt i e).1)
          clear HO
          go_wp2_with (at_builtin; refine wpList_append_lies _ rfl (.tmp 31) (.tmp 33) 38 rfl w.heap.size 46 i1 _ 1 24 Tryz.underlying38 hi1 hy0 hy1 hy2 rfl (by decide) (.slice oa k oc) k us rfl (HOWN.out _) ⟨wr.heap.size, 0, none⟩ 1 1 [.slice ja j jc] rfl rfl (World.news_of_block (heap_alloc_new wr _)) HONE.out (by decide) (by unfold maxLen; omega) (by omega) (by simp; omega) (wr.heap.size + 1) (by simp) ?_; intro g2 cap2 wC hown hgrow hat hltg)
          obtain ⟨hoC, hbC⟩ := HFIN.out _ g2 cap2 wC hown hgrow
          go_roundw
          case rel => exact ⟨k + 1, by omega, by go_num, ⟨_, _, rfl⟩, ⟨_, hoC⟩, hbC⟩
          case measure => simp [intOf]; omega
    · have hkc : k = c := by omega
      subst hkc
      obtain ⟨us, hus⟩ := HI.out
      have HUS := hide hus
      clear HI hus
      go_wp2_with fail
      go_ret
      refine ⟨_, us, rfl, ?_, HB.out⟩
      have h1 := HUS.out
      rw [List.take_of_length_le (by rw [← HC.out]; exact Nat.le_refl _)] at h1
      exact h1
theorem kinputs_any (l : List Int) (lv : Value) (many : Nat) (w : World) (hl : Ints w lv l) (h60 : l.length ≤ 60) (hm : many ≤ 12) :
    Calls Tryz.prog 9 #[lv, .int .i64 (many : Int)] w fun e w' => ∃ v, e = .returned v ∧ InsAt w' v (l.map fun x => bitsTo x many) ∧ Below w.heap.size w w' :=
  (kinputsR_any l lv many w hl h60 hm).mono fun _ _ ⟨v, _, h1, h2, h3⟩ => ⟨v, h1, h2.insAt (fun b hb => by
    obtain ⟨x, _, rfl⟩ := List.mem_map.1 hb
    rw [bitsTo_len]; omega), h3⟩
end
end Go.Proofs.YtgoabhclnicepaaGreatDoor
