/-
  The walk of SliceSame: of the names for which a program is cut each is, scan by scan, what it is in the whole program; and a slice of a slice is itself.
-/
import Derived.Test.YtgoabhclnicepaaGreatDoorKeSTidyAll
import Derived.Test.YtgoabhclnicepaaGreatDoorLdTextAAll
import Derived.Test.YtgoabhclnicepaaGreatDoorLdWords
import Derived.Deep.RegionHeld3
import Derived.Deep.RegionHeldLaw
namespace Go.Proofs.YtgoabhclnicepaaGreatDoor
open Go.RowKit
namespace Sl
/-- the name that is picked -/
def pkN (p : Ld.Prg) (x : Int) : List UInt8 := (p.names.getD (x % 18446744073709551616 % (p.names.length : Int)).toNat ⟨[], 0, 0⟩).name
theorem pk_lt (x : Int) (n : Nat) (hn : 0 < n) : 0 ≤ x % 18446744073709551616 % (n : Int) ∧ x % 18446744073709551616 % (n : Int) < (n : Int) := ⟨Int.emod_nonneg _ (by omega), Int.emod_lt_of_pos _ (by omega)⟩
theorem pkN_known (p : Ld.Prg) (h : 0 < p.names.length) (x : Int) : 0 ≤ Ld.number p.names (pkN p x) := by
  obtain ⟨h1, h2⟩ := pk_lt x p.names.length h
  unfold pkN
  have hj : (x % 18446744073709551616 % (p.names.length : Int)).toNat < p.names.length := by omega
  rw [List.getD_eq_getElem?_getD, List.getElem?_eq_getElem hj, Option.getD_some]
  exact mem_known (List.getElem_mem hj)
set_option maxHeartbeats 8000000 in
set_option maxRecDepth 100000 in
theorem sliceSame_any (s : ByteArray) (l0 l : List Int) (lv0 lv : Value) (w : World) (hs : s.size ≤ maxLen) (hl0 : Ints w lv0 l0) (hlm0 : l0.length ≤ maxLen) (hl : Ints w lv l) (hlm : l.length ≤ maxLen) (hL : Laid w) :
    Calls Tryz.prog 3 #[.string s, lv0, lv] w fun e w' => e = .returned (.bool true) ∧ Below w.heap.size w w' := by
  unfold maxLen at hlm hlm0
  have HR := hide (kread_any s w hs hL)
  have HLI := hide hl
  have HLI0 := hide hl0
  have HL := hide hL
  obtain ⟨la, lc, rfl⟩ := hl.slice
  obtain ⟨la0, lc0, rfl⟩ := hl0.slice
  obtain ⟨c, hcc⟩ : ∃ c, c = l.length := ⟨_, rfl⟩
  obtain ⟨d, hdd⟩ : ∃ d, d = l0.length := ⟨_, rfl⟩
  have HC := hide hcc
  have HD := hide hdd
  rw [← hcc] at HLI hlm ⊢
  rw [← hdd] at HLI0 hlm0 ⊢
  clear hl hl0 hcc hdd hL
  obtain ⟨R, hR⟩ : ∃ R, R = readP s := ⟨_, rfl⟩
  rw [← hR] at HR
  clear hR
  go_enter Tryz.func3, Tryz.ntmps3
  go_wp2_with fail
  refine HR.out.mono ?_
  intro e w1 hq
  clear HR
  match R, hq with
  | none, ⟨hb1, he⟩ =>
    subst he
    have hb2 : Below w.heap.size w (w1.alloc (.cells #[.slice none 0 0, .slice none 0 0] 26)) := hb1.alloc hb1.size _
    have HB2 := hide hb2
    have HSL := hide (sliced_any _ (HL.out.below hb2))
    clear hb1 hb2
    go_wp2_with fail
    refine HSL.out.mono ?_
    rintro e w3 ⟨rfl, hb3⟩
    have HB3 := hide (HB2.out.trans (hb3.mono HB2.out.size))
    clear hb3 HSL
    go_wp2_with fail
    go_ret
    exact ⟨rfl, HB3.out⟩
  | some p, ⟨hb1, v, he, hp1, hck⟩ =>
    subst he
    have HB1 := hide hb1
    have HP1 := hide hp1
    have HCK := hide hck
    have hkl : (Ld.kindL p.names 1).length ≤ 12 := Nat.le_trans (Ld.placesTo_le _ _ _) (Ld.check_names p hck).1
    have h12 := (Ld.check_names p hck).1
    have h40 := (Ld.check_names p hck).2.1
    obtain ⟨nv, rv, rfl, hn, hr⟩ := hp1
    have HNA := hide hn
    obtain ⟨na, nc, rfl, _⟩ := hn.slice
    obtain ⟨ra, rc, rfl, _⟩ := hr.slice
    obtain ⟨n, hnn⟩ : ∃ n, n = p.names.length := ⟨_, rfl⟩
    obtain ⟨m, hmm⟩ : ∃ m, m = p.rungs.length := ⟨_, rfl⟩
    have HN := hide hnn
    rw [← hnn] at HP1 HNA h12 ⊢
    rw [← hmm] at HP1 h40 ⊢
    clear hnn hmm hn hr hck hb1
    obtain ⟨wA, hwA⟩ : ∃ wA, wA = w1.alloc (.cells #[.slice na n nc, .slice ra m rc] 26) := ⟨_, rfl⟩
    have hbA : Below w1.heap.size w1 wA := by rw [hwA]; exact (Below.refl _ _).alloc (Nat.le_refl _) _
    have hsA : wA.heap.size = w1.heap.size + 1 := by rw [hwA]; simp
    have hA : wA.heap[w1.heap.size]? = some (.cells #[.slice na n nc, .slice ra m rc] 26 (0, 0)) := by rw [hwA]; exact heap_alloc_new _ _
    have hbwA : Below w.heap.size w wA := HB1.out.trans (hbA.mono HB1.out.size)
    have HSL := hide (sliced_any wA (HL.out.below hbwA))
    have HBWA := hide hbwA
    rw [hwA] at HSL
    have HWA := hide hwA
    have HBA := hide hbA
    have HA := hide hA
    clear hwA hbA hA hbwA
    by_cases q1 : 40 < c
    · have q1' : (40 : Int) < (c : Int) := by omega
      go_wp2_with fail
      refine HSL.out.mono ?_
      rintro e w3 ⟨rfl, hb3⟩
      rw [← HWA.out] at hb3
      have HB3 := hide (HBWA.out.trans (hb3.mono HBWA.out.size))
      clear hb3 HSL
      go_wp2_with fail
      go_ret
      exact ⟨rfl, HB3.out⟩
    have q1' : ¬ (40 : Int) < (c : Int) := by omega
    by_cases q2 : 12 < d
    · have q2' : (12 : Int) < (d : Int) := by omega
      go_wp2_with fail
      refine HSL.out.mono ?_
      rintro e w3 ⟨rfl, hb3⟩
      rw [← HWA.out] at hb3
      have HB3 := hide (HBWA.out.trans (hb3.mono HBWA.out.size))
      clear hb3 HSL
      go_wp2_with fail
      go_ret
      exact ⟨rfl, HB3.out⟩
    have q2' : ¬ (12 : Int) < (d : Int) := by omega
    by_cases q3 : n = 0
    · subst q3
      go_wp2_with fail
      refine HSL.out.mono ?_
      rintro e w3 ⟨rfl, hb3⟩
      rw [← HWA.out] at hb3
      have HB3 := hide (HBWA.out.trans (hb3.mono HBWA.out.size))
      clear hb3 HSL
      go_wp2_with fail
      go_ret
      exact ⟨rfl, HB3.out⟩
    have q3' : ((n : Int) == 0) = false := by rw [beq_eq_false_iff_ne]; omega
    have q40 : c ≤ 40 := by omega
    have q12 : d ≤ 12 := by omega
    have qn : 0 < n := by omega
    clear q1 q2 q3 HSL
    have a0 : wA.cell? ⟨w1.heap.size, 0, none⟩ = some (.slice na n nc) := by rw [Lib.cell_of_heap HA.out]; rfl
    rw [HWA.out] at a0
    go_wp2_with fail
    rw [← HWA.out]
    clear a0
    obtain ⟨nms, hnms⟩ : ∃ nms, nms = l0.map (pkN p) := ⟨_, rfl⟩
    have hnl : nms.length = d := by rw [hnms, List.length_map]; exact HD.out.symm
    have HNM : Hid (∀ x, x ∈ nms → 0 ≤ Ld.number p.names x) := fun x hx => by
      rw [hnms] at hx
      obtain ⟨y, _, rfl⟩ := List.mem_map.1 hx
      exact pkN_known p (by rw [← HN.out]; exact qn) y
    have HNG : Hid (∀ (k : Nat) x, l0[k]? = some x → nms[k]? = some (pkN p x)) := fun k x hx => by rw [hnms, List.getElem?_map, hx]; rfl
    have HNL := hide hnl
    clear hnms
    obtain ⟨i0, hi0, hz0, hz1, hz2⟩ := info_parts Tryz.infoStr
    have HX : Hid (∀ W, Below wA.heap.size wA W → W.cell? ⟨w1.heap.size, 0, none⟩ = some (.slice na n nc) ∧ W.cell? ⟨w1.heap.size, 1, none⟩ = some (.slice ra m rc) ∧ Below w1.heap.size w1 W ∧ Below w.heap.size w W) := by
      intro W hW
      have e0 := (hW.block w1.heap.size (by omega)).trans HA.out
      exact ⟨by rw [Lib.cell_of_heap e0]; rfl, by rw [Lib.cell_of_heap e0]; rfl, HBA.out.trans (hW.mono HBA.out.size), HBWA.out.trans (hW.mono HBWA.out.size)⟩
    go_loopw [9, 10] (fun xv i wr => ∃ k : Nat, k ≤ d ∧ i = .int .i64 (k : Int) ∧ Hid (wr.ownsRow wA.heap.size 9 1 xv k ((nms.take k).map strV)) ∧ Hid (Below wA.heap.size wA wr)) (fun _ i _ => d - (intOf i).toNat)
    case atStart => exact ⟨0, Nat.zero_le _, rfl, ⟨rfl, .inl ⟨rfl, rfl⟩⟩, Below.refl _ _⟩
    case round =>
      obtain ⟨k, hk, rfl, HOW, HBR⟩ := hrel
      generalize wr = wo at *
      obtain ⟨xa, xc, rfl⟩ := own_slice HOW.out
      by_cases hlt : k < d
      · have hkl : k < l0.length := by rw [← HD.out]; exact hlt
        have hx := List.getElem?_eq_getElem hkl
        obtain ⟨b0, b1, hb1, hbw⟩ := HX.out wo HBR.out
        obtain ⟨gw, ow, hla, hcw, cw, _⟩ : ∃ gw ow, la0 = some ⟨gw, ow, none⟩ ∧ d ≤ lc0 ∧ wo.cell? ⟨gw, ow + k, none⟩ = some (.int .i64 l0[k]) ∧ True := by
          rcases HLI0.out.below hbw with ⟨h0, _⟩ | ⟨g, o, cap, h1, h2, h3⟩
          · rw [h0] at hkl; simp at hkl
          · simp only [Value.slice.injEq] at h1
            exact ⟨g, o, h1.1, by rw [h1.2.2, HD.out]; exact h2, (h3 k _ hx).1, trivial⟩
        subst hla
        have hnk := HNG.out k _ hx
        have HTK : Hid (nms.take (k + 1) = nms.take k ++ [pkN p l0[k]]) := by
          show _ = _
          have h5 : k < nms.length := by rw [HNL.out]; exact hlt
          rw [List.take_succ_eq_append_getElem h5]
          rw [List.getElem?_eq_getElem h5] at hnk
          rw [Option.some.inj hnk]
        generalize l0[k] = x at *
        obtain ⟨pl, pu⟩ := pk_lt x n qn
        have HPK := hide (fun W => pick_any x n W (by omega) (by omega))
        have hpn : pkN p x = (p.names.getD (x % 18446744073709551616 % (n : Int)).toNat ⟨[], 0, 0⟩).name := by rw [HN.out]; rfl
        generalize x % 18446744073709551616 % (n : Int) = pj at *
        obtain ⟨j, rfl⟩ : ∃ j : Nat, pj = (j : Int) := ⟨pj.toNat, by omega⟩
        have hjn : j < n := by omega
        have hjp : j < p.names.length := by rw [← HN.out]; exact hjn
        rw [Int.toNat_natCast, List.getD_eq_getElem?_getD, List.getElem?_eq_getElem hjp, Option.getD_some] at hpn
        obtain ⟨gn, hga, hcn, cn⟩ : ∃ gn, na = some ⟨gn, 0, none⟩ ∧ n ≤ nc ∧ wo.cell? ⟨gn, j * 3, none⟩ = some (.string ⟨(pkN p x).toArray⟩) := by
          rcases HNA.out.below hb1 with ⟨h0, _⟩ | ⟨g, cap, h1, h2, h3, h4⟩
          · rw [h0] at hjp; simp at hjp
          · simp only [Value.slice.injEq] at h1
            refine ⟨g, h1.1, by rw [h1.2.2, HN.out]; exact h2, ?_⟩
            rw [hpn]
            exact (h4 j _ (List.getElem?_eq_getElem hjp)).1
        subst hga
        have HPN := hide hpn
        generalize pkN p x = nm at *
        have HKEEP : Hid (∀ W, Below wo.heap.size wo W → W.cell? ⟨w1.heap.size, 0, none⟩ = some (.slice (some ⟨gn, 0, none⟩) n nc) ∧ W.cell? ⟨gw, ow + k, none⟩ = some (.int .i64 x) ∧ W.cell? ⟨gn, j * 3, none⟩ = some (.string ⟨nm.toArray⟩)) := fun W hW =>
          have key : ∀ (p : Addr) v, wo.cell? p = some v → W.cell? p = some v := fun _ _ hv => (hW.cell (World.block_lt_of_cell? _ _ hv)).trans hv
          ⟨key _ _ b0, key _ _ cw, key _ _ cn⟩
        have HDR : Hid (Below wo.heap.size wo wo.drew) := ⟨rfl, rfl, rfl, Nat.le_refl _, fun _ _ => rfl⟩
        have HDA : Hid (∀ o, Below wo.heap.size wo (wo.drew.alloc o)) := fun o => HDR.out.alloc (Nat.le_refl _) o
        have HOWN : Hid (∀ o, (wo.drew.alloc o).ownsRow wA.heap.size 9 1 (.slice xa k xc) k ((nms.take k).map strV)) := fun o => (show wo.drew.ownsRow wA.heap.size 9 1 (.slice xa k xc) k ((nms.take k).map strV) from HOW.out).alloc o
        have hzA := HBR.out.size
        have HFIN : Hid (∀ (o : Obj) (g cap : Nat) (wC : World), wC.ownsRow wA.heap.size 9 1 (.slice (some ⟨g, 0, none⟩) (k + 1) cap) (k + 1) ((nms.take k).map strV ++ [.string ⟨nm.toArray⟩]) → (wo.drew.alloc o).grownBy wC (Value.slice xa k xc).ownBlock →
            (wC.cell? ⟨w1.heap.size, 0, none⟩ = some (.slice (some ⟨gn, 0, none⟩) n nc) ∧ wC.cell? ⟨gw, ow + k, none⟩ = some (.int .i64 x) ∧ wC.cell? ⟨gn, j * 3, none⟩ = some (.string ⟨nm.toArray⟩)) ∧ wC.ownsRow wA.heap.size 9 1 (.slice (some ⟨g, 0, none⟩) (k + 1) cap) (k + 1) ((nms.take (k + 1)).map strV) ∧ Below wA.heap.size wA wC) := by
          intro o g cap wC h1 h2
          have h3 : Below wA.heap.size wA wC := (HBR.out.trans ((HDA.out o).mono hzA)).grown h2 (by simp; omega) (fun i e => ((HOWN.out o).lt i e).1)
          obtain ⟨y0, _, y1, y2⟩ := HX.out wC h3
          refine ⟨⟨y0, ?_, ?_⟩, by rw [HTK.out, List.map_append]; exact h1, h3⟩
          · rcases HLI0.out.below y2 with ⟨h0, _⟩ | ⟨g', o', cap', q1, q2, q3⟩
            · rw [h0] at hx; simp at hx
            · simp only [Value.slice.injEq, Option.some.injEq, Addr.mk.injEq] at q1
              obtain ⟨⟨e1, e2, _⟩, _, _⟩ := q1
              rw [e1, e2]
              exact (q3 k _ hx).1
          · rcases HNA.out.below y1 with ⟨h0, _⟩ | ⟨g', cap', q1, q2, q3, q4⟩
            · rw [h0] at hjp; simp at hjp
            · simp only [Value.slice.injEq, Option.some.injEq, Addr.mk.injEq] at q1
              obtain ⟨⟨e1, _⟩, _, _⟩ := q1
              rw [e1, HPN.out]
              exact (q4 j _ (List.getElem?_eq_getElem hjp)).1
        have HONE : Hid (∀ u ∈ [Value.string ⟨nm.toArray⟩], u.oneCell' = true) := by intro u hu; simp at hu; subst hu; rfl
        clear hpn hnk
        go_wp2_with fail
        go_region_held_law (fun W => W.cell? ⟨w1.heap.size, 0, none⟩ = some (.slice (some ⟨gn, 0, none⟩) n nc) ∧ W.cell? ⟨gw, ow + k, none⟩ = some (.int .i64 x) ∧ W.cell? ⟨gn, j * 3, none⟩ = some (.string ⟨nm.toArray⟩)) ((first | exact HKP.out | (refine HKEEP.out _ ?_; first | exact HDR.out | exact HDA.out _ | exact Below.refl _ _))) ((first | (go_at_call 7; (with_reducible refine (HPK.out _).mono ?_); rintro e w6 ⟨rfl, rfl⟩) | (refine step_append_lies _ rfl (.tmp 54) (.tmp 68) 30 rfl wA.heap.size 9 i0 _ 1 16 Tryz.underlying30 hi0 hz0 hz1 hz2 rfl (by decide) (.slice xa k xc) k ((nms.take k).map strV) rfl (HOWN.out _) ⟨wo.heap.size, 0, none⟩ 1 1 [.string ⟨nm.toArray⟩] rfl rfl (World.news_of_block (heap_alloc_new wo.drew _)) HONE.out (by decide) (by unfold maxLen; omega) (by omega) (by simp; omega) (wo.heap.size + 1) (by simp) ?_; intro g5 cap5 wC hown hgrow hat hltg; obtain ⟨hkp, how, hbl⟩ := HFIN.out _ g5 cap5 wC hown hgrow; have HKP := hide hkp; have HOW5 := hide how; have HBL5 := hide hbl; clear hkp how hbl hown hgrow hat)))
        all_goals go_wp2_with fail
        all_goals go_roundw
        case rel => exact ⟨k + 1, by omega, by go_num, HOW5.out, HBL5.out⟩
        case measure => simp [intOf]; omega
      · have hkd : d = k := by omega
        subst hkd
        have hst : Strs wo (.slice xa d xc) (nms.map toBA) := by
          have h5 := HOW.out
          rw [← HNL.out] at h5
          rw [List.take_length] at h5
          have h6 := strs_of_row h5 (by rw [HNL.out]; omega)
          rw [HNL.out] at h6
          exact h6
        have HST := hide hst
        obtain ⟨b0, b1, hb1, hbw⟩ := HX.out wo HBR.out
        have HOF := hide (Of_any p _ _ nms wo (HP1.out.below hb1) HCK.out hst HNM.out)
        have hzo := HBR.out.size
        clear hst hbw hb1
        go_wp2_with fail
        refine HOF.out.mono ?_
        rintro e w4 ⟨mk, pv, rfl, hmk, hpq, hb4⟩
        have HMK := hide hmk
        have HPQ := hide hpq
        have HCQ := hide (check_part p HCK.out nms mk hmk)
        obtain ⟨nv2, rv2, rfl, hn2, hr2⟩ := hpq
        have HNQ := hide hn2
        obtain ⟨na2, nc2, rfl, _⟩ := hn2.slice
        obtain ⟨ra2, rc2, rfl, _⟩ := hr2.slice
        obtain ⟨n2, hn2l⟩ : ∃ n2, n2 = (part p mk).names.length := ⟨_, rfl⟩
        obtain ⟨m2, hm2l⟩ : ∃ m2, m2 = (part p mk).rungs.length := ⟨_, rfl⟩
        have HN2 := hide hn2l
        have HM2 := hide hm2l
        rw [← hn2l] at HPQ HNQ ⊢
        rw [← hm2l] at HPQ ⊢
        have hz4 := hb4.size
        obtain ⟨wC, hwC⟩ : ∃ wC, wC = w4.alloc (.cells #[.slice na2 n2 nc2, .slice ra2 m2 rc2] 26) := ⟨_, rfl⟩
        have hbC : Below w4.heap.size w4 wC := by rw [hwC]; exact (Below.refl _ _).alloc (Nat.le_refl _) _
        have hsC : wC.heap.size = w4.heap.size + 1 := by rw [hwC]; simp
        have hC : wC.heap[w4.heap.size]? = some (.cells #[.slice na2 n2 nc2, .slice ra2 m2 rc2] 26 (0, 0)) := by rw [hwC]; exact heap_alloc_new _ _
        have HBX : Hid (∀ (W : World), Below wC.heap.size wC W → (W.cell? ⟨w1.heap.size, 0, none⟩ = some (.slice na n nc) ∧ W.cell? ⟨w1.heap.size, 1, none⟩ = some (.slice ra m rc)) ∧ (W.cell? ⟨w4.heap.size, 0, none⟩ = some (.slice na2 n2 nc2) ∧ W.cell? ⟨w4.heap.size, 1, none⟩ = some (.slice ra2 m2 rc2)) ∧ Below w4.heap.size w4 W ∧ Below wo.heap.size wo W ∧ Below w1.heap.size w1 W ∧ Below w.heap.size w W) := by
          intro W hW
          have h1 : Below w4.heap.size w4 W := hbC.trans (hW.mono hbC.size)
          have h2 : Below wo.heap.size wo W := hb4.trans (h1.mono hb4.size)
          have h3 : Below wA.heap.size wA W := HBR.out.trans (h2.mono HBR.out.size)
          obtain ⟨y0, y1, y2, y3⟩ := HX.out W h3
          have e1 := (hW.block w4.heap.size (by omega)).trans hC
          exact ⟨⟨y0, y1⟩, ⟨by rw [Lib.cell_of_heap e1]; rfl, by rw [Lib.cell_of_heap e1]; rfl⟩, h1, h2, y2, y3⟩
        obtain ⟨_, _, _, _, _, hwCw⟩ := HBX.out wC (Below.refl _ _)
        have HSL := hide (sliced_any wC (HL.out.below hwCw))
        rw [hwC] at HSL
        have HWC := hide hwC
        have hw14 : w1.heap.size < w4.heap.size := by omega
        clear hn2 hr2 hb4 HOF hwC hbC hC hwCw hm2l hn2l hmk b0 b1
        go_wp2_with fail
        refine HSL.out.mono ?_
        rintro e w5 ⟨rfl, hb5⟩
        rw [← HWC.out] at hb5
        have HB5 := hide hb5
        have hz5 := hb5.size
        obtain ⟨⟨a0, a1⟩, _, _, _, hb51, _⟩ := HBX.out w5 hb5
        have HKI := hide (Kind_any p.names (.slice na n nc) (.slice ra m rc) 1 w5 (HNA.out.below hb51) ⟨_, _, _, rfl⟩)
        obtain ⟨q, hqq⟩ : ∃ q, q = (Ld.kindL p.names 1).length := ⟨_, rfl⟩
        have HQ := hide hqq
        rw [← hqq] at HKI hkl
        clear hqq hb5 HSL hb51
        go_wp2_with fail
        refine HKI.out.mono ?_
        rintro e w6 ⟨kv, rfl, hown, hb6⟩
        obtain ⟨ka, kc, rfl⟩ := own_slice hown
        have hbC6 : Below wC.heap.size wC w6 := HB5.out.trans (hb6.mono HB5.out.size)
        have HB6 := hide hbC6
        obtain ⟨_, _, _, _, _, hbw6⟩ := HBX.out w6 hbC6
        have HIN := hide (kinputs_any l _ q w6 (HLI.out.below hbw6) (by rw [← HC.out]; omega) hkl)
        clear hown hb6 hbC6 hbw6 HKI a0 a1
        go_wp2_with fail
        refine HIN.out.mono ?_
        rintro e w7 ⟨iv, rfl, hins, hb7⟩
        have hbC7 : Below wC.heap.size wC w7 := HB6.out.trans (hb7.mono HB6.out.size)
        have HB7 := hide hbC7
        have HINS := hide hins
        obtain ⟨ia, ic, rfl⟩ := hins.slice
        obtain ⟨⟨a0, a1⟩, _, _, _, hb71, _⟩ := HBX.out w7 hbC7
        obtain ⟨ins, hii⟩ : ∃ ins, ins = l.map fun x => bitsTo x q := ⟨_, rfl⟩
        rw [← hii] at HINS ⊢
        have hil : ins.length = c := by rw [hii, List.length_map]; exact HC.out.symm
        have HIQ : Hid (∀ i, i ∈ ins → i.length = (Ld.kindL p.names 1).length) := fun i hi => by
          rw [hii] at hi
          obtain ⟨x, _, rfl⟩ := List.mem_map.1 hi
          rw [bitsTo_len]; exact HQ.out
        have HPL := hide (Play_any p _ _ ins w7 (HP1.out.below hb71) HCK.out HINS.out (by omega) HIQ.out)
        have HIL := hide hil
        have hz7 := hbC7.size
        rw [← HN.out] at HPL
        rw [hil] at HINS HPL ⊢
        clear hins hii hb7 hbC7 HIN hil hb71
        go_wp2_with fail
        refine HPL.out.mono ?_
        rintro e w8 ⟨u1, rfl, hs1, hb8⟩
        have hsl : (Sc.plays p ins c).length = c := Sc.plays_len _ _ _
        have HS1 := hide hs1
        obtain ⟨sa, sc, rfl⟩ := hs1.slice
        rw [hsl] at HS1 ⊢
        have hbC8 : Below wC.heap.size wC w8 := HB7.out.trans (hb8.mono HB7.out.size)
        have HB8 := hide hbC8
        obtain ⟨_, ⟨d2, d3⟩, hb84, _, _, _⟩ := HBX.out w8 hbC8
        have HIQ2 : Hid (∀ i, i ∈ ins → i.length = (Ld.kindL (part p mk).names 1).length) := fun i hi => by rw [part_kinds]; exact HIQ.out i hi
        have HPL2 := hide (Play_any (part p mk) _ _ ins w8 (HPQ.out.below hb84) HCQ.out (HINS.out.below hb8) (by rw [HIL.out]; omega) HIQ2.out)
        rw [HIL.out, ← HN2.out] at HPL2
        have hz8 := hbC8.size
        clear hs1 hb8 hbC8 HPL a0 a1 hb84
        go_wp2_with fail
        refine HPL2.out.mono ?_
        rintro e w9 ⟨u2, rfl, hs2, hb9⟩
        have hsl2 : (Sc.plays (part p mk) ins c).length = c := Sc.plays_len _ _ _
        have HS2 := hide hs2
        obtain ⟨ta, tc, rfl⟩ := hs2.slice
        rw [hsl2] at HS2 ⊢
        have hbC9 : Below wC.heap.size wC w9 := HB8.out.trans (hb9.mono HB8.out.size)
        have HB9 := hide hbC9
        have HS1' := hide (HS1.out.below hb9)
        obtain ⟨_, ⟨d2', d3'⟩, hb94, hb9o, _, _⟩ := HBX.out w9 hbC9
        have HOF2 := hide (Of_any (part p mk) _ _ nms w9 (HPQ.out.below hb94) HCQ.out (HST.out.below hb9o) (fun x hx => (part_says p HCK.out nms mk HMK.out [] (fun i hi => by cases hi) x hx).2.1))
        have hz9 := hbC9.size
        clear hs2 hb9 HPL2 d2 d3 hsl hsl2 HS1 hbC9 hb94 hb9o
        go_wp2_with fail
        refine HOF2.out.mono ?_
        rintro e wE ⟨mk2, pv3, rfl, hmk2, hpq3, hbE⟩
        rw [part_again p nms mk HMK.out mk2 hmk2] at hpq3
        have HPQ3 := hide hpq3
        obtain ⟨nv3, rv3, rfl, hn3, hr3⟩ := hpq3
        obtain ⟨na3, nc3, rfl, _⟩ := hn3.slice
        obtain ⟨ra3, rc3, rfl, _⟩ := hr3.slice
        rw [← HN2.out, ← HM2.out] at HPQ3 ⊢
        have hzE := hbE.size
        obtain ⟨wD, hwD⟩ : ∃ wD, wD = wE.alloc (.cells #[.slice na3 n2 nc3, .slice ra3 m2 rc3] 26) := ⟨_, rfl⟩
        have hbD : Below wE.heap.size wE wD := by rw [hwD]; exact (Below.refl _ _).alloc (Nat.le_refl _) _
        have hsD : wD.heap.size = wE.heap.size + 1 := by rw [hwD]; simp
        have hD : wD.heap[wE.heap.size]? = some (.cells #[.slice na3 n2 nc3, .slice ra3 m2 rc3] 26 (0, 0)) := by rw [hwD]; exact heap_alloc_new _ _
        have HBD : Hid (∀ W, Below wD.heap.size wD W → (W.cell? ⟨wE.heap.size, 0, none⟩ = some (.slice na3 n2 nc3) ∧ W.cell? ⟨wE.heap.size, 1, none⟩ = some (.slice ra3 m2 rc3)) ∧ Below wE.heap.size wE W ∧ Below w9.heap.size w9 W ∧ Below wC.heap.size wC W) := by
          intro W hW
          have h1 : Below wE.heap.size wE W := hbD.trans (hW.mono hbD.size)
          have h2 : Below w9.heap.size w9 W := hbE.trans (h1.mono hbE.size)
          have e1 := (hW.block wE.heap.size (by omega)).trans hD
          exact ⟨⟨by rw [Lib.cell_of_heap e1]; rfl, by rw [Lib.cell_of_heap e1]; rfl⟩, h1, h2, HB9.out.trans (h2.mono HB9.out.size)⟩
        have HKEEP : Hid (∀ W, Below wD.heap.size wD W → W.cell? ⟨wE.heap.size, 0, none⟩ = some (.slice na3 n2 nc3) ∧ W.cell? ⟨wE.heap.size, 1, none⟩ = some (.slice ra3 m2 rc3) ∧ W.cell? ⟨w4.heap.size, 0, none⟩ = some (.slice na2 n2 nc2) ∧ W.cell? ⟨w4.heap.size, 1, none⟩ = some (.slice ra2 m2 rc2)) := by
          intro W hW
          obtain ⟨⟨y0, y1⟩, _, _, y2⟩ := HBD.out W hW
          obtain ⟨_, ⟨y3, y4⟩, _⟩ := HBX.out W y2
          exact ⟨y0, y1, y3, y4⟩
        have HTX := hide (fun W (hW : Below wD.heap.size wD W) => LText_any (part p mk) (.agg #[.slice na3 n2 nc3, .slice ra3 m2 rc3]) W (HPQ3.out.below (HBD.out W hW).2.1) (HL.out.below (HBX.out W (HBD.out W hW).2.2.2).2.2.2.2.2).words (HL.out.below (HBX.out W (HBD.out W hW).2.2.2).2.2.2.2.2).pows (HL.out.below (HBX.out W (HBD.out W hW).2.2.2).2.2.2.2.2).low)
        have HTX2 := hide (fun W (hW : Below wD.heap.size wD W) => LText_any (part p mk) (.agg #[.slice na2 n2 nc2, .slice ra2 m2 rc2]) W (HPQ.out.below (HBX.out W (HBD.out W hW).2.2.2).2.2.1) (HL.out.below (HBX.out W (HBD.out W hW).2.2.2).2.2.2.2.2).words (HL.out.below (HBX.out W (HBD.out W hW).2.2.2).2.2.2.2.2).pows (HL.out.below (HBX.out W (HBD.out W hW).2.2.2).2.2.2.2.2).low)
        generalize Ld.text (part p mk) = tx at *
        have HDR : Hid (Below wD.heap.size wD wD.drew) := ⟨rfl, rfl, rfl, Nat.le_refl _, fun _ _ => rfl⟩
        have HSa := hide (HS1'.out.below (HBD.out wD (Below.refl _ _)).2.2.1)
        have HSb := hide (HS2.out.below (HBD.out wD (Below.refl _ _)).2.2.1)
        have hw4D : w4.heap.size < wD.heap.size := by omega
        have hwED : wE.heap.size < wD.heap.size := by omega
        have HWD := hide hwD
        have hby := bytes_list tx
        clear hn3 hr3 hbE HOF2 hwD hbD hD d2' d3' hmk2 HS1' HS2
        go_upto_region 16 with fail
        rw [← HWD.out]
        go_cut [128] from 105 (fun bb wx => bb = .bool false ∧ Below wD.heap.size wD wx)
        case first =>
          go_region_held3 (fun W => W.cell? ⟨wE.heap.size, 0, none⟩ = some (.slice na3 n2 nc3) ∧ W.cell? ⟨wE.heap.size, 1, none⟩ = some (.slice ra3 m2 rc3) ∧ W.cell? ⟨w4.heap.size, 0, none⟩ = some (.slice na2 n2 nc2) ∧ W.cell? ⟨w4.heap.size, 1, none⟩ = some (.slice ra2 m2 rc2)) ((refine HKEEP.out _ ?_; first | exact HBT.out | exact HDR.out | exact Below.refl _ _)) ((go_at_call 12; first
            | ((with_reducible refine (HTX.out _ HBT.out).mono ?_); rintro e wT ⟨rfl, hbT⟩; replace HBT : Hid (Below wD.heap.size wD wT) := HBT.out.trans (hbT.mono HBT.out.size); clear hbT)
            | ((with_reducible refine (HTX2.out _ HBT.out).mono ?_); rintro e wT ⟨rfl, hbT⟩; replace HBT : Hid (Below wD.heap.size wD wT) := HBT.out.trans (hbT.mono HBT.out.size); clear hbT)
            | ((with_reducible refine (HTX.out _ HDR.out).mono ?_); rintro e wT ⟨rfl, hbT⟩; have HBT : Hid (Below wD.heap.size wD wT) := HDR.out.trans (hbT.mono HDR.out.size); clear hbT)
            | ((with_reducible refine (HTX2.out _ HDR.out).mono ?_); rintro e wT ⟨rfl, hbT⟩; have HBT : Hid (Below wD.heap.size wD wT) := HDR.out.trans (hbT.mono HDR.out.size); clear hbT)))
          all_goals go_wp2_with fail
          all_goals go_meet
          exact ⟨by first | rfl | simp, HBT.out⟩
        case rest =>
          obtain ⟨rfl, hbc⟩ := hcut
          have HBc := hide hbc
          clear hbc HKEEP HTX HTX2 hby
          go_wp2_with fail
          go_loopw [20] (fun i wr => ∃ k : Nat, k ≤ c ∧ i = .int .i64 (k : Int) ∧ Hid (Below wD.heap.size wD wr)) (fun i _ => c - (intOf i).toNat)
          case atStart => exact ⟨0, Nat.zero_le _, rfl, HBc.out⟩
          case round =>
            obtain ⟨k, hk, rfl, HBR1⟩ := hrel
            generalize wr = wo1 at *
            by_cases hlt : k < c
            · have hpa := plays_get p ins c k hlt
              have hpb := plays_get (part p mk) ins c k hlt
              have hbd1 := Sc.after_bd p HCK.out (ins.take (k + 1)) (fun i hi => HIQ.out i (List.mem_of_mem_take hi))
              have hbd2 := Sc.after_bd (part p mk) HCQ.out (ins.take (k + 1)) (fun i hi => HIQ2.out i (List.mem_of_mem_take hi))
              have HSAY := hide (fun x hx => part_says p HCK.out nms mk HMK.out (ins.take (k + 1)) (fun i hi => HIQ.out i (List.mem_of_mem_take hi)) x hx)
              have li1 : (Sc.after p (ins.take (k + 1))).is.length = n := by rw [hbd1.li]; exact HN.out.symm
              have lc1 : (Sc.after p (ins.take (k + 1))).ct.length = n := by rw [hbd1.lc]; exact HN.out.symm
              have li2 : (Sc.after (part p mk) (ins.take (k + 1))).is.length = n2 := by rw [hbd2.li]; exact HN2.out.symm
              have lc2 : (Sc.after (part p mk) (ins.take (k + 1))).ct.length = n2 := by rw [hbd2.lc]; exact HN2.out.symm
              generalize Sc.after p (ins.take (k + 1)) = st1 at *
              generalize Sc.after (part p mk) (ins.take (k + 1)) = st2 at *
              obtain ⟨g, hsa, hca, gi, gc, HT1⟩ : ∃ g, sa = some ⟨g, 0, none⟩ ∧ c ≤ sc ∧ ∃ gi gc, Hid (wD.cell? ⟨g, k * 2, none⟩ = some (slV gi n) ∧ wD.cell? ⟨g, k * 2 + 1, none⟩ = some (slV gc n) ∧ StAt wD gi gc st1) := by
                rcases HSa.out with ⟨h0, _⟩ | ⟨g, cap, h1, h2, h3⟩
                · rw [h0] at hpa; simp at hpa
                · simp only [Value.slice.injEq] at h1
                  rw [Sc.plays_len] at h1 h2
                  obtain ⟨gi, gc, h4⟩ := h3 k _ hpa
                  exact ⟨g, h1.1, by rw [h1.2.2]; exact h2, gi, gc, h4⟩
              obtain ⟨g2, hta, htc, gi2, gc2, HT2⟩ : ∃ g, ta = some ⟨g, 0, none⟩ ∧ c ≤ tc ∧ ∃ gi gc, Hid (wD.cell? ⟨g, k * 2, none⟩ = some (slV gi n2) ∧ wD.cell? ⟨g, k * 2 + 1, none⟩ = some (slV gc n2) ∧ StAt wD gi gc st2) := by
                rcases HSb.out with ⟨h0, _⟩ | ⟨g, cap, h1, h2, h3⟩
                · rw [h0] at hpb; simp at hpb
                · simp only [Value.slice.injEq] at h1
                  rw [Sc.plays_len] at h1 h2
                  obtain ⟨gi, gc, h4⟩ := h3 k _ hpb
                  exact ⟨g, h1.1, by rw [h1.2.2]; exact h2, gi, gc, h4⟩
              subst hsa
              subst hta
              clear hpa hpb hbd1 hbd2
              go_wp2_with fail
              go_loopw [21] (fun i wr => ∃ j : Nat, j ≤ d ∧ i = .int .i64 (j : Int) ∧ Hid (Below wD.heap.size wD wr)) (fun i _ => d - (intOf i).toNat)
              case atStart => exact ⟨0, Nat.zero_le _, rfl, HBR1.out⟩
              case round =>
                obtain ⟨j, hj, rfl, HBR2⟩ := hrel
                by_cases hjd : j < d
                · have hjl : j < nms.length := by rw [HNL.out]; exact hjd
                  have HRC := hide (HBD.out wr HBR2.out)
                  obtain ⟨⟨p0, p1⟩, ⟨p2, p3⟩, _, hbo, _, _⟩ := HBX.out wr HRC.out.2.2.2
                  obtain ⟨gs, os, hxa, hxc, cs⟩ : ∃ gs os, xa = some ⟨gs, os, none⟩ ∧ d ≤ xc ∧ wr.cell? ⟨gs, os + j, none⟩ = some (.string ⟨nms[j].toArray⟩) := by
                    obtain ⟨sa', sc', h1, h2, h3⟩ := strs_cells (HST.out.below hbo)
                    simp only [Value.slice.injEq] at h1
                    obtain ⟨gs, os, h4, h5, h6⟩ := h3 j hjl
                    exact ⟨gs, os, h1.1.trans h4, by rw [h1.2.2, h1.2.1]; exact h5, h6⟩
                  subst hxa
                  obtain ⟨s1, s2, s3, s4⟩ := HSAY.out nms[j] (List.getElem_mem hjl)
                  have lt1 := Ld.number_lt p.names nms[j]
                  have lt2 := Ld.number_lt (part p mk).names nms[j]
                  have HNU1 := hide (fun W (hW : Below wD.heap.size wD W) => Number_any p.names (.slice na n nc) (.slice ra m rc) nms[j] W (HNA.out.below (HBX.out W (HBD.out W hW).2.2.2).2.2.2.2.1) ⟨_, _, _, rfl⟩)
                  have HNU2 := hide (fun W (hW : Below wD.heap.size wD W) => Number_any (part p mk).names (.slice na2 n2 nc2) (.slice ra2 m2 rc2) nms[j] W (HNQ.out.below (HBX.out W (HBD.out W hW).2.2.2).2.2.1) ⟨_, _, _, rfl⟩)
                  rw [← HN.out] at lt1
                  rw [← HN2.out] at lt2
                  generalize nms[j] = nm at *
                  generalize Ld.number p.names nm = x1 at *
                  generalize Ld.number (part p mk).names nm = x2 at *
                  obtain ⟨y1, rfl⟩ : ∃ y : Nat, x1 = (y : Int) := ⟨x1.toNat, by omega⟩
                  obtain ⟨y2, rfl⟩ : ∃ y : Nat, x2 = (y : Int) := ⟨x2.toNat, by omega⟩
                  rw [Int.toNat_natCast, Int.toNat_natCast] at s3 s4
                  have hy1 : y1 < n := by omega
                  have hy2 : y2 < n2 := by omega
                  have HKE : Hid (∀ W, Below wr.heap.size wr W → (W.cell? ⟨w1.heap.size, 0, none⟩ = some (.slice na n nc) ∧ W.cell? ⟨w1.heap.size, 1, none⟩ = some (.slice ra m rc)) ∧ (W.cell? ⟨w4.heap.size, 0, none⟩ = some (.slice na2 n2 nc2) ∧ W.cell? ⟨w4.heap.size, 1, none⟩ = some (.slice ra2 m2 rc2)) ∧ W.cell? ⟨gs, os + j, none⟩ = some (.string ⟨nm.toArray⟩)) := fun W hW =>
                    have key : ∀ (p : Addr) v, wr.cell? p = some v → W.cell? p = some v := fun _ _ hv => (hW.cell (World.block_lt_of_cell? _ _ hv)).trans hv
                    ⟨⟨key _ _ p0, key _ _ p1⟩, ⟨key _ _ p2, key _ _ p3⟩, key _ _ cs⟩
                  have HUD : Hid (Below wr.heap.size wr wr.drew) := ⟨rfl, rfl, rfl, Nat.le_refl _, fun _ _ => rfl⟩
                  have HLW : Hid (∀ W, Below wr.heap.size wr W → Below wD.heap.size wD W) := fun W hW => HBR2.out.trans (hW.mono HBR2.out.size)
                  have HCL : Hid (∀ W, Below wr.heap.size wr W → (W.cell? ⟨g, k * 2, none⟩ = some (slV gi n) ∧ W.cell? ⟨g, k * 2 + 1, none⟩ = some (slV gc n) ∧ W.cell? ⟨gi, y1, none⟩ = some (.bool (st1.is.getD y1 false)) ∧ W.cell? ⟨gc, y1, none⟩ = some (.int .i64 (st1.ct.getD y1 0))) ∧ (W.cell? ⟨g2, k * 2, none⟩ = some (slV gi2 n2) ∧ W.cell? ⟨g2, k * 2 + 1, none⟩ = some (slV gc2 n2) ∧ W.cell? ⟨gi2, y2, none⟩ = some (.bool (st1.is.getD y1 false)) ∧ W.cell? ⟨gc2, y2, none⟩ = some (.int .i64 (st1.ct.getD y1 0)))) := by
                    intro W hW
                    have hd := HLW.out W hW
                    have key : ∀ (p : Addr) v, wD.cell? p = some v → W.cell? p = some v := fun _ _ hv => (hd.cell (World.block_lt_of_cell? _ _ hv)).trans hv
                    obtain ⟨h1, h2, h3⟩ := HT1.out
                    obtain ⟨h4, h5, h6⟩ := HT2.out
                    refine ⟨⟨key _ _ h1, key _ _ h2, key _ _ (h3.cellI y1 (by omega)), key _ _ (h3.cellC y1 (by omega))⟩, key _ _ h4, key _ _ h5, ?_, ?_⟩
                    · rw [s3]; exact key _ _ (h6.cellI y2 (by omega))
                    · rw [s4]; exact key _ _ (h6.cellC y2 (by omega))
                  clear s3 s4 lt1 lt2 s1 s2 hbo
                  go_upto_region 24 with fail
                  go_region_held3 (fun W => (W.cell? ⟨w1.heap.size, 0, none⟩ = some (.slice na n nc) ∧ W.cell? ⟨w1.heap.size, 1, none⟩ = some (.slice ra m rc)) ∧ (W.cell? ⟨w4.heap.size, 0, none⟩ = some (.slice na2 n2 nc2) ∧ W.cell? ⟨w4.heap.size, 1, none⟩ = some (.slice ra2 m2 rc2)) ∧ W.cell? ⟨gs, os + j, none⟩ = some (.string ⟨nm.toArray⟩)) ((refine HKE.out _ ?_; first | exact HBU.out | exact HUD.out | exact Below.refl _ _)) ((go_at_call 13; first
                    | ((with_reducible refine (HNU1.out _ (HLW.out _ HBU.out)).mono ?_); rintro e wU ⟨rfl, hbU⟩; replace HBU : Hid (Below wr.heap.size wr wU) := HBU.out.trans (hbU.mono HBU.out.size); clear hbU)
                    | ((with_reducible refine (HNU2.out _ (HLW.out _ HBU.out)).mono ?_); rintro e wU ⟨rfl, hbU⟩; replace HBU : Hid (Below wr.heap.size wr wU) := HBU.out.trans (hbU.mono HBU.out.size); clear hbU)
                    | ((with_reducible refine (HNU1.out _ (HLW.out _ HUD.out)).mono ?_); rintro e wU ⟨rfl, hbU⟩; have HBU : Hid (Below wr.heap.size wr wU) := HUD.out.trans (hbU.mono HUD.out.size); clear hbU)
                    | ((with_reducible refine (HNU2.out _ (HLW.out _ HUD.out)).mono ?_); rintro e wU ⟨rfl, hbU⟩; have HBU : Hid (Below wr.heap.size wr wU) := HUD.out.trans (hbU.mono HUD.out.size); clear hbU)))
                  all_goals
                    obtain ⟨⟨v0, v1, v2, v3⟩, v4, v5, v6, v7⟩ := HCL.out wU HBU.out
                    have HLU := hide (HLW.out wU HBU.out)
                    unfold slV at v0 v1 v4 v5
                    generalize st1.is.getD y1 false = bv at *
                    generalize st1.ct.getD y1 0 = iv at *
                    clear p0 p1 p2 p3 cs
                  have hyd : decide ((y2 : Int) < 0) = false := decide_eq_false (by omega)
                  have hkg : (k : Int) < (c : Int) := by omega
                  go_wp2_with fail
                  go_quiet (fail)
                  go_wp2_with fail
                  go_roundw
                  case rel => exact ⟨j + 1, by omega, by go_num, HLU.out.trans ⟨rfl, rfl, rfl, Nat.le_refl _, fun _ _ => rfl⟩⟩
                  case measure => simp [intOf]; omega
                · have hdj : d = j := by omega
                  subst hdj
                  go_wp2_with fail
                  go_roundw
                  case rel => exact ⟨k + 1, by omega, by go_num, HBR2.out⟩
                  case measure => simp [intOf]; omega
            · have hck2 : c = k := by omega
              subst hck2
              have HF := hide (HBX.out wo1 (HBD.out wo1 HBR1.out).2.2.2).2.2.2.2.2
              go_wp2_with fail
              go_ret
              exact ⟨rfl, HF.out⟩
end Sl
end Go.Proofs.YtgoabhclnicepaaGreatDoor
