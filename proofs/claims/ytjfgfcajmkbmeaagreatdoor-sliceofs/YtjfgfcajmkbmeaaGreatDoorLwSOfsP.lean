/-
  The walk of SliceOfs: on what names hang, and the program of that alone, is the document's.
-/
import Derived.Test.YtjfgfcajmkbmeaaGreatDoorRfMathAll
import Derived.Test.YtjfgfcajmkbmeaaGreatDoorRlMapAll
import Derived.Test.YtjfgfcajmkbmeaaGreatDoorRlSliceW
import Derived.Test.YtjfgfcajmkbmeaaGreatDoorLdParseWAll
import Derived.Test.YtjfgfcajmkbmeaaGreatDoorRlToldAll
import Derived.Deep.RegionHeld3
namespace Go.Proofs.YtjfgfcajmkbmeaaGreatDoor
open Go.RowKit
namespace Sl
set_option maxHeartbeats 2000000 in
theorem lbare_any (n : Int) (w : World) (hg : ErAs.Door w) : Calls Tryz.prog 9 #[.iface 42 (.int .i64 n), .int .i64 n] w fun e w' => e = .returned (.bool true) ∧ Below w.heap.size w w' := by
  have HBA := hide (rbare_any n w)
  have HG := hide hg
  clear hg
  go_enter Tryz.func9, Tryz.ntmps9
  go_wp2_with fail
  refine HBA.out.mono ?_
  rintro e w1 ⟨rfl, hb1⟩
  have HAT := hide (at_any (.iface 42 (.int .i64 n)) n (-1) w1 ((hb1.cell (World.block_lt_of_cell? _ _ HG.out)).trans HG.out) (.inl ⟨rfl, rfl⟩))
  have HB1 := hide hb1
  unfold faultV at HAT ⊢
  clear hb1 HBA
  go_wp2_with fail
  refine HAT.out.mono ?_
  rintro e w2 ⟨rfl, hb2⟩
  have HB2 := hide (HB1.out.trans (hb2.mono HB1.out.size))
  clear hb2 HAT
  go_wp2_with fail
  go_ret
  exact ⟨rfl, HB2.out⟩
theorem own_ints {W : World} {q : Nat} {v : Value} {l : List Nat} (h : W.ownsRow q 3 1 v l.length (l.map intV)) (hl : ∀ i, i ∈ l → i ≤ 1000) : Ints W v (l.map fun i : Nat => (i : Int)) := by
  rcases h.2 with ⟨rfl, h0⟩ | ⟨g, cap, cur, rfl, _, hcur, hcap, _, _, htk⟩
  · exact .inl ⟨by rw [List.length_eq_zero_iff.1 h0]; rfl, _, _, rfl⟩
  · refine .inr ⟨g, 0, cap, by simp, by simpa using hcap, fun k x hx => ?_⟩
    rw [List.getElem?_map] at hx
    cases hk : l[k]? with
    | none => rw [hk] at hx; cases hx
    | some i =>
      rw [hk] at hx
      simp only [Option.map_some, Option.some.injEq] at hx
      subst hx
      have := hl i (List.mem_of_getElem? hk)
      exact ⟨by rw [Nat.zero_add]; exact row_cell hcur htk (by rw [List.getElem?_map, hk]; rfl), by unfold I64; omega⟩
set_option maxHeartbeats 8000000 in
set_option maxRecDepth 100000 in
theorem sliceOfs_of (hbo : ∀ (s : ByteArray) (w : World), s.size ≤ maxLen → Laid w → PLaid w → Calls Tryz.prog 5 #[.string s] w (Both s w)) (s : ByteArray) (names : List (List UInt8)) (sv : Value) (w : World) (hs : s.size ≤ maxLen) (hsv : Strs w sv (names.map toBA)) (hL : Laid w) (hP : PLaid w) :
    Calls Tryz.prog 3 #[.string s, sv] w fun e w' => e = .returned (.bool true) ∧ Below w.heap.size w w' := by
  have HBO := hide (hbo s w hs hL hP)
  have HL := hide hL
  have HP := hide hP
  have HST := hide hsv
  obtain ⟨sa, sc, rfl, hsl6, _⟩ := strs_cells hsv
  obtain ⟨u, huu⟩ : ∃ u, u = names.length := ⟨_, rfl⟩
  have HU := hide huu
  rw [← huu] at HST hsl6 ⊢
  clear hL hP hsv huu
  go_enter Tryz.func3, Tryz.ntmps3
  go_wp2_with fail
  refine HBO.out.mono ?_
  rintro e w1 ⟨hb1, he⟩
  clear HBO
  rcases he with rfl | ⟨p, v, uv, rfl, hpp, hv, hu, hck⟩
  · have HB1 := hide (((hb1.alloc hb1.size (.cells #[.slice none 0 0, .slice none 0 0] 26))).alloc (by have := hb1.size; simp; omega) (.cells #[.slice none 0 0, .slice none 0 0] 30))
    clear hb1
    go_wp2_with fail
    go_ret
    exact ⟨rfl, HB1.out⟩
  · have HCK := hide hck
    have h12 := (Ld.check_names p hck).1
    have HV := hide hv
    have HUV := hide hu
    have HB1 := hide hb1
    obtain ⟨nv, rv, rfl, hn, hr⟩ := hv
    obtain ⟨na, nc, rfl, _⟩ := hn.slice
    obtain ⟨ra, rc, rfl, _⟩ := hr.slice
    obtain ⟨nu, ru, rfl, hnu, hru⟩ := hu
    have HNU := hide hnu
    obtain ⟨ua, uc, rfl, _⟩ := hnu.slice
    obtain ⟨ta, tc, rfl, _⟩ := hru.slice
    obtain ⟨n, hnn⟩ : ∃ n, n = p.names.length := ⟨_, rfl⟩
    obtain ⟨m, hmm⟩ : ∃ m, m = p.rungs.length := ⟨_, rfl⟩
    have HN := hide hnn
    rw [← hnn] at HV HUV HNU h12 ⊢
    rw [← hmm] at HV HUV ⊢
    clear hn hr hnu hru hnn hmm hck hpp
    obtain ⟨wA, hwA⟩ : ∃ wA, wA = (w1.alloc (.cells #[.slice na n nc, .slice ra m rc] 26)).alloc (.cells #[.slice ua n uc, .slice ta m tc] 30) := ⟨_, rfl⟩
    have hbA : Below w1.heap.size w1 wA := by rw [hwA]; exact ((Below.refl _ _).alloc (Nat.le_refl _) _).alloc (by simp) _
    have hsA : wA.heap.size = w1.heap.size + 1 + 1 := by rw [hwA]; simp
    have hA0 : wA.heap[w1.heap.size]? = some (.cells #[.slice na n nc, .slice ra m rc] 26 (0, 0)) := by rw [hwA]; exact (Below.heap_alloc _ _ _ (by simp)).trans (heap_alloc_new _ _)
    have hA1 : wA.heap[w1.heap.size + 1]? = some (.cells #[.slice ua n uc, .slice ta m tc] 30 (0, 0)) := by
      rw [hwA]
      have := heap_alloc_new (w1.alloc (.cells #[.slice na n nc, .slice ra m rc] 26)) (.cells #[.slice ua n uc, .slice ta m tc] 30)
      rw [World.size_alloc] at this
      exact this
    have HX : Hid (∀ W, Below wA.heap.size wA W → (W.cell? ⟨w1.heap.size, 0, none⟩ = some (.slice na n nc) ∧ W.cell? ⟨w1.heap.size, 1, none⟩ = some (.slice ra m rc)) ∧ (W.cell? ⟨w1.heap.size + 1, 0, none⟩ = some (.slice ua n uc) ∧ W.cell? ⟨w1.heap.size + 1, 1, none⟩ = some (.slice ta m tc)) ∧ Below w1.heap.size w1 W ∧ Below w.heap.size w W) := by
      intro W hW
      have e0 := (hW.block w1.heap.size (by omega)).trans hA0
      have e1 := (hW.block (w1.heap.size + 1) (by omega)).trans hA1
      have h1 : Below w1.heap.size w1 W := hbA.trans (hW.mono hbA.size)
      exact ⟨⟨by rw [Lib.cell_of_heap e0]; rfl, by rw [Lib.cell_of_heap e0]; rfl⟩, ⟨by rw [Lib.cell_of_heap e1]; rfl, by rw [Lib.cell_of_heap e1]; rfl⟩, h1, HB1.out.trans (h1.mono HB1.out.size)⟩
    have HWA := hide hwA
    clear hwA hbA hA0 hA1 hb1
    by_cases q1 : 20 < u
    · have q1' : (20 : Int) < (u : Int) := by omega
      go_wp2_with fail
      rw [← HWA.out]
      go_ret
      exact ⟨rfl, (HX.out wA (Below.refl _ _)).2.2.2⟩
    have q1' : ¬ (20 : Int) < (u : Int) := by omega
    have q20 : u ≤ 20 := by omega
    clear q1
    go_wp2_with fail
    rw [← HWA.out]
    clear HWA
    go_loopw [8] (fun i wr => ∃ k : Nat, k ≤ u ∧ i = .int .i64 (k : Int) ∧ Hid (∀ j (hj : j < k) x, names[j]? = some x → 0 ≤ Ld.number p.names x) ∧ Hid (Below wA.heap.size wA wr)) (fun i _ => u - (intOf i).toNat)
    case atStart => exact ⟨0, Nat.zero_le _, rfl, fun j hj => absurd hj (by omega), Below.refl _ _⟩
    case round =>
      obtain ⟨k, hk, rfl, HKN, HBR⟩ := hrel
      generalize wr = wo at *
      obtain ⟨⟨b0, b1⟩, ⟨b2, b3⟩, hb1, hbw⟩ := HX.out wo HBR.out
      have hzo := HBR.out.size
      by_cases hlt : k < u
      · have hkl : k < names.length := by rw [← HU.out]; exact hlt
        obtain ⟨gs, o, hsa, hsc, hcr⟩ : ∃ gs o, sa = some ⟨gs, o, none⟩ ∧ u ≤ sc ∧ wo.cell? ⟨gs, o + k, none⟩ = some (.string ⟨names[k].toArray⟩) := by
          obtain ⟨sa', sc', h1, h2, h3⟩ := strs_cells (HST.out.below hbw)
          simp only [Value.slice.injEq] at h1
          obtain ⟨gs, o, h4, h5, h6⟩ := h3 k hkl
          exact ⟨gs, o, h1.1.trans h4, by rw [h1.2.2, h1.2.1]; exact h5, h6⟩
        subst hsa
        have HKEEP : Hid (∀ W, Below wo.heap.size wo W → W.cell? ⟨w1.heap.size + 1, 0, none⟩ = some (.slice ua n uc) ∧ W.cell? ⟨w1.heap.size + 1, 1, none⟩ = some (.slice ta m tc) ∧ W.cell? ⟨gs, o + k, none⟩ = some (.string ⟨names[k].toArray⟩)) := fun W hW =>
          have key : ∀ (p : Addr) v, wo.cell? p = some v → W.cell? p = some v := fun _ _ hv => (hW.cell (World.block_lt_of_cell? _ _ hv)).trans hv
          ⟨key _ _ b2, key _ _ b3, key _ _ hcr⟩
        have HDR : Hid (Below wo.heap.size wo wo.drew) := ⟨rfl, rfl, rfl, Nat.le_refl _, fun _ _ => rfl⟩
        have HRN := hide (rNumber_any p.names (.slice ua n uc) (.slice ta m tc) names[k] wo.drew (HNU.out.below (hb1.trans (HDR.out.mono hb1.size))) ⟨_, _, _, rfl⟩)
        have HGK : Hid (names[k]? = some names[k]) := List.getElem?_eq_getElem hkl
        have hw1o : w1.heap.size + 1 < wo.heap.size := by omega
        generalize hx : names[k] = x at *
        clear hb1 hbw b0 b1
        go_upto_region 7 with fail
        go_region_held3 (fun W => W.cell? ⟨w1.heap.size + 1, 0, none⟩ = some (.slice ua n uc) ∧ W.cell? ⟨w1.heap.size + 1, 1, none⟩ = some (.slice ta m tc) ∧ W.cell? ⟨gs, o + k, none⟩ = some (.string ⟨x.toArray⟩)) ((refine HKEEP.out _ ?_; first | exact HB3.out | exact HDR.out | exact Below.refl _ _)) ((go_at_call 6; (with_reducible refine HRN.out.mono ?_); rintro e w3 ⟨rfl, hb3⟩; have HB3 : Hid (Below wo.heap.size wo w3) := HDR.out.trans hb3; clear hb3))
        have HBR3 := hide (HBR.out.trans (HB3.out.mono hzo))
        by_cases hneg : Ld.number p.names x < 0
        · obtain ⟨⟨d0, d1⟩, _, hd1, hdw⟩ := HX.out w3 HBR3.out
          have HNB := hide (Needs_bad p _ _ names k hkl w3 (HV.out.below hd1) HCK.out (HST.out.below hdw) (fun i hi => HKN.out i hi _ (List.getElem?_eq_getElem (by omega))) (by rw [hx]; exact hneg))
          have hw13 : w1.heap.size < w3.heap.size := by have := HB3.out.size; omega
          clear b2 b3 hcr hd1 hdw
          generalize hnx : Ld.number p.names x = nx at *
          go_wp2_with fail
          refine HNB.out.mono ?_
          rintro e w4 ⟨rfl, hb4⟩
          have HBR4 := hide (HBR3.out.trans (hb4.mono HBR3.out.size))
          obtain ⟨⟨f0, f1⟩, _, hf1, hfw⟩ := HX.out w4 HBR4.out
          have HOB := hide (Of_bad p _ _ names k hkl w4 (HV.out.below hf1) HCK.out (HST.out.below hfw) (fun i hi => HKN.out i hi _ (List.getElem?_eq_getElem (by omega))) (by rw [hx, hnx]; exact hneg))
          have hw14 : w1.heap.size < w4.heap.size := by have := hb4.size; omega
          clear hb4 HNB d0 d1 hf1 hfw
          go_wp2_with fail
          refine HOB.out.mono ?_
          rintro e w5 ⟨rfl, hb5⟩
          obtain ⟨wQ, hwQ⟩ : ∃ wQ, wQ = w5.alloc (.cells #[.slice none 0 0, .slice none 0 0] 26) := ⟨_, rfl⟩
          have hbQ : Below w4.heap.size w4 wQ := by rw [hwQ]; exact hb5.alloc hb5.size _
          have hQ : wQ.heap[w5.heap.size]? = some (.cells #[.slice none 0 0, .slice none 0 0] 26 (0, 0)) := by rw [hwQ]; exact heap_alloc_new _ _
          have HBQ := hide (HBR4.out.trans (hbQ.mono HBR4.out.size))
          have HBA1 := hide (lbare_any 7 wQ (HL.out.below (HX.out wQ HBQ.out).2.2.2).door)
          rw [hwQ] at HBA1
          have HWQ := hide hwQ
          have HQQ := hide hQ
          have hltQ : w5.heap.size < wQ.heap.size := (Array.getElem?_eq_some_iff.1 hQ).1
          clear hb5 hbQ hQ hwQ HOB f0 f1
          go_wp2_with fail
          refine HBA1.out.mono ?_
          rintro e w6 ⟨rfl, hb6⟩
          rw [← HWQ.out] at hb6
          have HBR6 := hide (HBQ.out.trans (hb6.mono HBQ.out.size))
          have HBA2 := hide (lbare_any 7 w6 (HL.out.below (HX.out w6 HBR6.out).2.2.2).door)
          have HQ6 := hide ((hb6.block _ hltQ).trans HQQ.out)
          have hz6 := hb6.size
          clear hb6 HBA1
          go_wp2_with fail
          refine HBA2.out.mono ?_
          rintro e w7 ⟨rfl, hb7⟩
          have HBR7 := hide (HBR6.out.trans (hb7.mono HBR6.out.size))
          have q7 := (hb7.block _ (by omega)).trans HQ6.out
          have y0 : w7.cell? ⟨w5.heap.size, 0, none⟩ = some (.slice none 0 0) := by rw [Lib.cell_of_heap q7]; rfl
          have y1 : w7.cell? ⟨w5.heap.size, 1, none⟩ = some (.slice none 0 0) := by rw [Lib.cell_of_heap q7]; rfl
          have HF := hide (HX.out w7 HBR7.out).2.2.2
          clear hb7 HBA2 q7
          go_wp2_with fail
          go_ret
          exact ⟨rfl, HF.out⟩
        · have HKN2 : Hid (∀ j (hj : j < k + 1) y, names[j]? = some y → 0 ≤ Ld.number p.names y) := fun j hj y hy => by
            by_cases e : j < k
            · exact HKN.out j e y hy
            · obtain rfl : j = k := by omega
              rw [HGK.out] at hy
              rw [← Option.some.inj hy]
              omega
          generalize Ld.number p.names x = nx at *
          clear b2 b3 hcr
          go_wp2_with fail
          go_roundw
          case rel => exact ⟨k + 1, by omega, by go_num, HKN2.out, HBR3.out⟩
          case measure => simp [intOf]; omega
      · obtain rfl : u = k := by omega
        have HALL : Hid (∀ x, x ∈ names → 0 ≤ Ld.number p.names x) := fun x hx => by
          obtain ⟨j, hj, rfl⟩ := List.getElem_of_mem hx
          exact HKN.out j (by rw [HU.out]; exact hj) _ (List.getElem?_eq_getElem hj)
        have HSL : Hid (∀ x, x ∈ names → x.length ≤ maxLen) := fun x hx => by
          obtain ⟨y, hy, rfl⟩ := known_mem (HALL.out x hx)
          obtain ⟨i, hi, rfl⟩ := List.getElem_of_mem hy
          rcases HNU.out with ⟨h0, _⟩ | ⟨g', cap, h1, h2, h3, h4⟩
          · rw [h0] at hi; simp at hi
          · exact (h4 i _ (List.getElem?_eq_getElem hi)).2.2.2.1
        have HNE := hide (Needs_any p _ _ names wo (HV.out.below hb1) HCK.out (HST.out.below hbw) HALL.out)
        have hw1o : w1.heap.size < wo.heap.size := by omega
        clear hb1 hbw b2 b3
        go_wp2_with fail
        refine HNE.out.mono ?_
        rintro e w3 ⟨mk, xv, rfl, hmk, hown, hb3⟩
        rw [← HN.out] at hown
        have HMK := hide hmk
        have HIN : Hid (Ints w3 xv ((needTo mk n).map fun i : Nat => (i : Int))) := own_ints hown (fun i hi => by have := List.mem_range.1 (List.mem_filter.1 hi).1; omega)
        obtain ⟨xa, xc, rfl⟩ := own_slice hown
        have HBR3 := hide (HBR.out.trans (hb3.mono hzo))
        obtain ⟨⟨d0, d1⟩, _, hd1, hdw⟩ := HX.out w3 HBR3.out
        have HOF := hide (Of_any p _ _ names w3 (HV.out.below hd1) HCK.out (HST.out.below hdw) HALL.out)
        have hw13 : w1.heap.size < w3.heap.size := by have := hb3.size; omega
        clear hown hb3 hd1 hdw HNE b0 b1 hmk
        go_wp2_with fail
        refine HOF.out.mono ?_
        rintro e w4 ⟨mk2, pv, rfl, hmk2, hpq, hb4⟩
        have HPQ := hide hpq
        have HCQ := hide (check_part p HCK.out names mk2 hmk2)
        have HPF := hide (partF_is p HCK.out names mk2 hmk2)
        have HNS := hide (needs_same p HCK.out names mk HMK.out)
        obtain ⟨nv2, rv2, rfl, hn2, hr2⟩ := hpq
        obtain ⟨na2, nc2, rfl, _⟩ := hn2.slice
        obtain ⟨ra2, rc2, rfl, _⟩ := hr2.slice
        obtain ⟨n2, hn2l⟩ : ∃ n2, n2 = (part p mk2).names.length := ⟨_, rfl⟩
        obtain ⟨m2, hm2l⟩ : ∃ m2, m2 = (part p mk2).rungs.length := ⟨_, rfl⟩
        rw [← hn2l] at HPQ ⊢
        rw [← hm2l] at HPQ ⊢
        rw [← HN.out] at HNS HPF
        have hz4 := hb4.size
        obtain ⟨wD, hwD⟩ : ∃ wD, wD = w4.alloc (.cells #[.slice na2 n2 nc2, .slice ra2 m2 rc2] 26) := ⟨_, rfl⟩
        have hbD : Below w4.heap.size w4 wD := by rw [hwD]; exact (Below.refl _ _).alloc (Nat.le_refl _) _
        have hsD : wD.heap.size = w4.heap.size + 1 := by rw [hwD]; simp
        have hD : wD.heap[w4.heap.size]? = some (.cells #[.slice na2 n2 nc2, .slice ra2 m2 rc2] 26 (0, 0)) := by rw [hwD]; exact heap_alloc_new _ _
        have HBX : Hid (∀ (W : World), Below wD.heap.size wD W → (W.cell? ⟨w4.heap.size, 0, none⟩ = some (.slice na2 n2 nc2) ∧ W.cell? ⟨w4.heap.size, 1, none⟩ = some (.slice ra2 m2 rc2) ∧ W.cell? ⟨w1.heap.size + 1, 0, none⟩ = some (.slice ua n uc) ∧ W.cell? ⟨w1.heap.size + 1, 1, none⟩ = some (.slice ta m tc)) ∧ Below w4.heap.size w4 W ∧ Below w3.heap.size w3 W ∧ Below w1.heap.size w1 W ∧ Below w.heap.size w W) := by
          intro W hW
          have h1 : Below w4.heap.size w4 W := hbD.trans (hW.mono hbD.size)
          have h2 : Below w3.heap.size w3 W := hb4.trans (h1.mono hb4.size)
          obtain ⟨_, ⟨y2, y3⟩, y4, y5⟩ := HX.out W (HBR3.out.trans (h2.mono HBR3.out.size))
          have e1 := (hW.block w4.heap.size (by omega)).trans hD
          exact ⟨⟨by rw [Lib.cell_of_heap e1]; rfl, by rw [Lib.cell_of_heap e1]; rfl, y2, y3⟩, h1, h2, y4, y5⟩
        have HKEEP : Hid (∀ W, Below wD.heap.size wD W → W.cell? ⟨w4.heap.size, 0, none⟩ = some (.slice na2 n2 nc2) ∧ W.cell? ⟨w4.heap.size, 1, none⟩ = some (.slice ra2 m2 rc2) ∧ W.cell? ⟨w1.heap.size + 1, 0, none⟩ = some (.slice ua n uc) ∧ W.cell? ⟨w1.heap.size + 1, 1, none⟩ = some (.slice ta m tc)) := fun W hW => (HBX.out W hW).1
        have HRN := hide (fun W (hW : Below wD.heap.size wD W) => RNeeds_any p (.agg #[.slice ua n uc, .slice ta m tc]) (.slice sa u sc) names W (HUV.out.below (HBX.out W hW).2.2.2.1) HCK.out (HST.out.below (HBX.out W hW).2.2.2.2) HSL.out (by rw [← HU.out]; omega) (HP.out.below (HBX.out W hW).2.2.2.2).r)
        have HRS := hide (fun W (hW : Below wD.heap.size wD W) => RSlice_any p (.agg #[.slice ua n uc, .slice ta m tc]) (.slice sa u sc) names W (HUV.out.below (HBX.out W hW).2.2.2.1) HCK.out (HST.out.below (HBX.out W hW).2.2.2.2) HSL.out (by rw [← HU.out]; omega) (HP.out.below (HBX.out W hW).2.2.2.2).r)
        rw [← HN.out] at HRN HRS
        rw [HNS.out] at HRN
        rw [HPF.out] at HRS
        have HEQ : Hid ((List.range n).filter (fun i => mk.getD i false) = needTo mk n) := rfl
        rw [HEQ.out] at HRN
        have HSI := hide (fun W (hW : Below wD.heap.size wD W) y (hy : Ints W y ((needTo mk n).map fun i : Nat => (i : Int))) => lsameI_any _ (.slice xa (needTo mk n).length xc) y W (HIN.out.below (HBX.out W hW).2.2.1) hy (by rw [List.length_map]; have := needTo_len mk n; omega))
        have HTX := hide (fun W (hW : Below wD.heap.size wD W) => LText_any (part p mk2) (.agg #[.slice na2 n2 nc2, .slice ra2 m2 rc2]) W (HPQ.out.below (HBX.out W hW).2.1) (HL.out.below (HBX.out W hW).2.2.2.2).words (HL.out.below (HBX.out W hW).2.2.2.2).pows (HL.out.below (HBX.out W hW).2.2.2.2).low)
        have HRX := hide (fun W (hW : Below wD.heap.size wD W) x (hx : IsRPrg W (part p mk2) x) => rptext_any (part p mk2) x W hx (HP.out.below (HBX.out W hW).2.2.2.2).wd.words (HP.out.below (HBX.out W hW).2.2.2.2).pows (Nat.lt_of_lt_of_le (by decide : 9 < 14) (HP.out.below (HBX.out W hW).2.2.2.2).low) HCQ.out)
        have HOI : Hid (∀ W q y, W.ownsRow q 3 1 y (needTo mk n).length ((needTo mk n).map intV) → Ints W y ((needTo mk n).map fun i : Nat => (i : Int))) := fun W q y h => own_ints h (fun i hi => by have := List.mem_range.1 (List.mem_filter.1 hi).1; omega)
        generalize Ld.text (part p mk2) = tx at *
        obtain ⟨zl, hzl⟩ : ∃ zl, zl = (needTo mk n).length := ⟨_, rfl⟩
        rw [← hzl] at HSI HRN HOI ⊢
        have HZL := hide hzl
        have HDR : Hid (Below wD.heap.size wD wD.drew) := ⟨rfl, rfl, rfl, Nat.le_refl _, fun _ _ => rfl⟩
        have hw1D : w1.heap.size + 1 < wD.heap.size := by omega
        have hw4D : w4.heap.size < wD.heap.size := by omega
        have HWD := hide hwD
        have hby := bytes_list tx
        clear hn2 hr2 hb4 HOF hwD hbD hD hn2l hm2l hmk2 hzl d0 d1
        go_upto_region 13 with fail
        rw [← HWD.out]
        go_region_held3 (fun W => W.cell? ⟨w4.heap.size, 0, none⟩ = some (.slice na2 n2 nc2) ∧ W.cell? ⟨w4.heap.size, 1, none⟩ = some (.slice ra2 m2 rc2) ∧ W.cell? ⟨w1.heap.size + 1, 0, none⟩ = some (.slice ua n uc) ∧ W.cell? ⟨w1.heap.size + 1, 1, none⟩ = some (.slice ta m tc)) ((refine HKEEP.out _ ?_; first | exact HBT.out | exact HDR.out | exact Below.refl _ _)) ((first
          | (go_at_call 11; (with_reducible refine (HRN.out _ HDR.out).mono ?_); rintro e wT ⟨yv, rfl, how, hbT⟩; obtain ⟨yva, yvc, hyv⟩ := own_slice how; subst hyv; have HYI := hide (HOI.out _ _ _ how); have HBT : Hid (Below wD.heap.size wD wT) := HDR.out.trans (hbT.mono HDR.out.size); clear hbT how)
          | (go_at_call 10; (with_reducible refine (HSI.out _ HBT.out _ HYI.out).mono ?_); rintro e wT ⟨rfl, hbT⟩; replace HBT : Hid (Below wD.heap.size wD wT) := HBT.out.trans (hbT.mono HBT.out.size); clear hbT)
          | (go_at_call 12; first
            | ((with_reducible refine (HTX.out _ HBT.out).mono ?_); rintro e wT ⟨rfl, hbT⟩; replace HPV := hide (HPV.out.below hbT); replace HBT : Hid (Below wD.heap.size wD wT) := HBT.out.trans (hbT.mono HBT.out.size); clear hbT)
            | ((with_reducible refine (HTX.out _ HBT.out).mono ?_); rintro e wT ⟨rfl, hbT⟩; replace HBT : Hid (Below wD.heap.size wD wT) := HBT.out.trans (hbT.mono HBT.out.size); clear hbT))
          | (go_at_call 14; (with_reducible refine (HRS.out _ HBT.out).mono ?_); rintro e wT ⟨qv, rfl, hqv, hbT⟩; obtain ⟨qa, qb, hqe⟩ : ∃ a b, qv = .agg #[a, b] := ⟨_, _, hqv.choose_spec.choose_spec.1⟩; subst hqe; have HPV := hide hqv; replace HBT : Hid (Below wD.heap.size wD wT) := HBT.out.trans (hbT.mono HBT.out.size); clear hbT hqv)
          | (go_at_call 13; (with_reducible refine (HRX.out _ HBT.out _ HPV.out).mono ?_); rintro e wT ⟨rfl, hbT⟩; replace HBT : Hid (Below wD.heap.size wD wT) := HBT.out.trans (hbT.mono HBT.out.size); clear hbT)))
        all_goals
          have HF := hide (HBX.out _ HBT.out).2.2.2.2
          go_wp2_with fail
          go_ret
          exact ⟨ret_bool (by first | rfl | simp), HF.out⟩
set_option maxHeartbeats 4000000 in
set_option maxRecDepth 100000 in
/-- more than twenty names: nothing is asked -/
theorem sliceOfs_long (hbo : ∀ (s : ByteArray) (w : World), s.size ≤ maxLen → Laid w → PLaid w → Calls Tryz.prog 5 #[.string s] w (Both s w)) (s : ByteArray) (sa : Option Addr) (u sc : Nat) (w : World) (hs : s.size ≤ maxLen) (hu : 20 < u) (hu2 : u ≤ 9223372036854775807) (hL : Laid w) (hP : PLaid w) :
    Calls Tryz.prog 3 #[.string s, .slice sa u sc] w fun e w' => e = .returned (.bool true) ∧ Below w.heap.size w w' := by
  have HBO := hide (hbo s w hs hL hP)
  have q1' : (20 : Int) < (u : Int) := by omega
  clear hL hP
  go_enter Tryz.func3, Tryz.ntmps3
  go_wp2_with fail
  refine HBO.out.mono ?_
  rintro e w1 ⟨hb1, he⟩
  clear HBO
  rcases he with rfl | ⟨p, v, uv, rfl, hpp, hv, hu, hck⟩
  · have HB1 := hide (((hb1.alloc hb1.size (.cells #[.slice none 0 0, .slice none 0 0] 26))).alloc (by have := hb1.size; simp; omega) (.cells #[.slice none 0 0, .slice none 0 0] 30))
    clear hb1
    go_wp2_with fail
    go_ret
    exact ⟨rfl, HB1.out⟩
  · obtain ⟨nv, rv, rfl, hn, hr⟩ := hv
    obtain ⟨na, nc, rfl, _⟩ := hn.slice
    obtain ⟨ra, rc, rfl, _⟩ := hr.slice
    obtain ⟨nu, ru, rfl, hnu, hru⟩ := hu
    obtain ⟨ua, uc, rfl, _⟩ := hnu.slice
    obtain ⟨ta, tc, rfl, _⟩ := hru.slice
    have HB1 := hide (((hb1.alloc hb1.size (.cells #[.slice na p.names.length nc, .slice ra p.rungs.length rc] 26))).alloc (by have := hb1.size; simp; omega) (.cells #[.slice ua p.names.length uc, .slice ta p.rungs.length tc] 30))
    clear hb1 hn hr hnu hru hck hpp
    go_wp2_with fail
    go_ret
    exact ⟨rfl, HB1.out⟩
end Sl
end Go.Proofs.YtjfgfcajmkbmeaaGreatDoor
