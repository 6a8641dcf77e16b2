/-
  The walk of ScanPlays: scan by scan, what is true, and how far each has run or counted, is the document's; too many or too few inputs are refused.
-/
import Derived.Test.YtkpfahbodlfpiaaGreatDoorScTwoAll
import Derived.Test.YtkpfahbodlfpiaaGreatDoorLwSameBAll
import Derived.Test.YtkpfahbodlfpiaaGreatDoorLwInputsAll
import Derived.Test.YtkpfahbodlfpiaaGreatDoorScWrongAll
import Derived.Test.YtkpfahbodlfpiaaGreatDoorRfTells
import Derived.Deep.RegionHeld3
import Derived.Deep.CutRange
namespace Go.Proofs.YtkpfahbodlfpiaaGreatDoor
open Go.RowKit
namespace Rf
theorem plays_at (p : Ld.Prg) (ins : List (List Bool)) (i : Nat) (hi : i < ins.length) : (Sc.plays p ins ins.length)[i]? = some (Sc.after p (ins.take (i + 1))) := by
  unfold Sc.plays
  rw [List.getElem?_map, List.getElem?_range hi, Option.map_some]
set_option maxHeartbeats 16000000 in
set_option maxRecDepth 100000 in
theorem scanPlays_of (hbo : ∀ (s : ByteArray) (w : World), s.size ≤ maxLen → Laid w → PLaid w → Calls Tryz.prog 6 #[.string s] w (Sl.Both s w)) (s : ByteArray) (l : List Int) (lv : Value) (more : Bool) (w : World) (hs : s.size ≤ maxLen) (hl : Ints w lv l) (hlm : l.length ≤ maxLen) (hL : Laid w) (hP : PLaid w) :
    Calls Tryz.prog 3 #[.string s, lv, .bool more] w fun e w' => e = .returned (.bool true) ∧ Below w.heap.size w w' := by
  have HBO := hide (hbo s w hs hL hP)
  have HL := hide hL
  have HLI := hide hl
  unfold maxLen at hlm
  obtain ⟨la, lc, rfl⟩ := hl.slice
  obtain ⟨c, hc⟩ : ∃ c, c = l.length := ⟨_, rfl⟩
  have HC := hide hc
  rw [← hc] at HLI hlm ⊢
  clear hL hP hl hc
  go_enter Tryz.func3, Tryz.ntmps3
  go_wp2_with fail
  refine HBO.out.mono ?_
  rintro e w1 ⟨hb1, he⟩
  clear HBO
  rcases he with rfl | ⟨p, v, uv, rfl, hpp, hv, hu, hck⟩
  · have HB1 := hide (((hb1.alloc hb1.size (.cells #[.slice none 0 0, .slice none 0 0] 26))).alloc (by have := hb1.size; simp; omega) (.cells #[.slice none 0 0, .slice none 0 0] 30))
    clear hb1
    go_wp2_with fail
    go_ret
    exact ⟨rfl, HB1.out⟩
  · have HCK := hide hck
    have h12 := (Ld.check_names p hck).1
    have HV := hide hv
    have HUV := hide hu
    have HB1 := hide hb1
    obtain ⟨nv, rv, rfl, hn, hr⟩ := hv
    obtain ⟨na, nc, rfl, _⟩ := hn.slice
    obtain ⟨ra, rc, rfl, _⟩ := hr.slice
    obtain ⟨nu, ru, rfl, hnu, hru⟩ := hu
    have HNU := hide hnu
    obtain ⟨ua, uc, rfl, _⟩ := hnu.slice
    obtain ⟨ta, tc, rfl, _⟩ := hru.slice
    have hqle : (Ld.kindL p.names 1).length ≤ 12 := Nat.le_trans (Ld.placesTo_le _ _ _) h12
    obtain ⟨n, hnn⟩ : ∃ n, n = p.names.length := ⟨_, rfl⟩
    obtain ⟨m, hmm⟩ : ∃ m, m = p.rungs.length := ⟨_, rfl⟩
    obtain ⟨q, hqq⟩ : ∃ q, q = (Ld.kindL p.names 1).length := ⟨_, rfl⟩
    have HN := hide hnn
    have HQ := hide hqq
    rw [← hqq] at hqle
    rw [← hnn] at HV HUV HNU h12 ⊢
    rw [← hmm] at HV HUV ⊢
    clear hn hr hnu hru hnn hmm hck hpp hqq
    obtain ⟨wA, hwA⟩ : ∃ wA, wA = (w1.alloc (.cells #[.slice na n nc, .slice ra m rc] 26)).alloc (.cells #[.slice ua n uc, .slice ta m tc] 30) := ⟨_, rfl⟩
    have hbA : Below w1.heap.size w1 wA := by rw [hwA]; exact ((Below.refl _ _).alloc (Nat.le_refl _) _).alloc (by simp) _
    have hsA : wA.heap.size = w1.heap.size + 1 + 1 := by rw [hwA]; simp
    have hA0 : wA.heap[w1.heap.size]? = some (.cells #[.slice na n nc, .slice ra m rc] 26 (0, 0)) := by rw [hwA]; exact (Below.heap_alloc _ _ _ (by simp)).trans (heap_alloc_new _ _)
    have hA1 : wA.heap[w1.heap.size + 1]? = some (.cells #[.slice ua n uc, .slice ta m tc] 30 (0, 0)) := by
      rw [hwA]
      have := heap_alloc_new (w1.alloc (.cells #[.slice na n nc, .slice ra m rc] 26)) (.cells #[.slice ua n uc, .slice ta m tc] 30)
      rw [World.size_alloc] at this
      exact this
    have HX : Hid (∀ W, Below wA.heap.size wA W → (W.cell? ⟨w1.heap.size, 0, none⟩ = some (.slice na n nc) ∧ W.cell? ⟨w1.heap.size, 1, none⟩ = some (.slice ra m rc)) ∧ (W.cell? ⟨w1.heap.size + 1, 0, none⟩ = some (.slice ua n uc) ∧ W.cell? ⟨w1.heap.size + 1, 1, none⟩ = some (.slice ta m tc)) ∧ Below w1.heap.size w1 W ∧ Below w.heap.size w W) := by
      intro W hW
      have e0 := (hW.block w1.heap.size (by omega)).trans hA0
      have e1 := (hW.block (w1.heap.size + 1) (by omega)).trans hA1
      have h1 : Below w1.heap.size w1 W := hbA.trans (hW.mono hbA.size)
      exact ⟨⟨by rw [Lib.cell_of_heap e0]; rfl, by rw [Lib.cell_of_heap e0]; rfl⟩, ⟨by rw [Lib.cell_of_heap e1]; rfl, by rw [Lib.cell_of_heap e1]; rfl⟩, h1, HB1.out.trans (h1.mono HB1.out.size)⟩
    have HKI := hide (rKind_any p.names (.slice ua n uc) (.slice ta m tc) 1 wA (HNU.out.below hbA) ⟨_, _, _, rfl⟩)
    rw [← HQ.out, hwA] at HKI
    have HWA := hide hwA
    have hw1A : w1.heap.size + 1 < wA.heap.size := by omega
    have HW1A := hide hw1A
    clear hwA hbA hA0 hA1 hb1 hw1A hsA
    by_cases q1 : 60 < c
    · have q1' : (60 : Int) < (c : Int) := by omega
      go_wp2_with fail
      rw [← HWA.out]
      go_ret
      exact ⟨rfl, (HX.out wA (Below.refl _ _)).2.2.2⟩
    have q1' : ¬ (60 : Int) < (c : Int) := by omega
    have q60 : c ≤ 60 := by omega
    clear q1
    go_wp2_with fail
    refine HKI.out.mono ?_
    rintro e w2 ⟨kv, rfl, hown, hb2⟩
    rw [← HWA.out] at hown hb2
    have HB2 := hide hb2
    obtain ⟨ka, kc, rfl⟩ := own_slice hown
    obtain ⟨⟨d0, d1⟩, _, _, hw2⟩ := HX.out w2 hb2
    have HIN := hide (linputs_any l _ q w2 (HLI.out.below hw2) (by rw [← HC.out]; exact q60) hqle)
    clear hown hb2 hw2 HKI
    go_wp2_with fail
    refine HIN.out.mono ?_
    rintro e w3 ⟨iv, rfl, hins, hb3⟩
    have hb3' : Below wA.heap.size wA w3 := HB2.out.trans (hb3.mono HB2.out.size)
    have HB3 := hide hb3'
    have HINS := hide hins
    obtain ⟨ia, ic, rfl⟩ := hins.slice
    obtain ⟨⟨e0, e1⟩, ⟨e2, e3⟩, hbw3, _⟩ := HX.out w3 hb3'
    obtain ⟨ins, hii⟩ : ∃ ins, ins = l.map fun x => bitsTo x q := ⟨_, rfl⟩
    rw [← hii] at HINS ⊢
    have hil : ins.length = c := by rw [hii, List.length_map]; exact HC.out.symm
    have HIQ : Hid (∀ i, i ∈ ins → i.length = (Ld.kindL p.names 1).length) := fun i hi => by
      rw [hii] at hi
      obtain ⟨x, _, rfl⟩ := List.mem_map.1 hi
      rw [bitsTo_len]; exact HQ.out
    have HPL := hide (Play_any p _ _ ins w3 (HV.out.below hbw3) HCK.out HINS.out (by omega) HIQ.out)
    have HIL := hide hil
    rw [← HN.out] at HPL
    rw [hil] at HINS HPL ⊢
    clear hins hii hb3 hb3' hbw3 HIN d0 d1 hil
    go_wp2_with fail
    refine HPL.out.mono ?_
    rintro e w4 ⟨u, rfl, hss, hb4⟩
    have hsl : (Sc.plays p ins c).length = c := Sc.plays_len _ _ _
    have HSS := hide hss
    obtain ⟨sa, sc, rfl⟩ := hss.slice
    rw [hsl] at HSS ⊢
    have hb4' : Below wA.heap.size wA w4 := HB3.out.trans (hb4.mono HB3.out.size)
    have HB4 := hide hb4'
    have HI4 := hide (HINS.out.below hb4)
    have HRS := hide (Start_any w4)
    clear hss hb4 hb4' HPL e0 e1 e2 e3 hsl HINS
    go_wp2_with fail
    refine HRS.out.mono ?_
    rintro e w5 ⟨hb5, m1, m2, rfl, _, _, _, ho1, ho2⟩
    have HB5 : Hid (Below wA.heap.size wA w5) := HB4.out.trans (hb5.mono HB4.out.size)
    have HS5 := hide (HSS.out.below hb5)
    have HI5 := hide (HI4.out.below hb5)
    have HSV0 := hide (SV.start ho1 ho2)
    clear hb5 ho1 ho2 HRS HSS HI4
    go_wp2_with fail
    have hz5 : wA.heap.size ≤ w5.heap.size := HB5.out.size
    go_loopw [15] (fun i wr => ∃ k : Nat, k ≤ c ∧ i = .int .i64 (k : Int) ∧ Hid (SV w5.heap.size (200 * k) w5 (after p (ins.take k)) wr)) (fun i _ => c - (intOf i).toNat)
    case atStart => exact ⟨0, Nat.zero_le _, rfl, HSV0.out⟩
    case round =>
      obtain ⟨k, hk, rfl, HSV⟩ := hrel
      obtain ⟨wo, hwo⟩ : ∃ wo, wo = wr := ⟨_, rfl⟩
      subst hwo
      have hlo := HSV.out.lt
      obtain ⟨m1, m2, hV, hSt, hbo⟩ := HSV.out
      have HBO := hide hbo
      have hboA : Below wA.heap.size wA wo := HB5.out.trans (hbo.mono hz5)
      obtain ⟨⟨d0, d1⟩, ⟨d2, d3⟩, hd1, hdw⟩ := HX.out wo hboA
      obtain ⟨v0, v1, f0, f1⟩ := two_cells hV
      by_cases hlt : k < c
      · have hkl : k < ins.length := by rw [HIL.out]; exact hlt
        have hpa := plays_at p ins k hkl
        rw [HIL.out] at hpa
        obtain ⟨gI, hia, hca2, iu, hcu, hbu⟩ : ∃ g, ia = some ⟨g, 0, none⟩ ∧ c ≤ ic ∧ ∃ u, wo.cell? ⟨g, k, none⟩ = some u ∧ Bools wo u ins[k] := by
          rcases HI5.out.below hbo with ⟨h0, _⟩ | ⟨g, cap, h1, h2, h3⟩
          · rw [h0] at hkl; simp at hkl
          · simp only [Value.slice.injEq] at h1
            exact ⟨g, h1.1, by rw [h1.2.2, h1.2.1]; exact h2, h3 k _ (List.getElem?_eq_getElem hkl)⟩
        subst hia
        obtain ⟨ub, ud, rfl, hul, hub⟩ := id hbu
        have hDR : Below wo.heap.size wo wo.drew := ⟨rfl, rfl, rfl, Nat.le_refl _, fun _ _ => rfl⟩
        have HSTEP := hide (Step_any p (.agg #[.slice ua n uc, .slice ta m tc]) _ _ (200 * k) (after p (ins.take k)) ins[k] wo.drew (HUV.out.below (then_ hd1 hDR)) HCK.out (hSt.below hDR) (by omega) (hbu.below hDR) (HIQ.out _ (List.getElem_mem hkl)))
        rw [← after_succ p ins k hkl] at HSTEP
        have hck1 : ∀ i, i ∈ ins.take (k + 1) → i.length = (Ld.kindL p.names 1).length := fun i hi => HIQ.out i (List.mem_of_mem_take hi)
        have hofa := of_after p HCK.out (ins.take (k + 1)) hck1
        have hbd := Sc.after_bd p HCK.out (ins.take (k + 1)) hck1
        obtain ⟨S1, hS1⟩ : ∃ S1, S1 = Sc.after p (ins.take (k + 1)) := ⟨_, rfl⟩
        rw [← hS1] at hpa hofa hbd
        have hIV : isV (after p (ins.take (k + 1))) p.names = S1.is.map boolV := by rw [← hofa]; exact isV_of p HCK.out S1 hbd.li
        have hCV : ctV (after p (ins.take (k + 1))) p.names = S1.ct.map iV := by rw [← hofa]; exact ctV_of p HCK.out S1 hbd.lc
        obtain ⟨st1, hst1⟩ : ∃ st1, st1 = after p (ins.take (k + 1)) := ⟨_, rfl⟩
        rw [← hst1] at HSTEP hIV hCV
        have HST1 := hide hst1
        have HIV := hide hIV
        have HCV := hide hCV
        have HPA := hide hpa
        have HLI2 := hide hbd.li
        have HLC2 := hide hbd.lc
        have HSM : Hid (∀ c, c ∈ S1.ct → I64 c) := fun c hc => by have := hbd.small HCK.out c hc; unfold I64; omega
        have HV0 := hide hV
        have hki : (k : Int) < (c : Int) := by omega
        have hbi : wo.cell? ⟨gI, k, none⟩ = some (.slice ub ins[k].length ud) := hcu
        have hlq : ins[k].length = q := (HIQ.out _ (List.getElem_mem hkl)).trans HQ.out.symm
        rw [hlq] at hbi HSTEP
        have HD1 := hide hd1
        have HDRW := hide hDR
        clear hbu hub hcu hSt hS1 hofa hbd hIV hCV hpa hst1 hck1 hd1 hdw hul hbo hboA hV hDR hlq
        go_wp2_with fail
        go_region_with (first | (go_at_call 11; (with_reducible refine HSTEP.out.mono ?_); rintro e w6 ⟨hb6, v6, rfl, hst6⟩; obtain ⟨x1, x2, hx, _⟩ := id hst6; subst hx; have HB6 := hide (then_ HDRW.out hb6); have HST6 := hide hst6; have hV6 := (HB6.out.block _ hlo).trans HV0.out; obtain ⟨y0, y1, y2, y3⟩ := two_cells hV6; have HV6 := hide hV6; clear hb6 hst6 hV6))
        all_goals
          have HSV6 : Hid (SV w5.heap.size (200 * k + 200) w5 st1 ((w6.setCell ⟨w5.heap.size, 0, none⟩ (.map (some x1))).setCell ⟨w5.heap.size, 1, none⟩ (.map (some x2)))) := SV.put HV6.out (HBO.out.trans (HB6.out.mono (by omega))) HST6.out
          clear HV6 HST6 HB6 HSTEP y0 y1 y2 y3
          generalize (w6.setCell ⟨w5.heap.size, 0, none⟩ (.map (some x1))).setCell ⟨w5.heap.size, 1, none⟩ (.map (some x2)) = w7 at *
          have hl7 := HSV6.out.lt
          obtain ⟨n1, n2, hV7, hSt7, hb7⟩ := HSV6.out
          obtain ⟨v4, v5, _, _⟩ := two_cells hV7
          have HB7A : Hid (Below wA.heap.size wA w7) := HB5.out.trans (hb7.mono hz5)
          obtain ⟨⟨e0, e1⟩, ⟨e2, e3⟩, he1, hew⟩ := HX.out w7 HB7A.out
          have HTLS := hide (Tells_any p.names (.slice ua n uc) (.slice ta m tc) _ (200 * k + 200) st1 w7 (HNU.out.below he1) ⟨_, _, _, rfl⟩ hSt7)
          have HS7 := hide (HS5.out.below hb7)
          clear hV7 hSt7 hb7 he1 hew v0 v1 f0 f1 d0 d1 d2 d3 hbi
          go_wp2_with fail
          refine HTLS.out.mono ?_
          rintro e w8 ⟨hb8, v1, v2, rfl, ht2⟩
          have HSV8 := hide (HSV6.out.below hl7 hb8)
          have h1 := ht2.o1
          have h2 := ht2.o2
          rw [HIV.out, List.length_map] at h1
          rw [HCV.out, List.length_map] at h2
          obtain ⟨g2, hsa, hca, gi, gc, s0, s1, hst⟩ : ∃ g, sa = some ⟨g, 0, none⟩ ∧ c ≤ sc ∧ ∃ gi gc, w8.cell? ⟨g, k * 2, none⟩ = some (slV gi n) ∧ w8.cell? ⟨g, k * 2 + 1, none⟩ = some (slV gc n) ∧ StAt w8 gi gc S1 := by
            rcases HS7.out.below hb8 with ⟨h0, _⟩ | ⟨g, cap, h1, h2, h3⟩
            · have h := HPA.out; rw [h0] at h; simp at h
            · simp only [Value.slice.injEq] at h1
              exact ⟨g, h1.1, by rw [h1.2.2, h1.2.1]; exact h2, h3 k _ HPA.out⟩
          subst hsa
          have hB1 : Bools w8 (slV gi n) S1.is := by have h := bools_st hst (by rw [HLI2.out]; omega); rw [HLI2.out, ← HN.out] at h; exact h
          have hC1 : Ints w8 (slV gc n) S1.ct := by have h := ints_st hst HSM.out; rw [HLC2.out, ← HN.out] at h; exact h
          have hC2 : Ints w8 v2 S1.ct := ints_of h2 HSM.out
          have HSB := hide (lsameB_any S1.is _ _ w8 hB1 (bools_of h1 (by rw [HLI2.out]; omega)))
          have HSI : Hid (∀ W, Below w8.heap.size w8 W → Calls Tryz.prog 14 #[slV gc n, v2] W fun e w' => e = .returned (.bool true) ∧ Below W.heap.size W w') := fun W hW => lsameI_any S1.ct _ _ W (hC1.below hW) (hC2.below hW) (by rw [HLC2.out]; omega)
          unfold slV at s0 s1 HSB HSI
          clear h1 h2 ht2 hst hB1 hC1 hC2 HTLS e0 e1 e2 e3 v4 v5
          go_wp2_with fail
          refine HSB.out.mono ?_
          rintro e w9 ⟨rfl, hb9⟩
          have HSV9 := hide (HSV8.out.below HSV8.out.lt hb9)
          have t0 := (hb9.cell (World.block_lt_of_cell? _ _ s1)).trans s1
          have HS9 := hide (HSI.out w9 hb9)
          clear hb9 hb8 s0 s1 HSB HSI
          go_wp2_with fail
          refine HS9.out.mono ?_
          rintro e w10 ⟨rfl, hb10⟩
          have HSV10 : Hid (SV w5.heap.size (200 * (k + 1)) w5 (after p (ins.take (k + 1))) w10) := by
            have h := HSV9.out.below HSV9.out.lt hb10
            rw [HST1.out] at h
            exact h
          clear hb10 HS9 t0
          go_wp2_with fail
          go_roundw
          case rel => exact ⟨k + 1, by omega, by go_num, HSV10.out⟩
          case measure => simp [intOf]; omega
      · obtain rfl : k = c := by omega
        have hci : ¬ (k : Int) < (k : Int) := by omega
        have HWO := hide hdw
        have HPO := hide (HV.out.below hd1)
        have hmb := fun kk (h : kk ≤ 1000000) W => makeBN kk h W
        have hmi := fun kk (h : kk ≤ 1000000) W => makeIN kk h W
        have hmm := makeBB1001
        have HSW : Hid (∀ W (ia sa sb : Option Addr) (il ic li ci lc cc : Nat), Below wo.heap.size wo W → (il ≠ q ∨ (il = q ∧ li ≠ n)) → Calls Tryz.prog 15 #[.agg #[.slice na n nc, .slice ra m rc], .agg #[.slice sa li ci, .slice sb lc cc], .slice ia il ic] W fun e w' => ∃ u, e = .returned (.tuple #[u, .iface 58 (.int .i64 2)]) ∧ (∃ a n c b m d, u = .agg #[.slice a n c, .slice b m d]) ∧ Below W.heap.size W w') := fun W ia sa sb il ic li ci lc cc hW h =>
          Step_wrong p _ ia sa sb il ic li ci lc cc W (HPO.out.below hW) HCK.out (by rw [← HQ.out, ← HN.out]; exact h)
        have HSS : Hid (∀ W, Below wo.heap.size wo W → Calls Tryz.prog 16 #[.agg #[.slice na n nc, .slice ra m rc]] W fun e w' => ∃ gi gc, e = .returned (.agg #[.slice (some ⟨gi, 0, none⟩) n n, .slice (some ⟨gc, 0, none⟩) n n]) ∧ Below W.heap.size W w') := fun W hW => by
          refine (_root_.Go.Proofs.YtkpfahbodlfpiaaGreatDoor.Start_any p _ W (HPO.out.below hW) (by rw [← HN.out]; exact h12)).mono ?_
          rintro e w' ⟨gi, gc, rfl, _, _, _, hb⟩
          have hln : (Sc.start p).is.length = n := by rw [HN.out]; simp [Sc.start]
          rw [hln]
          exact ⟨gi, gc, rfl, hb⟩
        have HDR : Hid (Below wo.heap.size wo wo.drew) := ⟨rfl, rfl, rfl, Nat.le_refl _, fun _ _ => rfl⟩
        have HAL : Hid (∀ W o, Below wo.heap.size wo W → Below wo.heap.size wo (W.alloc o)) := fun W o h => h.alloc h.size o
        have HSC : Hid (∀ W (b : Nat) x y, Below wo.heap.size wo W → wo.heap.size ≤ b → Below wo.heap.size wo ((W.setCell ⟨b, 0, none⟩ x).setCell ⟨b, 1, none⟩ y)) := fun W b x y h hb => (h.setCell (p := ⟨b, 0, none⟩) hb _).setCell (p := ⟨b, 1, none⟩) hb _
        have HAD : Hid (∀ W, Below wo.heap.size wo W → Below wo.heap.size wo W.drew) := fun W h => then_ h ⟨rfl, rfl, rfl, Nat.le_refl _, fun _ _ => rfl⟩
        have HKEEP : Hid (∀ W, Below wo.heap.size wo W → W.cell? ⟨w1.heap.size, 0, none⟩ = some (.slice na n nc) ∧ W.cell? ⟨w1.heap.size, 1, none⟩ = some (.slice ra m rc)) := fun W hW => (HX.out W (hboA.trans (hW.mono hboA.size))).1
        clear hSt hbo hboA hd1 hdw v0 v1 f0 f1 hV d2 d3
        go_upto_region 18 with fail
        go_cut [105] from 101 to 106 (fun b wx => b = .bool (Decidable.decide (0 < q) && more) ∧ Hid (wx = wo))
        case first =>
          by_cases h0 : 0 < q
          · have h0i : (0 : Int) < (q : Int) := by omega
            go_wp2_with fail
            go_meet
            exact ⟨by simp [h0], rfl⟩
          · have h0i : ¬ (0 : Int) < (q : Int) := by omega
            go_wp2_with fail
            go_meet
            exact ⟨by simp [h0], rfl⟩
        case rest =>
        rename_i hK
        refine hK _ _ ?_
        obtain ⟨rfl, hwx⟩ := hcut
        obtain rfl := hwx.out.symm
        clear hwx
        have HQM : Hid ((Decidable.decide (0 < q) && more) = true → 0 < q) := fun h => by simp at h; exact h.1
        generalize (Decidable.decide (0 < q) && more) = bq at *
        go_cut [18] from 106 to 108 (fun kv wx => (∃ kk : Nat, kv = .int .i64 (kk : Int) ∧ kk ≠ q ∧ kk ≤ 13) ∧ Hid (wx = wo))
        case first =>
          cases bq with
          | true =>
            have h0 : 0 < q := HQM.out rfl
            go_wp2_with fail
            go_meet
            exact ⟨⟨q - 1, by rw [show ((q - 1 : Nat) : Int) = (q : Int) - 1 by omega], by omega, by omega⟩, rfl⟩
          | false =>
            go_wp2_with fail
            go_meet
            exact ⟨⟨q + 1, by congr 1, by omega, by omega⟩, rfl⟩
        case rest =>
          obtain ⟨⟨kk, rfl, hkq, hk13⟩, hwx⟩ := hcut
          obtain rfl := hwx.out.symm
          have hmb1 := hmb kk (by omega)
          have hmbn : ∀ W, (Instr.makeSlice 47 (.int .i64 ((n : Int) + 1)) (.int .i64 ((n : Int) + 1))).run Tryz.prog W = .ok (.slice (some ⟨W.heap.size, 0, none⟩) (n + 1) (n + 1)) (W.alloc (.cells (cellsN (n + 1) (.bool false)) 4)) := fun W => hmb (n + 1) (by omega) W
          have hmbw : ∀ W, (Instr.makeSlice 47 (.int .i64 (IntKind.i64.wrap ((n : Int) + 1))) (.int .i64 (IntKind.i64.wrap ((n : Int) + 1)))).run Tryz.prog W = .ok (.slice (some ⟨W.heap.size, 0, none⟩) (n + 1) (n + 1)) (W.alloc (.cells (cellsN (n + 1) (.bool false)) 4)) := fun W => by
            have hw : IntKind.i64.wrap ((n : Int) + 1) = (n : Int) + 1 := by rw [IntKind.wrap_i64]; omega
            rw [hw]
            exact hmbn W
          have hmbq := hmb q (by omega)
          have hmin := hmi n (by omega)
          have HKQ := hide hkq
          clear hwx hkq hmb hmi
          go_upto_region 20 with fail
          go_cut [20] from 108 to 117 (fun e1 wx => e1 = .iface 58 (.int .i64 2) ∧ Hid (Below wo.heap.size wo wx))
          case first =>
            go_region_held3 (fun W => W.cell? ⟨w1.heap.size, 0, none⟩ = some (.slice na n nc) ∧ W.cell? ⟨w1.heap.size, 1, none⟩ = some (.slice ra m rc)) ((refine HKEEP.out _ ?_; first | exact HDR.out | exact HBT.out | exact HAL.out _ _ HBT.out | exact HBS.out | exact HAL.out _ _ (HBS.out) | exact HAL.out _ _ (HAL.out _ _ (HBS.out)) | exact Below.refl _ _ | exact HAL.out _ _ (Below.refl _ _) | exact HAL.out _ _ (HAL.out _ _ (Below.refl _ _)) | exact HAL.out _ _ (HAL.out _ _ (HAL.out _ _ (Below.refl _ _))) | exact HAL.out _ _ (HAL.out _ _ (HAL.out _ _ (HAL.out _ _ (Below.refl _ _)))) | exact HAD.out _ (HAL.out _ _ (Below.refl _ _)) | exact HAD.out _ (HAL.out _ _ (HAL.out _ _ (Below.refl _ _))) | exact HAD.out _ (HAL.out _ _ (HAL.out _ _ (HAL.out _ _ (Below.refl _ _)))) | exact HAD.out _ (HAL.out _ _ (HAL.out _ _ (HAL.out _ _ (HAL.out _ _ (Below.refl _ _))))) | exact HAL.out _ _ (HDR.out) | exact HAL.out _ _ (HAL.out _ _ (HDR.out)) | exact HAL.out _ _ (HAL.out _ _ (HAL.out _ _ (HDR.out))) | exact HAL.out _ _ (HAL.out _ _ (HAL.out _ _ (HAL.out _ _ (HDR.out)))) | exact HAL.out _ _ (HAD.out _ (HAL.out _ _ (Below.refl _ _))) | exact HAL.out _ _ (HAL.out _ _ (HAD.out _ (HAL.out _ _ (Below.refl _ _)))) | exact HAL.out _ _ (HAL.out _ _ (HAL.out _ _ (HAD.out _ (HAL.out _ _ (Below.refl _ _))))) | exact HAL.out _ _ (HAD.out _ (HAL.out _ _ (HAL.out _ _ (Below.refl _ _)))) | exact HAL.out _ _ (HAL.out _ _ (HAD.out _ (HAL.out _ _ (HAL.out _ _ (Below.refl _ _))))) | exact HAL.out _ _ (HAD.out _ (HAL.out _ _ (HAL.out _ _ (HAL.out _ _ (Below.refl _ _))))) | exact HSC.out _ _ _ _ HBT.out (by have := HBS.out.size; omega) | exact HSC.out _ _ _ _ HBT.out (by have := HBS.out.size; omega) | exact HSC.out _ _ _ _ HBT.out (by omega))) ((first
              | (go_at_call 16; first
                | ((with_reducible refine (HSS.out _ (HDR.out)).mono ?_); rintro e wS ⟨gi, gc, rfl, hb⟩; have HBS : Hid (Below wo.heap.size wo wS) := then_ (HDR.out) hb; clear hb)
                | ((with_reducible refine (HSS.out _ (HAD.out _ (HAL.out _ _ (Below.refl _ _)))).mono ?_); rintro e wS ⟨gi, gc, rfl, hb⟩; have HBS : Hid (Below wo.heap.size wo wS) := then_ (HAD.out _ (HAL.out _ _ (Below.refl _ _))) hb; have hq := at1d hb; clear hb)
                | ((with_reducible refine (HSS.out _ (HAD.out _ (HAL.out _ _ (HAL.out _ _ (Below.refl _ _))))).mono ?_); rintro e wS ⟨gi, gc, rfl, hb⟩; have HBS : Hid (Below wo.heap.size wo wS) := then_ (HAD.out _ (HAL.out _ _ (HAL.out _ _ (Below.refl _ _)))) hb; have hq := at2d hb; clear hb))
              | (go_at_call 15; first
                | ((with_reducible refine (HSW.out _ _ _ _ _ _ _ _ _ _ (HBS.out) (.inl HKQ.out)).mono ?_); rintro e wT ⟨u, rfl, ⟨xa, xn, xc, ya, yn, yc, hu⟩, hb⟩; subst hu; have HBT : Hid (Below wo.heap.size wo wT) := then_ (HBS.out) hb; have hbs := hb; (try (have hq2 := (hbs.block _ (lt_some hq)).trans hq; obtain ⟨z0, z1, z2, z3⟩ := two_cells hq2; clear hq2)); (try (have hq2 := (hbs.block _ (lt_some hq.1)).trans hq.1; obtain ⟨z0, z1, z2, z3⟩ := two_cells hq2; clear hq2)); (try (have hq2 := (hbs.block _ (lt_some hq.2)).trans hq.2; obtain ⟨z0, z1, z2, z3⟩ := two_cells hq2; clear hq2)); (try clear hq); clear hb hbs)
                | ((with_reducible refine (HSW.out _ _ _ _ _ _ _ _ _ _ (HAL.out _ _ (HBS.out)) (.inl HKQ.out)).mono ?_); rintro e wT ⟨u, rfl, ⟨xa, xn, xc, ya, yn, yc, hu⟩, hb⟩; subst hu; have HBT : Hid (Below wo.heap.size wo wT) := then_ (HAL.out _ _ (HBS.out)) hb; have hr := at1 hb; (try obtain ⟨z0, z1, z2, z3⟩ := two_cells hr); have hbs := then_ (below_al _ _) hb; clear hr; (try (have hq2 := (hbs.block _ (lt_some hq)).trans hq; obtain ⟨z0, z1, z2, z3⟩ := two_cells hq2; clear hq2)); (try (have hq2 := (hbs.block _ (lt_some hq.1)).trans hq.1; obtain ⟨z0, z1, z2, z3⟩ := two_cells hq2; clear hq2)); (try (have hq2 := (hbs.block _ (lt_some hq.2)).trans hq.2; obtain ⟨z0, z1, z2, z3⟩ := two_cells hq2; clear hq2)); (try clear hq); clear hb hbs)
                | ((with_reducible refine (HSW.out _ _ _ _ _ _ _ _ _ _ (HAL.out _ _ (HAL.out _ _ (HBS.out))) (.inl HKQ.out)).mono ?_); rintro e wT ⟨u, rfl, ⟨xa, xn, xc, ya, yn, yc, hu⟩, hb⟩; subst hu; have HBT : Hid (Below wo.heap.size wo wT) := then_ (HAL.out _ _ (HAL.out _ _ (HBS.out))) hb; have hr := at2 hb; (try obtain ⟨z0, z1, z2, z3⟩ := two_cells hr.1); (try obtain ⟨z0, z1, z2, z3⟩ := two_cells hr.2); have hbs := then_ (then_ (below_al _ _) (below_al _ _)) hb; clear hr; (try (have hq2 := (hbs.block _ (lt_some hq)).trans hq; obtain ⟨z0, z1, z2, z3⟩ := two_cells hq2; clear hq2)); (try (have hq2 := (hbs.block _ (lt_some hq.1)).trans hq.1; obtain ⟨z0, z1, z2, z3⟩ := two_cells hq2; clear hq2)); (try (have hq2 := (hbs.block _ (lt_some hq.2)).trans hq.2; obtain ⟨z0, z1, z2, z3⟩ := two_cells hq2; clear hq2)); (try clear hq); clear hb hbs))))
            all_goals go_wp2_with fail
            all_goals go_meet
            all_goals exact ⟨rfl, by first | exact HBT.out | exact HAL.out _ _ HBT.out | exact HSC.out _ _ _ _ HBT.out (by have := HBS.out.size; omega) | exact HSC.out _ _ _ _ HBT.out (by omega)⟩
          case rest =>
            obtain ⟨rfl, HBP⟩ := hcut
            obtain ⟨wP, hwP⟩ : ∃ wP, wP = wc := ⟨_, rfl⟩
            subst hwP
            have HPM : Hid (∀ W (a : Option Addr) (cc : Nat), Below wo.heap.size wo W → Calls Tryz.prog 9 #[.agg #[.slice na n nc, .slice ra m rc], .slice a 1001 cc] W fun e w' => e = .returned (.tuple #[.slice none 0 0, .iface 58 (.int .i64 4)]) ∧ Below W.heap.size W w') := fun W a cc _ => Play_many _ a 1001 cc W ⟨_, _, _, _, _, _, rfl⟩ (by decide)
            have HPW : Hid (∀ W (g b : Nat), Below wo.heap.size wo W → W.heap[g]? = some (.cells #[.slice (some ⟨b, 0, none⟩) kk kk] 47 (0, 0)) → W.heap[b]? = some (.cells (cellsN kk (.bool false)) 4 (0, 0)) → Calls Tryz.prog 9 #[.agg #[.slice na n nc, .slice ra m rc], .slice (some ⟨g, 0, none⟩) 1 1] W fun e w' => e = .returned (.tuple #[.slice none 0 0, .iface 58 (.int .i64 2)]) ∧ Below W.heap.size W w') := fun W g b hW h1 h2 =>
              Play_wrong p _ _ (List.replicate kk false) W (HPO.out.below hW) HCK.out (insAt_one h1 h2 (by omega)) (by rw [List.length_replicate, ← HQ.out]; exact HKQ.out)
            have HN1 : Hid (n + 1 ≠ n) := by show _ ≠ _; omega
            go_wp2_with fail
            go_region_held3 (fun W => W.cell? ⟨w1.heap.size, 0, none⟩ = some (.slice na n nc) ∧ W.cell? ⟨w1.heap.size, 1, none⟩ = some (.slice ra m rc)) ((refine HKEEP.out _ ?_; first | exact HBP.out | exact HAL.out _ _ (HBP.out) | exact HAD.out _ (HBP.out) | exact HAD.out _ (HAL.out _ _ (HBP.out)) | exact HAL.out _ _ (HAD.out _ (HBP.out)) | exact HBQ.out | exact HAL.out _ _ (HBQ.out) | exact HSC.out _ _ _ _ HBQ.out (by have := HBP.out.size; omega))) ((go_at_call 9; first
                | ((with_reducible refine (HPM.out _ _ _ (HAL.out _ _ (HBP.out))).mono ?_); rintro e wQ ⟨rfl, hb⟩; have HBQ : Hid (Below wo.heap.size wo wQ) := then_ (HAL.out _ _ (HBP.out)) hb; clear hb)
                | ((with_reducible refine (HPM.out _ _ _ (HAD.out _ (HAL.out _ _ (HBP.out)))).mono ?_); rintro e wQ ⟨rfl, hb⟩; have HBQ : Hid (Below wo.heap.size wo wQ) := then_ (HAD.out _ (HAL.out _ _ (HBP.out))) hb; clear hb)))
            go_wp2_with fail
            go_region_held3 (fun W => W.cell? ⟨w1.heap.size, 0, none⟩ = some (.slice na n nc) ∧ W.cell? ⟨w1.heap.size, 1, none⟩ = some (.slice ra m rc)) ((refine HKEEP.out _ ?_; first | exact HBQ.out | exact HAL.out _ _ (HBQ.out) | exact HAL.out _ _ (HAL.out _ _ (HBQ.out)) | exact HAD.out _ (HBQ.out) | exact HAD.out _ (HAL.out _ _ (HBQ.out)) | exact HAD.out _ (HAL.out _ _ (HAL.out _ _ (HBQ.out))) | exact HAL.out _ _ (HAD.out _ (HBQ.out)) | exact HAL.out _ _ (HAL.out _ _ (HAD.out _ (HBQ.out))) | exact HAL.out _ _ (HAD.out _ (HAL.out _ _ (HBQ.out))) | exact HBR.out | exact HAL.out _ _ (HBR.out) | exact HSC.out _ _ _ _ HBR.out (by have := HBQ.out.size; omega))) ((go_at_call 9; first
                | ((with_reducible refine (HPW.out _ _ _ (HAD.out _ (HAL.out _ _ (HAL.out _ _ (HBQ.out)))) (at2d (Below.refl _ _)).2 (at2d (Below.refl _ _)).1).mono ?_); rintro e wR ⟨rfl, hb⟩; have HBR : Hid (Below wo.heap.size wo wR) := then_ (HAD.out _ (HAL.out _ _ (HAL.out _ _ (HBQ.out)))) hb; clear hb)
                | ((with_reducible refine (HPW.out _ _ _ (HAL.out _ _ (HAL.out _ _ (HBQ.out))) (at2 (Below.refl _ _)).2 (at2 (Below.refl _ _)).1).mono ?_); rintro e wR ⟨rfl, hb⟩; have HBR : Hid (Below wo.heap.size wo wR) := then_ (HAL.out _ _ (HAL.out _ _ (HBQ.out))) hb; clear hb)))
            go_upto_region 23 with fail
            go_cut [26] from 131 to 148 (fun e1 wx => e1 = .iface 58 (.int .i64 2) ∧ Hid (Below wo.heap.size wo wx))
            case first =>
              go_region_held3 (fun W => W.cell? ⟨w1.heap.size, 0, none⟩ = some (.slice na n nc) ∧ W.cell? ⟨w1.heap.size, 1, none⟩ = some (.slice ra m rc)) ((refine HKEEP.out _ ?_; first | exact HBR.out | exact HAL.out _ _ (HBR.out) | exact HAL.out _ _ (HAL.out _ _ (HBR.out)) | exact HAL.out _ _ (HAL.out _ _ (HAL.out _ _ (HBR.out))) | exact HAL.out _ _ (HAL.out _ _ (HAL.out _ _ (HAL.out _ _ (HBR.out)))) | exact HAD.out _ (HBR.out) | exact HAD.out _ (HAL.out _ _ (HBR.out)) | exact HAD.out _ (HAL.out _ _ (HAL.out _ _ (HBR.out))) | exact HAD.out _ (HAL.out _ _ (HAL.out _ _ (HAL.out _ _ (HBR.out)))) | exact HAD.out _ (HAL.out _ _ (HAL.out _ _ (HAL.out _ _ (HAL.out _ _ (HBR.out))))) | exact HAL.out _ _ (HAD.out _ (HBR.out)) | exact HAL.out _ _ (HAL.out _ _ (HAD.out _ (HBR.out))) | exact HAL.out _ _ (HAL.out _ _ (HAL.out _ _ (HAD.out _ (HBR.out)))) | exact HAL.out _ _ (HAL.out _ _ (HAL.out _ _ (HAL.out _ _ (HAD.out _ (HBR.out))))) | exact HAL.out _ _ (HAD.out _ (HAL.out _ _ (HBR.out))) | exact HAL.out _ _ (HAL.out _ _ (HAD.out _ (HAL.out _ _ (HBR.out)))) | exact HAL.out _ _ (HAL.out _ _ (HAL.out _ _ (HAD.out _ (HAL.out _ _ (HBR.out))))) | exact HAL.out _ _ (HAD.out _ (HAL.out _ _ (HAL.out _ _ (HBR.out)))) | exact HAL.out _ _ (HAL.out _ _ (HAD.out _ (HAL.out _ _ (HAL.out _ _ (HBR.out))))) | exact HAL.out _ _ (HAD.out _ (HAL.out _ _ (HAL.out _ _ (HAL.out _ _ (HBR.out))))) | exact HBT.out | exact HAL.out _ _ (HBT.out) | exact HSC.out _ _ _ _ HBT.out (by have := HBR.out.size; omega))) ((go_at_call 15; first
                | ((with_reducible refine (HSW.out _ _ _ _ _ _ _ _ _ _ (HAD.out _ (HAL.out _ _ (HAL.out _ _ (HAL.out _ _ (HBR.out))))) (.inr ⟨rfl, HN1.out⟩)).mono ?_); rintro e wT ⟨u, rfl, ⟨xa, xn, xc, ya, yn, yc, hu⟩, hb⟩; subst hu; have HBT : Hid (Below wo.heap.size wo wT) := then_ (HAD.out _ (HAL.out _ _ (HAL.out _ _ (HAL.out _ _ (HBR.out))))) hb; clear hb)
                | ((with_reducible refine (HSW.out _ _ _ _ _ _ _ _ _ _ (HAD.out _ (HAL.out _ _ (HAL.out _ _ (HAL.out _ _ (HAL.out _ _ (HBR.out)))))) (.inr ⟨rfl, HN1.out⟩)).mono ?_); rintro e wT ⟨u, rfl, ⟨xa, xn, xc, ya, yn, yc, hu⟩, hb⟩; subst hu; have HBT : Hid (Below wo.heap.size wo wT) := then_ (HAD.out _ (HAL.out _ _ (HAL.out _ _ (HAL.out _ _ (HAL.out _ _ (HBR.out)))))) hb; have hr := at4d hb; (try obtain ⟨z0, z1, z2, z3⟩ := two_cells hr.1.1.1); (try obtain ⟨z0, z1, z2, z3⟩ := two_cells hr.1.1.2); (try obtain ⟨z0, z1, z2, z3⟩ := two_cells hr.1.2); (try obtain ⟨z0, z1, z2, z3⟩ := two_cells hr.2); clear hr; clear hb)))
              all_goals go_wp2_with fail
              all_goals go_meet
              all_goals exact ⟨rfl, by first | exact HBT.out | exact HAL.out _ _ HBT.out | exact HSC.out _ _ _ _ HBT.out (by have := HBR.out.size; omega)⟩
            case rest =>
              obtain ⟨rfl, HB4⟩ := hcut
              obtain ⟨wE, hwE⟩ : ∃ wE, wE = wc := ⟨_, rfl⟩
              subst hwE
              have HWW : Hid (∀ W, Below wE.heap.size wE W → Below w.heap.size w W) := fun W hW => then_ HWO.out (then_ HB4.out hW)
              have HLB : Hid (∀ W (e : Int), Below wE.heap.size wE W → Calls Tryz.prog 17 #[.iface 58 (.int .i64 e), .int .i64 e] W fun e w' => e = .returned (.bool true) ∧ Below W.heap.size W w') := fun W e hW => Sl.lbare_any e W (HL.out.below (HWW.out W hW)).door
              have HA1 := hide (HLB.out wE 2 (Below.refl _ _))
              go_wp2_with fail
              refine HA1.out.mono ?_
              rintro e x1 ⟨rfl, hb⟩
              have HX1 : Hid (Below wE.heap.size wE x1) := hb
              have HA2 := hide (HLB.out x1 4 HX1.out)
              clear hb HA1
              go_wp2_with fail
              refine HA2.out.mono ?_
              rintro e x2 ⟨rfl, hb⟩
              have HX2 : Hid (Below wE.heap.size wE x2) := then_ HX1.out hb
              have HA3 := hide (HLB.out x2 2 HX2.out)
              clear hb HA2
              go_wp2_with fail
              refine HA3.out.mono ?_
              rintro e x3 ⟨rfl, hb⟩
              have HX3 : Hid (Below wE.heap.size wE x3) := then_ HX2.out hb
              have HA4 := hide (HLB.out x3 2 HX3.out)
              clear hb HA3
              go_wp2_with fail
              refine HA4.out.mono ?_
              rintro e x4 ⟨rfl, hb⟩
              have HF := hide (HWW.out x4 (then_ HX3.out hb))
              clear hb HA4
              go_wp2_with fail
              go_ret
              exact ⟨ret_bool (by first | rfl | simp), HF.out⟩
end Rf
end Go.Proofs.YtkpfahbodlfpiaaGreatDoor
