/-
  The walk of ScanBounds: counts stay within their bounds, timers and counters are true just where they are there, inputs are what comes.
-/
import Derived.Test.YtlgbihmncoeanaaGreatDoorKeScan
import Derived.Deep.QuietTactic
import Derived.BigQuiet
namespace Go.Proofs.YtlgbihmncoeanaaGreatDoor
open Go.RowKit
theorem Sc.plays_at (p : Ld.Prg) (ins : List (List Bool)) (i : Nat) (hi : i < ins.length) : (Sc.plays p ins ins.length)[i]? = some (Sc.step p (Sc.after p (ins.take i)) ins[i]) := by
  unfold Sc.plays
  rw [List.getElem?_map, List.getElem?_range hi, Option.map_some, List.take_succ_eq_append_getElem hi, Sc.after_snoc]
set_option maxHeartbeats 8000000 in
set_option maxRecDepth 100000 in
theorem scanBounds_any (s : ByteArray) (l : List Int) (lv : Value) (w : World) (hs : s.size ≤ maxLen) (hl : Ints w lv l) (hlm : l.length ≤ maxLen) (hL : Laid w) :
    Calls Tryz.prog 7 #[.string s, lv] w fun e w' => e = .returned (.bool true) ∧ Below w.heap.size w w' := by
  unfold maxLen at hlm
  have HR := hide (kread_any s w hs hL)
  have HLI := hide hl
  have HL := hide hL
  obtain ⟨la, lc, rfl⟩ := hl.slice
  obtain ⟨c, hcc⟩ : ∃ c, c = l.length := ⟨_, rfl⟩
  have HC := hide hcc
  rw [← hcc] at HLI hlm ⊢
  clear hl hcc hL
  obtain ⟨R, hR⟩ : ∃ R, R = readP s := ⟨_, rfl⟩
  rw [← hR] at HR
  clear hR
  go_enter Tryz.func7, Tryz.ntmps7
  go_wp2_with fail
  refine HR.out.mono ?_
  intro e w1 hq
  clear HR
  match R, hq with
  | none, ⟨hb1, he⟩ =>
    subst he
    have HB1 := hide hb1
    clear hb1
    go_wp2_with fail
    go_ret
    exact ⟨rfl, HB1.out.alloc HB1.out.size _⟩
  | some p, ⟨hb1, v, he, hp1, hck⟩ =>
    subst he
    have HB1 := hide hb1
    have HP1 := hide hp1
    have HCK := hide hck
    have hkl : (Ld.kindL p.names 1).length ≤ 12 := Nat.le_trans (Ld.placesTo_le _ _ _) (Ld.check_names p hck).1
    have h12 := (Ld.check_names p hck).1
    obtain ⟨nv, rv, rfl, hn, hr⟩ := hp1
    have HNA := hide hn
    obtain ⟨na, nc, rfl, _⟩ := hn.slice
    obtain ⟨ra, rc, rfl, _⟩ := hr.slice
    obtain ⟨n, hnn⟩ : ∃ n, n = p.names.length := ⟨_, rfl⟩
    obtain ⟨m, hmm⟩ : ∃ m, m = p.rungs.length := ⟨_, rfl⟩
    have HN := hide hnn
    rw [← hnn] at HP1 HNA h12 ⊢
    rw [← hmm] at HP1 ⊢
    clear hnn hmm hn hr hck hb1
    obtain ⟨wA, hwA⟩ : ∃ wA, wA = w1.alloc (.cells #[.slice na n nc, .slice ra m rc] 28) := ⟨_, rfl⟩
    have hbA : Below w1.heap.size w1 wA := by rw [hwA]; exact (Below.refl _ _).alloc (Nat.le_refl _) _
    have hsA : wA.heap.size = w1.heap.size + 1 := by rw [hwA]; simp
    have hA : wA.heap[w1.heap.size]? = some (.cells #[.slice na n nc, .slice ra m rc] 28 (0, 0)) := by rw [hwA]; exact heap_alloc_new _ _
    have HBX : Hid (∀ (W : World), Below wA.heap.size wA W → W.cell? ⟨w1.heap.size, 0, none⟩ = some (.slice na n nc) ∧ W.cell? ⟨w1.heap.size, 1, none⟩ = some (.slice ra m rc) ∧ Below w1.heap.size w1 W) := by
      intro W hW
      have e0 := (hW.block w1.heap.size (by omega)).trans hA
      exact ⟨by rw [Lib.cell_of_heap e0]; rfl, by rw [Lib.cell_of_heap e0]; rfl, hbA.trans (hW.mono (by omega))⟩
    have HKI := hide (Kind_any p.names (.slice na n nc) (.slice ra m rc) 1 wA (HNA.out.below hbA) ⟨_, _, _, rfl⟩)
    rw [hwA] at HKI
    have HWA := hide hwA
    have HBA := hide hbA
    have HSA := hide hsA
    clear hwA hbA hA hsA
    by_cases q1 : 60 < c
    · have q1' : (60 : Int) < (c : Int) := by omega
      go_wp2_with fail
      go_ret
      have hx := HB1.out.trans (HBA.out.mono HB1.out.size)
      rw [HWA.out] at hx
      exact ⟨rfl, hx⟩
    have q1' : ¬ (60 : Int) < (c : Int) := by omega
    have q60 : c ≤ 60 := by omega
    obtain ⟨q, hqq⟩ : ∃ q, q = (Ld.kindL p.names 1).length := ⟨_, rfl⟩
    have HQ := hide hqq
    rw [← hqq] at HKI hkl
    clear hqq q1
    go_wp2_with fail
    refine HKI.out.mono ?_
    rintro e w2 ⟨kv, rfl, hown, hb2⟩
    rw [← HWA.out] at hown hb2
    have HB2 := hide hb2
    obtain ⟨ka, kc, rfl⟩ := own_slice hown
    obtain ⟨d0, d1, hbw2⟩ := HBX.out w2 hb2
    have hw12 := HB1.out.trans (hbw2.mono HB1.out.size)
    have HIN := hide (kinputs_any l _ q w2 (HLI.out.below hw12) (by rw [← HC.out]; exact q60) hkl)
    have HW12 := hide hw12
    clear hown hb2 hbw2 hw12 HKI
    go_wp2_with fail
    refine HIN.out.mono ?_
    rintro e w3 ⟨iv, rfl, hins, hb3⟩
    have hb3' : Below wA.heap.size wA w3 := HB2.out.trans (hb3.mono HB2.out.size)
    have HB3 := hide hb3'
    have HINS := hide hins
    obtain ⟨ia, ic, rfl⟩ := hins.slice
    obtain ⟨e0, e1, hbw3⟩ := HBX.out w3 hb3'
    obtain ⟨ins, hii⟩ : ∃ ins, ins = l.map fun x => bitsTo x q := ⟨_, rfl⟩
    rw [← hii] at HINS ⊢
    have hil : ins.length = c := by rw [hii, List.length_map]; exact HC.out.symm
    have HIQ : Hid (∀ i, i ∈ ins → i.length = (Ld.kindL p.names 1).length) := fun i hi => by
      rw [hii] at hi
      obtain ⟨x, _, rfl⟩ := List.mem_map.1 hi
      rw [bitsTo_len]; exact HQ.out
    have HPL := hide (Play_any p _ _ ins w3 (HP1.out.below hbw3) HCK.out HINS.out (by omega) HIQ.out)
    have HIL := hide hil
    rw [← HN.out] at HPL
    rw [hil] at HINS HPL ⊢
    clear hins hii hb3 hb3' hbw3 HIN d0 d1 hil
    go_wp2_with fail
    refine HPL.out.mono ?_
    rintro e w4 ⟨u, rfl, hss, hb4⟩
    have hsl : (Sc.plays p ins c).length = c := Sc.plays_len _ _ _
    have HSS := hide hss
    obtain ⟨sa, sc, rfl⟩ := hss.slice
    rw [hsl] at HSS ⊢
    have HW3 := hide hb4
    have hb4' : Below wA.heap.size wA w4 := HB3.out.trans (hb4.mono HB3.out.size)
    have HB4 := hide hb4'
    obtain ⟨_, _, hbw4⟩ := HBX.out w4 hb4'
    have HSC := hide (scanned_any w4 (HL.out.below (HB1.out.trans (hbw4.mono HB1.out.size))))
    clear hss hb4 hb4' hbw4 HPL e0 e1 hsl
    go_wp2_with fail
    refine HSC.out.mono ?_
    rintro e w5 ⟨rfl, hb5⟩
    have HW5 := hide hb5
    have hb5' : Below wA.heap.size wA w5 := HB4.out.trans (hb5.mono HB4.out.size)
    have HB5 := hide hb5'
    obtain ⟨f0, f1, hbw5⟩ := HBX.out w5 hb5'
    have HKI := hide (Kind_any p.names (.slice na n nc) (.slice ra m rc) 1 w5 (HNA.out.below hbw5) ⟨_, _, _, rfl⟩)
    rw [← HQ.out] at HKI
    clear hb5 hb5' hbw5 HSC
    go_wp2_with fail
    refine HKI.out.mono ?_
    rintro e w6 ⟨kv6, rfl, hown6, hb6⟩
    have HO6 := hide hown6
    obtain ⟨ka6, kc6, rfl⟩ := own_slice hown6
    have hb6' : Below wA.heap.size wA w6 := HB5.out.trans (hb6.mono HB5.out.size)
    have HB6 := hide hb6'
    have HS6 := hide (HSS.out.below (HW5.out.trans (hb6.mono HW5.out.size)))
    have HI6 := hide (HINS.out.below (HW3.out.trans ((HW5.out.trans (hb6.mono HW5.out.size)).mono HW3.out.size)))
    clear hown6 hb6 hb6' HKI HSS HINS f0 f1
    go_wp2_with fail
    go_loopw [11] (fun i wr => ∃ k : Nat, k ≤ c ∧ i = .int .i64 (k : Int) ∧ Hid (Below w6.heap.size w6 wr)) (fun i _ => c - (intOf i).toNat)
    case atStart => exact ⟨0, Nat.zero_le _, rfl, Below.refl _ _⟩
    case round =>
      obtain ⟨k, hk, rfl, HBR⟩ := hrel
      obtain ⟨d0, d1, hbw⟩ := HBX.out wr (HB6.out.trans (HBR.out.mono HB6.out.size))
      have HBW := hide hbw
      clear hbw
      by_cases hlt : k < c
      · have hkl : k < ins.length := by rw [HIL.out]; exact hlt
        have hpa := Sc.plays_at p ins k hkl
        rw [HIL.out] at hpa
        obtain ⟨hbd, hinp⟩ := Sc.step_bd p HCK.out _ ins[k] (Sc.after_bd p HCK.out (ins.take k) (fun i hi => HIQ.out i (List.mem_of_mem_take hi))) (HIQ.out _ (List.getElem_mem hkl))
        obtain ⟨g, hsa, hca, gi, gc, c0, c1, hst⟩ : ∃ g, sa = some ⟨g, 0, none⟩ ∧ c ≤ sc ∧ ∃ gi gc, wr.cell? ⟨g, k * 2, none⟩ = some (slV gi n) ∧ wr.cell? ⟨g, k * 2 + 1, none⟩ = some (slV gc n) ∧ StAt wr gi gc (Sc.step p (Sc.after p (ins.take k)) ins[k]) := by
          rcases HS6.out.below HBR.out with ⟨h0, _⟩ | ⟨g, cap, h1, h2, h3⟩
          · rw [h0] at hpa; simp at hpa
          · simp only [Value.slice.injEq] at h1
            exact ⟨g, h1.1, by rw [h1.2.2, h1.2.1]; exact h2, h3 k _ hpa⟩
        subst hsa
        unfold slV at c0 c1
        obtain ⟨gI, hia, hca2, iu, hcu, hbu⟩ : ∃ g, ia = some ⟨g, 0, none⟩ ∧ c ≤ ic ∧ ∃ u, wr.cell? ⟨g, k, none⟩ = some u ∧ Bools wr u ins[k] := by
          rcases HI6.out.below HBR.out with ⟨h0, _⟩ | ⟨g, cap, h1, h2, h3⟩
          · rw [h0] at hkl; simp at hkl
          · simp only [Value.slice.injEq] at h1
            exact ⟨g, h1.1, by rw [h1.2.2, h1.2.1]; exact h2, h3 k _ (List.getElem?_eq_getElem hkl)⟩
        subst hia
        have HIN := hide hinp
        have HBD := hide hbd
        have HST := hide hst
        have HIK := hide (HIQ.out _ (List.getElem_mem hkl))
        have HBU := hide hbu
        have HCU := hide hcu
        generalize ins[k] = inp at *
        generalize Sc.step p (Sc.after p (ins.take k)) inp = st at *
        clear hpa hbd hinp hst hbu hcu
        obtain ⟨wo, rfl⟩ : ∃ wo, wo = wr := ⟨_, rfl⟩
        obtain ⟨wS, hwS⟩ : ∃ wS, wS = wo.alloc (.cells #[.slice (some ⟨gi, 0, none⟩) n n, .slice (some ⟨gc, 0, none⟩) n n] 88) := ⟨_, rfl⟩
        have hbS : Below wo.heap.size wo wS := by rw [hwS]; exact (Below.refl _ _).alloc (Nat.le_refl _) _
        have hsS : wS.heap.size = wo.heap.size + 1 := by rw [hwS]; simp
        have hS : wS.heap[wo.heap.size]? = some (.cells #[.slice (some ⟨gi, 0, none⟩) n n, .slice (some ⟨gc, 0, none⟩) n n] 88 (0, 0)) := by rw [hwS]; exact heap_alloc_new _ _
        have HXS : Hid (∀ (W : World), Below wS.heap.size wS W → W.cell? ⟨wo.heap.size, 0, none⟩ = some (.slice (some ⟨gi, 0, none⟩) n n) ∧ W.cell? ⟨wo.heap.size, 1, none⟩ = some (.slice (some ⟨gc, 0, none⟩) n n) ∧ Below wo.heap.size wo W) := by
          intro W hW
          have e0 := (hW.block wo.heap.size (by omega)).trans hS
          exact ⟨by rw [Lib.cell_of_heap e0]; rfl, by rw [Lib.cell_of_heap e0]; rfl, hbS.trans (hW.mono (by omega))⟩
        have HSS := hide hsS
        have hw1o : w1.heap.size < wo.heap.size := World.block_lt_of_cell? _ _ d0
        clear hbS hS hsS
        go_wp2_with fail
        rw [← hwS]
        clear hwS
        go_loopw [13] (fun i wr => ∃ j : Nat, j ≤ n ∧ i = .int .i64 (j : Int) ∧ Hid (Below wS.heap.size wS wr)) (fun i _ => n - (intOf i).toNat)
        case atStart => exact ⟨0, Nat.zero_le _, rfl, Below.refl _ _⟩
        case round =>
          obtain ⟨j, hj, rfl, HBJ⟩ := hrel
          obtain ⟨s0, s1, hbo⟩ := HXS.out wr HBJ.out
          have hz := hbo.size
          have hwj := HB6.out.trans ((HBR.out.trans (hbo.mono HBR.out.size)).mono HB6.out.size)
          obtain ⟨d2, d3, hbp⟩ := HBX.out wr hwj
          have hso : wo.heap.size < wr.heap.size := World.block_lt_of_cell? _ _ s0
          by_cases hjn : j < n
          · have hjl : j < p.names.length := by rw [← HN.out]; exact hjn
            obtain ⟨gn, hna, hcn, y1, y2, y3, y4, y5, y6⟩ : ∃ g, na = some ⟨g, 0, none⟩ ∧ n ≤ nc ∧ NameAt wr g j p.names[j] := by
              rcases HNA.out.below hbp with ⟨h0, _⟩ | ⟨g, cap, h1, h2, h3, h4⟩
              · rw [h0] at hjl; simp at hjl
              · simp only [Value.slice.injEq] at h1
                exact ⟨g, h1.1, by rw [h1.2.2, h1.2.1]; exact h2, h4 j _ (List.getElem?_eq_getElem hjl)⟩
            subst hna
            have hstw := HST.out.below hbo
            have i1 := hstw.cellI j (by rw [HBD.out.li]; exact hjl)
            have i2 := hstw.cellC j (by rw [HBD.out.lc]; exact hjl)
            obtain ⟨t1, t2, t3⟩ := HBD.out.at_ j hjl
            have hgi := hstw.lt.1
            have hgc := hstw.lt.2
            have hgn : gn < wr.heap.size := World.block_lt_of_cell? _ _ y1
            clear hbo hwj hbp hstw
            generalize st.is.getD j false = bi at *
            generalize st.ct.getD j 0 = ci at *
            generalize p.names[j] = y at *
            obtain ⟨ynm, yk, yc⟩ := y
            simp only at y1 y2 y3 y4 y5 y6 t1 t2 t3
            have g1 : decide (ci < 0) = false := decide_eq_false (by omega)
            have g2 : decide (yc < ci) = false := decide_eq_false (by omega)
            have HBN : Hid (Below wS.heap.size wS (wr.alloc (.cells #[.string ⟨ynm.toArray⟩, .int .i64 yk, .int .i64 yc] 34))) := HBJ.out.alloc HBJ.out.size _
            obtain ⟨wN, hwN⟩ : ∃ wN, wN = wr.alloc (.cells #[.string ⟨ynm.toArray⟩, .int .i64 yk, .int .i64 yc] 34) := ⟨_, rfl⟩
            have hbN : Below wr.heap.size wr wN := by rw [hwN]; exact (Below.refl _ _).alloc (Nat.le_refl _) _
            have hN : wN.heap[wr.heap.size]? = some (.cells #[.string ⟨ynm.toArray⟩, .int .i64 yk, .int .i64 yc] 34 (0, 0)) := by rw [hwN]; exact heap_alloc_new _ _
            have x1 : wN.cell? ⟨wr.heap.size, 1, none⟩ = some (.int .i64 yk) := by rw [Lib.cell_of_heap hN]; rfl
            have x2 : wN.cell? ⟨wr.heap.size, 2, none⟩ = some (.int .i64 yc) := by rw [Lib.cell_of_heap hN]; rfl
            have x3 := (hbN.cell (p := ⟨wo.heap.size, 0, none⟩) hso).trans s0
            have x4 := (hbN.cell (p := ⟨wo.heap.size, 1, none⟩) hso).trans s1
            have x5 := (hbN.cell (p := ⟨gi, j, none⟩) hgi).trans i1
            have x6 := (hbN.cell (p := ⟨gc, j, none⟩) hgc).trans i2
            rw [← hwN] at HBN
            clear hbN hN i1 i2
            by_cases h3 : 3 ≤ yk
            · have e3 := t3 h3
              subst e3
              clear t3
              go_wp2_with fail
              rw [← hwN]
              clear hwN
              go_quiet (fail)
              go_wp2_with fail
              go_roundw
              case rel => exact ⟨j + 1, by omega, by go_num, HBN.out.trans ⟨rfl, rfl, rfl, Nat.le_refl _, fun _ _ => rfl⟩⟩
              case measure => simp [intOf]; omega
            · have g3 : decide (3 ≤ yk) = false := decide_eq_false h3
              clear t3
              go_wp2_with fail
              rw [← hwN]
              clear hwN
              go_quiet (fail)
              go_wp2_with fail
              go_roundw
              case rel => exact ⟨j + 1, by omega, by go_num, HBN.out.trans ⟨rfl, rfl, rfl, Nat.le_refl _, fun _ _ => rfl⟩⟩
              case measure => simp [intOf]; omega
          · have hjn' : j = n := by omega
            subst hjn'
            have HBP := hide hbp
            have HBO := hide hbo
            clear hbo hwj hbp
            go_wp2_with fail
            obtain ⟨wq, rfl⟩ : ∃ wq, wq = wr := ⟨_, rfl⟩
            go_loopw [15] (fun i wr => ∃ a : Nat, a ≤ q ∧ i = .int .i64 (a : Int) ∧ Hid (Below wq.heap.size wq wr)) (fun i _ => q - (intOf i).toNat)
            case atStart => exact ⟨0, Nat.zero_le _, rfl, Below.refl _ _⟩
            case round =>
              obtain ⟨a, ha, rfl, HBA2⟩ := hrel
              by_cases haq : a < q
              · have hal : a < (Ld.kindL p.names 1).length := by rw [← HQ.out]; exact haq
                have hbq : Below w6.heap.size w6 wr := HBR.out.trans ((HBO.out.trans (HBA2.out.mono HBO.out.size)).mono HBR.out.size)
                have hboq : Below wo.heap.size wo wr := HBO.out.trans (HBA2.out.mono HBO.out.size)
                obtain ⟨ga, hka, hkc, hac⟩ : ∃ g, ka6 = some ⟨g, 0, none⟩ ∧ q ≤ kc6 ∧ wr.cell? ⟨g, a, none⟩ = some (intV (Ld.kindL p.names 1)[a]) := by
                  rcases (own_below HO6.out hbq).2 with ⟨_, h0⟩ | ⟨g, cap, cur, h1, _, hcur, hcap, _, _, htk⟩
                  · omega
                  · simp only [Value.slice.injEq] at h1
                    exact ⟨g, h1.1, by rw [h1.2.2]; exact hcap, row_cell hcur htk (by rw [List.getElem?_map, List.getElem?_eq_getElem hal]; rfl)⟩
                subst hka
                have hlt2 := (Ld.kindL_at p.names 1 _ (List.getElem_mem hal)).1
                rw [← HN.out] at hlt2
                have hst2 := HST.out.below hboq
                have z1 := hst2.cellI (Ld.kindL p.names 1)[a] (by rw [HBD.out.li, ← HN.out]; exact hlt2)
                rw [HIN.out a hal] at z1
                have hial : a < inp.length := by rw [HIK.out]; exact hal
                obtain ⟨ua, uc, hiu, _, hub⟩ := HBU.out.below hboq
                obtain ⟨gu, hua, z2⟩ := hub a _ (List.getElem?_eq_getElem hial)
                have hgd : inp.getD a false = inp[a] := by simp [hial]
                rw [hgd] at z1
                have z3 : wr.cell? ⟨gI, k, none⟩ = some (.slice (some ⟨gu, 0, none⟩) q uc) := by
                  rw [hboq.cell (p := ⟨gI, k, none⟩) (World.block_lt_of_cell? _ _ HCU.out), HCU.out, hiu, hua, HIK.out, HQ.out]
                have z4 := (HBA2.out.cell (p := ⟨wo.heap.size, 0, none⟩) hso).trans s0
                unfold intV at hac
                clear hst2 hub hiu hgd
                generalize (Ld.kindL p.names 1)[a] = t at *
                generalize inp[a] = b at *
                have hti : (t : Int) < (j : Int) := by omega
                have HBQ := hide (HBA2.out)
                clear hbq hboq
                go_wp2_with fail
                go_quiet (fail)
                go_wp2_with fail
                go_roundw
                case rel => exact ⟨a + 1, by omega, by go_num, HBQ.out.trans ⟨rfl, rfl, rfl, Nat.le_refl _, fun _ _ => rfl⟩⟩
                case measure => simp [intOf]; omega
              · have haq' : a = q := by omega
                subst haq'
                go_wp2_with fail
                exact ⟨⟨k + 1, by omega, by go_num, HBR.out.trans ((HBO.out.trans (HBA2.out.mono HBO.out.size)).mono HBR.out.size)⟩, by simp [intOf]; omega⟩
      · have hkc : k = c := by omega
        subst hkc
        go_wp2_with fail
        go_ret
        exact ⟨rfl, HB1.out.trans (HBW.out.mono HB1.out.size)⟩
end Go.Proofs.YtlgbihmncoeanaaGreatDoor
