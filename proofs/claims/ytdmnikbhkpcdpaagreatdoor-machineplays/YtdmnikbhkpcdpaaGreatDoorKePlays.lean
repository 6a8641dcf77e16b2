/-
  The walk of the statement MachinePlays.
-/
import Derived.Test.YtdmnikbhkpcdpaaGreatDoorKeMachinedAll
import Derived.Deep.RegionHeld3
namespace Go.Proofs.YtdmnikbhkpcdpaaGreatDoor
open Go.RowKit
theorem Sc.played_at (p : Ld.Prg) (ins : List (List Bool)) (i : Nat) (hi : i < ins.length) : (Sc.plays p ins ins.length)[i]? = some (Sc.step p (Sc.after p (ins.take i)) ins[i]) := by
  unfold Sc.plays
  rw [List.getElem?_map, List.getElem?_range hi, Option.map_some, List.take_succ_eq_append_getElem hi, Sc.after_snoc]
set_option maxHeartbeats 8000000 in
set_option maxRecDepth 100000 in
theorem machinePlays_any (s : ByteArray) (l : List Int) (lv : Value) (w : World) (hs : s.size ≤ maxLen) (hl : Ints w lv l) (hll : l.length ≤ maxLen) (hL : Laid w) :
    Calls Tryz.prog 3 #[.string s, lv] w fun e w' => e = .returned (.bool true) ∧ Below w.heap.size w w' := by
  have HL := hide hL
  have HLI := hide hl
  obtain ⟨c, hc⟩ : ∃ c, c = l.length := ⟨_, rfl⟩
  have HC := hide hc
  obtain ⟨la, lc, rfl⟩ := hl.slice
  unfold maxLen at hll
  have HMD := hide (kmade_any s 300 w hs hL (by omega))
  rw [← hc] at HLI hll ⊢
  obtain ⟨T, hT⟩ : ∃ T, T = madeP s 300 := ⟨_, rfl⟩
  rw [← hT] at HMD
  have HT := hide hT
  clear hT hs hl hL hc
  go_enter Tryz.func3, Tryz.ntmps3
  go_wp2_with fail
  refine HMD.out.mono ?_
  intro e w1 hq
  clear HMD
  match T, hq, HT with
  | none, hq, _ =>
    obtain ⟨hb1, rfl⟩ := hq
    have HMC := hide (machined_any w1 (HL.out.below hb1))
    have HB1 := hide hb1
    clear hb1
    go_wp2_with fail
    refine HMC.out.mono ?_
    rintro e w2 ⟨rfl, hb2⟩
    have HB2 := hide (HB1.out.trans (hb2.mono HB1.out.size))
    clear hb2 HMC
    go_wp2_with fail
    go_ret
    exact ⟨rfl, HB2.out⟩
  | some p, hq, HT =>
    obtain ⟨hb1, bm, rfl, hbm, hmach, hck⟩ := hq
    have HB1 := hide hb1
    by_cases q40 : 40 < c
    · have q40' : (40 : Int) < (c : Int) := by omega
      have HMC := hide (machined_any w1 (HL.out.below hb1))
      clear hb1 hmach
      go_wp2_with fail
      refine HMC.out.mono ?_
      rintro e w2 ⟨rfl, hb2⟩
      have HB2 := hide (HB1.out.trans (hb2.mono HB1.out.size))
      clear hb2 HMC
      go_wp2_with fail
      go_ret
      exact ⟨rfl, HB2.out⟩
    have q40' : ¬ (40 : Int) < (c : Int) := by omega
    have HMA := hide hmach
    have HCK := hide hck
    obtain ⟨hq4, hS3⟩ : (Ld.kindL p.names 1).length ≤ 4 ∧ Mc.total (Mc.parts p) ≤ 300 := by
      have h := HT.out
      unfold madeP at h
      cases hr : readP s with
      | none => rw [hr] at h; simp [fewP] at h
      | some p' =>
        rw [hr] at h
        simp only [fewP] at h
        split at h
        · rename_i hx; cases h; exact hx
        · cases h
    obtain ⟨nv, rv, g, gN, gS, lo, uN, uS, h1, ⟨⟨hN1, hN2⟩, h3, h4⟩, h5, h6⟩ := hmach
    have HPR := hide h5
    have HM1 := hide h1
    have HTN := hide h3
    have HTS := hide h4
    have HRO := hide h6
    obtain ⟨q, hqq⟩ : ∃ q, q = (Ld.kindL p.names 1).length := ⟨_, rfl⟩
    have HQ := hide hqq
    obtain ⟨S, hSS⟩ : ∃ S, S = Mc.total (Mc.parts p) := ⟨_, rfl⟩
    have HS := hide hSS
    obtain ⟨n, hnn⟩ : ∃ n, n = p.names.length := ⟨_, rfl⟩
    have HN := hide hnn
    have hn12 : n ≤ 12 := by rw [hnn]; exact (Ld.check_names p hck).1
    obtain ⟨I, hII⟩ : ∃ I, I = 2 ^ q := ⟨_, rfl⟩
    have HI := hide hII
    have hI16 : I ≤ 16 := by rw [hII, hqq]; exact Nat.pow_le_pow_right (by decide) hq4
    have hI1 : 1 ≤ I := by rw [hII]; exact Nat.pow_pos (by decide)
    rw [← hqq] at hq4 h1 HM1 HTN HTS
    rw [← hSS] at hS3 h1 HM1 HTN HTS hN1 hN2
    rw [← hII] at h1 HM1 HTN HTS
    rw [← hnn] at h1 HM1
    obtain ⟨⟨c0, c1⟩, ⟨c2, c3⟩, c4, c5, c6⟩ := h1.cells
    obtain ⟨nv', rv', he, hn, hr⟩ := h5
    simp only [Value.agg.injEq, List.toArray_eq_iff, List.cons.injEq, and_true] at he
    obtain ⟨rfl, rfl⟩ := he
    have HNA := hide hn
    obtain ⟨na, nk, nc, rfl⟩ := slice_of hn
    obtain ⟨ra, rk, rc, rfl⟩ := slice_ofR hr
    have hbl : bm < w1.heap.size := HMA.out.lt
    obtain ⟨wA, hwA⟩ : ∃ wA, wA = w1.alloc (.cells #[.slice na nk nc, .slice ra rk rc] 30) := ⟨_, rfl⟩
    have hbA : Below w1.heap.size w1 wA := by rw [hwA]; exact (Below.refl _ _).alloc (Nat.le_refl _) _
    have hsA : wA.heap.size = w1.heap.size + 1 := by rw [hwA]; simp
    have hA : wA.heap[w1.heap.size]? = some (.cells #[.slice na nk nc, .slice ra rk rc] 30 (0, 0)) := by rw [hwA]; exact heap_alloc_new _ _
    have HX : Hid (∀ W, Below wA.heap.size wA W → (W.cell? ⟨w1.heap.size, 0, none⟩ = some (.slice na nk nc) ∧ W.cell? ⟨w1.heap.size, 1, none⟩ = some (.slice ra rk rc)) ∧ Below w1.heap.size w1 W) := by
      intro W hW
      have e0 := (hW.block w1.heap.size (by omega)).trans hA
      exact ⟨⟨by rw [Lib.cell_of_heap e0]; rfl, by rw [Lib.cell_of_heap e0]; rfl⟩, hbA.trans (hW.mono (by omega))⟩
    have HBA := hide hbA
    clear hb1 h1 h3 h4 h6 hqq hSS hnn hII hn hr hck hbA hA
    have hqi : (q : Int) ≤ 4 := by omega
    go_wp2_with fail
    rw [← hwA]
    clear hwA
    have HD : Hid (Below wA.heap.size wA wA.drew) := ⟨rfl, rfl, rfl, Nat.le_refl _, fun _ _ => rfl⟩
    have HKI := hide (fun W (hW : Below wA.heap.size wA W) => Kind_any p.names (.slice na nk nc) (.slice ra rk rc) 1 W (HNA.out.below (HX.out W hW).2) ⟨_, _, _, rfl⟩)
    rw [← HQ.out] at HKI
    have HKI2 := hide (fun W (hW : Below wA.heap.size wA W) => kinputs_any l _ q W (HLI.out.below (HB1.out.trans ((HX.out W hW).2.mono HB1.out.size))) (by rw [← HC.out]; omega) (by omega))
    obtain ⟨ins, hii⟩ : ∃ ins, ins = l.map fun x => bitsTo x q := ⟨_, rfl⟩
    rw [← hii] at HKI2
    have hil : ins.length = c := by rw [hii, List.length_map]; exact HC.out.symm
    have HIQ : Hid (∀ i, i ∈ ins → i.length = (Ld.kindL p.names 1).length) := fun i hi => by
      rw [hii] at hi
      obtain ⟨x, _, rfl⟩ := List.mem_map.1 hi
      rw [bitsTo_len]; exact HQ.out
    have HPL := hide (fun W iv (hW : Below wA.heap.size wA W) (hin : InsAt W iv ins) => Play_any p _ iv ins W (HPR.out.below (HX.out W hW).2) HCK.out hin (by omega) HIQ.out)
    obtain ⟨⟨a0, a1⟩, _⟩ := HX.out wA (Below.refl _ _)
    have HIL := hide hil
    rw [hil] at HPL
    have HIN : Hid (∀ (k : Nat) x, l[k]? = some x → ins[k]? = some (bitsTo x q)) := fun k x hx => by rw [hii, List.getElem?_map, hx]; rfl
    have HPN : Hid ((Sc.plays p ins c).length = c) := Sc.plays_len _ _ _
    clear hii hil
    have HKEEP : Hid (∀ W, Below wA.heap.size wA W → W.cell? ⟨w1.heap.size, 0, none⟩ = some (.slice na nk nc) ∧ W.cell? ⟨w1.heap.size, 1, none⟩ = some (.slice ra rk rc)) := fun W hW => (HX.out W hW).1
    go_region_held3 (fun W => W.cell? ⟨w1.heap.size, 0, none⟩ = some (.slice na nk nc) ∧ W.cell? ⟨w1.heap.size, 1, none⟩ = some (.slice ra rk rc)) ((refine HKEEP.out _ ?_; first | exact HD.out | exact HB2.out | exact HB3.out | exact HB4.out | exact Below.refl _ _)) ((first
      | (go_at_call 12; (with_reducible refine (HKI.out _ HD.out).mono ?_); rintro e w2 ⟨kv, rfl, hown, hb2⟩; obtain ⟨ka, kc, rfl⟩ := own_slice hown; have HB2 : Hid (Below wA.heap.size wA w2) := HD.out.trans hb2; clear hown hb2)
      | (go_at_call 11; (with_reducible refine (HKI2.out _ HB2.out).mono ?_); rintro e w3 ⟨iv, rfl, hins, hb3⟩; obtain ⟨ia, ic, hiv⟩ := hins.slice; rw [HIL.out] at hiv; subst hiv; have HB3 : Hid (Below wA.heap.size wA w3) := HB2.out.trans (hb3.mono HB2.out.size); have HINS := hide hins; clear hins hb3)
      | (go_at_call 10; (with_reducible refine (HPL.out _ _ HB3.out HINS.out).mono ?_); rintro e w4 ⟨u, rfl, hss, hb4⟩; obtain ⟨sa, sc, hiv⟩ := hss.slice; rw [HPN.out] at hiv; subst hiv; have HB4 : Hid (Below wA.heap.size wA w4) := HB3.out.trans (hb4.mono HB3.out.size); have HSS := hide hss; clear hss hb4)))
    obtain ⟨_, hbw4⟩ := HX.out w4 HB4.out
    have HMC := hide (machined_any w4 (HL.out.below (HB1.out.trans (hbw4.mono HB1.out.size))))
    clear HKI HKI2 HPL hbw4 HKEEP a0 a1
    go_wp2_with fail
    refine HMC.out.mono ?_
    rintro e w5 ⟨rfl, hb5⟩
    have HB45 := hide hb5
    have HB5 := hide (HB4.out.trans (hb5.mono HB4.out.size))
    have HW15 : Hid (∀ W, Below w5.heap.size w5 W → Below w1.heap.size w1 W) := fun W hW => (HX.out W (HB5.out.trans (hW.mono HB5.out.size))).2
    have HST5 := hide (HSS.out.below hb5)
    clear hb5 HMC HSS HINS
    have HN0 : Hid (Mc.number (Mc.parts p) (Sc.after p (ins.take 0)).is (Sc.after p (ins.take 0)).ct = 0) := Mc.number_start p
    go_wp2_with fail
    go_loopw [10, 11] (fun sv i wr => ∃ k : Nat, k ≤ c ∧ i = .int .i64 (k : Int) ∧ sv = .int .i64 (Mc.number (Mc.parts p) (Sc.after p (ins.take k)).is (Sc.after p (ins.take k)).ct : Int) ∧ Hid (Below w5.heap.size w5 wr)) (fun _ i _ => c - (intOf i).toNat)
    case atStart => exact ⟨0, Nat.zero_le _, rfl, by rw [HN0.out]; rfl, Below.refl _ _⟩
    case round =>
      obtain ⟨k, hk, rfl, rfl, HBR⟩ := hrel
      have hw1r := HW15.out wr HBR.out
      have HW1R := hide hw1r
      by_cases hlt : k < c
      · have hkl : k < l.length := by rw [← HC.out]; exact hlt
        have hki : k < ins.length := by rw [HIL.out]; exact hlt
        have hx := List.getElem?_eq_getElem hkl
        have hix := HIN.out k _ hx
        have hpa := Sc.played_at p ins k hki
        rw [HIL.out] at hpa
        rw [List.getElem?_eq_getElem hki] at hix
        have hix := Option.some.inj hix
        have HNEXT : Hid (Sc.after p (ins.take (k + 1)) = Sc.step p (Sc.after p (ins.take k)) ins[k]) := by show _ = _; rw [List.take_succ_eq_append_getElem hki, Sc.after_snoc]
        have HBD := hide (Sc.after_bd p HCK.out (ins.take k) (fun i hi => HIQ.out i (List.mem_of_mem_take hi)))
        have HBD2 := hide (Sc.step_bd p HCK.out _ ins[k] HBD.out (HIQ.out _ (List.getElem_mem hki))).1
        rw [hix] at hpa HNEXT HBD2
        obtain ⟨lg, lo2, hla, l0⟩ := (HLI.out.below (HB1.out.trans (hw1r.mono HB1.out.size))).cell k _ hx
        subst hla
        obtain ⟨g2, hsa, hca, gi, gc, s0, s1, hst⟩ : ∃ g, sa = some ⟨g, 0, none⟩ ∧ c ≤ sc ∧ ∃ gi gc, wr.cell? ⟨g, k * 2, none⟩ = some (slV gi p.names.length) ∧ wr.cell? ⟨g, k * 2 + 1, none⟩ = some (slV gc p.names.length) ∧ StAt wr gi gc (Sc.step p (Sc.after p (ins.take k)) (bitsTo l[k] q)) := by
          rcases HST5.out.below HBR.out with ⟨h0, _⟩ | ⟨g, cap, h1, h2, h3⟩
          · rw [h0] at hpa; simp at hpa
          · simp only [Value.slice.injEq] at h1
            exact ⟨g, h1.1, by rw [h1.2.2, h1.2.1]; exact h2, h3 k _ hpa⟩
        subst hsa
        rw [← HN.out] at s0 s1
        unfold slV at s0 s1
        have HST := hide hst
        generalize hsk : Sc.after p (ins.take k) = st at *
        generalize hxk : l[k] = x at *
        obtain ⟨st2, hst2⟩ : ∃ st2, st2 = Sc.step p st (bitsTo x q) := ⟨_, rfl⟩
        have HST2 := hide hst2
        rw [← hst2] at HNEXT HBD2 HST
        obtain ⟨m, hm⟩ : ∃ m, m = Mc.number (Mc.parts p) st.is st.ct := ⟨_, rfl⟩
        obtain ⟨m2, hm2⟩ : ∃ m2, m2 = Mc.number (Mc.parts p) st2.is st2.ct := ⟨_, rfl⟩
        have hmS : m < S := by rw [hm, HS.out]; exact Mc.number_after p st HBD.out
        have hm2S : m2 < S := by rw [hm2, HS.out]; exact Mc.number_after p st2 HBD2.out
        obtain ⟨iN, hiN⟩ : ∃ iN : Nat, (iN : Int) = x % 18446744073709551616 % (I : Int) := ⟨(x % 18446744073709551616 % (I : Int)).toNat, by have := Int.emod_nonneg (x % 18446744073709551616) (show (I : Int) ≠ 0 by omega); omega⟩
        have hiI : iN < I := by have := Int.emod_lt_of_pos (x % 18446744073709551616) (show (0 : Int) < (I : Int) by omega); omega
        have HAF : Hid (Mc.after1 p q m iN = st2) := by
          show _ = _
          rw [hm, Mc.after1_eq p HCK.out st HBD.out x q iN HQ.out (by rw [hiN, HI.out]; exact Mc.mod_mod x q (by omega)), hst2]
        have HPK := hide (fun W => pick_any x I W hI1 (by omega))
        rw [← hiN] at HPK
        have HM2 := hide hm2
        rw [← hm]
        clear hsk hxk hst hpa hix hx hst2 hm hm2 hiN
        obtain ⟨⟨b0, b1⟩, ⟨b2, b3⟩, b4, b5, b6⟩ := (HM1.out.below hw1r).cells
        obtain ⟨bN, hbN⟩ : ∃ b, uN[m]? = some b := ⟨_, List.getElem?_eq_getElem (by omega)⟩
        have t0 := (HTN.out.below hw1r).cell m bN hbN
        have t1 := ((HTN.out.below hw1r).row m bN hbN).1.cell iN _ (Mc.nextRow_at p q I m iN hiI)
        rw [HAF.out, ← HM2.out] at t1
        have hl2 : st2.is.length = n := by rw [HBD2.out.li, HN.out]
        have HVB : Hid (bitsTo (Mc.val st2.is : Int) n = st2.is) := by show _ = _; rw [← hl2]; exact Mc.val_back _
        have HL2 := hide hl2
        have HSEE := hide (fun W (hW : Below w1.heap.size w1 W) => Sees_any bm n _ _ _ S I g gS lo m iN (Mc.val st2.is) uS (Mc.seesRow p q I) W (HM1.out.below hW) (HTS.out.below hW) hN2 hmS hiI hn12 (by rw [Mc.seesRow_at _ _ _ _ _ hiI, HAF.out]))
        have HNUM := hide (fun W (hW : Below w1.heap.size w1 W) gi gc s (hs : StAt W gi gc s) (hb : Sc.Bd p s) => MNumber_any bm p _ _ _ _ S I g gi gc s W (by rw [← HN.out]; exact HM1.out.below hW) (HRO.out.below hW) (by rw [← HS.out]; omega) HCK.out hs hb)
        rw [← HN.out] at HNUM
        have HSTA := hide (fun W (hW : Below w1.heap.size w1 W) => MState_any bm p _ _ _ _ S I m2 g W (by rw [← HN.out]; exact HM1.out.below hW) (HRO.out.below hW) hm2S (by omega) HCK.out)
        have HK : Hid (∀ W, Below wr.heap.size wr W → W.cell? ⟨lg, lo2 + k, none⟩ = some (.int .i64 x) ∧ W.cell? ⟨bm, 3, none⟩ = some (.int .i64 (I : Int))) := fun W hW =>
          have key : ∀ (p : Addr) v, wr.cell? p = some v → W.cell? p = some v := fun _ _ hv => (hW.cell (World.block_lt_of_cell? _ _ hv)).trans hv
          ⟨key _ _ l0, key _ _ b3⟩
        have HDR : Hid (Below wr.heap.size wr wr.drew) := ⟨rfl, rfl, rfl, Nat.le_refl _, fun _ _ => rfl⟩
        have hkc : (k : Int) < (c : Int) := by omega
        clear hl2 hbN b0 b1 b2 b5 b6 hw1r
        unfold slV at t0 b4
        go_wp2_with fail
        go_region_held3 (fun W => W.cell? ⟨lg, lo2 + k, none⟩ = some (.int .i64 x) ∧ W.cell? ⟨bm, 3, none⟩ = some (.int .i64 (I : Int))) ((refine HK.out _ ?_; first | exact HDR.out | exact Below.refl _ _)) ((go_at_call 13; (with_reducible refine (HPK.out _).mono ?_); rintro e w6 ⟨rfl, rfl⟩))
        have HW1D := hide (HW1R.out.trans (HDR.out.mono HW1R.out.size))
        have HS1 := hide (HSEE.out _ HW1D.out)
        go_wp2_with fail
        refine HS1.out.mono ?_
        rintro e w6 ⟨gb, rfl, hrow, hgb, hb6⟩
        rw [HVB.out] at hrow
        have hr6 : Below wr.heap.size wr w6 := HDR.out.trans hb6
        have HR6 := hide hr6
        have key6 : ∀ (p : Addr) v, wr.cell? p = some v → w6.cell? p = some v := fun _ _ hv => (hr6.cell (World.block_lt_of_cell? _ _ hv)).trans hv
        have s06 := key6 _ _ s0
        have hB1 : Bools w6 (slV gb n) st2.is := by rw [← HL2.out]; exact bools_row hrow (by rw [HL2.out]; omega)
        have hB2 : Bools w6 (slV gi n) st2.is := by rw [← HL2.out]; exact bools_row (HST.out.below hr6).rowI (by rw [HL2.out]; omega)
        have HSB := hide (sameB_any st2.is _ _ w6 hB1 hB2)
        unfold slV at HSB ⊢
        clear hB1 hB2 hrow hb6 hr6 key6 HS1
        go_wp2_with fail
        refine HSB.out.mono ?_
        rintro e w7 ⟨rfl, hb7⟩
        have hr7 : Below wr.heap.size wr w7 := HR6.out.trans (hb7.mono HR6.out.size)
        have HR7 := hide hr7
        have key7 : ∀ (p : Addr) v, wr.cell? p = some v → w7.cell? p = some v := fun _ _ hv => (hr7.cell (World.block_lt_of_cell? _ _ hv)).trans hv
        have x0 := key7 _ _ s0
        have x1 := key7 _ _ s1
        have x2 := key7 _ _ b4
        have x3 := key7 _ _ t0
        have x4 := key7 _ _ t1
        have HW7 := hide (HW1R.out.trans (hr7.mono HW1R.out.size))
        have HC1 := hide (HNUM.out w7 HW7.out gi gc st2 (HST.out.below hr7) HBD2.out)
        rw [← HM2.out] at HC1
        have hmi : (m : Int) < (S : Int) := by omega
        have hii : (iN : Int) < (I : Int) := by omega
        unfold stV at HC1
        clear hb7 hr7 key7 HSB s06
        go_wp2_with fail
        refine HC1.out.mono ?_
        rintro e w8 ⟨rfl, hb8⟩
        have HR8 := hide (HR7.out.trans (hb8.mono HR7.out.size))
        have HW8 := hide (HW1R.out.trans (HR8.out.mono HW1R.out.size))
        have HC2 := hide (HSTA.out w8 HW8.out)
        clear hb8 HC1 x0 x1 x2 x3 x4
        go_wp2_with fail
        refine HC2.out.mono ?_
        rintro e w9 ⟨gi2, gc2, rfl, hst9, _, _, hb9⟩
        have HR9 := hide (HR8.out.trans (hb9.mono HR8.out.size))
        have HW9 := hide (HW1R.out.trans (HR9.out.mono HW1R.out.size))
        have hlen9 : (Mc.state (Mc.parts p) m2).is.length = n := by rw [HN.out]; exact (Mc.state_bd p HCK.out m2).li
        have HC3 := hide (HNUM.out w9 HW9.out gi2 gc2 _ hst9 (Mc.state_bd p HCK.out m2))
        have hback : Mc.number (Mc.parts p) (Mc.state (Mc.parts p) m2).is (Mc.state (Mc.parts p) m2).ct = m2 := Mc.number_state (Mc.parts p) m2 (Mc.parts_ok p) (by rw [← HS.out]; exact hm2S)
        rw [hback] at HC3
        rw [hlen9]
        unfold stV at HC3 ⊢
        clear hst9 hb9 hlen9 hback HC2
        go_wp2_with fail
        refine HC3.out.mono ?_
        rintro e w10 ⟨rfl, hb10⟩
        have HR10 := hide (HR9.out.trans (hb10.mono HR9.out.size))
        clear hb10 HC3
        go_wp2_with fail
        go_roundw
        case rel => exact ⟨k + 1, by omega, by go_num, by rw [HNEXT.out, HM2.out], HBR.out.trans (HR10.out.mono HBR.out.size)⟩
        case measure => simp [intOf]; omega
      · have hkc : k = c := by omega
        subst hkc
        have hbr := HX.out wr (HB5.out.trans (HBR.out.mono HB5.out.size))
        obtain ⟨⟨p0, p1⟩, _⟩ := hbr
        have HSTT := hide (Start_any p _ wr (HPR.out.below hw1r) (by rw [← HN.out]; exact hn12))
        clear hw1r
        go_wp2_with fail
        refine HSTT.out.mono ?_
        rintro e w6 ⟨gi2, gc2, rfl, hst6, _, _, hb6⟩
        have HR6 := hide hb6
        have HW6 := hide (HW1R.out.trans (hb6.mono HW1R.out.size))
        have hlen6 : (Sc.start p).is.length = n := by rw [HN.out]; simp [Sc.start]
        have HC3 := hide (MNumber_any bm p _ _ _ _ S I g gi2 gc2 _ w6 (by rw [← HN.out]; exact HM1.out.below HW6.out) (HRO.out.below HW6.out) (by rw [← HS.out]; omega) HCK.out hst6 (Sc.start_bd p HCK.out))
        rw [Mc.number_start, ← HN.out] at HC3
        rw [hlen6]
        unfold stV at HC3 ⊢
        clear hst6 hb6 hlen6 HSTT
        go_wp2_with fail
        refine HC3.out.mono ?_
        rintro e w7 ⟨rfl, hb7⟩
        have HR7 := hide (HR6.out.trans (hb7.mono HR6.out.size))
        have HF := hide (HB1.out.trans ((HW1R.out.trans (HR7.out.mono HW1R.out.size)).mono HB1.out.size))
        clear hb7 HC3
        go_wp2_with fail
        go_ret
        exact ⟨rfl, HF.out⟩
end Go.Proofs.YtdmnikbhkpcdpaaGreatDoor
