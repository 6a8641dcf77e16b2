/-
  The walk of the statement CoverGoes.
-/
import Derived.Test.YtglmpkpcbafgdaaGreatDoorTrTour
import Derived.Test.YtglmpkpcbafgdaaGreatDoorCvSayAll
import Derived.Test.YtglmpkpcbafgdaaGreatDoorMcD7All
import Derived.Test.YtglmpkpcbafgdaaGreatDoorKeFewAll
namespace Go.Proofs.YtglmpkpcbafgdaaGreatDoor
open Go.RowKit Tr
namespace Tr
/-- what is behind the making of two rows of marks -/
def Marks (w : World) (n m : Nat) (v1 v2 : Value) (W : World) : Prop := ∃ g1 g2, v1 = .slice (some ⟨g1, 0, none⟩) n n ∧ v2 = .slice (some ⟨g2, 0, none⟩) m m ∧ w.heap.size ≤ g1 ∧ w.heap.size ≤ g2 ∧ g1 ≠ g2 ∧ RowIs W g1 4 (List.replicate n (.bool false)) ∧ RowIs W g2 4 (List.replicate m (.bool false)) ∧ Below w.heap.size w W
theorem marks_one (w : World) (n m : Nat) (c1 c2 : List Value) (h1 : c1 = List.replicate n (.bool false)) (h2 : c2 = List.replicate m (.bool false)) : Marks w n m (.slice (some ⟨w.heap.size, 0, none⟩) n n) (.slice (some ⟨w.heap.size + 1, 0, none⟩) m m) ((w.alloc (.cells ⟨c1⟩ 4)).alloc (.cells ⟨c2⟩ 4)).drew := by
  refine ⟨_, _, rfl, rfl, Nat.le_refl _, by omega, by omega, ?_, ?_, drewN_low (((Below.refl _ w).alloc (Nat.le_refl _) _).alloc (by simp) _) 1⟩
  · rw [← h1]; exact (RowIs.new w 4 c1).alloc _
  · rw [← h2]
    have := RowIs.new (w.alloc (.cells ⟨c1⟩ 4)) 4 c2
    rw [World.size_alloc] at this
    exact this
theorem marks_two (w : World) (n m : Nat) (c1 c2 : List Value) (h1 : c1 = List.replicate n (.bool false)) (h2 : c2 = List.replicate m (.bool false)) : Marks w n m (.slice (some ⟨w.heap.size + 1, 0, none⟩) n n) (.slice (some ⟨w.heap.size, 0, none⟩) m m) ((w.alloc (.cells ⟨c2⟩ 4)).alloc (.cells ⟨c1⟩ 4)).drew := by
  refine ⟨_, _, rfl, rfl, by omega, Nat.le_refl _, by omega, ?_, ?_, drewN_low (((Below.refl _ w).alloc (Nat.le_refl _) _).alloc (by simp) _) 1⟩
  · rw [← h1]
    have := RowIs.new (w.alloc (.cells ⟨c2⟩ 4)) 4 c1
    rw [World.size_alloc] at this
    exact this
  · rw [← h2]; exact (RowIs.new w 4 c2).alloc _
end Tr
set_option maxHeartbeats 8000000 in
set_option maxRecDepth 100000 in
theorem coverGoes_any (s : ByteArray) (w : World) (hs : s.size ≤ maxLen) (hL : Laid w) :
    Calls Tryz.prog 3 #[.string s] w fun e w' => e = .returned (.bool true) ∧ Below w.heap.size w w' := by
  have HMD := hide (kmade_any s 60 w hs hL (by omega))
  obtain ⟨T, hT⟩ : ∃ T, T = madeP s 60 := ⟨_, rfl⟩
  rw [← hT] at HMD
  have HT := hide hT
  clear hT hs hL
  go_enter Tryz.func3, Tryz.ntmps3
  go_wp2_with fail
  refine HMD.out.mono ?_
  intro e w1 hq
  clear HMD
  match T, hq, HT with
  | none, hq, _ =>
    obtain ⟨hb1, rfl⟩ := hq
    have HB1 := hide hb1
    clear hb1
    go_wp2_with fail
    refine (Cv.covered_any w1).mono ?_
    rintro e w2 ⟨rfl, hb2⟩
    have HB2 := hide (HB1.out.trans (hb2.mono HB1.out.size))
    clear hb2
    go_wp2_with fail
    go_ret
    exact ⟨rfl, HB2.out⟩
  | some p, hq, HT =>
    obtain ⟨hb1, bm, rfl, hbm, hmach, hck⟩ := hq
    have HB1 := hide hb1
    obtain ⟨hq4, hS3⟩ := made_few HT.out
    obtain ⟨gN, uN, hna⟩ := hmach.next
    obtain ⟨c2, c3⟩ := hmach.sizes
    have hnl := fun s => Mc.nexts_len p s
    have hnx : ∀ f s, f < Mc.total (Mc.parts p) → s ∈ Mc.nexts p f → s < Mc.total (Mc.parts p) := fun f s _ hs => Mc.nexts_lt p hck f s hs
    have hS1 := Mc.total_pos (Mc.parts p) (Mc.parts_ok p)
    have hI16 : 2 ^ (Ld.kindL p.names 1).length ≤ 16 := Nat.pow_le_pow_right (n := 2) (by decide) hq4
    have hI1 : 1 ≤ 2 ^ (Ld.kindL p.names 1).length := Nat.pow_pos (by decide)
    clear hmach hck HT hq4 hb1
    generalize Mc.total (Mc.parts p) = S at *
    generalize 2 ^ (Ld.kindL p.names 1).length = I at *
    generalize Mc.nexts p = next at *
    have HNA := hide hna
    have HNL := hide hnl
    have HNX := hide hnx
    have HOK := hide (ok_far next I S hS1 hnl hnx)
    have HTR := hide (Tour_any bm S I gN next uN w1 hna hS1 (by omega) hI1 (by omega) hnl hnx)
    have HC2 := hide c2
    have HC3 := hide c3
    clear hna hnl hnx c2 c3
    go_wp2_with fail
    refine HTR.out.mono ?_
    rintro e w2 ⟨⟨l, G, a, x, c, all, rfl, hown, htour, hall, hsum⟩, hb2⟩
    have HOWN := hide hown
    have HTOUR := hide htour
    have HALL := hide hall
    have HSUM := hide hsum
    have HB2 := hide hb2
    clear hown htour hall hsum hb2 HTR
    go_wp2_with fail
    refine (Cv.covered_any w2).mono ?_
    rintro e w3 ⟨rfl, hb3⟩
    have HB3 := hide (HB2.out.trans (hb3.mono HB2.out.size))
    have HO3 := hide (ownB HOWN.out hb3)
    clear hb3 HOWN HB2
    have hSI : S * I ≤ 60 * 16 := Nat.mul_le_mul hS3 hI16
    obtain ⟨M, hM⟩ : ∃ M, M = S * I := ⟨_, rfl⟩
    have HM := hide hM
    have hMi : (S : Int) * (I : Int) = (M : Int) := by rw [hM, Int.natCast_mul]
    rw [← hM] at hSI
    have mk1 := fun w => makeBs S (by omega) w
    have mk2 := fun w => makeBs M (by omega) w
    obtain ⟨cb1, hcb1⟩ : ∃ cb, cb = List.replicate S (Value.bool false) := ⟨_, rfl⟩
    obtain ⟨cb2, hcb2⟩ : ∃ cb, cb = List.replicate M (Value.bool false) := ⟨_, rfl⟩
    have HCB1 := hide hcb1
    have HCB2 := hide hcb2
    rw [← hcb1] at mk1
    rw [← hcb2] at mk2
    have key3 : ∀ (p : Addr) v, w1.cell? p = some v → w3.cell? p = some v := fun _ _ hv => (HB3.out.cell (World.block_lt_of_cell? _ _ hv)).trans hv
    have d2 := key3 _ _ HC2.out
    have d3 := key3 _ _ HC3.out
    have keyA : ∀ (p : Addr) v o, w3.cell? p = some v → (w3.alloc o).cell? p = some v := fun p v o hv => by rw [World.cell?_alloc_old _ _ _ (Nat.ne_of_lt (World.block_lt_of_cell? _ _ hv))]; exact hv
    have d4 := fun o => keyA _ _ o d2
    have d5 := fun o => keyA _ _ o d3
    clear key3 keyA hM hcb1 hcb2
    obtain ⟨L, hLn⟩ : ∃ L, L = l.length := ⟨_, rfl⟩
    have HL := hide hLn
    rw [← hLn] at HO3 ⊢
    clear hLn
    go_upto_region 7 with fail
    go_cut [8, 9] (fun v1 v2 wx => Marks w3 S M v1 v2 wx)
    case first =>
      go_region
      all_goals
        go_wp2_with fail
        go_meet
        first | exact marks_one w3 S M cb1 cb2 HCB1.out HCB2.out | exact marks_two w3 S M cb1 cb2 HCB1.out HCB2.out
    case rest =>
      obtain ⟨g1, g2, rfl, rfl, hg1, hg2, hg12, hr1, hr2, hb4⟩ := hcut
      obtain ⟨w4, rfl⟩ : ∃ w4, w4 = wc := ⟨wc, rfl⟩
      have HR1 := hide hr1
      have HR2 := hide hr2
      have HB4 := hide hb4
      have f0 : w4.cell? ⟨g1, 0, none⟩ = some (.bool false) := hr1.cell 0 _ (by rw [List.getElem?_replicate, if_pos (by omega)])
      have f1 := hr1.frozen 0
      obtain ⟨w5, hw5⟩ : ∃ w5, w5 = w4.setCell ⟨g1, 0, none⟩ (.bool true) := ⟨_, rfl⟩
      have HW5 := hide hw5
      have HK5 : Hid (Kept w3.heap.size g1 g2 w3 w5) := by
        show Kept _ _ _ _ _
        rw [hw5]
        exact Kept.set ⟨HB4.out.os, HB4.out.tape, HB4.out.output, HB4.out.size, fun k hk _ _ => HB4.out.block k hk⟩ g1 0 _ (.inl rfl)
      have HR5 : Hid (RowIs w5 g1 4 (((ct next I S (l.take 0)).R).map boolV)) := by
        show RowIs _ _ _ _
        rw [hw5]
        have h1 := HR1.out.set 0 (.bool true)
        show RowIs _ _ _ (((List.replicate S false).set 0 true).map boolV)
        rw [List.map_set, List.map_replicate]
        exact h1
      have HB5 : Hid (RowIs w5 g2 4 (((ct next I S (l.take 0)).B).map boolV)) := by
        show RowIs _ _ _ _
        rw [hw5]
        have h1 := HR2.out.other g1 0 (.bool true) (fun e => hg12 e.symm)
        show RowIs _ _ _ ((List.replicate (S * I) false).map boolV)
        rw [List.map_replicate, ← HM.out]
        exact h1
      have HSML := hide (ct_small HOK.out hS1 HTOUR.out.ok)
      have HLONG : Hid (l.length ≤ 57600) := by
        have h1 := HTOUR.out.long
        have h2 := sum_le I G (fun s => HTOUR.out.inv.gle s)
        rw [HTOUR.out.inv.lenG, ← HM.out] at h2
        have h3 : G.sum * S ≤ 960 * 60 := Nat.mul_le_mul (by omega) hS3
        show _ ≤ _
        omega
      have hLB : L ≤ 57600 := by rw [HL.out]; exact HLONG.out
      have HNR : Hid (NRow w3 (.slice x L c) l) := by
        have h1 := HO3.out
        rw [HL.out] at h1 ⊢
        exact NRow.own h1
      have HCL : Hid (L ≤ c) := by
        obtain ⟨_, _, e, h2, _⟩ := HNR.out
        simp only [Value.slice.injEq] at e
        show _ ≤ _
        omega
      have hcl := HCL.out
      have HKEY : Hid (∀ W, Kept w3.heap.size g1 g2 w3 W → ∀ (p : Addr) v, w3.cell? p = some v → W.cell? p = some v) := fun W hW p v hv => by
        have hlt := World.block_lt_of_cell? _ _ hv
        exact (World.cell?_of_block (hW.block p.block hlt (by omega) (by omega))).trans hv
      have HN3 := hide (HNA.out.below HB3.out)
      clear hr1 hr2 hb4 d2 d3 d4 d5 mk1 mk2 hw5 HR1 HR2 hMi
      have HD2 : Hid (w3.cell? ⟨bm, 2, none⟩ = some (.int .i64 (S : Int))) := (HB3.out.cell (World.block_lt_of_cell? _ _ HC2.out)).trans HC2.out
      have HD3 : Hid (w3.cell? ⟨bm, 3, none⟩ = some (.int .i64 (I : Int))) := (HB3.out.cell (World.block_lt_of_cell? _ _ HC3.out)).trans HC3.out
      go_upto_region 9 with fail
      rw [← HW5.out]
      go_wp2_with fail
      go_loopw [10, 11, 12, 13] (fun sv wv tv iv wr => ∃ i : Nat, i ≤ L ∧ iv = .int .i64 (i : Int) ∧ sv = .int .i64 ((ct next I S (l.take i)).s : Int) ∧ wv = .int .i64 ((ct next I S (l.take i)).ways : Int) ∧ tv = .int .i64 ((ct next I S (l.take i)).states : Int) ∧ Hid (RowIs wr g1 4 (((ct next I S (l.take i)).R).map boolV)) ∧ Hid (RowIs wr g2 4 (((ct next I S (l.take i)).B).map boolV)) ∧ Hid (Kept w3.heap.size g1 g2 w3 wr)) (fun _ _ _ iv _ => L - (intOf iv).toNat)
      case atStart => exact ⟨0, Nat.zero_le _, rfl, rfl, rfl, rfl, HR5.out, HB5.out, HK5.out⟩
      case round =>
        obtain ⟨i, hi, rfl, rfl, rfl, rfl, HRr, HBr, HKr⟩ := hrel
        clear HR5 HB5 HK5 f0 f1
        have hsm := HSML.out i (by rw [← HL.out]; exact hi)
        by_cases hlt : i < L
        · have hil : i < l.length := by rw [← HL.out]; exact hlt
          have HST : Hid (ct next I S (l.take (i + 1)) = Tr.step next I (ct next I S (l.take i)) l[i]) := by show _ = _; rw [List.take_succ_eq_append_getElem hil, ct_snoc]
          have hyI : l[i] < I := HTOUR.out.ok i _ (List.getElem?_eq_getElem hil)
          obtain ⟨gx, rfl, hx3⟩ : ∃ gx, x = some ⟨gx, 0, none⟩ ∧ w3.cell? ⟨gx, i, none⟩ = some (.int .i64 (l[i] : Int)) := by
            obtain ⟨a', c', e, _, h3⟩ := HNR.out
            simp only [Value.slice.injEq] at e
            obtain ⟨g, e2, hc⟩ := h3 i _ (List.getElem?_eq_getElem hil)
            exact ⟨g, by rw [e.1]; exact e2, hc⟩
          generalize ct next I S (l.take i) = C at *
          generalize hC2 : ct next I S (l.take (i + 1)) = C2 at *
          have HC2e := hide hC2
          clear hC2
          generalize l[i] = y at *
          clear hil
          have hsS := hsm.at_
          have hnl := HNL.out C.s
          have hyl : y < (next C.s).length := by rw [hnl]; exact hyI
          have HX := hide hx3
          have e1 : Decidable.decide ((y : Int) < 0) = false := decide_eq_false (by omega)
          have e2 : Decidable.decide ((I : Int) ≤ (y : Int)) = false := decide_eq_false (by omega)
          have k1 := HKEY.out wr HKr.out _ _ hx3
          have k2 := HKEY.out wr HKr.out _ _ HD3.out
          clear hx3
          go_upto_region 13 with fail
          go_quiet (fail)
          obtain ⟨wq, hwq⟩ : ∃ wq, wq = wr.drewN nq := ⟨_, rfl⟩
          rw [← hwq]
          have HKq : Hid (Kept w3.heap.size g1 g2 w3 wq) := by rw [hwq]; exact HKr.out.drewN _
          have HRq : Hid (RowIs wq g1 4 (C.R.map boolV)) := by rw [hwq]; exact HRr.out
          have HBq : Hid (RowIs wq g2 4 (C.B.map boolV)) := by rw [hwq]; exact HBr.out
          clear hwq k1 k2 HKr HRr HBr
          have k1 := HKEY.out wq HKq.out _ _ HX.out
          have k2 := HKEY.out wq HKq.out _ _ HD3.out
          obtain ⟨tt, htt⟩ : ∃ tt, tt = C.s * I := ⟨_, rfl⟩
          have hti : (C.s : Int) * (I : Int) = (tt : Int) := by rw [htt, Int.natCast_mul]
          obtain ⟨kk, hkk⟩ : ∃ kk, kk = tt + y := ⟨_, rfl⟩
          have hki : (tt : Int) + (y : Int) = (kk : Int) := by rw [hkk]; rfl
          have hkM : kk < M := by rw [hkk, htt, HM.out]; exact pair_lt hsS hyI
          have HKK : Hid (C.s * I + y = kk) := by show _ = _; rw [hkk, htt]
          clear htt hkk
          go_upto_region 15 with fail
          go_quiet (fail)
          obtain ⟨w6, hw6⟩ : ∃ w6, w6 = wq.drewN nq := ⟨_, rfl⟩
          rw [← hw6]
          have HK6 : Hid (Kept w3.heap.size g1 g2 w3 w6) := by rw [hw6]; exact HKq.out.drewN _
          have HR6 : Hid (RowIs w6 g1 4 (C.R.map boolV)) := by rw [hw6]; exact HRq.out
          have HB6 : Hid (RowIs w6 g2 4 (C.B.map boolV)) := by rw [hw6]; exact HBq.out
          clear hw6 k1 k2 HKq HRq HBq
          have hlB : kk < C.B.length := by rw [hsm.lenB, ← HM.out]; exact hkM
          have k3 : w6.cell? ⟨g2, kk, none⟩ = some (.bool (C.B.getD kk false)) := HB6.out.cell kk _ (by rw [List.getElem?_map, List.getD_eq_getElem?_getD, List.getElem?_eq_getElem hlB]; rfl)
          have k4 := HB6.out.frozen kk
          obtain ⟨s2, hs2⟩ : ∃ s2, s2 = (next C.s)[y] := ⟨_, rfl⟩
          have HS2 : Hid ((next C.s).getD y 0 = s2) := by show _ = _; rw [hs2, List.getD_eq_getElem?_getD, List.getElem?_eq_getElem hyl]; rfl
          have hs2S : s2 < S := by rw [hs2]; exact HNX.out C.s _ hsS (List.getElem_mem hyl)
          have HROW : Hid (∃ bR, w3.cell? ⟨bm, 4, none⟩ = some (.slice (some ⟨gN, 0, none⟩) S S) ∧ w3.cell? ⟨gN, C.s, none⟩ = some (.slice (some ⟨bR, 0, none⟩) I I) ∧ w3.cell? ⟨bR, y, none⟩ = some (.int .i64 (s2 : Int))) := by
            have hul : C.s < uN.length := by rw [HN3.out.2.1]; exact hsS
            obtain ⟨h1, h2⟩ := HN3.out.2.2 C.s _ (List.getElem?_eq_getElem hul)
            exact ⟨_, HN3.out.1, h1, h2 y s2 (by rw [hs2, List.getElem?_eq_getElem hyl])⟩
          clear hs2 hyl hnl
          have hways := hsm.ways
          have hstates := hsm.states
          have HLR : Hid (s2 < C.R.length) := by show _ < _; rw [hsm.lenR]; exact hs2S
          have HCS : Hid (C2 = ⟨s2, C.B.set kk true, C.R.set s2 true, if C.B.getD kk false then C.ways else C.ways + 1, if C.R.getD s2 false then C.states else C.states + 1⟩) := by
            show _ = _
            rw [HST.out]
            simp only [Tr.step, HS2.out, HKK.out]
          clear HST hsm
          have hC2s : C2.s = s2 := by rw [HCS.out]
          have HSS := hide hC2s
          obtain ⟨C2w, hC2w⟩ : ∃ n, n = C2.ways := ⟨_, rfl⟩
          obtain ⟨C2t, hC2t⟩ : ∃ n, n = C2.states := ⟨_, rfl⟩
          have HC2w := hide hC2w
          have HC2t := hide hC2t
          have HB7 : Hid (∀ W, RowIs W g2 4 ((C.B.set kk true).map boolV) → RowIs W g2 4 (C2.B.map boolV)) := fun W h => by rw [HCS.out]; exact h
          have HR7 : Hid (∀ W, RowIs W g1 4 ((C.R.set s2 true).map boolV) → RowIs W g1 4 (C2.R.map boolV)) := fun W h => by rw [HCS.out]; exact h
          have hWw : C2w = if C.B.getD kk false then C.ways else C.ways + 1 := by rw [hC2w, HCS.out]
          have hWt : C2t = if C.R.getD s2 false then C.states else C.states + 1 := by rw [hC2t, HCS.out]
          clear hC2s hC2w hC2t HCS
          cases hB : C.B.getD kk false with
          | true =>
            rw [hB] at k3 hWw
            rw [if_pos rfl] at hWw
            have HBz := hide (HB7.out w6 (by rw [set_true hB]; exact HB6.out))
            have HWV : Hid ((C.ways : Int) = (C2.ways : Int)) := by show _ = _; rw [← HC2w.out, hWw]
            obtain ⟨wz, hwz⟩ : ∃ wz, wz = w6 := ⟨_, rfl⟩
            rw [← hwz] at HBz
            have HRz : Hid (RowIs wz g1 4 (C.R.map boolV)) := by rw [hwz]; exact HR6.out
            have HKz : Hid (Kept w3.heap.size g1 g2 w3 wz) := by rw [hwz]; exact HK6.out
            have HWZ := hide hwz
            clear hB hWw hwz
            go_upto_region 19 with fail
            rw [← HWZ.out]
            clear k3 k4
            obtain ⟨bR, r0, r1, r2⟩ := HROW.out
            have k5 := HKEY.out wz HKz.out _ _ r0
            have k6 := HKEY.out wz HKz.out _ _ r1
            have k7 := HKEY.out wz HKz.out _ _ r2
            have k8 := HKEY.out wz HKz.out _ _ HX.out
            go_quiet (fail)
            obtain ⟨w8, hw8⟩ : ∃ w8, w8 = wz.drewN nq := ⟨_, rfl⟩
            rw [← hw8]
            have HK8 : Hid (Kept w3.heap.size g1 g2 w3 w8) := by rw [hw8]; exact HKz.out.drewN _
            have HR8 : Hid (RowIs w8 g1 4 (C.R.map boolV)) := by rw [hw8]; exact HRz.out
            have HB9 : Hid (RowIs w8 g2 4 (C2.B.map boolV)) := by rw [hw8]; exact HBz.out
            clear hw8 k5 k6 k7 k8 r0 r1 r2 HKz HRz HBz
            have k9 : w8.cell? ⟨g1, s2, none⟩ = some (.bool (C.R.getD s2 false)) := HR8.out.cell s2 _ (by rw [List.getElem?_map, List.getD_eq_getElem?_getD, List.getElem?_eq_getElem HLR.out]; rfl)
            have k10 := HR8.out.frozen s2
            cases hR : C.R.getD s2 false with
            | true =>
              rw [hR] at k9 hWt
              rw [if_pos rfl] at hWt
              have HR9 := hide (HR7.out w8 (by rw [set_true hR]; exact HR8.out))
              have HTV : Hid ((C.states : Int) = (C2.states : Int)) := by show _ = _; rw [← HC2t.out, hWt]
              clear hWt hR
              go_wp2_with fail
              go_roundw
              case rel => exact ⟨i + 1, by omega, by go_num, by rw [HC2e.out, HSS.out], by rw [HC2e.out, ← HWV.out], by rw [HC2e.out, ← HTV.out], by rw [HC2e.out]; exact HR9.out, by rw [HC2e.out]; exact HB9.out, HK8.out⟩
              case measure => simp [intOf]; omega
            | false =>
              rw [hR] at k9 hWt
              have hWt2 : C2t = C.states + 1 := hWt
              have HTV : Hid ((C.states : Int) + 1 = (C2.states : Int)) := by show _ = _; rw [← HC2t.out, hWt2]; rfl
              obtain ⟨w9, hw9⟩ : ∃ w9, w9 = w8.setCell ⟨g1, s2, none⟩ (.bool true) := ⟨_, rfl⟩
              have HR9 : Hid (RowIs w9 g1 4 (C2.R.map boolV)) := HR7.out w9 (by
                rw [hw9, List.map_set]
                exact HR8.out.set s2 (.bool true))
              have HB10 : Hid (RowIs w9 g2 4 (C2.B.map boolV)) := by show RowIs _ _ _ _; rw [hw9]; exact HB9.out.other g1 s2 _ (fun e => hg12 e.symm)
              have HK9 : Hid (Kept w3.heap.size g1 g2 w3 w9) := by show Kept _ _ _ _ _; rw [hw9]; exact HK8.out.set g1 s2 _ (.inl rfl)
              have HW9 := hide hw9
              clear hWt hWt2 hR hw9
              go_wp2_with fail
              rw [← HW9.out]
              go_roundw
              case rel => exact ⟨i + 1, by omega, by go_num, by rw [HC2e.out, HSS.out], by rw [HC2e.out, ← HWV.out], by rw [HC2e.out, ← HTV.out], by rw [HC2e.out]; exact HR9.out, by rw [HC2e.out]; exact HB10.out, HK9.out⟩
              case measure => simp [intOf]; omega
          | false =>
            rw [hB] at k3 hWw
            have hWw2 : C2w = C.ways + 1 := hWw
            have HWV : Hid ((C.ways : Int) + 1 = (C2.ways : Int)) := by show _ = _; rw [← HC2w.out, hWw2]; rfl
            obtain ⟨wz, hwz⟩ : ∃ wz, wz = w6.setCell ⟨g2, kk, none⟩ (.bool true) := ⟨_, rfl⟩
            have HBz : Hid (RowIs wz g2 4 (C2.B.map boolV)) := HB7.out wz (by
              rw [hwz, List.map_set]
              exact HB6.out.set kk (.bool true))
            have HRz : Hid (RowIs wz g1 4 (C.R.map boolV)) := by show RowIs _ _ _ _; rw [hwz]; exact HR6.out.other g2 kk _ hg12
            have HKz : Hid (Kept w3.heap.size g1 g2 w3 wz) := by show Kept _ _ _ _ _; rw [hwz]; exact HK6.out.set g2 kk _ (.inr rfl)
            have HWZ := hide hwz
            clear hB hWw hWw2 hwz
            go_upto_region 19 with fail
            rw [← HWZ.out]
            clear k3 k4
            obtain ⟨bR, r0, r1, r2⟩ := HROW.out
            have k5 := HKEY.out wz HKz.out _ _ r0
            have k6 := HKEY.out wz HKz.out _ _ r1
            have k7 := HKEY.out wz HKz.out _ _ r2
            have k8 := HKEY.out wz HKz.out _ _ HX.out
            go_quiet (fail)
            obtain ⟨w8, hw8⟩ : ∃ w8, w8 = wz.drewN nq := ⟨_, rfl⟩
            rw [← hw8]
            have HK8 : Hid (Kept w3.heap.size g1 g2 w3 w8) := by rw [hw8]; exact HKz.out.drewN _
            have HR8 : Hid (RowIs w8 g1 4 (C.R.map boolV)) := by rw [hw8]; exact HRz.out
            have HB9 : Hid (RowIs w8 g2 4 (C2.B.map boolV)) := by rw [hw8]; exact HBz.out
            clear hw8 k5 k6 k7 k8 r0 r1 r2 HKz HRz HBz
            have k9 : w8.cell? ⟨g1, s2, none⟩ = some (.bool (C.R.getD s2 false)) := HR8.out.cell s2 _ (by rw [List.getElem?_map, List.getD_eq_getElem?_getD, List.getElem?_eq_getElem HLR.out]; rfl)
            have k10 := HR8.out.frozen s2
            cases hR : C.R.getD s2 false with
            | true =>
              rw [hR] at k9 hWt
              rw [if_pos rfl] at hWt
              have HR9 := hide (HR7.out w8 (by rw [set_true hR]; exact HR8.out))
              have HTV : Hid ((C.states : Int) = (C2.states : Int)) := by show _ = _; rw [← HC2t.out, hWt]
              clear hWt hR
              go_wp2_with fail
              go_roundw
              case rel => exact ⟨i + 1, by omega, by go_num, by rw [HC2e.out, HSS.out], by rw [HC2e.out, ← HWV.out], by rw [HC2e.out, ← HTV.out], by rw [HC2e.out]; exact HR9.out, by rw [HC2e.out]; exact HB9.out, HK8.out⟩
              case measure => simp [intOf]; omega
            | false =>
              rw [hR] at k9 hWt
              have hWt2 : C2t = C.states + 1 := hWt
              have HTV : Hid ((C.states : Int) + 1 = (C2.states : Int)) := by show _ = _; rw [← HC2t.out, hWt2]; rfl
              obtain ⟨w9, hw9⟩ : ∃ w9, w9 = w8.setCell ⟨g1, s2, none⟩ (.bool true) := ⟨_, rfl⟩
              have HR9 : Hid (RowIs w9 g1 4 (C2.R.map boolV)) := HR7.out w9 (by
                rw [hw9, List.map_set]
                exact HR8.out.set s2 (.bool true))
              have HB10 : Hid (RowIs w9 g2 4 (C2.B.map boolV)) := by show RowIs _ _ _ _; rw [hw9]; exact HB9.out.other g1 s2 _ (fun e => hg12 e.symm)
              have HK9 : Hid (Kept w3.heap.size g1 g2 w3 w9) := by show Kept _ _ _ _ _; rw [hw9]; exact HK8.out.set g1 s2 _ (.inl rfl)
              have HW9 := hide hw9
              clear hWt hWt2 hR hw9
              go_wp2_with fail
              rw [← HW9.out]
              go_roundw
              case rel => exact ⟨i + 1, by omega, by go_num, by rw [HC2e.out, HSS.out], by rw [HC2e.out, ← HWV.out], by rw [HC2e.out, ← HTV.out], by rw [HC2e.out]; exact HR9.out, by rw [HC2e.out]; exact HB10.out, HK9.out⟩
              case measure => simp [intOf]; omega
        · have hiL : i = L := by omega
          have htk : l.take i = l := List.take_of_length_le (by rw [← HL.out]; omega)
          rw [htk] at hsm ⊢
          have hways : (ct next I S l).ways = G.sum := HTOUR.out.inv.ways
          have hpos : 0 < (ct next I S l).ways := by rw [hways]; exact HSUM.out
          have hlong : L ≤ (ct next I S l).ways * S := by rw [hways, HL.out]; exact HTOUR.out.long
          have hallw : all = true → (ct next I S l).ways = (ct next I S l).states * I := fun h => HTOUR.out.all (HALL.out h)
          have hw1 := hsm.ways
          have hw2 := hsm.states
          generalize (ct next I S l).ways = W at *
          generalize (ct next I S l).states = Q at *
          generalize (ct next I S l).s = s0 at *
          have hP1b : Q * I ≤ 57601 * 16 := Nat.mul_le_mul (by omega) hI16
          have hP2b : W * S ≤ 57600 * 60 := Nat.mul_le_mul (by omega) hS3
          obtain ⟨P1, hP1⟩ : ∃ P1, P1 = Q * I := ⟨_, rfl⟩
          obtain ⟨P2, hP2⟩ : ∃ P2, P2 = W * S := ⟨_, rfl⟩
          have hm1 : (Q : Int) * (I : Int) = (P1 : Int) := by rw [hP1, Int.natCast_mul]
          have hm2 : (W : Int) * (S : Int) = (P2 : Int) := by rw [hP2, Int.natCast_mul]
          rw [← hP1] at hP1b hallw
          rw [← hP2] at hP2b hlong
          have m2 := HKEY.out wr HKr.out _ _ HD2.out
          have m3 := HKEY.out wr HKr.out _ _ HD3.out
          have HFIN : Hid (Below w.heap.size w wr) := by
            have h1 := HB1.out.trans (HB3.out.mono HB1.out.size)
            have h2 := HKr.out
            have h3 := h1.size
            exact ⟨h2.os.trans h1.os, h2.tape.trans h1.tape, h2.output.trans h1.output, Nat.le_trans h1.size h2.size, fun b hb => (h2.block b (by omega) (by omega) (by omega)).trans (h1.block b hb)⟩
          have e1 : Decidable.decide ((L : Int) ≤ (P2 : Int)) = true := decide_eq_true (by omega)
          have e2 : Decidable.decide ((0 : Int) < (W : Int)) = true := decide_eq_true (by omega)
          clear hP1 hP2 hways htk hsm
          subst hiL
          cases all with
          | false =>
            go_wp2_with fail
            go_ret
            exact ⟨rfl, HFIN.out⟩
          | true =>
            have e3 : ((W : Int) == (P1 : Int)) = true := by rw [beq_iff_eq, hallw rfl]
            clear hallw HALL
            go_wp2_with fail
            go_ret
            exact ⟨rfl, HFIN.out⟩
end Go.Proofs.YtglmpkpcbafgdaaGreatDoor
