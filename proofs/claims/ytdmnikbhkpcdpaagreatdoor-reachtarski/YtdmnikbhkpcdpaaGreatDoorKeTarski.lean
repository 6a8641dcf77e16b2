/-
  The walk of the statement ReachTarski.
-/
import Derived.Test.YtdmnikbhkpcdpaaGreatDoorMcD7All
import Derived.Test.YtdmnikbhkpcdpaaGreatDoorKePathsAll
import Derived.Deep.RegionHeld3
namespace Go.Proofs.YtdmnikbhkpcdpaaGreatDoor
open Go.RowKit
theorem turn_get (l : List Bool) (k : Nat) (x : Bool) (h : l[k]? = some x) : (Rc.turn l)[k]? = some (!x) := by unfold Rc.turn; rw [List.getElem?_map, h]; rfl
theorem getD_some (l : List Bool) (k : Nat) (h : k < l.length) : l[k]? = some (l.getD k false) := by rw [List.getD_eq_getElem?_getD, List.getElem?_eq_getElem h]; rfl
set_option maxHeartbeats 8000000 in
set_option maxRecDepth 100000 in
theorem reachTarski_any (s : ByteArray) (l : List Bool) (lv : Value) (w : World) (hs : s.size ≤ maxLen) (hl : BoolsO w lv l) (hll : l.length ≤ maxLen) (hL : Laid w) :
    Calls Tryz.prog 5 #[.string s, lv] w fun e w' => e = .returned (.bool true) ∧ Below w.heap.size w w' := by
  have HL := hide hL
  have HLI := hide hl
  obtain ⟨c, hc⟩ : ∃ c, c = l.length := ⟨_, rfl⟩
  have HC := hide hc
  obtain ⟨la, lc, rfl⟩ := hl.slice
  unfold maxLen at hll
  have HMD := hide (kmade_any s 300 w hs hL (by omega))
  rw [← hc] at HLI hll ⊢
  obtain ⟨T, hT⟩ : ∃ T, T = madeP s 300 := ⟨_, rfl⟩
  rw [← hT] at HMD
  have HT := hide hT
  clear hT hs hl hL hc
  go_enter Tryz.func5, Tryz.ntmps5
  go_wp2_with fail
  refine HMD.out.mono ?_
  intro e w1 hq
  clear HMD
  match T, hq, HT with
  | none, hq, _ =>
    obtain ⟨hb1, rfl⟩ := hq
    have HMC := hide (reached_any w1 (HL.out.below hb1))
    have HB1 := hide hb1
    clear hb1
    go_wp2_with fail
    refine HMC.out.mono ?_
    rintro e w2 ⟨rfl, hb2⟩
    have HB2 := hide (HB1.out.trans (hb2.mono HB1.out.size))
    clear hb2 HMC
    go_wp2_with fail
    go_ret
    exact ⟨rfl, HB2.out⟩
  | some p, hq, HT =>
    obtain ⟨hb1, bm, rfl, hbm, hmach, hck⟩ := hq
    have HB1 := hide hb1
    by_cases q400 : 400 < c
    · have q400' : (400 : Int) < (c : Int) := by omega
      have HMC := hide (reached_any w1 (HL.out.below hb1))
      clear hb1 hmach
      go_wp2_with fail
      refine HMC.out.mono ?_
      rintro e w2 ⟨rfl, hb2⟩
      have HB2 := hide (HB1.out.trans (hb2.mono HB1.out.size))
      clear hb2 HMC
      go_wp2_with fail
      go_ret
      exact ⟨rfl, HB2.out⟩
    have q400' : ¬ (400 : Int) < (c : Int) := by omega
    obtain ⟨hq4, hS3⟩ := made_few HT.out
    obtain ⟨gN, uN, hna⟩ := hmach.next
    obtain ⟨c2, c3⟩ := hmach.sizes
    have hnl := fun s => Mc.nexts_len p s
    have hnx : ∀ f s, f < Mc.total (Mc.parts p) → s ∈ Mc.nexts p f → s < Mc.total (Mc.parts p) := fun f s _ hs => Mc.nexts_lt p hck f s hs
    have hS1 := Mc.total_pos (Mc.parts p) (Mc.parts_ok p)
    have hI16 : 2 ^ (Ld.kindL p.names 1).length ≤ 16 := Nat.pow_le_pow_right (n := 2) (by decide) hq4
    have hI1 : 1 ≤ 2 ^ (Ld.kindL p.names 1).length := Nat.pow_pos (by decide)
    have HBO := hide (HLI.out.below hb1)
    clear hmach hck HT hq4 hb1
    generalize Mc.total (Mc.parts p) = S at *
    generalize 2 ^ (Ld.kindL p.names 1).length = I at *
    generalize Mc.nexts p = next at *
    have HNA := hide hna
    have HNL := hide hnl
    have HNX := hide hnx
    have hbl : bm < w1.heap.size := World.block_lt_of_cell? _ _ c2
    have HNW : Hid (∀ W, Below w1.heap.size w1 W → NextAt W bm S I next gN uN) := fun W hW => HNA.out.below hW
    have HX1 : Hid (∀ W, Below w1.heap.size w1 W → (W.cell? ⟨bm, 2, none⟩ = some (.int .i64 (S : Int)) ∧ W.cell? ⟨bm, 3, none⟩ = some (.int .i64 (I : Int))) ∧ BoolsO W (.slice la c lc) l) := fun W hW => ⟨⟨(hW.cell (p := ⟨bm, 2, none⟩) hbl).trans c2, (hW.cell (p := ⟨bm, 3, none⟩) hbl).trans c3⟩, HBO.out.below hW⟩
    have mk := fun w => makeBs S (by omega) w
    obtain ⟨cS, hcS⟩ : ∃ c, c = List.replicate S (Value.bool false) := ⟨_, rfl⟩
    rw [← hcS] at mk
    have HCS := hide hcS
    obtain ⟨li, hli⟩ : ∃ li, li = Rc.inL l S := ⟨_, rfl⟩
    have HLL : Hid (li.length = S) := by show li.length = S; rw [hli]; exact Rc.inL_len l S
    have HLA : Hid (∀ k, k < S → li[k]? = some (l.getD k false)) := fun k hk => by rw [hli]; exact Rc.inL_at l S k hk
    have HLO : Hid ((Rc.turn li).length = S) := (Rc.turn_len li).trans HLL.out
    have HKD : Hid (∀ W : World, W.cell? ⟨bm, 2, none⟩ = some (.int .i64 (S : Int)) → W.drew.cell? ⟨bm, 2, none⟩ = some (.int .i64 (S : Int))) := fun _ h => h
    clear hna hnl hnx hcS hli c3
    go_upto_region 4 with fail
    go_cut [7, 8] (fun vi vo wx => ∃ a b, vi = .slice (some ⟨a, 0, none⟩) S S ∧ vo = .slice (some ⟨b, 0, none⟩) S S ∧ InOut w1 S a b (Rc.inTo li 0) (Rc.inTo (Rc.turn li) 0) wx)
    case first =>
      go_region_held3 (fun W => W.cell? ⟨bm, 2, none⟩ = some (.int .i64 (S : Int))) ((repeat (first | exact c2 | refine HKD.out _ ?_ | refine cell_alloc_keep _ _ _ _ ?_))) (fail)
      all_goals go_wp2_with fail
      all_goals go_meet
      all_goals first
        | exact ⟨_, _, rfl, rfl, InOut.made w1 S cS HCS.out li _ HLL.out HLO.out _ _ (.inl ⟨rfl, rfl⟩) _⟩
        | exact ⟨_, _, rfl, rfl, InOut.made w1 S cS HCS.out li _ HLL.out HLO.out _ _ (.inr ⟨rfl, rfl⟩) _⟩
    case rest =>
      obtain ⟨a, b, rfl, rfl, hio⟩ := hcut
      have HIO := hide hio
      clear hio mk HKD HCS c2
      go_wp2_with fail
      go_loopw [9] (fun i wr => ∃ k : Nat, k ≤ S ∧ i = .int .i64 (k : Int) ∧ Hid (InOut w1 S a b (Rc.inTo li k) (Rc.inTo (Rc.turn li) k) wr)) (fun i _ => S - (intOf i).toNat)
      case atStart => exact ⟨0, Nat.zero_le _, rfl, HIO.out⟩
      case round =>
        obtain ⟨k, hk, rfl, HI⟩ := hrel
        obtain ⟨⟨k2, k3⟩, hbo⟩ := HX1.out wr HI.out.bel
        by_cases hlt : k < S
        · have hki : (k : Int) < (S : Int) := by omega
          obtain ⟨x, hx⟩ : ∃ x, x = l.getD k false := ⟨_, rfl⟩
          have hxl := HLA.out k hlt
          rw [← hx] at hxl
          have HXL := hide hxl
          have HYL := hide (turn_get li k x hxl)
          have ra := HI.out.ra.cell k false (Rc.inTo_at li k (by rw [HLL.out]; exact hlt))
          have rb := HI.out.rb.cell k false (Rc.inTo_at (Rc.turn li) k (by rw [HLO.out]; exact hlt))
          have fa := RowIs.frozen HI.out.ra k
          have fb := RowIs.frozen HI.out.rb k
          have nab := HI.out.ne
          have HP := hide (HI.out.put HLL.out HLO.out hlt HXL.out HYL.out)
          by_cases hkc : k < c
          · have hkci : (k : Int) < (c : Int) := by omega
            have hxs : l[k]? = some x := by rw [hx]; exact getD_some l k (by rw [← HC.out]; exact hkc)
            obtain ⟨g, o, rfl, hcell⟩ := hbo.cell k x hxs
            clear hbo hx hxs hxl
            go_wp2_with fail
            go_roundw
            case rel => exact ⟨k + 1, by omega, by go_num, HP.out⟩
            case measure => simp [intOf]; omega
          · have hkci : ¬ (k : Int) < (c : Int) := by omega
            have hxf : x = false := by
              rw [hx, List.getD_eq_getElem?_getD, List.getElem?_eq_none (by rw [← HC.out]; omega)]; rfl
            subst hxf
            clear hbo hx hxl
            go_wp2_with fail
            go_roundw
            case rel => exact ⟨k + 1, by omega, by go_num, HP.out⟩
            case measure => simp [intOf]; omega
        · have hkS : k = S := by omega
          subst hkS
          have HRA : Hid (BRow wr a li []) := by
            have h := HI.out.ra
            rw [← HLL.out, Rc.inTo_all] at h
            exact h
          have HRB : Hid (BRow wr b (Rc.turn li) []) := by
            have h := HI.out.rb
            rw [← HLO.out, Rc.inTo_all] at h
            exact h
          have HB0 := hide HI.out.bel
          obtain ⟨wo, rfl⟩ : ∃ wo, wo = wr := ⟨_, rfl⟩
          have hba : Bools wo (.slice (some ⟨a, 0, none⟩) k k) li := by
            have h := HRA.out.bools (cp := k) (by rw [HLL.out]; omega)
            rw [HLL.out] at h
            exact h
          have HST := hide (Stays_any bm k I gN next uN _ li wo (HNW.out wo HB0.out) hS1 (by omega) (by omega) hI1 HNL.out HNX.out hba HLL.out)
          clear HI hbo hba k3 hk hlt
          go_wp2_with fail
          refine HST.out.mono ?_
          rintro e w2 ⟨gs, r, rfl, hgr, hrs, hgs, hb2⟩
          have HGR := hide hgr
          have HRS := hide hrs
          have HB2 := hide (HB0.out.trans (hb2.mono HB0.out.size))
          have HB02 := hide hb2
          have hbb : Bools w2 (.slice (some ⟨b, 0, none⟩) k k) (Rc.turn li) := by
            have h := (HRB.out.below hb2).bools (cp := k) (by rw [HLO.out]; omega)
            rw [HLO.out] at h
            exact h
          have HCO := hide (Comes_any bm k I gN next uN _ (Rc.turn li) w2 (HNW.out w2 HB2.out) hS1 (by omega) (by omega) hI1 HNL.out HNX.out hbb HLO.out)
          clear hgr hrs hb2 hbb HST
          go_wp2_with fail
          refine HCO.out.mono ?_
          rintro e w3 ⟨gc, cc, restc, rc, rfl, hcc, hgc, hrc, hgcl, hb3⟩
          obtain rfl : rc = r := hgc.one HGR.out
          have HRC := hide hrc
          have HB3 := hide (HB2.out.trans (hb3.mono HB2.out.size))
          have HB23 := hide hb3
          have hbb : Bools w3 (.slice (some ⟨b, 0, none⟩) k k) (Rc.turn li) := by
            have h := ((HRB.out.below HB02.out).below hb3).bools (cp := k) (by rw [HLO.out]; omega)
            rw [HLO.out] at h
            exact h
          have HFO := hide (Forces_any bm k I gN next uN _ (Rc.turn li) w3 (HNW.out w3 HB3.out) hS1 (by omega) (by omega) hI1 HNL.out HNX.out hbb HLO.out)
          clear hgc hrc hb3 hbb HCO
          go_wp2_with fail
          refine HFO.out.mono ?_
          rintro e w4 ⟨gf, cf, restf, rf, rfl, hcf, hgf, hrf, hgfl, hb4⟩
          have HGF := hide hgf
          have HRF := hide hrf
          have HB4 := hide (HB3.out.trans (hb4.mono HB3.out.size))
          have HB34 := hide hb4
          have HTL : Hid ((Rc.turn rc).length = k) := (Rc.turn_len rc).trans HGR.out.len
          have HRS4 := hide ((HRS.out.below HB23.out).below hb4)
          have hbs : Bools w4 (.slice (some ⟨gs, 0, none⟩) k k) (Rc.turn rc) := by
            have h := HRS4.out.bools (cp := k) (by rw [HTL.out]; omega)
            rw [HTL.out] at h
            exact h
          have HST := hide (Stays_any bm k I gN next uN _ (Rc.turn rc) w4 (HNW.out w4 HB4.out) hS1 (by omega) (by omega) hI1 HNL.out HNX.out hbs HTL.out)
          clear hgf hrf hb4 hbs HFO
          go_wp2_with fail
          refine HST.out.mono ?_
          rintro e w5 ⟨ga, r', rfl, hga, hra, hgal, hb5⟩
          rw [Rc.turn_turn] at hga
          obtain rfl : r' = rc := HGR.out.again hga
          have HRA5 := hide hra
          have HB5 := hide (HB4.out.trans (hb5.mono HB4.out.size))
          have HB45 := hide hb5
          have HRC5 := hide ((HRC.out.below HB34.out).below hb5)
          have hbs : Bools w5 (.slice (some ⟨gc, 0, none⟩) k cc) r' := by
            have h := HRC5.out.bools (cp := cc) (by rw [HGR.out.len]; omega)
            rw [HGR.out.len] at h
            exact h
          have HCO := hide (Comes_any bm k I gN next uN _ r' w5 (HNW.out w5 HB5.out) hS1 (by omega) (by omega) hI1 HNL.out HNX.out hbs HGR.out.len)
          clear hga hra hb5 hbs HST
          go_wp2_with fail
          refine HCO.out.mono ?_
          rintro e w6 ⟨gm, cm, restm, r2, rfl, hcm, hgm, hrm, hgml, hb6⟩
          obtain rfl : r2 = r' := HGR.out.again hgm
          have HRM := hide hrm
          have HB6 := hide (HB5.out.trans (hb6.mono HB5.out.size))
          have HB56 := hide hb6
          have HFA := hide (Far_any bm k I gN next uN w6 (HNW.out w6 HB6.out) hS1 (by omega) (by omega) HNL.out HNX.out)
          have HF := hide (Rc.walk_far next k hS1 HNX.out)
          obtain ⟨q, hqq⟩ : ∃ q, q = Rc.walk next k := ⟨_, rfl⟩
          rw [← hqq] at HF
          have HQ := hide hqq
          clear hgm hrm hb6 HCO hqq
          go_wp2_with fail
          refine HFA.out.mono ?_
          rintro e w7 ⟨gF, rfl, hrowF, hgF, hb7⟩
          rw [← HQ.out] at hrowF
          have HRQ := hide hrowF
          have HB7 := hide (HB6.out.trans (hb7.mono HB6.out.size))
          have HB67 := hide hb7
          have HRD := hide (reached_any w7 (HL.out.below (HB1.out.trans (HB7.out.mono HB1.out.size))))
          unfold slV
          clear hrowF hb7 HFA
          go_wp2_with fail
          refine HRD.out.mono ?_
          rintro e w8 ⟨rfl, hb8⟩
          have HB78 := hide hb8
          have HB58 := hide (HB56.out.trans ((HB67.out.trans (hb8.mono HB67.out.size)).mono HB56.out.size))
          have HB48 := hide (HB45.out.trans (HB58.out.mono HB45.out.size))
          have hbs : Bools w8 (.slice (some ⟨gs, 0, none⟩) k k) (Rc.turn r2) := by
            have h := (HRS4.out.below HB48.out).bools (cp := k) (by rw [HTL.out]; omega)
            rw [HTL.out] at h
            exact h
          have hbs2 : Bools w8 (.slice (some ⟨ga, 0, none⟩) k k) (Rc.turn r2) := by
            have h := (HRA5.out.below HB58.out).bools (cp := k) (by rw [HTL.out]; omega)
            rw [HTL.out] at h
            exact h
          have HS1 := hide (sameB_any _ _ _ w8 hbs2 hbs)
          clear hb8 hbs hbs2 HRD
          go_wp2_with fail
          refine HS1.out.mono ?_
          rintro e w9 ⟨rfl, hb9⟩
          have HB79 := hide (HB78.out.trans (hb9.mono HB78.out.size))
          have HB69 := hide (HB67.out.trans (HB79.out.mono HB67.out.size))
          have HB59 := hide (HB56.out.trans (HB69.out.mono HB56.out.size))
          have hbs : Bools w9 (.slice (some ⟨gc, 0, none⟩) k cc) r2 := by
            have h := (HRC5.out.below HB59.out).bools (cp := cc) (by rw [HGR.out.len]; omega)
            rw [HGR.out.len] at h
            exact h
          have hbs2 : Bools w9 (.slice (some ⟨gm, 0, none⟩) k cm) r2 := by
            have h := (HRM.out.below HB69.out).bools (cp := cm) (by rw [HGR.out.len]; omega)
            rw [HGR.out.len] at h
            exact h
          have HS2 := hide (sameB_any _ _ _ w9 hbs2 hbs)
          clear hb9 hbs hbs2 HS1
          go_wp2_with fail
          refine HS2.out.mono ?_
          rintro e wz ⟨rfl, hbz⟩
          have HB7z := hide (HB79.out.trans (hbz.mono HB79.out.size))
          have HB6z := hide (HB67.out.trans (HB7z.out.mono HB67.out.size))
          have HB5z := hide (HB56.out.trans (HB6z.out.mono HB56.out.size))
          have HB4z := hide (HB45.out.trans (HB5z.out.mono HB45.out.size))
          have HB3z := hide (HB34.out.trans (HB4z.out.mono HB34.out.size))
          have HB2z := hide (HB23.out.trans (HB3z.out.mono HB23.out.size))
          have HB0z := hide (HB02.out.trans (HB2z.out.mono HB02.out.size))
          have HB1z := hide (HB0.out.trans (HB0z.out.mono HB0.out.size))
          have HX2 : Hid (∀ W, Below wz.heap.size wz W → (BRow W a li [] ∧ BRow W b (Rc.turn li) []) ∧ (BRow W gs (Rc.turn r2) [] ∧ BRow W gc r2 restc ∧ BRow W gf rf restf) ∧ (∀ j, j < k → W.cell? ⟨gF, j, none⟩ = some (.int .i64 (q.at_ j).far)) ∧ Below w1.heap.size w1 W) := fun W hW => by
            refine ⟨⟨(HRA.out.below HB0z.out).below hW, (HRB.out.below HB0z.out).below hW⟩, ⟨(HRS4.out.below HB4z.out).below hW, (HRC5.out.below HB5z.out).below hW, (HRF.out.below HB4z.out).below hW⟩, fun j hj => ?_, HB1z.out.trans (hW.mono HB1z.out.size)⟩
            have hjl : j < q.steps.length := by rw [HF.out.len]; exact hj
            exact ((HRQ.out.below HB7z.out).below hW).cell j _ (by rw [List.getElem?_map, List.getElem?_eq_getElem hjl]; simp [farV, Rc.Qu.at_, hjl])
          clear hbz HS2 HRA HRB HRS HRS4 HRC HRC5 HRF HRQ HRM HRA5 HB02 HB23 HB34 HB45 HB56 HB67 HB78 HB79 HB69 HB59 HB58 HB48 HB7z HB6z HB5z HB4z HB3z HB2z HB0z HB2 HB3 HB4 HB5 HB6 HB7 HB0 hgs hgcl hgfl hgal hgml hgF
          have HNE : Hid (∀ s, s < k → next s ≠ []) := fun s _ h => by
            have h1 := HNL.out s
            rw [h] at h1
            simp at h1
            omega
          go_wp2_with fail
          go_loopw [22, 23] (fun al i wr => ∃ s : Nat, s ≤ k ∧ i = .int .i64 (s : Int) ∧ al = .bool (Rc.allTo q li s) ∧ Hid (Below wz.heap.size wz wr)) (fun _ i _ => k - (intOf i).toNat)
          case atStart => exact ⟨0, Nat.zero_le _, rfl, rfl, Below.refl _ _⟩
          case round =>
            obtain ⟨s, hs, rfl, rfl, HB⟩ := hrel
            obtain ⟨⟨xa, xb⟩, ⟨xs, xc, xf⟩, kF, hw1r⟩ := HX2.out wr HB.out
            obtain ⟨⟨k2, k3⟩, _⟩ := HX1.out wr hw1r
            by_cases hlt : s < k
            · have hsi : (s : Int) < (k : Int) := by omega
              obtain ⟨x, hx⟩ : ∃ x, li[s]? = some x := ⟨_, getD_some li s (by rw [HLL.out]; exact hlt)⟩
              obtain ⟨cs, hcs⟩ : ∃ x, r2[s]? = some x := ⟨_, getD_some r2 s (by rw [HGR.out.len]; exact hlt)⟩
              obtain ⟨fs, hfs⟩ : ∃ x, rf[s]? = some x := ⟨_, getD_some rf s (by rw [HGF.out.len]; exact hlt)⟩
              have va := xa.cell s x hx
              have vb := xb.cell s (!x) (turn_get li s x hx)
              have vs := xs.cell s (!cs) (turn_get r2 s cs hcs)
              have vc := xc.cell s cs hcs
              have vf := xf.cell s fs hfs
              have vF := kF s hlt
              have HVA : Hid (∀ W, Below wz.heap.size wz W → W.cell? ⟨a, s, none⟩ = some (.bool x)) := fun W hW => (HX2.out W hW).1.1.cell s x hx
              have HVF : Hid (∀ W, Below wz.heap.size wz W → W.cell? ⟨gF, s, none⟩ = some (.int .i64 (q.at_ s).far)) := fun W hW => (HX2.out W hW).2.2.1 s hlt
              have m1 : fs = true → cs = true := fun h => by
                have h1 := Rc.forces_comes HNE.out HGF.out HGR.out s hlt (by unfold Rc.Has; rw [List.getD_eq_getElem?_getD, hfs, h]; rfl)
                unfold Rc.Has at h1
                rw [List.getD_eq_getElem?_getD, hcs] at h1
                exact h1
              have m2 : x = false → fs = true := fun h => by
                have h1 := HGF.out.more s hlt (by unfold Rc.Has; rw [List.getD_eq_getElem?_getD, turn_get li s x hx, h]; rfl)
                unfold Rc.Has at h1
                rw [List.getD_eq_getElem?_getD, hfs] at h1
                exact h1
              have HSU : Hid (Rc.allTo q li (s + 1) = (Rc.allTo q li s && (decide ((q.at_ s).far < 0) || x))) := by
                show _ = _
                rw [Rc.allTo_succ, List.getD_eq_getElem?_getD, hx]
                rfl
              have HFS := hide hfs
              clear xa xb xs xc xf kF hw1r k3 hx hcs hfs
              generalize Rc.allTo q li s = al at *
              generalize (q.at_ s).far = fr at *
              go_upto_region 22 with fail
              go_cut [193] (fun t wx => t = .bool false ∧ Below wz.heap.size wz wx)
              case first =>
                have HM1 := hide m1
                have HM2 := hide m2
                clear m1 m2
                cases x with
                | false =>
                  obtain rfl := HM2.out rfl
                  obtain rfl := HM1.out rfl
                  go_quiet (fail)
                  go_wp2_with fail
                  go_meet
                  exact ⟨rfl, HB.out.trans ⟨rfl, rfl, rfl, Nat.le_refl _, fun _ _ => rfl⟩⟩
                | true =>
                  cases fs with
                  | true =>
                    obtain rfl := HM1.out rfl
                    go_quiet (fail)
                    go_wp2_with fail
                    go_meet
                    exact ⟨rfl, HB.out.trans ⟨rfl, rfl, rfl, Nat.le_refl _, fun _ _ => rfl⟩⟩
                  | false =>
                    cases cs with
                    | true =>
                      go_quiet (fail)
                      go_wp2_with fail
                      go_meet
                      exact ⟨rfl, HB.out.trans ⟨rfl, rfl, rfl, Nat.le_refl _, fun _ _ => rfl⟩⟩
                    | false =>
                      go_quiet (fail)
                      go_wp2_with fail
                      go_meet
                      exact ⟨rfl, HB.out.trans ⟨rfl, rfl, rfl, Nat.le_refl _, fun _ _ => rfl⟩⟩
              case rest =>
                obtain ⟨rfl, hbc⟩ := hcut
                have HBC := hide hbc
                obtain ⟨⟨xa, xb⟩, ⟨xs, xc, xf⟩, kF, hw1c⟩ := HX2.out wc hbc
                obtain ⟨⟨k2, k3⟩, _⟩ := HX1.out wc hw1c
                have va := HVA.out wc hbc
                have vF := HVF.out wc hbc
                have hI0 : ((I : Int) == 0) = false := by rw [beq_eq_false_iff_ne]; omega
                clear hbc xa xb xs xc xf kF hw1c vb vs vc vf m1 m2
                go_upto_region 24 with fail
                go_cut [22] (fun t wx => t = .bool (Rc.allTo q li (s + 1)) ∧ wx = wc)
                case first =>
                  cases al with
                  | false =>
                    go_wp2_with fail
                    go_meet
                    exact ⟨by rw [HSU.out]; rfl, rfl⟩
                  | true =>
                    by_cases h0 : fr < 0
                    · have hv : Decidable.decide (fr < 0) = true := decide_eq_true h0
                      have HV := hide hv
                      go_wp2_with fail
                      go_meet
                      exact ⟨by rw [HSU.out, HV.out]; rfl, rfl⟩
                    · have hv : Decidable.decide (fr < 0) = false := decide_eq_false h0
                      have HV := hide hv
                      go_wp2_with fail
                      go_meet
                      exact ⟨by rw [HSU.out, HV.out]; rfl, rfl⟩
                case rest =>
                  obtain ⟨rfl, rfl⟩ := hcut
                  clear va vF k2 HVA HVF
                  go_wp2_with fail
                  go_loopw [24, 25] (fun on i wr => ∃ b : Nat, b ≤ I ∧ i = .int .i64 (b : Int) ∧ on = .bool (((next s).take b).any fun t => !rf.getD t false) ∧ Hid (Below wz.heap.size wz wr)) (fun _ i _ => I - (intOf i).toNat)
                  case atStart => exact ⟨0, Nat.zero_le _, rfl, rfl, HBC.out⟩
                  case round =>
                    obtain ⟨b', hb', rfl, rfl, HB⟩ := hrel
                    obtain ⟨⟨xa, xb⟩, ⟨xs, xc, xf⟩, kF, hw1r⟩ := HX2.out wr HB.out
                    obtain ⟨⟨k2, k3⟩, _⟩ := HX1.out wr hw1r
                    by_cases hbI : b' < I
                    · have hbn : b' < (next s).length := by rw [HNL.out]; exact hbI
                      have hx2 := List.getElem?_eq_getElem hbn
                      have hxS := HNX.out s _ hlt (List.getElem_mem hbn)
                      have hna := HNW.out wr hw1r
                      obtain ⟨bN, hbN⟩ : ∃ b, uN[s]? = some b := ⟨_, List.getElem?_eq_getElem (by rw [hna.2.1]; exact hlt)⟩
                      have t0 := hna.1
                      obtain ⟨t1, t2⟩ := hna.2.2 s bN hbN
                      have t3 := t2 _ _ hx2
                      have HTK : Hid (((next s).take (b' + 1)).any (fun t => !rf.getD t false) = (((next s).take b').any (fun t => !rf.getD t false) || !rf.getD (next s)[b'] false)) := by
                        show _ = _
                        rw [List.take_succ_eq_append_getElem hbn, List.any_append]
                        simp
                      generalize (next s)[b'] = u at *
                      obtain ⟨fu, hfu⟩ : ∃ x, rf[u]? = some x := ⟨_, getD_some rf u (by rw [HGF.out.len]; exact hxS)⟩
                      have vu := xf.cell u fu hfu
                      rw [List.getD_eq_getElem?_getD (l := rf) (i := u), hfu] at HTK
                      have hbi : (b' : Int) < (I : Int) := by omega
                      have hui : (u : Int) < (k : Int) := by omega
                      clear xa xb xs xc xf kF hw1r hx2 hna hbN t2 hfu k2
                      generalize ((next s).take b').any (fun t => !rf.getD t false) = on at *
                      cases on with
                      | true =>
                        go_wp2_with fail
                        go_roundw
                        case rel => exact ⟨b' + 1, by omega, by go_num, by rw [HTK.out]; rfl, HB.out⟩
                        case measure => simp [intOf]; omega
                      | false =>
                        go_wp2_with fail
                        go_roundw
                        case rel => exact ⟨b' + 1, by omega, by go_num, by rw [HTK.out]; rfl, HB.out⟩
                        case measure => simp [intOf]; omega
                    · have hbI' : b' = I := by omega
                      subst hbI'
                      have hon : fs = false → ((next s).take b').any (fun t => !rf.getD t false) = true := fun h => by
                        rw [List.take_of_length_le (by rw [HNL.out]; exact Nat.le_refl _)]
                        obtain ⟨t, h1, h2⟩ := Rc.forces_not HGF.out s hlt (by unfold Rc.Has; rw [List.getD_eq_getElem?_getD, HFS.out, h]; exact Bool.false_ne_true)
                        rw [List.any_eq_true]
                        refine ⟨t, h1, ?_⟩
                        unfold Rc.Has at h2
                        simpa using h2
                      have vf := xf.cell s fs HFS.out
                      have HON := hide hon
                      clear xa xb xs xc xf kF hw1r hon k2
                      generalize ((next s).take b').any (fun t => !rf.getD t false) = on at *
                      cases fs with
                      | true =>
                        go_wp2_with fail
                        exact ⟨⟨s + 1, by omega, by go_num, rfl, HB.out⟩, by simp [intOf]; omega⟩
                      | false =>
                        obtain rfl := HON.out rfl
                        go_wp2_with fail
                        exact ⟨⟨s + 1, by omega, by go_num, rfl, HB.out⟩, by simp [intOf]; omega⟩
            · have hsk : s = k := by omega
              subst hsk
              have hend := Rc.allTo_end hS1 HF.out HLL.out HGR.out
              obtain ⟨z, hz⟩ : ∃ x, r2[0]? = some x := ⟨_, getD_some r2 0 (by rw [HGR.out.len]; exact hS1)⟩
              rw [List.getD_eq_getElem?_getD, hz] at hend
              have vs := xs.cell 0 (!z) (turn_get r2 0 z hz)
              have HFN := hide (HB1.out.trans (hw1r.mono HB1.out.size))
              rw [hend]
              clear xa xb xs xc xf kF hw1r k3 hz hend
              have hs0 : (0 : Int) < (s : Int) := by omega
              go_wp2_with fail
              go_ret
              exact ⟨by simp, HFN.out⟩
end Go.Proofs.YtdmnikbhkpcdpaaGreatDoor
