/-
  The walk of package route's Text: the long part.
-/
import Derived.Test.YtmniiclmimidjaaDoorRjText
namespace Go.Proofs.YtmniiclmimidjaaDoor
namespace Ro
open Go.RowKit Go.Maps
set_option maxHeartbeats 16000000 in
set_option maxRecDepth 100000 in
theorem Text_any (t : Tbl) (rv : Value) (w : World) (hr : Rts w rv t.rts) (hs : Short t) :
    Calls Tryd.prog 10 #[.agg #[.int .i64 t.secs, .int .i64 t.pts, rv]] w fun e w' => e = .returned (.string ⟨(headT t.secs t.pts ++ rtsT t.rts).toArray⟩) ∧ Below w.heap.size w w' := by
  obtain ⟨ra, rc, rfl⟩ := hr.slice
  obtain ⟨n, hn⟩ : ∃ n, n = t.rts.length := ⟨_, rfl⟩
  have HN := hide hn
  have hn8 : n ≤ 8 := by rw [hn]; exact hs.few
  obtain ⟨wA, hwA⟩ : ∃ wA, wA = w.alloc (.cells #[.int .i64 t.secs, .int .i64 t.pts, .slice ra n rc] 24) := ⟨_, rfl⟩
  have hbA : Below w.heap.size w wA := by rw [hwA]; exact newB _ _
  have rT : RowIs wA w.heap.size 24 [.int .i64 t.secs, .int .i64 t.pts, .slice ra n rc] := by rw [hwA]; exact RowIs.new _ _ _
  have hsA : wA.heap.size = w.heap.size + 1 := by rw [hwA]; simp
  obtain ⟨W1, W2, r1, r2, hm2, hb2⟩ := signs_made wA
  rw [hsA] at r1 r2 hm2
  obtain ⟨wB, hwB⟩ : ∃ wB, wB = W2.alloc (.cells #[.pointer none, .slice none 0 0] 69) := ⟨_, rfl⟩
  have hbB : Below W2.heap.size W2 wB := by rw [hwB]; exact newB _ _
  obtain ⟨b, hbb⟩ : ∃ b, b = W2.heap.size := ⟨_, rfl⟩
  have HBD0 : Hid (Bld b (Lib.byteCells []) wB) := by show Bld _ _ _; rw [hwB, hbb]; exact Lib.fresh_isBuilder 69 5 W2
  have HA0 := hide hbA
  have hwb : wA.heap.size ≤ b := by rw [hbb]; exact hb2.size
  have HOLD : Hid (∀ W, Kb b wB W → (W.cell? ⟨w.heap.size, 0, none⟩ = some (.int .i64 t.secs) ∧ W.cell? ⟨w.heap.size, 1, none⟩ = some (.int .i64 t.pts) ∧ W.cell? ⟨w.heap.size, 2, none⟩ = some (.slice ra n rc)) ∧ SMap W (w.heap.size + 1) ∧ Below w.heap.size w W) := fun W hK => by
    have q0 : Below W2.heap.size W2 W := hbB.trans (by rw [← hbb]; exact hK.1)
    have q1 : Below wA.heap.size wA W := then_ hb2 q0
    exact ⟨⟨kept q1 (rT.cell 0 _ rfl), kept q1 (rT.cell 1 _ rfl), kept q1 (rT.cell 2 _ rfl)⟩, hm2.kept (q0.block _ hm2.lt), then_ HA0.out q1⟩
  have HR := hide hr
  have HS := hide hs
  have HI := hide itoaI_any
  have HWA := hide hwA
  have HWB := hide hwB
  have HBE := hide hbb
  have hmk := @run_makeMap Tryd.prog
  rw [← hn] at HR ⊢
  obtain ⟨s0, s1⟩ := hs.s0
  obtain ⟨p0, p1⟩ := hs.p0
  have x0 := rT.cell 0 _ rfl
  have x1 := rT.cell 1 _ rfl
  rw [hwA] at r1
  have hbw : w.heap.size + 1 ≤ b := by omega
  have HL1 : Hid (∀ k, k ≤ n → (rtsT (t.rts.take k)).length ≤ 200 * k) := fun k hk => by
    have h := rtsT_len (t.rts.take k) fun r hr => ⟨(hs.secs r (List.mem_of_mem_take hr)).1, (hs.pts r (List.mem_of_mem_take hr)).1⟩
    rw [List.length_take] at h
    have : min k t.rts.length = k := by omega
    rw [this] at h
    exact h
  have HHL : Hid ((headT t.secs t.pts).length = 20) := rfl
  clear hwA hbA rT hm2 hb2 hwB hbB hbb hr hs hn
  go_enter Tryd.func10, Tryd.ntmps10
  go_upto_region 3 with fail
  rw [← HBE.out, ← HWB.out]
  clear HWA HWB r1 r2 hmk x0 x1
  obtain ⟨⟨y0, y1, y2⟩, _, _⟩ := HOLD.out wB (Kb.refl _ _)
  go_wp2_with fail
  refine (HI.out t.secs s0 s1 wB).mono ?_
  rintro e w1 ⟨rfl, hw1⟩
  obtain rfl := hw1.symm
  have HD1 : Hid (∃ d, d = dig t.secs) := ⟨_, rfl⟩
  obtain ⟨d1, hd1⟩ := HD1.out
  obtain ⟨d2, hd2⟩ : ∃ d, d = dig t.pts := ⟨_, rfl⟩
  have HH1 := hide hd1
  have HH2 := hide hd2
  rw [← hd1]
  have HC1 := hide (fun (s : ByteArray) (h : s.size ≤ 100) => ws2_any b [] s wB HBD0.out (by simp; omega))
  clear hd1 hd2 HD1
  go_wp2_with fail
  refine (HC1.out _ (by simp [ByteArray.size])).mono ?_
  rintro e w2 ⟨rfl, hb2, hk2⟩
  have HB2 : Hid (Bld b (Lib.byteCells ([115, 101, 99, 116, 105, 111, 110, 115, 32] ++ [d1] ++ [10])) w2) := by show Bld _ _ _; simpa using hb2
  have HK2 := hide hk2
  obtain ⟨⟨y0, y1, y2⟩, _, _⟩ := HOLD.out w2 hk2
  clear hb2 hk2 HC1
  go_wp2_with fail
  refine (HI.out t.pts p0 p1 w2).mono ?_
  rintro e w3 ⟨rfl, hw3⟩
  obtain rfl := hw3.symm
  rw [← HH2.out]
  have HC2 := hide (fun (s : ByteArray) (h : s.size ≤ 100) => ws2_any b _ s w2 HB2.out (by simp; omega))
  go_wp2_with fail
  refine (HC2.out _ (by simp [ByteArray.size])).mono ?_
  rintro e w3 ⟨rfl, hb3, hk3⟩
  obtain ⟨H, hH⟩ : ∃ H, H = headT t.secs t.pts := ⟨_, rfl⟩
  have HB3 : Hid (Bld b (Lib.byteCells (H ++ rtsT (t.rts.take 0))) w3) := by
    show Bld _ _ _
    rw [hH]
    unfold headT
    rw [← HH1.out, ← HH2.out]
    simpa [rtsT] using hb3
  have HK3 := hide (HK2.out.trans hk3)
  obtain ⟨⟨y0, y1, y2⟩, _, _⟩ := HOLD.out w3 HK3.out
  have hHL : H.length = 20 := by rw [hH]; exact HHL.out
  have HHH := hide hH
  clear hb3 hk3 HC2 HB2 HK2 hH HH1 HH2
  go_wp2_with fail
  go_loopw [28] (fun iv wr => ∃ k : Nat, k ≤ n ∧ iv = .int .i64 (k : Int) ∧ Hid (Bld b (Lib.byteCells (H ++ rtsT (t.rts.take k))) wr) ∧ Hid (Kb b wB wr)) (fun iv _ => n - (intOf iv).toNat)
  case atStart => exact ⟨0, Nat.zero_le _, rfl, HB3.out, HK3.out⟩
  case round =>
    obtain ⟨k, hk, rfl, HBD, HK⟩ := hrel
    obtain ⟨⟨y0, y1, y2⟩, hsm, hbw'⟩ := HOLD.out wr HK.out
    have HBW := hide hbw'
    by_cases hlt : k < n
    · have hkl : k < t.rts.length := by rw [← HN.out]; exact hlt
      obtain ⟨g, o, sa, sc, pa, pc, rfl, c0, c1, hIs, hPs, _⟩ := (HR.out.below HBW.out).cell k _ (List.getElem?_eq_getElem hkl)
      have hki : (k : Int) < (n : Int) := by omega
      have hlk := HL1.out k hk
      have HTK : Hid (rtsT (t.rts.take (k + 1)) = rtsT (t.rts.take k) ++ rtT t.rts[k]) := by show _ = _; rw [List.take_succ_eq_append_getElem hkl, rtsT_snoc]
      obtain ⟨hq1, hq2⟩ := HS.out.secs _ (List.getElem_mem hkl)
      obtain ⟨hq3, hq4⟩ := HS.out.pts _ (List.getElem_mem hkl)
      obtain ⟨wL, hwL⟩ : ∃ wL, wL = wr.alloc (.cells #[.slice sa t.rts[k].secs.length sc, .slice pa t.rts[k].pts.length pc] 42) := ⟨_, rfl⟩
      have hbL : Below wr.heap.size wr wL := by rw [hwL]; exact newB _ _
      have rL : RowIs wL wr.heap.size 42 [.slice sa t.rts[k].secs.length sc, .slice pa t.rts[k].pts.length pc] := by rw [hwL]; exact RowIs.new _ _ _
      have hblt : b < wr.heap.size := HBD.out.lt
      have HKL : Hid (Kb b wB wL) := by rw [hwL]; exact HK.out.alloc (Nat.le_of_lt hblt) _
      have HBL := hide (HBD.out.below hbL)
      have HIS := hide (hIs.below hbL)
      have HPS := hide (hPs.below hbL)
      have HKR : Hid (∀ W, Kb b wL W → (W.cell? ⟨wr.heap.size, 0, none⟩ = some (.slice sa t.rts[k].secs.length sc) ∧ W.cell? ⟨wr.heap.size, 1, none⟩ = some (.slice pa t.rts[k].pts.length pc)) ∧ Ints W (.slice sa t.rts[k].secs.length sc) t.rts[k].secs ∧ Pts W (.slice pa t.rts[k].pts.length pc) t.rts[k].pts) := fun W hW => by
        have h := hW.cell rL (by omega) (by decide)
        have hW' := (HOLD.out W (HKL.out.trans hW)).2.2
        obtain ⟨_, _, _, _, _, _, hgo, e0, e1, f0, f1, _⟩ := (HR.out.below hW').cell k _ (List.getElem?_eq_getElem hkl)
        simp only [Option.some.injEq, Addr.mk.injEq, and_true] at hgo
        obtain ⟨rfl, rfl⟩ := hgo
        obtain ⟨_, _, _, _, _, _, hgo, e0', e1', _, _, _⟩ := HR.out.cell k _ (List.getElem?_eq_getElem hkl)
        simp only [Option.some.injEq, Addr.mk.injEq, and_true] at hgo
        obtain ⟨rfl, rfl⟩ := hgo
        have k0 := (kept hW' e0').symm.trans e0
        have k0' := (kept HBW.out e0').symm.trans c0
        have k1 := (kept hW' e1').symm.trans e1
        have k1' := (kept HBW.out e1').symm.trans c1
        have m0 := k0.symm.trans k0'
        have m1 := k1.symm.trans k1'
        rw [Option.some.inj m0] at f0
        rw [Option.some.inj m1] at f1
        exact ⟨⟨RowIs.cell h 0 _ rfl, RowIs.cell h 1 _ rfl⟩, f0, f1⟩
      have HWL := hide hwL
      have HRTD : Hid (rtT t.rts[k] = [114, 111, 117, 116, 101] ++ secT t.rts[k].secs ++ [32, 58] ++ ptT t.rts[k].pts ++ [10]) := rfl
      have l1 := HIS.out.len
      have l2 := HPS.out.len
      clear hIs hPs hbL rL hwL
      generalize rtT t.rts[k] = rtx at *
      generalize t.rts[k] = r at *
      obtain ⟨secs, pts⟩ := r
      simp only at c0 c1 hq1 hq2 hq3 hq4 HKR HWL HRTD HIS HPS
      obtain ⟨n1, hn1⟩ : ∃ n1, n1 = secs.length := ⟨_, rfl⟩
      obtain ⟨n2, hn2⟩ : ∃ n2, n2 = pts.length := ⟨_, rfl⟩
      have HN1 := hide hn1
      have HN2 := hide hn2
      have HQ2 := hide hq2
      have HQ4 := hide hq4
      rw [← hn1] at c0 HKR HWL hq1
      rw [← hn2] at c1 HKR HWL hq3
      clear hn1 hn2 hq2 hq4 HIS HPS l1 l2
      obtain ⟨M, hM⟩ : ∃ M, M = H ++ rtsT (t.rts.take k) := ⟨_, rfl⟩
      have hML : M.length ≤ 2000 := by rw [hM, List.length_append]; omega
      have HMD := hide hM
      rw [← hM] at HBL
      have HC1 := hide (fun (s : ByteArray) (h : s.size ≤ 100) => ws2_any b M s wL HBL.out (by omega))
      clear hM hlk
      go_upto_region 8 with fail
      rw [← HWL.out]
      obtain ⟨wO, rfl⟩ : ∃ wO, wO = wr := ⟨_, rfl⟩
      clear c0 c1 y0 y1 y2 HWL
      go_wp2_with fail
      refine (HC1.out _ (by simp [ByteArray.size])).mono ?_
      rintro e w4 ⟨rfl, hb4, hk4⟩
      have HK4 := hide hk4
      obtain ⟨M1, hM1⟩ : ∃ M1, M1 = M ++ [114, 111, 117, 116, 101] := ⟨_, rfl⟩
      have HB4 : Hid (Bld b (Lib.byteCells (M1 ++ secT (secs.take 0))) w4) := by show Bld _ _ _; rw [hM1]; simpa [secT] using hb4
      have hM1L : M1.length ≤ 2005 := by rw [hM1, List.length_append]; simp; omega
      have HM1 := hide hM1
      obtain ⟨⟨u0, u1⟩, _, _⟩ := HKR.out w4 hk4
      clear hb4 hk4 HC1 hM1
      go_wp2_with fail
      go_loopw [36] (fun iv wx => ∃ j : Nat, j ≤ n1 ∧ iv = .int .i64 (j : Int) ∧ Hid (Bld b (Lib.byteCells (M1 ++ secT (secs.take j))) wx) ∧ Hid (Kb b wL wx)) (fun iv _ => n1 - (intOf iv).toNat)
      case atStart => exact ⟨0, Nat.zero_le _, rfl, HB4.out, HK4.out⟩
      case round =>
        obtain ⟨j, hj, rfl, HBJ, HKJ⟩ := hrel
        obtain ⟨⟨u0, u1⟩, hIj, hPj⟩ := HKR.out wr HKJ.out
        by_cases hjl : j < n1
        · have hjp : j < secs.length := by rw [← HN1.out]; exact hjl
          obtain ⟨g1, o1, rfl, d1', _⟩ := hIj.cell j _ (List.getElem?_eq_getElem hjp)
          have hji : (j : Int) < (n1 : Int) := by omega
          obtain ⟨hx0, hx4⟩ := HQ2.out _ (List.getElem_mem hjp)
          have HTJ : Hid (secT (secs.take (j + 1)) = secT (secs.take j) ++ [32, dig secs[j]]) := by show _ = _; rw [List.take_succ_eq_append_getElem hjp, secT_snoc]
          have hlj : (M1 ++ secT (secs.take j)).length ≤ 2100 := by rw [List.length_append, secT_len, List.length_take]; omega
          have HIJ := hide (HI.out secs[j] hx0 hx4 wr)
          have HCJ := hide (fun (s : ByteArray) (h : s.size ≤ 100) => ws2_any b _ s wr HBJ.out (by omega))
          clear hx0 hx4 hlj hIj hPj
          generalize dig secs[j] = d at *
          generalize secs[j] = x at *
          go_wp2_with fail
          refine HIJ.out.mono ?_
          rintro e w5 ⟨rfl, hw5⟩
          obtain rfl := hw5.symm
          go_wp2_with fail
          refine (HCJ.out _ (by simp [ByteArray.size])).mono ?_
          rintro e w6 ⟨rfl, hb6, hk6⟩
          have HB6 : Hid (Bld b (Lib.byteCells (M1 ++ secT (secs.take (j + 1)))) w6) := by show Bld _ _ _; rw [HTJ.out]; simpa using hb6
          have HK6 := hide (HKJ.out.trans hk6)
          clear hb6 hk6 HCJ HIJ
          go_wp2_with fail
          go_roundw
          case rel => exact ⟨j + 1, by omega, by go_num, HB6.out, HK6.out⟩
          case measure => simp [intOf]; omega
        · have hjn : j = n1 := by omega
          have HBE1 : Hid (Bld b (Lib.byteCells (M1 ++ secT secs)) wr) := by
            have h := HBJ.out
            rw [List.take_of_length_le (by rw [← HN1.out]; omega)] at h
            exact h
          obtain rfl := hjn.symm
          have hl2 : (M1 ++ secT secs).length ≤ 2100 := by rw [List.length_append, secT_len, ← HN1.out]; omega
          have HC5 := hide (fun (s : ByteArray) (h : s.size ≤ 100) => ws2_any b _ s wr HBE1.out (by omega))
          clear hIj hPj
          obtain ⟨wP, rfl⟩ : ∃ wP, wP = wr := ⟨_, rfl⟩
          go_wp2_with fail
          refine (HC5.out _ (by simp [ByteArray.size])).mono ?_
          rintro e w7 ⟨rfl, hb7, hk7⟩
          obtain ⟨M2, hM2⟩ : ∃ M2, M2 = (M1 ++ secT secs) ++ [32, 58] := ⟨_, rfl⟩
          have HB7 : Hid (Bld b (Lib.byteCells (M2 ++ ptT (pts.take 0))) w7) := by show Bld _ _ _; rw [hM2]; simpa [ptT] using hb7
          have hM2L : M2.length ≤ 2102 := by rw [hM2, List.length_append]; simp at hl2 ⊢; omega
          have HM2 := hide hM2
          have HK7 := hide (HKJ.out.trans hk7)
          obtain ⟨⟨u0, u1⟩, _, _⟩ := HKR.out w7 HK7.out
          clear hb7 hk7 HC5 hM2 hl2
          go_wp2_with fail
          go_loopw [49] (fun iv wx => ∃ j : Nat, j ≤ n2 ∧ iv = .int .i64 (j : Int) ∧ Hid (Bld b (Lib.byteCells (M2 ++ ptT (pts.take j))) wx) ∧ Hid (Kb b wL wx)) (fun iv _ => n2 - (intOf iv).toNat)
          case atStart => exact ⟨0, Nat.zero_le _, rfl, HB7.out, HK7.out⟩
          case round =>
            obtain ⟨j, hj, rfl, HBP, HKP⟩ := hrel
            obtain ⟨⟨u0, u1⟩, hIj, hPj⟩ := HKR.out wr HKP.out
            by_cases hjl : j < n2
            · have hjp : j < pts.length := by rw [← HN2.out]; exact hjl
              obtain ⟨g1, o1, rfl, d1', d2', _⟩ := hPj.cell j _ (List.getElem?_eq_getElem hjp)
              have hji : (j : Int) < (n2 : Int) := by omega
              obtain ⟨hx0, hx4⟩ := HQ4.out _ (List.getElem_mem hjp)
              have HTJ : Hid (ptT (pts.take (j + 1)) = (ptT (pts.take j) ++ [32, dig pts[j].1]) ++ [sgn pts[j].2]) := by show _ = _; rw [List.take_succ_eq_append_getElem hjp, ptT_snoc]
              have hlj : (M2 ++ ptT (pts.take j)).length ≤ 2200 := by rw [List.length_append, ptT_len, List.length_take]; omega
              have hblr : b < wr.heap.size := HBP.out.lt
              obtain ⟨wQ, hwQ⟩ : ∃ wQ, wQ = wr.alloc (.cells #[.int .i64 pts[j].1, .bool pts[j].2] 50) := ⟨_, rfl⟩
              have hbQ : Below wr.heap.size wr wQ := by rw [hwQ]; exact newB _ _
              have rQ : RowIs wQ wr.heap.size 50 [.int .i64 pts[j].1, .bool pts[j].2] := by rw [hwQ]; exact RowIs.new _ _ _
              have HKQ : Hid (Kb b wL wQ) := by rw [hwQ]; exact HKP.out.alloc (Nat.le_of_lt hblr) _
              have HIJ := hide (HI.out pts[j].1 hx0 hx4 wQ)
              have HBQ := hide (HBP.out.below hbQ)
              have HCJ := hide (fun (s : ByteArray) (h : s.size ≤ 100) => ws2_any b _ s wQ HBQ.out (by omega))
              have HPC : Hid (∀ W, Kb b wQ W → W.cell? ⟨wr.heap.size, 0, none⟩ = some (.int .i64 pts[j].1) ∧ W.cell? ⟨wr.heap.size, 1, none⟩ = some (.bool pts[j].2)) := fun W hW => by
                have h := hW.cell rQ (by omega) (by decide)
                exact ⟨RowIs.cell h 0 _ rfl, RowIs.cell h 1 _ rfl⟩
              have HWQ := hide hwQ
              clear hx0 hx4 hIj hPj hbQ rQ hwQ
              generalize pts[j] = pp at *
              obtain ⟨x, ov⟩ := pp
              simp only at d1' d2' HTJ HIJ HPC HWQ
              generalize dig x = d at *
              go_upto_region 18 with fail
              rw [← HWQ.out]
              obtain ⟨wS, rfl⟩ : ∃ wS, wS = wr := ⟨_, rfl⟩
              clear d1' d2' HWQ
              obtain ⟨q0, q1⟩ := HPC.out wQ (Kb.refl _ _)
              go_wp2_with fail
              refine HIJ.out.mono ?_
              rintro e w8 ⟨rfl, hw8⟩
              obtain rfl := hw8.symm
              go_wp2_with fail
              refine (HCJ.out _ (by simp [ByteArray.size])).mono ?_
              rintro e w9 ⟨rfl, hb9, hk9⟩
              have HB9 : Hid (Bld b (Lib.byteCells ((M2 ++ ptT (pts.take j)) ++ [32, d])) w9) := by show Bld _ _ _; simpa using hb9
              have HK9 := hide (HKQ.out.trans hk9)
              obtain ⟨q0, q1⟩ := HPC.out w9 hk9
              have hlook := ((HOLD.out w9 (HKL.out.trans HK9.out)).2.1).look ov
              have HCW := hide (wb2_any b _ (sgn ov) w9 HB9.out (by rw [List.length_append]; simp at hlj ⊢; omega))
              clear hb9 hk9 HCJ HIJ
              generalize sgn ov = sg at *
              go_wp2_with fail
              refine HCW.out.mono ?_
              rintro e w10 ⟨rfl, hb10, hk10⟩
              have HB10 : Hid (Bld b (Lib.byteCells (M2 ++ ptT (pts.take (j + 1)))) w10) := by show Bld _ _ _; rw [HTJ.out]; simpa using hb10
              have HK10 := hide (HK9.out.trans hk10)
              clear hb10 hk10 HCW
              go_wp2_with fail
              go_roundw
              case rel => exact ⟨j + 1, by omega, by go_num, HB10.out, HK10.out⟩
              case measure => simp [intOf]; omega
            · have hjn : j = n2 := by omega
              have HBE2 : Hid (Bld b (Lib.byteCells (M2 ++ ptT pts)) wr) := by
                have h := HBP.out
                rw [List.take_of_length_le (by rw [← HN2.out]; omega)] at h
                exact h
              obtain rfl := hjn.symm
              have hl3 : (M2 ++ ptT pts).length ≤ 2200 := by rw [List.length_append, ptT_len, ← HN2.out]; omega
              have HC8 := hide (fun (s : ByteArray) (h : s.size ≤ 100) => ws2_any b _ s wr HBE2.out (by omega))
              clear hIj hPj
              go_wp2_with fail
              refine (HC8.out _ (by simp [ByteArray.size])).mono ?_
              rintro e w11 ⟨rfl, hb11, hk11⟩
              have HB11 : Hid (Bld b (Lib.byteCells (H ++ rtsT (t.rts.take (k + 1)))) w11) := by
                show Bld _ _ _
                rw [HTK.out, HRTD.out]
                rw [HM2.out, HM1.out, HMD.out] at hb11
                simpa using hb11
              have HK11 := hide (HKL.out.trans (HKP.out.trans hk11))
              clear hb11 hk11 HC8 hl3
              go_wp2_with fail
              go_roundw
              case rel => exact ⟨k + 1, by omega, by go_num, HB11.out, HK11.out⟩
              case measure => simp [intOf]; omega
    · have hkn : k = n := by omega
      have HBF : Hid (Bld b (Lib.byteCells (H ++ rtsT t.rts)) wr) := by
        have h := HBD.out
        rw [List.take_of_length_le (by rw [← HN.out]; omega)] at h
        exact h
      have HST := hide (Tryd.Builder_String_any b b _ wr HBF.out (Nat.le_of_lt HBF.out.lt))
      obtain rfl := hkn.symm
      go_wp2_with fail
      refine HST.out.mono ?_
      rintro e w12 ⟨rfl, hb12⟩
      have HBZ := hide (HBW.out.trans (hb12.mono (by omega)))
      clear hb12 HST
      go_wp2_with fail
      go_ret
      exact ⟨by rw [HHH.out]; rfl, HBZ.out⟩
end Ro
end Go.Proofs.YtmniiclmimidjaaDoor
