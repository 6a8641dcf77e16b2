/-
  The walk of LadderBack: what a program's text tells is that program again.
-/
import Derived.Test.YtiamkoghflfjcaaGreatDoorKeLadder
namespace Go.Proofs.YtiamkoghflfjcaaGreatDoor
open Go.RowKit
/-- how long a program's text may be -/
theorem text_bound {w : World} {p : Ld.Prg} {v : Value} (h : IsPrg w p v) (hc : Ld.check p = none) : (Ld.text p).length ≤ 60000000 := by
  obtain ⟨nv, rv, _, _, hr⟩ := h
  obtain ⟨k1, k2, k3, k4⟩ := Ld.check_names p hc
  rw [Ld.text, if_pos hc]
  have h1 := Ld.ended_len (Ld.linesT p) 1000020 (fun a ha => by
    rcases List.mem_append.1 ha with ha | ha
    · obtain ⟨y, hy, rfl⟩ := List.mem_map.1 ha
      obtain ⟨q1, q2, q3, q4⟩ := k3 y hy
      exact Nat.le_trans (Ld.nameT_len y q1 q2 q3 q4) (by decide)
    · obtain ⟨y, hy, rfl⟩ := List.mem_map.1 ha
      obtain ⟨q1, q2, q3, x, q4, _⟩ := k4 y hy
      have h5 := Ld.rungT_len y q3 q1 q2
      have h6 : (Ld.condT y.cond).length ≤ 1000000 := by
        rcases hr with ⟨h0, _⟩ | ⟨g, cap, _, _, _, h9⟩
        · rw [h0] at hy; simp at hy
        · obtain ⟨i, hi⟩ := List.getElem?_of_mem hy
          obtain ⟨u, _, _, _, _, _, hcd⟩ := h9 i y hi
          rw [q4] at hcd ⊢
          exact hcd.2.2
      omega)
  have h2 : (Ld.linesT p).length ≤ 52 := by simp only [Ld.linesT, List.length_append, List.length_map]; omega
  have h3 : (1000020 + 1) * (Ld.linesT p).length ≤ (1000020 + 1) * 52 := Nat.mul_le_mul_left _ h2
  omega
set_option maxHeartbeats 8000000 in
set_option maxRecDepth 100000 in
theorem ladderBack_any (s : ByteArray) (w : World) (hs : s.size ≤ maxLen) (hL : Laid w) :
    Calls Tryz.prog 5 #[.string s] w fun e w' => e = .returned (.bool true) ∧ Below w.heap.size w w' := by
  have hs' := hs
  unfold maxLen at hs'
  by_cases q1 : 1500 < s.size
  · have q1' : (1500 : Int) < (s.size : Int) := by omega
    go_enter Tryz.func5, Tryz.ntmps5
    go_wp2_with fail
    go_ret
    exact ⟨rfl, Below.refl _ _⟩
  have q1' : ¬ (1500 : Int) < (s.size : Int) := by omega
  have HL := hide hL
  have HP := hide (LParse_any s.data.toList w (by unfold maxLen; rw [show s.data.toList.length = s.size from rfl]; exact hs') hL)
  change Hid (Calls Tryz.prog 25 #[.string s] w (LParsed w (Ld.parse s.data.toList))) at HP
  clear hL
  obtain ⟨T, hT⟩ : ∃ T, T = Ld.parse s.data.toList := ⟨_, rfl⟩
  have HT := hide hT
  rw [← hT] at HP
  clear hT q1
  go_enter Tryz.func5, Tryz.ntmps5
  go_wp2_with fail
  refine HP.out.mono ?_
  intro e w1 hq
  clear HP
  match T, hq, HT with
  | .inl (err, pl), hq, _ =>
    obtain ⟨hb1, u, rfl, hu⟩ := hq
    have HB1 := hide hb1
    have HL1 := hide (HL.out.below hb1)
    obtain ⟨tu, yu, hiu⟩ : ∃ tu yu, u = .iface tu yu := by
      match pl, hu with
      | none, h => exact ⟨_, _, h⟩
      | some i, ⟨a, h, _⟩ => exact ⟨_, _, h⟩
    subst hiu
    obtain ⟨wA, hwA⟩ : ∃ wA, wA = w1.alloc (.cells #[.slice none 0 0, .slice none 0 0] 28) := ⟨_, rfl⟩
    have hbA : Below w1.heap.size w1 wA := by rw [hwA]; exact (Below.refl _ _).alloc (Nat.le_refl _) _
    have hsA : wA.heap.size = w1.heap.size + 1 := by rw [hwA]; simp
    have HLA := hide (laddered_any wA (HL1.out.below hbA))
    rw [hwA] at HLA
    have HWA := hide hwA
    have HBA := hide hbA
    have HSA := hide hsA
    clear hwA hbA hsA hu hb1
    go_wp2_with fail
    refine HLA.out.mono ?_
    rintro e w2 ⟨rfl, hb2⟩
    rw [← HWA.out] at hb2
    have HB2 := hide hb2
    have HBB := hide (HBA.out.trans (hb2.mono HBA.out.size))
    clear hb2 HLA
    go_wp2_with fail
    refine (laddered_any w2 (HL1.out.below HBB.out)).mono ?_
    rintro e w3 ⟨rfl, hb3⟩
    have hbx : Below wA.heap.size wA w3 := HB2.out.trans (hb3.mono HB2.out.size)
    have k0 : w3.cell? ⟨w1.heap.size, 0, none⟩ = some (.slice none 0 0) := by rw [hbx.cell (p := ⟨w1.heap.size, 0, none⟩) (by rw [HSA.out]; exact Nat.lt_succ_self _), HWA.out]; simp [go_sem]
    have k1 : w3.cell? ⟨w1.heap.size, 1, none⟩ = some (.slice none 0 0) := by rw [hbx.cell (p := ⟨w1.heap.size, 1, none⟩) (by rw [HSA.out]; exact Nat.lt_succ_self _), HWA.out]; simp [go_sem]
    have HB3 := hide (HB1.out.trans (((HBA.out.trans (hbx.mono HBA.out.size))).mono HB1.out.size))
    clear hbx hb3
    go_wp2_with fail
    go_ret
    exact ⟨rfl, HB3.out⟩
  | .inr p, hq, HT =>
    obtain ⟨hb1, v, rfl, hp1, hex⟩ := hq
    have HCK := hide (Ld.parse_check _ p HT.out.symm)
    have HTL := text_bound hp1 HCK.out
    have HEX := hide hex
    have HB1 := hide hb1
    have HL1 := hide (HL.out.below hb1)
    have HP1 := hide hp1
    obtain ⟨nv, rv, rfl, hn, hr⟩ := hp1
    have HNA := hide hn
    have HRA := hide hr
    obtain ⟨na, nc, rfl, hn1⟩ := hn.slice
    obtain ⟨ra, rc, rfl, hr1⟩ := hr.slice
    obtain ⟨n, hnn⟩ : ∃ n, n = p.names.length := ⟨_, rfl⟩
    obtain ⟨m, hmm⟩ : ∃ m, m = p.rungs.length := ⟨_, rfl⟩
    have HN := hide hnn
    have HM := hide hmm
    rw [← hnn] at HP1 HNA hn1
    rw [← hmm] at HP1 HRA hr1
    rw [← hnn, ← hmm]
    clear hnn hmm hb1 hn hr hex
    obtain ⟨wA, hwA⟩ : ∃ wA, wA = w1.alloc (.cells #[.slice na n nc, .slice ra m rc] 28) := ⟨_, rfl⟩
    have hbA : Below w1.heap.size w1 wA := by rw [hwA]; exact (Below.refl _ _).alloc (Nat.le_refl _) _
    have hsA : wA.heap.size = w1.heap.size + 1 := by rw [hwA]; simp
    have HLA := hide (laddered_any wA (HL1.out.below hbA))
    rw [hwA] at HLA
    have HBX : Hid (∀ (W : World), Below wA.heap.size wA W → W.cell? ⟨w1.heap.size, 0, none⟩ = some (.slice na n nc) ∧ W.cell? ⟨w1.heap.size, 1, none⟩ = some (.slice ra m rc) ∧ Below w1.heap.size w1 W) := by
      intro W hW
      have q1 : w1.heap.size < wA.heap.size := by omega
      refine ⟨?_, ?_, hbA.trans (hW.mono hbA.size)⟩
      · rw [hW.cell (p := ⟨w1.heap.size, 0, none⟩) q1, hwA]; simp [go_sem]
      · rw [hW.cell (p := ⟨w1.heap.size, 1, none⟩) q1, hwA]; simp [go_sem]
    have HWA := hide hwA
    clear hwA hbA
    have HSA := hide hsA
    clear hsA
    go_wp2_with fail
    refine HLA.out.mono ?_
    rintro e w2 ⟨rfl, hb2⟩
    rw [← HWA.out] at hb2
    have HB2 := hide hb2
    obtain ⟨c0, c1, hbw2⟩ := HBX.out w2 hb2
    have hL2 := HL1.out.below hbw2
    have HTX := hide (LText_any p _ w2 (HP1.out.below hbw2) hL2.words hL2.pows hL2.low)
    clear hb2 HLA hbw2 hL2
    go_wp2_with fail
    refine HTX.out.mono ?_
    rintro e w3 ⟨rfl, hb3⟩
    have hs2 := HB2.out.size
    have hb3' : Below wA.heap.size wA w3 := HB2.out.trans (hb3.mono hs2)
    have HB3 := hide hb3'
    obtain ⟨d0, d1, hbw3⟩ := HBX.out w3 hb3'
    have HW3 := hide hbw3
    have HSZ : Hid ((⟨(Ld.text p).toArray⟩ : ByteArray).size = (Ld.text p).length) := by show _ = _; simp [ByteArray.size]
    have ht6 : (⟨(Ld.text p).toArray⟩ : ByteArray).size ≤ 60000000 := by rw [HSZ.out]; exact HTL
    clear hb3 HTX hb3' hbw3 c0 c1
    by_cases q4 : 20000 < (⟨(Ld.text p).toArray⟩ : ByteArray).size
    · have q4' : (20000 : Int) < ((⟨(Ld.text p).toArray⟩ : ByteArray).size : Int) := by omega
      generalize (⟨(Ld.text p).toArray⟩ : ByteArray) = tx at *
      go_wp2_with fail
      go_ret
      exact ⟨rfl, HB1.out.trans (HW3.out.mono HB1.out.size)⟩
    have q4' : ¬ (20000 : Int) < ((⟨(Ld.text p).toArray⟩ : ByteArray).size : Int) := by omega
    have ht2 : (Ld.text p).length ≤ 20000 := by rw [← HSZ.out]; omega
    have HPB := hide (fun hr => Ld.parse_text p HCK.out HEX.out ht2 hr)
    have HP2 := hide (fun (W : World) (hW : Laid W) => LParse_any (Ld.text p) W (by unfold maxLen; omega) hW)
    generalize htx : (⟨(Ld.text p).toArray⟩ : ByteArray) = tx at *
    have HXE := hide htx
    clear htx q4 ht2 HTL
    go_wp2_with fail
    go_loopw [6] (fun i wr => ∃ k : Nat, k ≤ m ∧ i = .int .i64 (k : Int) ∧ Hid (Below wA.heap.size wA wr) ∧ Hid (∀ r, r ∈ p.rungs.take k → (Ld.condT r.cond).length ≤ 1999)) (fun i _ => m - (intOf i).toNat)
    case atStart => exact ⟨0, Nat.zero_le _, rfl, HB3.out, fun r hr => by simp at hr⟩
    case round =>
      obtain ⟨k, hk, rfl, HBR, HRL⟩ := hrel
      obtain ⟨c0, c1, hbw⟩ := HBX.out wr HBR.out
      have HBW := hide hbw
      clear hbw d0 d1
      by_cases hlt : k < m
      · have hkl : k < p.rungs.length := by rw [← HM.out]; exact hlt
        obtain ⟨g, hra, hca, u, e1, e2, e3, _, _, e6⟩ : ∃ g, ra = some ⟨g, 0, none⟩ ∧ m ≤ rc ∧ RungAt wr g k p.rungs[k] := by
          rcases HRA.out.below HBW.out with ⟨h0, _⟩ | ⟨g, cap, h1, h2, h3, h4⟩
          · rw [h0] at hkl; simp at hkl
          · simp only [Value.slice.injEq] at h1
            exact ⟨g, h1.1, by rw [h1.2.2, h1.2.1]; exact h2, h4 k _ (List.getElem?_eq_getElem hkl)⟩
        subst hra
        obtain ⟨_, _, _, x, q4, _⟩ := (Ld.check_names p HCK.out).2.2.2 _ (List.getElem_mem hkl)
        have HTK := hide (List.take_succ_eq_append_getElem hkl)
        generalize p.rungs[k] = y at *
        obtain ⟨yk, ynm, yc⟩ := y
        simp only at e1 e2 e3 q4 e6
        subst q4
        obtain ⟨hx, hxs, hxt⟩ := e6
        obtain ⟨tu, yu, hiu⟩ := IsEx.iface x u hx
        subst hiu
        have HCX := hide (Text_any _ x _ wr hx hxt)
        have HXZ : Hid ((⟨x.text.toArray⟩ : ByteArray).size = x.text.length) := by show _ = _; simp [ByteArray.size]
        have hx6 : (⟨x.text.toArray⟩ : ByteArray).size ≤ 1000000 := by rw [HXZ.out]; exact hxt
        clear hx e1 e2 hxt hxs
        go_wp2_with fail
        refine HCX.out.mono ?_
        rintro e w4 ⟨rfl, hb4⟩
        have HB4 := hide (HBR.out.trans (hb4.mono HBR.out.size))
        clear hb4 HCX
        by_cases q5 : 1990 < (⟨x.text.toArray⟩ : ByteArray).size
        · have q5' : (1990 : Int) < ((⟨x.text.toArray⟩ : ByteArray).size : Int) := by omega
          generalize (⟨x.text.toArray⟩ : ByteArray) = xx at *
          go_wp2_with fail
          go_ret
          exact ⟨rfl, HB1.out.trans ((HBX.out w4 HB4.out).2.2.mono HB1.out.size)⟩
        · have q5' : ¬ (1990 : Int) < ((⟨x.text.toArray⟩ : ByteArray).size : Int) := by omega
          have hx9 : x.text.length ≤ 1999 := by rw [← HXZ.out]; omega
          generalize (⟨x.text.toArray⟩ : ByteArray) = xx at *
          go_wp2_with fail
          go_roundw
          case rel =>
            refine ⟨k + 1, by omega, by go_num, HB4.out, fun r hr => ?_⟩
            rw [HTK.out] at hr
            rcases List.mem_append.1 hr with hr | hr
            · exact HRL.out r hr
            · rw [List.mem_singleton] at hr
              subst hr
              exact hx9
          case measure => simp [intOf]; omega
      · have hjm : k = m := by omega
        have hall : ∀ r, r ∈ p.rungs → (Ld.condT r.cond).length ≤ 1999 := fun r hr => HRL.out r (by rw [hjm, List.take_of_length_le (by rw [← HM.out]; exact Nat.le_refl _)]; exact hr)
        subst hjm
        have HPA := hide (HP2.out wr (HL1.out.below HBW.out))
        rw [HPB.out hall] at HPA
        clear hall HP2 HPB
        go_wp2_with fail
        refine HPA.out.mono ?_
        rintro e w4 ⟨hb4, v, rfl, hp4, _⟩
        have HB4 := hide (HBR.out.trans (hb4.mono HBR.out.size))
        have HL4 := hide ((HL1.out.below HBW.out).below hb4)
        have HP4 := hide hp4
        obtain ⟨nv, rv, rfl, hn, hr⟩ := hp4
        obtain ⟨na4, nc4, rfl, _⟩ := hn.slice
        obtain ⟨ra4, rc4, rfl, _⟩ := hr.slice
        rw [← HN.out, ← HM.out] at HP4 ⊢
        clear hb4 hn hr HPA
        obtain ⟨wC, hwC⟩ : ∃ wC, wC = w4.alloc (.cells #[.slice na4 n nc4, .slice ra4 k rc4] 28) := ⟨_, rfl⟩
        have hbC : Below w4.heap.size w4 wC := by rw [hwC]; exact (Below.refl _ _).alloc (Nat.le_refl _) _
        have hsC : wC.heap.size = w4.heap.size + 1 := by rw [hwC]; simp
        have hLC := HL4.out.below hbC
        have HTX := hide (LText_any p _ wC (HP4.out.below hbC) hLC.words hLC.pows hLC.low)
        rw [hwC, HXE.out] at HTX
        have HWC := hide hwC
        have HBC := hide hbC
        have HSC := hide hsC
        clear hwC hbC hsC hLC
        go_wp2_with fail
        refine HTX.out.mono ?_
        rintro e w5 ⟨rfl, hb5⟩
        rw [← HWC.out] at hb5
        have hb5' : Below wA.heap.size wA w5 := HB4.out.trans ((HBC.out.trans (hb5.mono HBC.out.size)).mono HB4.out.size)
        obtain ⟨f0, f1, hbw5⟩ := HBX.out w5 hb5'
        have g0 : w5.cell? ⟨w4.heap.size, 0, none⟩ = some (.slice na4 n nc4) := by rw [hb5.cell (p := ⟨w4.heap.size, 0, none⟩) (by rw [HSC.out]; exact Nat.lt_succ_self _), HWC.out]; simp [go_sem]
        have g1 : w5.cell? ⟨w4.heap.size, 1, none⟩ = some (.slice ra4 k rc4) := by rw [hb5.cell (p := ⟨w4.heap.size, 1, none⟩) (by rw [HSC.out]; exact Nat.lt_succ_self _), HWC.out]; simp [go_sem]
        have HW5 := hide hbw5
        clear hb5 hb5' hbw5 HTX c0 c1
        go_wp2_with fail
        go_ret
        exact ⟨ret_bool (by simp), HB1.out.trans (HW5.out.mono HB1.out.size)⟩
end Go.Proofs.YtiamkoghflfjcaaGreatDoor
