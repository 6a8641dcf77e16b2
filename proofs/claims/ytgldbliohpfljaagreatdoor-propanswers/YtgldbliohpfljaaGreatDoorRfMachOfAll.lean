/-
  The walk of the document's State of a number. The walk of the document's MachineOf.
-/
import Derived.Test.YtgldbliohpfljaaGreatDoorRfStateMAll
import Derived.Test.YtgldbliohpfljaaGreatDoorNaEdgesAll
import Derived.Test.YtgldbliohpfljaaGreatDoorRfStep
import Derived.Deep.RegionHeld3
namespace Go.Proofs.YtgldbliohpfljaaGreatDoor
section
namespace Rf
open Go.RowKit Go.Maps
set_option maxHeartbeats 8000000 in
set_option maxRecDepth 100000 in
theorem RState_any (bm : Nat) (p : Ld.Prg) (nv rv nx : Value) (S I n : Nat) (w : World) (h : RMachAt w bm nv rv S I nx) (hp : IsRPrg w p (.agg #[nv, rv])) (hL : RLaid w) (hck : Ld.check p = none) (hn : n ≤ 1000000) :
    Calls Tryz.prog 45 #[.pointer (some ⟨bm, 0, none⟩), .int .i64 (n : Int)] w fun e w' => Below w.heap.size w w' ∧ ∃ v', e = .returned v' ∧ StIs w' v' 12 (state p n) := by
  have hmm := @run_makeMap Tryz.prog
  obtain ⟨nv', rv', he, hnm, hr⟩ := id hp
  simp only [Value.agg.injEq, List.toArray_eq_iff, List.cons.injEq, and_true] at he
  obtain ⟨rfl, rfl⟩ := he
  have HNA := hide hnm
  have HMA := hide h
  have HRP := hide hp
  have HL := hide hL
  have HCK := hide hck
  have hle12 := (Ld.check_names p hck).1
  have HPLE : Hid (∀ k, k < p.names.length → part p k ≤ 8) := fun k hk => part_le p hck k hk
  obtain ⟨na, nc, rfl, hln⟩ := hnm.slice
  obtain ⟨ra, rc, rfl, hlr⟩ := hr.slice
  obtain ⟨wA, hwA⟩ : ∃ wA, wA = w.alloc (.cells #[.map none, .map none] 123) := ⟨_, rfl⟩
  have hbA : Below w.heap.size w wA := by rw [hwA]; exact (Below.refl _ _).alloc (Nat.le_refl _) _
  have hzA : wA.heap.size = w.heap.size + 1 := by rw [hwA]; simp
  have HRS : Hid (wA.heap[w.heap.size]? = some (.cells #[.map none, .map none] 123 (0, 0))) := by show _ = _; rw [hwA]; exact heap_alloc_new _ _
  have HBA := hide hbA
  have HST := hide (Start_any wA)
  have hbm := h.lt
  rw [hwA] at HST
  have HWA := hide hwA
  clear hnm hr hL hck hwA hbA h hp
  go_enter Tryz.func45, Tryz.ntmps45
  go_wp2_with fail
  refine HST.out.mono ?_
  rintro e wD ⟨hbD, b1, b2, rfl, hb1, hb2, hne, hn1, hn2⟩
  rw [← HWA.out] at hbD hb1 hb2
  obtain ⟨wE, hwE⟩ : ∃ wE, wE = wD.alloc (.cells #[.map (some b1), .map (some b2)] 123) := ⟨_, rfl⟩
  have hzE : wE.heap.size = wD.heap.size + 1 := by rw [hwE]; simp
  have bE : Below wD.heap.size wD wE := by rw [hwE]; exact (Below.refl _ _).alloc (Nat.le_refl _) _
  have hlb1 := hn1.lt
  have hlb2 := hn2.lt
  have hzD := hbD.size
  have HBE := hide (then_ hbD bE)
  have HKT : Hid (wE.heap[wD.heap.size]? = some (.cells #[.map (some b1), .map (some b2)] 123 (0, 0))) := by show _ = _; rw [hwE]; exact heap_alloc_new _ _
  have HN1 := hide (om_below hn1 bE)
  have HN2 := hide (om_below hn2 bE)
  have HBWE : Hid (Below w.heap.size w wE) := then_ HBA.out HBE.out
  have HPA := hide (Parts_any p _ wE (HRP.out.below HBWE.out) (HL.out.below HBWE.out) HCK.out)
  obtain ⟨⟨y0, y1⟩, _⟩ := (HMA.out.below HBWE.out).cells
  rw [hwE] at HPA y0 y1
  have HWE := hide hwE
  clear hwE bE hn1 hn2 hbD HST HWA
  go_wp2_with fail
  refine HPA.out.mono ?_
  rintro e wP ⟨ev, rfl, hev, hbP⟩
  rw [← HWE.out] at hev hbP
  obtain ⟨ea, ec, rfl⟩ := own_slice hev
  obtain ⟨L, hLn⟩ : ∃ L, L = p.names.length := ⟨_, rfl⟩
  have HLN := hide hLn
  rw [← hLn] at hle12 hev ⊢
  have HEV := hide hev
  have HBP := hide hbP
  have hzP := hbP.size
  have HBWP : Hid (Below w.heap.size w wP) := then_ HBWE.out hbP
  have HM1 : Hid (BM wP b1 0 (stTo p n 0).2.is) := ⟨.map [], om_below HN1.out hbP, fun _ => rfl⟩
  have HM2 : Hid (IM wP b2 0 (stTo p n 0).2.ct) := ⟨.map [], om_below HN2.out hbP, fun _ => rfl⟩
  have hto : ∀ W, Fr b1 b2 wP W → (W.cell? ⟨wD.heap.size, 0, none⟩ = some (.map (some b1)) ∧ W.cell? ⟨wD.heap.size, 1, none⟩ = some (.map (some b2))) ∧ (W.cell? ⟨bm, 0, none⟩ = some (.slice na L nc) ∧ W.cell? ⟨bm, 1, none⟩ = some (.slice ra p.rungs.length rc)) ∧ W.heap[w.heap.size]? = some (.cells #[.map none, .map none] 123 (0, 0)) := fun W h => by
    obtain ⟨es1, cl1, o1⟩ := HM1.out.obj
    obtain ⟨es2, cl2, o2⟩ := HM2.out.obj
    have e0 : wP.heap[wD.heap.size]? = some (.cells #[.map (some b1), .map (some b2)] 123 (0, 0)) := (hbP.block _ (by omega)).trans HKT.out
    obtain ⟨⟨y0, y1⟩, _⟩ := (HMA.out.below HBWP.out).cells
    rw [← hLn] at y0
    refine ⟨⟨h.cell o1 o2 (by rw [Lib.cell_of_heap e0]; rfl), h.cell o1 o2 (by rw [Lib.cell_of_heap e0]; rfl)⟩, ⟨h.cell o1 o2 y0, h.cell o1 o2 y1⟩, ?_⟩
    rw [h.block _ (by omega) (by omega) (by omega), hbP.block _ (by omega), HBE.out.block _ (by omega)]
    exact HRS.out
  have HTO := hide hto
  have HNP := hide (HNA.out.below HBWP.out)
  have HC0 : Hid (∀ s, -9223372036854775808 ≤ (stTo p n 0).2.ct s ∧ (stTo p n 0).2.ct s ≤ 9223372036854775807) := fun s => by show -9223372036854775808 ≤ (0 : Int) ∧ (0 : Int) ≤ 9223372036854775807; omega
  clear hto hev hbP hLn HPA HN1 HN2 HWE y0 y1
  go_wp2_with fail
  go_loopw [1, 16] (fun nvv iv wr => ∃ (j m : Nat), j ≤ L ∧ iv = .int .i64 (j : Int) ∧ nvv = .int .i64 (m : Int) ∧ Hid (m = (stTo p n j).1) ∧ Hid (BM wr b1 j (stTo p n j).2.is) ∧ Hid (IM wr b2 j (stTo p n j).2.ct) ∧ Hid (∀ s, -9223372036854775808 ≤ (stTo p n j).2.ct s ∧ (stTo p n j).2.ct s ≤ 9223372036854775807) ∧ Hid (Fr b1 b2 wP wr)) (fun _ iv _ => L - (intOf iv).toNat)
  case atStart => exact ⟨0, n, Nat.zero_le _, rfl, rfl, rfl, HM1.out, HM2.out, HC0.out, Fr.refl _ _ _⟩
  case round =>
    obtain ⟨j, m, hj, rfl, rfl, HM, HI1, HI2, HCT, HF⟩ := hrel
    obtain ⟨⟨x0, x1⟩, ⟨x2, x3⟩, xr⟩ := HTO.out wr HF.out
    obtain ⟨es1, cl1, o1⟩ := HM1.out.obj
    obtain ⟨es2, cl2, o2⟩ := HM2.out.obj
    have hzF := HF.out.size
    by_cases hlt : j < L
    · have hjl : j < p.names.length := by rw [← HLN.out]; exact hlt
      obtain ⟨g, hga, hcap, e1, e2, e3, hnl, _, _⟩ := HNP.out.at_ (List.getElem?_eq_getElem hjl)
      subst hga
      replace e1 := HF.out.cell o1 o2 e1
      replace e2 := HF.out.cell o1 o2 e2
      replace e3 := HF.out.cell o1 o2 e3
      have hpl : j < (partsL p).length := by rw [partsL_len]; exact hjl
      obtain ⟨ge, hge, _, hec, _, ce⟩ := own_int (l := partsL p) (k := j) (by have h := HEV.out; rw [HLN.out] at h; rw [partsL_len]; exact h) hpl
      subst hge
      replace ce := HF.out.cell o1 o2 ce
      have hpe : (partsL p)[j] = part p j := by
        have h1 := partsL_at p j hjl
        rw [List.getElem?_eq_getElem hpl] at h1
        exact Option.some.inj h1
      rw [hpe] at ce
      have hpk := HPLE.out j hjl
      have hml : m ≤ 1000000 := by rw [HM.out]; exact Nat.le_trans (stTo_le p n j) hn
      have HN0 := hide (stTo_none p n j)
      have HN1 := hide (stTo_some p n j)
      have HPUT : Hid (∀ v s, put p j v s = if 3 ≤ p.names[j].kind then ⟨upd s.is p.names[j].name ((v : Int) == p.names[j].count), upd s.ct p.names[j].name (v : Int)⟩ else ⟨upd s.is p.names[j].name (v == 1), s.ct⟩) := fun v s => by
        unfold put; rw [List.getElem?_eq_getElem hjl]
      obtain ⟨t, ht⟩ : ∃ t, t = stTo p n j := ⟨_, rfl⟩
      rw [← ht] at HM HI1 HI2 HCT HN0 HN1
      have hji : (j : Int) < (L : Int) := by omega
      generalize p.names[j] = y at *
      obtain ⟨nm, kd, ct⟩ := y
      dsimp only at e1 e2 e3 hnl HPUT
      obtain ⟨pk, hpkk⟩ : ∃ pk, pk = part p j := ⟨_, rfl⟩
      have HPK := hide hpkk
      rw [← hpkk] at ce hpk HN0 HN1
      clear hpkk hpe hpl o1 o2 ht
      by_cases hp0 : pk = 0
      · have HS := hide (HN0.out hp0)
        subst hp0
        go_wp2_with fail
        go_roundw
        case rel => exact ⟨j + 1, m, by omega, by go_num, rfl, by rw [HS.out]; exact HM.out, by rw [HS.out]; exact HI1.out.more (by omega), by rw [HS.out]; exact HI2.out.more (by omega), by rw [HS.out]; exact HCT.out, HF.out⟩
        case measure => simp [intOf]; omega
      · have hp0i : ((pk : Int) == 0) = false := by simp; omega
        have hp0n : ¬ (pk : Int) = 0 := by omega
        have HS := hide (HN1.out hp0)
        obtain ⟨c, hc⟩ : ∃ c, c = m % pk := ⟨_, rfl⟩
        obtain ⟨d, hd⟩ : ∃ d, d = m / pk := ⟨_, rfl⟩
        have hrem : (m : Int).tmod (pk : Int) = (c : Int) := by rw [hc, Int.tmod_eq_emod_of_nonneg (by omega)]; push_cast; rfl
        have hquo : (m : Int).tdiv (pk : Int) = (d : Int) := by rw [hd, Int.tdiv_eq_ediv_of_nonneg (by omega)]; push_cast; rfl
        have hcb : c ≤ 8 := by rw [hc]; have := Nat.mod_lt m (show 0 < pk by omega); omega
        have hdb : d ≤ 1000000 := by rw [hd]; exact Nat.le_trans (Nat.div_le_self _ _) hml
        have HD : Hid (d = (stTo p n (j + 1)).1) := by show _ = _; rw [HS.out, hd, HM.out]
        have HE : Hid ((stTo p n (j + 1)).2 = put p j c t.2) := by show _ = _; rw [HS.out, hc, HM.out]
        obtain ⟨wN, hwN⟩ : ∃ wN, wN = wr.alloc (.cells #[.string ⟨nm.toArray⟩, .int .i64 kd, .int .i64 ct] 144) := ⟨_, rfl⟩
        have hbN : Below wr.heap.size wr wN := by rw [hwN]; exact (Below.refl _ _).alloc (Nat.le_refl _) _
        have hNB : wN.heap[wr.heap.size]? = some (.cells #[.string ⟨nm.toArray⟩, .int .i64 kd, .int .i64 ct] 144 (0, 0)) := by rw [hwN]; exact heap_alloc_new _ _
        have HFN : Hid (Fr b1 b2 wP wN) := HF.out.trans (Fr.of_below hbN)
        have HI1N := hide (HI1.out.below hbN)
        have HI2N := hide (HI2.out.below hbN)
        have hl1 := HI1.out.lt
        have hl2 := HI2.out.lt
        have HBOX : Hid (∀ W, Fr b1 b2 wN W → (W.cell? ⟨wD.heap.size, 0, none⟩ = some (.map (some b1)) ∧ W.cell? ⟨wD.heap.size, 1, none⟩ = some (.map (some b2))) ∧ (W.cell? ⟨wr.heap.size, 0, none⟩ = some (.string ⟨nm.toArray⟩) ∧ W.cell? ⟨wr.heap.size, 1, none⟩ = some (.int .i64 kd) ∧ W.cell? ⟨wr.heap.size, 2, none⟩ = some (.int .i64 ct))) := fun W h => by
          obtain ⟨y, _⟩ := HTO.out W (HFN.out.trans h)
          have e := (h.block wr.heap.size (by have := hbN.size; have := (Array.getElem?_eq_some_iff.1 hNB).1; omega) (by omega) (by omega)).trans hNB
          exact ⟨y, by rw [Lib.cell_of_heap e]; rfl, by rw [Lib.cell_of_heap e]; rfl, by rw [Lib.cell_of_heap e]; rfl⟩
        obtain ⟨⟨y0, y1⟩, y2, y3, y4⟩ := HBOX.out wN (Fr.refl _ _ _)
        have hkm : 12 < maxLen := by unfold maxLen; omega
        have hj12 : j < maxLen := by unfold maxLen; omega
        have hnlm : nm.length ≤ maxLen := hnl
        rw [hwN] at y0 y1 y2 y3 y4
        have HWN := hide hwN
        clear hc hd hbN hNB HI1 HI2 HM HN0 HN1 hwN HTO HNP HEV
        by_cases hk3 : 3 ≤ kd
        · have HE3 : Hid ((stTo p n (j + 1)).2 = ⟨upd t.2.is nm ((c : Int) == ct), upd t.2.ct nm (c : Int)⟩) := by show _ = _; rw [HE.out, HPUT.out, if_pos hk3]
          obtain ⟨wU, hput, him, htn⟩ := IM.put (W := wN.drew) (HI2N.out.kept rfl) hj12 nm hnlm (c : Int) (by omega) (by omega)
          have HFU : Hid (Fr b1 b2 wN wU) := (Fr.drew b1 b2 wN).trans (Fr.turned2 htn)
          have HBU : Hid (BM wU b1 j t.2.is) := HI1N.out.kept ((turned_two htn).2.2.2.2 b1 hne)
          obtain ⟨wV, hput2, hbm2, htn2⟩ := BM.put (W := wU.drew) (HBU.out.kept rfl) hj12 nm hnlm ((c : Int) == ct)
          have HFV : Hid (Fr b1 b2 wU wV) := (Fr.drew b1 b2 wU).trans (Fr.turned1 htn2)
          have HIV : Hid (IM wV b2 (j + 1) (upd t.2.ct nm (c : Int))) := him.kept ((turned_two htn2).2.2.2.2 b2 (fun e => hne e.symm))
          have HBV := hide hbm2
          have HCV : Hid (∀ s, -9223372036854775808 ≤ upd t.2.ct nm (c : Int) s ∧ upd t.2.ct nm (c : Int) s ≤ 9223372036854775807) := upd_in _ _ _ HCT.out (by omega)
          obtain ⟨⟨v0, v1⟩, v2, v3, v4⟩ := HBOX.out wU HFU.out
          clear htn htn2 him hbm2
          go_wp2_with fail
          rw [← HWN.out]
          rw [← HWN.out] at y0 y1 y2 y3 y4
          go_region
          go_wp2_with fail
          go_region
          go_wp2_with fail
          go_roundw
          case rel => exact ⟨j + 1, d, by omega, by go_num, rfl, HD.out, by rw [HE3.out]; exact HBV.out, by rw [HE3.out]; exact HIV.out, by rw [HE3.out]; exact HCV.out, HFN.out.trans (HFU.out.trans HFV.out)⟩
          case measure => simp [intOf]; omega
        · have HE3 : Hid ((stTo p n (j + 1)).2 = ⟨upd t.2.is nm (c == 1), t.2.ct⟩) := by show _ = _; rw [HE.out, HPUT.out, if_neg hk3]
          have hcc : ((c : Int) == 1) = (c == 1) := by rw [Bool.eq_iff_iff]; simp; omega
          obtain ⟨wV, hput2, hbm2, htn2⟩ := BM.put (W := wN.drew) (HI1N.out.kept rfl) hj12 nm hnlm ((c : Int) == 1)
          have HFV : Hid (Fr b1 b2 wN wV) := (Fr.drew b1 b2 wN).trans (Fr.turned1 htn2)
          have HIV : Hid (IM wV b2 (j + 1) t.2.ct) := (HI2N.out.kept ((turned_two htn2).2.2.2.2 b2 (fun e => hne e.symm))).more (by omega)
          have HBV : Hid (BM wV b1 (j + 1) (upd t.2.is nm (c == 1))) := by rw [← hcc]; exact hbm2
          clear htn2 hbm2 hcc
          go_wp2_with fail
          rw [← HWN.out]
          rw [← HWN.out] at y0 y1 y2 y3 y4
          go_region
          go_wp2_with fail
          go_roundw
          case rel => exact ⟨j + 1, d, by omega, by go_num, rfl, HD.out, by rw [HE3.out]; exact HBV.out, by rw [HE3.out]; exact HIV.out, by rw [HE3.out]; exact HCT.out, HFN.out.trans HFV.out⟩
          case measure => simp [intOf]; omega
    · have hjL : j = L := by omega
      subst hjL
      have HST := hide (stTo_all p n)
      rw [← HLN.out] at HST
      obtain ⟨z0, z1, z2, z3⟩ := two_cells xr
      have HBW : Hid (Below w.heap.size w wr) := HBWP.out.trans (HF.out.below (by omega) (by omega) (by omega))
      have HM1' : Hid (BM wr b1 12 (state p n).is) := by rw [← HST.out]; exact HI1.out.more hle12
      have HM2' : Hid (IM wr b2 12 (state p n).ct) := by rw [← HST.out]; exact HI2.out.more hle12
      have HC' : Hid (∀ s, -9223372036854775808 ≤ (state p n).ct s ∧ (state p n).ct s ≤ 9223372036854775807) := by rw [← HST.out]; exact HCT.out
      clear xr HST HI1 HI2 HCT
      go_wp2_with fail
      refine bodyPost_ret_by (v := .agg #[.map (some b1), .map (some b2)]) ?_ rfl ?_
      · simp [results, Tryz.results45, go_sem, z0, z1]
      · refine ⟨(HBW.out.setCell (p := ⟨w.heap.size, 0, none⟩) (by show w.heap.size ≤ w.heap.size; omega) _).setCell (p := ⟨w.heap.size, 1, none⟩) (by show w.heap.size ≤ w.heap.size; omega) _, _, rfl, b1, b2, rfl, ?_, ?_, HC'.out⟩
        · refine BM.kept HM1'.out ?_
          rw [Below.heap_setCell _ _ _ _ (fun e => by simp at e; omega), Below.heap_setCell _ _ _ _ (fun e => by simp at e; omega)]
        · refine IM.kept HM2'.out ?_
          rw [Below.heap_setCell _ _ _ _ (fun e => by simp at e; omega), Below.heap_setCell _ _ _ _ (fun e => by simp at e; omega)]
end Rf
end
section
namespace Rf
open Go.RowKit
set_option maxHeartbeats 16000000 in
set_option maxRecDepth 100000 in
theorem RMachOf_any (p : Ld.Prg) (v : Value) (w : World) (h : IsRPrg w p v) (hL : RLaid w) (hck : Ld.check p = none) (hq6 : (Ld.kindL p.names 1).length ≤ 6) (hS4 : Mc.total (Mc.parts p) ≤ 4096) :
    Calls Tryz.prog 31 #[v] w fun e w' => Below w.heap.size w w' ∧ ∃ bm, e = .returned (.tuple #[.pointer (some ⟨bm, 0, none⟩), .bool true]) ∧ IsRMach w' bm p := by
  obtain ⟨i0, hi0, hz0, hz1, hz2⟩ := info_parts Tryz.infoInt
  obtain ⟨i1, hi1, hy0, hy1, hy2⟩ := info_parts Tryz.infoIntsR
  have HCK := hide hck
  have HL := hide hL
  have HRP := hide h
  have h12 : p.names.length ≤ 12 := (Ld.check_names p hck).1
  obtain ⟨nv, rv, rfl, hn, hr⟩ := h
  have HNA := hide hn
  obtain ⟨na, nc, rfl, _⟩ := hn.slice
  obtain ⟨ra, rc, rfl, _⟩ := hr.slice
  obtain ⟨n, hnn⟩ : ∃ n, n = p.names.length := ⟨_, rfl⟩
  obtain ⟨m, hmm⟩ : ∃ m, m = p.rungs.length := ⟨_, rfl⟩
  obtain ⟨q, hqq⟩ : ∃ q, q = (Ld.kindL p.names 1).length := ⟨_, rfl⟩
  obtain ⟨S, hSS⟩ : ∃ S, S = Mc.total (Mc.parts p) := ⟨_, rfl⟩
  obtain ⟨I, hII⟩ : ∃ I, I = 2 ^ q := ⟨_, rfl⟩
  have HN := hide hnn
  have HQ := hide hqq
  have HS := hide hSS
  have HI := hide hII
  rw [← hqq] at hq6
  rw [← hSS] at hS4
  rw [← hnn] at HRP HNA h12 ⊢
  rw [← hmm] at HRP ⊢
  have hI64 : I ≤ 64 := by rw [hII]; exact Nat.le_trans (Nat.pow_le_pow_right (by decide) hq6) (by decide)
  obtain ⟨wA, hwA⟩ : ∃ wA, wA = (w.alloc (.cells #[.slice na n nc, .slice ra m rc] 45)).alloc (.cells #[.slice na n nc, .slice ra m rc, .int .i64 1, .int .i64 1, .slice none 0 0] 48) := ⟨_, rfl⟩
  have hbA : Below w.heap.size w wA := by rw [hwA]; exact ((Below.refl _ _).alloc (Nat.le_refl _) _).alloc (by simp) _
  have hsA : wA.heap.size = w.heap.size + 1 + 1 := by rw [hwA]; simp
  have hA0 : wA.heap[w.heap.size]? = some (.cells #[.slice na n nc, .slice ra m rc] 45 (0, 0)) := by rw [hwA]; exact (Below.heap_alloc _ _ _ (by simp)).trans (heap_alloc_new _ _)
  have hA1 : RMachAt wA (w.heap.size + 1) (.slice na n nc) (.slice ra m rc) 1 1 (.slice none 0 0) := by
    have := heap_alloc_new (w.alloc (.cells #[.slice na n nc, .slice ra m rc] 45)) (.cells #[.slice na n nc, .slice ra m rc, .int .i64 1, .int .i64 1, .slice none 0 0] 48)
    rw [World.size_alloc] at this
    rw [hwA]
    exact this
  have HX : Hid (∀ W, Below (w.heap.size + 1) wA W → (W.cell? ⟨w.heap.size, 0, none⟩ = some (.slice na n nc) ∧ W.cell? ⟨w.heap.size, 1, none⟩ = some (.slice ra m rc)) ∧ Below w.heap.size w W) := fun W hW => by
    have e0 := (hW.block w.heap.size (by omega)).trans hA0
    exact ⟨⟨by rw [Lib.cell_of_heap e0]; rfl, by rw [Lib.cell_of_heap e0]; rfl⟩, hbA.trans (hW.mono (by omega))⟩
  have HMM0 : Hid (MM wA (w.heap.size + 1) (.slice na n nc) (.slice ra m rc) 1 1 (.slice none 0 0) wA) := ⟨Below.refl _ _, hA1⟩
  have HKI : Hid (∀ W, Below (w.heap.size + 1) wA W → Calls Tryz.prog 72 #[.agg #[.slice na n nc, .slice ra m rc], .int .i64 1] W fun e w' => ∃ v, e = .returned v ∧ w'.ownsRow W.heap.size 3 1 v q ((Ld.kindL p.names 1).map intV) ∧ Below W.heap.size W w') := fun W hW => by
    rw [HQ.out]
    exact rKind_any p.names _ _ 1 W (HNA.out.below (HX.out W hW).2) ⟨_, _, _, rfl⟩
  have HKA := hide (HKI.out wA (Below.refl _ _))
  have HT0 : Hid (Mc.total ((Mc.parts p).take 0) = 1) := rfl
  rw [hwA] at HKA
  have HWA := hide hwA
  have HSA := hide hsA
  clear hn hr hnn hmm hqq hSS hII hwA hbA hA0 hA1 hck hL hsA
  go_enter Tryz.func31, Tryz.ntmps31
  go_wp2_with fail
  refine HKA.out.mono ?_
  rintro e w2 ⟨kv, rfl, hown, hb2⟩
  rw [← HWA.out] at hb2
  obtain ⟨ka, kc, rfl⟩ := own_slice hown
  have HM2 := hide (HMM0.out.below hb2)
  obtain ⟨⟨c0, c1⟩, _⟩ := HX.out w2 HM2.out.1
  have HK2 := hide (HKI.out w2 HM2.out.1)
  have hq6i : ¬ (6 : Int) < (q : Int) := by omega
  clear hown hb2 HKA HMM0
  go_wp2_with fail
  refine HK2.out.mono ?_
  rintro e w3 ⟨kv, rfl, hown, hb3⟩
  obtain ⟨ka3, kc3, rfl⟩ := own_slice hown
  have HM3 := hide (HM2.out.below hb3)
  clear hown hb3 HK2 c0 c1 hq6i
  go_wp2_with fail
  go_loopw [20] (fun i wr => ∃ k : Nat, k ≤ q ∧ i = .int .i64 (k : Int) ∧ Hid (MM wA (w.heap.size + 1) (.slice na n nc) (.slice ra m rc) 1 (2 ^ k) (.slice none 0 0) wr)) (fun i _ => q - (intOf i).toNat)
  case atStart => exact ⟨0, Nat.zero_le _, rfl, HM3.out⟩
  case round =>
    obtain ⟨k, hk, rfl, HM⟩ := hrel
    by_cases hlt : k < q
    · have hki : (k : Int) < (q : Int) := by omega
      obtain ⟨_, ⟨_, c3⟩, _⟩ := HM.out.2.cells
      have c3f := HM.out.2.frozen 3
      have hp2 : 2 ^ k ≤ 64 := Nat.le_trans (Nat.pow_le_pow_right (by decide) (by omega : k ≤ 6)) (by decide)
      have HP : Hid (∀ x : Nat, x = 2 ^ k → MM wA (w.heap.size + 1) (.slice na n nc) (.slice ra m rc) 1 (2 ^ (k + 1)) (.slice none 0 0) (wr.setCell ⟨w.heap.size + 1, 3, none⟩ (.int .i64 ((x : Int) * 2)))) := fun x hx => by
        refine HM.out.set 3 _ ?_
        have : ((2 ^ (k + 1) : Nat) : Int) = (x : Int) * 2 := by rw [hx, Nat.pow_succ]; simp
        rw [this]
        rfl
      generalize hx : 2 ^ k = x at *
      have HPX := hide (HP.out x rfl)
      clear HP hx
      go_wp2_with fail
      go_roundw
      case rel => exact ⟨k + 1, by omega, by go_num, HPX.out⟩
      case measure => simp [intOf]; omega
    · obtain rfl : k = q := by omega
      rw [← HI.out] at HM
      obtain ⟨⟨c0, c1⟩, hwr⟩ := HX.out wr HM.out.1
      have HPA := hide (Parts_any p _ wr (HRP.out.below hwr) (HL.out.below hwr) HCK.out)
      rw [← HN.out] at HPA
      clear hwr
      go_wp2_with fail
      refine HPA.out.mono ?_
      rintro e w4 ⟨ev, rfl, hev, hb4⟩
      have HEV := hide hev
      obtain ⟨ea, ec, rfl⟩ := own_slice hev
      have HM4 := hide (HM.out.below hb4)
      clear hev hb4 HPA c0 c1
      have HT0' : Hid (MM wA (w.heap.size + 1) (.slice na n nc) (.slice ra m rc) (Mc.total ((Mc.parts p).take 0)) I (.slice none 0 0) w4) := by rw [HT0.out]; exact HM4.out
      go_wp2_with fail
      go_loopw [33] (fun i wr => ∃ k : Nat, k ≤ n ∧ i = .int .i64 (k : Int) ∧ Hid (MM wA (w.heap.size + 1) (.slice na n nc) (.slice ra m rc) (Mc.total ((Mc.parts p).take k)) I (.slice none 0 0) wr) ∧ Hid (w4.heap.size ≤ wr.heap.size ∧ ∀ j, w.heap.size + 1 < j → j < w4.heap.size → wr.heap[j]? = w4.heap[j]?)) (fun i _ => n - (intOf i).toNat)
      case atStart => exact ⟨0, Nat.zero_le _, rfl, HT0'.out, Nat.le_refl _, fun _ _ _ => rfl⟩
      case round =>
        obtain ⟨k, hk, rfl, HMk, HSAME⟩ := hrel
        by_cases hlt : k < n
        · have hkl : k < p.names.length := by rw [← HN.out]; exact hlt
          have hkp : k < (partsL p).length := by rw [partsL_len]; exact hkl
          obtain ⟨ge, rfl, _, hec, hge, ce⟩ := own_int (by have h := HEV.out; rw [HN.out, ← partsL_len] at h; exact h) hkp
          have hpk := partsL_at p k hkl
          rw [List.getElem?_eq_getElem hkp] at hpk
          have hpk := Option.some.inj hpk
          rw [hpk] at ce
          have hgl : ge < w4.heap.size := World.block_lt_of_cell? _ _ ce
          have hgw : w.heap.size + 1 < ge := by have := HM.out.2.lt; omega
          have cr : wr.cell? ⟨ge, k, none⟩ = some (.int .i64 (part p k : Int)) := by rw [← ce]; exact cell_of_block (HSAME.out.2 ge hgw hgl) _
          have hp8 := part_le p HCK.out k hkl
          have HSU := hide (tot_succ p HCK.out k hkl)
          have HTL := hide (tot_le p HCK.out (k + 1) hkl)
          have hT1 : Mc.total ((Mc.parts p).take k) ≤ 4096 := by have := tot_le p HCK.out k (by omega); have := HS.out; omega
          have hec' : n ≤ ec := by rw [HN.out, ← partsL_len]; exact hec
          have HTS : Hid (Mc.total ((Mc.parts p).take (k + 1)) ≤ 4096) := by have := HTL.out; have := HS.out; show _ ≤ _; omega
          obtain ⟨_, ⟨c2, _⟩, _⟩ := HMk.out.2.cells
          have c2f := HMk.out.2.frozen 2
          have HP : Hid (∀ x : Nat, x = Mc.total ((Mc.parts p).take (k + 1)) → MM wA (w.heap.size + 1) (.slice na n nc) (.slice ra m rc) (Mc.total ((Mc.parts p).take (k + 1))) I (.slice none 0 0) (wr.setCell ⟨w.heap.size + 1, 2, none⟩ (.int .i64 (x : Int)))) := fun x hx => HMk.out.set 2 _ (by rw [← hx]; rfl)
          have HSM2 : Hid (∀ x, w4.heap.size ≤ (wr.setCell ⟨w.heap.size + 1, 2, none⟩ x).heap.size ∧ ∀ j, w.heap.size + 1 < j → j < w4.heap.size → (wr.setCell ⟨w.heap.size + 1, 2, none⟩ x).heap[j]? = w4.heap[j]?) := fun x => by
            refine ⟨by have := HSAME.out.1; simpa [World.setCell] using this, fun j hj hj4 => ?_⟩
            have hne : ¬ w.heap.size + 1 = j := by omega
            have e : (wr.setCell ⟨w.heap.size + 1, 2, none⟩ x).heap[j]? = wr.heap[j]? := by simp [World.setCell, Array.getElem?_modify, hne]
            rw [e]
            exact HSAME.out.2 j hj hj4
          generalize hT : Mc.total ((Mc.parts p).take k) = T at *
          generalize hT2 : Mc.total ((Mc.parts p).take (k + 1)) = T2 at *
          generalize part p k = pk at *
          have HTE := hide hT2
          clear hec hge ce hgl hgw hT hT2
          have hki : (k : Int) < (n : Int) := by omega
          by_cases h0 : pk = 0
          · subst h0
            have HMS : Hid (MM wA (w.heap.size + 1) (.slice na n nc) (.slice ra m rc) T2 I (.slice none 0 0) wr) := by show MM _ _ _ _ _ _ _ _; rw [HSU.out, if_pos rfl]; exact HMk.out
            have hTi : ¬ (4096 : Int) < (T : Int) := by omega
            go_wp2_with fail
            go_roundw
            case rel => exact ⟨k + 1, by omega, by go_num, by rw [HTE.out]; exact HMS.out, HSAME.out⟩
            case measure => simp [intOf]; omega
          · have hpi : (0 : Int) < (pk : Int) := by omega
            have HT2 : Hid (T2 = T * pk) := by show _ = _; rw [HSU.out, if_neg h0]
            have hti : (T : Int) * (pk : Int) = (T2 : Int) := by rw [HT2.out]; simp
            have hT2i : ¬ (4096 : Int) < (T2 : Int) := by have := HTS.out; omega
            have hT2l : T2 ≤ 4096 := HTS.out
            have HPX := hide (HP.out T2 rfl)
            have HSX := hide (HSM2.out (.int .i64 (T2 : Int)))
            clear HP HSM2
            go_wp2_with fail
            go_roundw
            case rel => exact ⟨k + 1, by omega, by go_num, by rw [HTE.out]; exact HPX.out, HSX.out⟩
            case measure => simp [intOf]; omega
        · obtain rfl : k = n := by omega
          have HM5 : Hid (MM wA (w.heap.size + 1) (.slice na k nc) (.slice ra m rc) S I (.slice none 0 0) wr) := by
            have h := HMk.out
            rw [List.take_of_length_le (by rw [Mc.parts_len, ← HN.out]; exact Nat.le_refl _), ← HS.out] at h
            exact h
          obtain ⟨_, ⟨c2, _⟩, _⟩ := HM5.out.2.cells
          clear HMk HSAME
          go_wp2_with fail
          go_loopw [57] (fun i wr => ∃ (s : Nat) (xa : Option Addr) (xc : Nat) (us : List Value), s ≤ S ∧ i = .int .i64 (s : Int) ∧ Hid (MM wA (w.heap.size + 1) (.slice na k nc) (.slice ra m rc) S I (.slice xa s xc) wr) ∧ Hid (IntR wA.heap.size wr (.slice xa s xc) us ((nextsL p S I).take s))) (fun i _ => S - (intOf i).toNat)
          case atStart => exact ⟨0, none, 0, [], Nat.zero_le _, rfl, HM5.out, IntR.nil _ _⟩
          case round =>
            obtain ⟨s, xa, xc, us, hs, rfl, HMs, HR⟩ := hrel
            obtain ⟨wo, hwo⟩ : ∃ wo, wo = wr := ⟨_, rfl⟩
            subst hwo
            by_cases hlt : s < S
            · have hsi : (s : Int) < (S : Int) := by omega
              obtain ⟨_, ⟨_, c3⟩, _⟩ := HMs.out.2.cells
              have hzo : wA.heap.size ≤ wo.heap.size := HMs.out.1.size
              go_wp2_with fail
              go_loopw [64, 8] (fun i l wr => ∃ k : Nat, k ≤ I ∧ i = .int .i64 (k : Int) ∧ (∃ a c, l = .slice a k c) ∧ Hid (wr.ownsRow wo.heap.size 3 1 l k (((nextL p I s).take k).map intV)) ∧ Hid (Below wo.heap.size wo wr)) (fun i _ _ => I - (intOf i).toNat)
              case atStart => exact ⟨0, Nat.zero_le _, rfl, ⟨_, _, rfl⟩, World.ownsRow_nil _ _ _ _, Below.refl _ _⟩
              case round =>
                obtain ⟨k2, hk2, rfl, ⟨la, lc, rfl⟩, HO, HB⟩ := hrel
                have hzr : wo.heap.size ≤ wr.heap.size := HB.out.size
                have HMr := hide (HMs.out.below HB.out)
                by_cases hlt2 : k2 < I
                · have hDR : Below wr.heap.size wr wr.drew := ⟨rfl, rfl, rfl, Nat.le_refl _, fun _ _ => rfl⟩
                  have HDR := hide hDR
                  have HXW : Hid (∀ W, Below wr.heap.size wr W → (MM wA (w.heap.size + 1) (.slice na k nc) (.slice ra m rc) S I (.slice xa s xc) W ∧ (W.cell? ⟨w.heap.size, 0, none⟩ = some (.slice na k nc) ∧ W.cell? ⟨w.heap.size, 1, none⟩ = some (.slice ra m rc))) ∧ Below w.heap.size w W ∧ Below wo.heap.size wo W) := fun W hW => by
                    have h1 := HMr.out.below hW
                    obtain ⟨h2, h3⟩ := HX.out W h1.1
                    exact ⟨⟨h1, h2⟩, h3, then_ HB.out hW⟩
                  have HKF : Hid (∀ W, Below wo.heap.size wo W → W.cell? ⟨w.heap.size, 0, none⟩ = some (.slice na k nc) ∧ W.cell? ⟨w.heap.size, 1, none⟩ = some (.slice ra m rc)) := fun W hW => (HX.out W (HMs.out.below hW).1).1
                  have HKEEP : Hid (∀ W, Below wr.heap.size wr W → W.cell? ⟨w.heap.size, 0, none⟩ = some (.slice na k nc) ∧ W.cell? ⟨w.heap.size, 1, none⟩ = some (.slice ra m rc)) := fun W hW => (HXW.out W hW).1.2
                  have HSA : Hid (∀ W, Below wr.heap.size wr W → Calls Tryz.prog 45 #[.pointer (some ⟨w.heap.size + 1, 0, none⟩), .int .i64 (s : Int)] W fun e w' => Below W.heap.size W w' ∧ ∃ v', e = .returned v' ∧ StIs w' v' 12 (state p s)) := fun W hW =>
                    RState_any _ p _ _ _ S I s W (HXW.out W hW).1.1.2 (HRP.out.below (HXW.out W hW).2.1) (HL.out.below (HXW.out W hW).2.1) HCK.out (by omega)
                  have HIN : Hid (∀ W, Below wr.heap.size wr W → Calls Tryz.prog 47 #[.pointer (some ⟨w.heap.size + 1, 0, none⟩), .int .i64 (k2 : Int)] W fun e w' => ∃ v, e = .returned v ∧ w'.ownsRow W.heap.size 4 1 v (bitsTo k2 (Ld.kindL p.names 1).length).length ((bitsTo k2 (Ld.kindL p.names 1).length).map boolV) ∧ Below W.heap.size W w') := fun W hW => by
                    rw [bitsTo_len]
                    exact RInput_any _ p.names _ _ _ S I k2 W (HXW.out W hW).1.1.2 (HNA.out.below (HXW.out W hW).2.1) ⟨_, _, _, rfl⟩ (by omega)
                  have HSTP : Hid (∀ W sv iv, Below wr.heap.size wr W → StIs W sv 12 (state p s) → Bools W iv (bitsTo k2 (Ld.kindL p.names 1).length) → Calls Tryz.prog 46 #[.agg #[.slice na k nc, .slice ra m rc], sv, iv] W fun e w' => Below W.heap.size W w' ∧ ∃ v', e = .returned v' ∧ StIs w' v' 212 (step p (state p s) (bitsTo k2 (Ld.kindL p.names 1).length))) := fun W sv iv hW hs hb =>
                    Step_any p _ sv iv 12 _ _ W (HRP.out.below (HXW.out W hW).2.1) HCK.out hs (by omega) hb (bitsTo_len _ _)
                  have HNUM : Hid (∀ W sv, Below wr.heap.size wr W → StIs W sv 212 (step p (state p s) (bitsTo k2 (Ld.kindL p.names 1).length)) → Calls Tryz.prog 79 #[.pointer (some ⟨w.heap.size + 1, 0, none⟩), sv] W fun e w' => e = .returned (.int .i64 (nxt p s k2 : Int)) ∧ Below W.heap.size W w') := fun W sv hW hs => by
                    obtain ⟨h1, h2⟩ := nxt_small p HCK.out s k2 (by rw [← HS.out]; exact hS4)
                    exact RNumber_any _ p _ _ _ sv S I 212 _ W (HXW.out W hW).1.1.2 (HRP.out.below (HXW.out W hW).2.1) (HL.out.below (HXW.out W hW).2.1) HCK.out hs h1 h2
                  have HLR : Hid ((bitsTo (k2 : Int) (Ld.kindL p.names 1).length).length ≤ 1000000) := by show _ ≤ _; rw [bitsTo_len, ← HQ.out]; omega
                  have HSU : Hid ((nextL p I s).take (k2 + 1) = (nextL p I s).take k2 ++ [nxt p s k2]) := range_take_succ (nxt p s) I k2 hlt2
                  obtain ⟨xs, hxs⟩ : ∃ xs, xs = (nextL p I s).take k2 := ⟨_, rfl⟩
                  rw [← hxs] at HO HSU
                  clear hxs
                  generalize nxt p s k2 = x at *
                  have HONE : Hid (∀ u ∈ [Value.int .i64 (x : Int)], u.oneCell' = true) := by
                    intro u hu
                    simp only [List.mem_cons, List.not_mem_nil, or_false] at hu
                    subst hu; rfl
                  obtain ⟨⟨_, c0, c1⟩, _⟩ := HXW.out wr (Below.refl _ _)
                  have hki : (k2 : Int) < (I : Int) := by omega
                  go_wp2_with fail
                  go_region_held3 (fun W => W.cell? ⟨w.heap.size, 0, none⟩ = some (.slice na k nc) ∧ W.cell? ⟨w.heap.size, 1, none⟩ = some (.slice ra m rc)) ((first | exact HKF.out _ HBF.out | (refine HKEEP.out _ ?_; first | exact HDR.out | exact HB1.out | exact HB2.out | exact HB3.out | exact HB4.out | exact (HB4.out.alloc HB4.out.size _) | exact Below.refl _ _))) ((first
                    | (go_at_call 45; (with_reducible refine (HSA.out _ HDR.out).mono ?_); rintro e wB ⟨hb, sv, rfl, hst⟩; have HB1 : Hid (Below wr.heap.size wr wB) := then_ HDR.out hb; have HST := hide hst; clear hb hst)
                    | (go_at_call 47; (with_reducible refine (HIN.out _ HB1.out).mono ?_); rintro e wC ⟨iv, rfl, hown, hb⟩; have HB2 : Hid (Below wr.heap.size wr wC) := then_ HB1.out hb; have HST2 := hide (HST.out.below hb); have HBO := hide (bools_of hown HLR.out); clear hb hown)
                    | (go_at_call 46; (with_reducible refine (HSTP.out _ _ _ HB2.out HST2.out HBO.out).mono ?_); rintro e wD ⟨hb, sv3, rfl, hst⟩; have HB3 : Hid (Below wr.heap.size wr wD) := then_ HB2.out hb; have HST3 := hide hst; clear hb hst)
                    | (go_at_call 79; (with_reducible refine (HNUM.out _ _ HB3.out HST3.out).mono ?_); rintro e wE ⟨rfl, hb⟩; have HB4 : Hid (Below wr.heap.size wr wE) := then_ HB3.out hb; have HOE := hide (own_below HO.out HB4.out); clear hb)
                    | (refine step_append_lies _ rfl (.tmp 67) (.tmp 78) 36 rfl wo.heap.size 3 i0 _ 1 8 Tryz.underlying36 hi0 hz0 hz1 hz2 rfl (by decide) (.slice la k2 lc) k2 (xs.map intV) rfl (HOE.out.alloc _) ⟨wE.heap.size, 0, none⟩ 1 1 [.int .i64 (x : Int)] rfl rfl (World.news_of_block (heap_alloc_new wE _)) HONE.out (by decide) (by unfold maxLen; omega) (by omega) (by have := HB4.out.size; simp; omega) (wE.heap.size + 1) (by simp) ?_; intro g2 cap2 wF hown hgrow hat hltg; have HBF := hide (((HXW.out wE HB4.out).2.2.alloc (by have := HB4.out.size; omega) _).grown hgrow (by have := HB4.out.size; simp; omega) (fun b e => (HOE.out.lt b e).1)); have HOF := hide hown; clear hown hgrow hat)))
                  go_wp2_with fail
                  go_roundw
                  case rel => exact ⟨k2 + 1, by omega, by go_num, ⟨_, _, rfl⟩, by rw [HSU.out, List.map_append]; exact HOF.out, HBF.out⟩
                  case measure => simp [intOf]; omega
                · obtain rfl : k2 = I := by omega
                  have hle : ((nextL p k2 s).take k2) = nextL p k2 s := List.take_of_length_le (by rw [nextL_len]; exact Nat.le_refl _)
                  rw [hle] at HO
                  have HSU : Hid ((nextsL p S k2).take (s + 1) = (nextsL p S k2).take s ++ [nextL p k2 s]) := range_take_succ (nextL p k2) S s hlt
                  have HTL : Hid (((nextsL p S k2).take s).length = s) := by show _ = _; rw [List.length_take, nextsL_len]; omega
                  have HNL : Hid ((nextL p k2 s).length = k2) := nextL_len p k2 s
                  have HRr := hide (HR.out.below HB.out)
                  obtain ⟨_, _, c4⟩ := HMr.out.2.cells
                  have c4f := HMr.out.2.frozen 4
                  have HOWN : Hid (∀ o, (wr.alloc o).ownsRow wA.heap.size 36 1 (.slice xa s xc) s us) := fun o => by
                    have h := HRr.out.own.alloc o
                    rw [HTL.out] at h
                    exact h
                  have HONE : Hid (∀ u ∈ [Value.slice la k2 lc], u.oneCell' = true) := by
                    intro u hu
                    simp only [List.mem_cons, List.not_mem_nil, or_false] at hu
                    subst hu; rfl
                  have hbm : w.heap.size + 1 < wA.heap.size := by have := HSA.out; omega
                  have HFIN : Hid (∀ (o : Obj) (g2 cap : Nat) (wC : World), wC.ownsRow wA.heap.size 36 1 (.slice (some ⟨g2, 0, none⟩) (s + 1) cap) (s + 1) (us ++ [.slice la k2 lc]) → (wr.alloc o).grownBy wC (Value.slice xa s xc).ownBlock →
                      (wC.cell? ⟨w.heap.size + 1, 4, none⟩ = some (.slice xa s xc) ∧ wC.frozen? ⟨w.heap.size + 1, 4, none⟩ = false) ∧ MM wA (w.heap.size + 1) (.slice na k nc) (.slice ra m rc) S k2 (.slice (some ⟨g2, 0, none⟩) (s + 1) cap) (wC.setCell ⟨w.heap.size + 1, 4, none⟩ (.slice (some ⟨g2, 0, none⟩) (s + 1) cap)) ∧ IntR wA.heap.size (wC.setCell ⟨w.heap.size + 1, 4, none⟩ (.slice (some ⟨g2, 0, none⟩) (s + 1) cap)) (.slice (some ⟨g2, 0, none⟩) (s + 1) cap) (us ++ [.slice la k2 lc]) ((nextsL p S k2).take (s + 1))) := by
                    intro o g2 cap wC hown hgrow
                    have h1 := HMr.out.grown ((Below.refl wr.heap.size wr).alloc (Nat.le_refl _) o) hgrow hbm (fun g e => ((HOWN.out o).lt g e).1)
                    refine ⟨⟨h1.2.cells.2.2, h1.2.frozen 4⟩, h1.set 4 _ rfl, ?_⟩
                    rw [HSU.out]
                    have h2 := HRr.out.put (W' := wC) (o' := .slice (some ⟨g2, 0, none⟩) (s + 1) cap) (u := .slice la k2 lc) (b := nextL p k2 s) (by rw [HNL.out]; exact own_mono HO.out (by omega)) o (by rw [HTL.out]; exact hown) hgrow
                    refine h2.moved (fun j hj _ => ?_)
                    have hne : ¬ w.heap.size + 1 = j := by omega
                    simp [World.setCell, Array.getElem?_modify, hne]
                  have hki : ¬ (k2 : Int) < (k2 : Int) := by omega
                  clear hle HR
                  go_wp2_with (at_builtin; refine wpList_append_lies _ rfl (.tmp 85) (.tmp 87) 46 rfl wA.heap.size 36 i1 _ 1 24 Tryz.underlying46 hi1 hy0 hy1 hy2 rfl (by decide) (.slice xa s xc) s us rfl (HOWN.out _) ⟨wr.heap.size, 0, none⟩ 1 1 [.slice la k2 lc] rfl rfl (World.news_of_block (heap_alloc_new wr _)) HONE.out (by decide) (by unfold maxLen; omega) (by omega) (by simp; omega) (wr.heap.size + 1) (by simp) ?_; intro g2 cap2 wC hown hgrow hat hltg; obtain ⟨⟨z0, z1⟩, hmc, hrc⟩ := HFIN.out _ g2 cap2 wC hown hgrow; have HMC := hide hmc; have HRC := hide hrc; clear hown hgrow hat hmc hrc)
                  go_roundw
                  case rel => exact ⟨s + 1, _, _, _, by omega, by go_num, HMC.out, HRC.out⟩
                  case measure => simp [intOf]; omega
            · obtain rfl : s = S := by omega
              have HF : Hid (IsRMach wo (w.heap.size + 1) p) := by
                have h := HR.out
                rw [List.take_of_length_le (by rw [nextsL_len]; exact Nat.le_refl _)] at h
                refine ⟨.slice na k nc, .slice ra m rc, .slice xa s xc, us, wA.heap.size, ?_, HRP.out.below (HX.out wo HMs.out.1).2, ?_⟩
                · rw [← HS.out, ← HQ.out, ← HI.out]; exact HMs.out.2
                · rw [← HS.out, ← HQ.out, ← HI.out]; exact h
              have HBF := hide (HX.out wo HMs.out.1).2
              have hsi : ¬ (s : Int) < (s : Int) := by omega
              go_wp2_with fail
              refine bodyPost_ret (results_tmp2 rfl _ _ _) rfl ?_
              exact ⟨HBF.out, _, rfl, HF.out⟩
end Rf
end
end Go.Proofs.YtgldbliohpfljaaGreatDoor
