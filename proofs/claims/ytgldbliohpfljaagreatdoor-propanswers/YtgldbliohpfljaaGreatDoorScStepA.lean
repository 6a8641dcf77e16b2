/-
  The walk of package scan's step, on what fits.
-/
import Derived.Test.YtgldbliohpfljaaGreatDoorScStepAll
import Derived.Test.YtgldbliohpfljaaGreatDoorLdWordsAll
import Derived.Deep.RegionHeld3
namespace Go.Proofs.YtgldbliohpfljaaGreatDoor
open Go.RowKit
/-- what a scan comes to in memory -/
def Stepped (w : World) (n : Nat) (s : Sc.St) (e : Ending) (w' : World) : Prop := ∃ gi gc, e = .returned (.tuple #[stV gi gc n, .nilIface]) ∧ StAt w' gi gc s ∧ w.heap.size ≤ gi ∧ w.heap.size ≤ gc ∧ Below w.heap.size w w'
theorem below_alloc3 (w : World) (o1 o2 o3 : Obj) : Below w.heap.size w (((w.alloc o1).alloc o2).alloc o3) :=
  (((Below.refl w.heap.size w).alloc (Nat.le_refl _) o1).alloc (by simp) o2).alloc (by simp; omega) o3
theorem cells3 (w : World) (o1 o2 o3 : Obj) : (((w.alloc o1).alloc o2).alloc o3).heap[w.heap.size]? = some o1 ∧ (((w.alloc o1).alloc o2).alloc o3).heap[w.heap.size + 1]? = some o2 ∧ (((w.alloc o1).alloc o2).alloc o3).heap[w.heap.size + 1 + 1]? = some o3 := by
  have s1 : (w.alloc o1).heap.size = w.heap.size + 1 := by simp
  have s2 : ((w.alloc o1).alloc o2).heap.size = w.heap.size + 1 + 1 := by simp
  have e1 := heap_alloc_new w o1
  have e2 := heap_alloc_new (w.alloc o1) o2
  have e3 := heap_alloc_new ((w.alloc o1).alloc o2) o3
  rw [s1] at e2
  rw [s2] at e3
  refine ⟨?_, ?_, e3⟩
  · rw [Below.heap_alloc ((w.alloc o1).alloc o2) o3 _ (by omega), Below.heap_alloc (w.alloc o1) o2 _ (by omega)]; exact e1
  · rw [Below.heap_alloc ((w.alloc o1).alloc o2) o3 _ (by omega)]; exact e2
theorem Sc.further_in (a m : Int) (h : 0 ≤ a ∧ a ≤ 7) (hm : 0 ≤ m ∧ m ≤ 7) : 0 ≤ Sc.further a m ∧ Sc.further a m ≤ 7 := by
  unfold Sc.further
  split <;> omega
theorem Sc.getD_in (l : List Int) (n : Nat) (h : ∀ c, c ∈ l → 0 ≤ c ∧ c ≤ 7) : 0 ≤ l.getD n 0 ∧ l.getD n 0 ≤ 7 := by
  by_cases hn : n < l.length
  · have := h l[n] (List.getElem_mem hn)
    simpa [hn] using this
  · simp [Nat.le_of_not_lt hn]
theorem Sc.set_in (l : List Int) (n : Nat) (v : Int) (h : ∀ c, c ∈ l → 0 ≤ c ∧ c ≤ 7) (hv : 0 ≤ v ∧ v ≤ 7) : ∀ c, c ∈ l.set n v → 0 ≤ c ∧ c ≤ 7 := by
  intro c hc
  rcases List.mem_or_eq_of_mem_set hc with h1 | h1
  · exact h c h1
  · rw [h1]; exact hv
theorem Sc.rung_ct (k : Int) (n : Nat) (most : Int) (says : Bool) (s : Sc.St) (h : ∀ c, c ∈ s.ct → 0 ≤ c ∧ c ≤ 7) (hm : 0 ≤ most ∧ most ≤ 7) : ∀ c, c ∈ (Sc.rung k n most says s).ct → 0 ≤ c ∧ c ≤ 7 := by
  have hg := Sc.getD_in s.ct n h
  have hf := Sc.further_in _ most hg hm
  unfold Sc.rung
  repeat' split
  · exact h
  · exact h
  · exact h
  · unfold Sc.run
    exact Sc.set_in _ _ _ h (by split; exact hf; omega)
  · unfold Sc.count
    exact Sc.set_in _ _ _ h (by split; exact hf; exact hg)
  · unfold Sc.zero
    split
    · exact Sc.set_in _ _ _ h (by omega)
    · exact h
  · exact h
theorem cells4 (w : World) (o1 o2 o3 o4 : Obj) : ((((w.alloc o1).alloc o2).alloc o3).alloc o4).drew.heap[w.heap.size]? = some o1 ∧ ((((w.alloc o1).alloc o2).alloc o3).alloc o4).drew.heap[w.heap.size + 1]? = some o2 ∧ ((((w.alloc o1).alloc o2).alloc o3).alloc o4).drew.heap[w.heap.size + 1 + 1]? = some o3 ∧ ((((w.alloc o1).alloc o2).alloc o3).alloc o4).drew.heap[w.heap.size + 1 + 1 + 1]? = some o4 ∧ Below w.heap.size w ((((w.alloc o1).alloc o2).alloc o3).alloc o4).drew := by
  obtain ⟨q3, q4, q5⟩ := four w o1 o2 o3 o4
  obtain ⟨q1, q2, _⟩ := cells3 w o1 o2 o3
  have s3 : (((w.alloc o1).alloc o2).alloc o3).heap.size = w.heap.size + 1 + 1 + 1 := by simp
  exact ⟨(Below.heap_alloc (((w.alloc o1).alloc o2).alloc o3) o4 _ (by omega)).trans q1, (Below.heap_alloc (((w.alloc o1).alloc o2).alloc o3) o4 _ (by omega)).trans q2, q3, q4, q5⟩
theorem below_undrew {w w' : World} (h : Below w.drew.heap.size w.drew w') : Below w.heap.size w w' := ⟨h.os, h.tape, h.output, h.size, h.block⟩
theorem two_cell {gi gc : Nat} {A B : World} (h : Two gi gc A B) (b i : Nat) (hb : b < A.heap.size) (h1 : b ≠ gi) (h2 : b ≠ gc) : B.cell? ⟨b, i, none⟩ = A.cell? ⟨b, i, none⟩ := World.cell?_of_block (w' := B) (w := A) (h.block b hb h1 h2)
theorem cell_alloc2 {W : World} {a : Addr} {v : Value} {o1 o2 : Obj} (h : W.cell? a = some v) : ((W.alloc o1).alloc o2).cell? a = some v := by
  have h1 : (W.alloc o1).cell? a = some v := (World.cell?_alloc_some W a o1 (by rw [h]; rfl)).trans h
  exact (World.cell?_alloc_some (W.alloc o1) a o2 (by rw [h1]; rfl)).trans h1
set_option maxHeartbeats 8000000 in
set_option maxRecDepth 100000 in
theorem step_any (p : Ld.Prg) (v iv : Value) (gi gc : Nat) (s : Sc.St) (inp : List Bool) (w : World) (h : IsPrg w p v) (hck : Ld.check p = none) (hs : StAt w gi gc s) (hsi : s.is.length = p.names.length) (hsc : s.ct.length = p.names.length)
    (hct : ∀ c, c ∈ s.ct → 0 ≤ c ∧ c ≤ 7) (hin : Bools w iv inp) (hil : inp.length = (Ld.kindL p.names 1).length) :
    Calls Tryz.prog 163 #[v, stV gi gc p.names.length, iv] w (Stepped w p.names.length (Sc.step p s inp)) := by
  obtain ⟨k1, k2, k3, k4⟩ := Ld.check_names p hck
  have HNS := hide k3
  have HRS := hide k4
  have HPR := hide h
  have HST := hide hs
  have HIN := hide hin
  obtain ⟨nv, rv, rfl, hn, hr⟩ := h
  have HNA := hide hn
  have HRA := hide hr
  obtain ⟨na, nc, rfl, _⟩ := hn.slice
  obtain ⟨ra, rc, rfl, _⟩ := hr.slice
  obtain ⟨ia, ic, rfl, hi1, _⟩ := hin
  obtain ⟨n, hnn⟩ : ∃ n, n = p.names.length := ⟨_, rfl⟩
  obtain ⟨m, hmm⟩ : ∃ m, m = p.rungs.length := ⟨_, rfl⟩
  have HN := hide hnn
  have HM := hide hmm
  have HKL := hide hil
  rw [← hnn] at HPR HNA hsi hsc k1 ⊢
  rw [← hmm] at HPR HRA k2 ⊢
  rw [hil] at HIN hi1 ⊢
  have hkl : (Ld.kindL p.names 1).length ≤ n := by rw [hnn]; exact Ld.placesTo_le _ _ _
  obtain ⟨q, hqq⟩ : ∃ q, q = (Ld.kindL p.names 1).length := ⟨_, rfl⟩
  have HQ := hide hqq
  rw [← hqq] at HIN hi1 hkl ⊢
  clear hn hr k3 k4 hs hnn hmm hil hqq
  obtain ⟨wA, hwA⟩ : ∃ wA, wA = ((w.alloc (.cells #[.slice na n nc, .slice ra m rc] 83)).alloc (.cells #[.slice (some ⟨gi, 0, none⟩) n n, .slice (some ⟨gc, 0, none⟩) n n] 105)).alloc (.cells #[.slice none 0 0, .slice none 0 0] 105) := ⟨_, rfl⟩
  have hbA : Below w.heap.size w wA := by rw [hwA]; exact below_alloc3 _ _ _ _
  obtain ⟨b0, b1, b2⟩ := cells3 w (.cells #[.slice na n nc, .slice ra m rc] 83) (.cells #[.slice (some ⟨gi, 0, none⟩) n n, .slice (some ⟨gc, 0, none⟩) n n] 105) (.cells #[.slice none 0 0, .slice none 0 0] 105)
  rw [← hwA] at b0 b1 b2
  have hsA : wA.heap.size = w.heap.size + 1 + 1 + 1 := by rw [hwA]; simp
  have HBX : Hid (∀ (W : World), (∀ k, k < wA.heap.size → W.heap[k]? = wA.heap[k]?) → (W.cell? ⟨w.heap.size, 0, none⟩ = some (.slice na n nc) ∧ W.cell? ⟨w.heap.size, 1, none⟩ = some (.slice ra m rc)) ∧ (W.cell? ⟨w.heap.size + 1, 0, none⟩ = some (.slice (some ⟨gi, 0, none⟩) n n) ∧ W.cell? ⟨w.heap.size + 1, 1, none⟩ = some (.slice (some ⟨gc, 0, none⟩) n n)) ∧ W.heap[w.heap.size + 1 + 1]? = some (.cells #[.slice none 0 0, .slice none 0 0] 105 (0, 0))) := by
    intro W hW
    have e0 := (hW (w.heap.size) (by omega)).trans b0
    have e1 := (hW (w.heap.size + 1) (by omega)).trans b1
    have e2 := (hW (w.heap.size + 1 + 1) (by omega)).trans b2
    exact ⟨⟨by rw [Lib.cell_of_heap e0]; rfl, by rw [Lib.cell_of_heap e0]; rfl⟩, ⟨by rw [Lib.cell_of_heap e1]; rfl, by rw [Lib.cell_of_heap e1]; rfl⟩, e2⟩
  have HKI := hide (Kind_any p.names (.slice na n nc) (.slice ra m rc) 1 wA (HNA.out.below hbA) ⟨_, _, _, rfl⟩)
  rw [hwA] at HKI
  have HWA := hide hwA
  have HBA := hide hbA
  have HSA := hide hsA
  clear hwA hbA b0 b1 b2 hsA
  unfold stV
  go_enter Tryz.func163, Tryz.ntmps163
  go_wp2_with fail
  refine HKI.out.mono ?_
  rintro e w1 ⟨kv, rfl, hown, hb1⟩
  rw [← HWA.out] at hown hb1
  have HOW := hide hown
  obtain ⟨ka, kc, rfl⟩ := own_slice hown
  rw [← HQ.out] at HOW ⊢
  have HB1 := hide hb1
  obtain ⟨⟨c0, c1⟩, ⟨c2, c3⟩, _⟩ := HBX.out w1 (fun k hk => hb1.block k hk)
  have hb1w : Below w.heap.size w w1 := HBA.out.trans (hb1.mono HBA.out.size)
  have HW1 := hide hb1w
  have hz1 := hb1.size
  have hzA := HSA.out
  have HSTA := hide (Start_any p _ w1 (HPR.out.below hb1w) (by rw [← HN.out]; exact k1))
  clear hown hb1 HKI hb1w
  go_wp2_with fail
  refine HSTA.out.mono ?_
  rintro e w2 ⟨gi2, gc2, rfl, hst2, hgi2, hgc2, hb2⟩
  have hln : (Sc.start p).is.length = n := by rw [HN.out]; simp [Sc.start]
  have hlc : (Sc.start p).ct.length = n := by rw [HN.out]; simp [Sc.start]
  rw [hln]
  unfold stV
  obtain ⟨w3, hw3⟩ : ∃ w3, w3 = w2.alloc (.cells #[.slice (some ⟨gi2, 0, none⟩) n n, .slice (some ⟨gc2, 0, none⟩) n n] 105) := ⟨_, rfl⟩
  have hb3 : Below w2.heap.size w2 w3 := by rw [hw3]; exact (Below.refl _ _).alloc (Nat.le_refl _) _
  have hM : w3.heap[w2.heap.size]? = some (.cells #[.slice (some ⟨gi2, 0, none⟩) n n, .slice (some ⟨gc2, 0, none⟩) n n] 105 (0, 0)) := by rw [hw3]; exact heap_alloc_new _ _
  have hz2 := hb2.size
  have hz3 : w3.heap.size = w2.heap.size + 1 := by rw [hw3]; simp
  have hb13 : Below w1.heap.size w1 w3 := hb2.trans (hb3.mono hb2.size)
  have HW3 := hide hw3
  have hst3 := hst2.below hb3
  have hlt2 := hst2.lt
  have hbw3 : Below w.heap.size w w3 := HW1.out.trans (hb13.mono HW1.out.size)
  have hsto := HST.out.below hbw3
  have hlto := HST.out.lt
  have hne := hst2.ne
  have H3 := hide hst3
  have HO3 := hide hsto
  have HB13 := hide hb13
  have HBW3 := hide hbw3
  have HM3 := hide hM
  obtain ⟨⟨d0, d1⟩, ⟨d2, d3⟩, _⟩ := HBX.out w3 (fun k hk => (hb13.block k (by omega)).trans (HB1.out.block k hk))
  have dm0 : w3.cell? ⟨w2.heap.size, 0, none⟩ = some (.slice (some ⟨gi2, 0, none⟩) n n) := by rw [Lib.cell_of_heap hM]; rfl
  have dm1 : w3.cell? ⟨w2.heap.size, 1, none⟩ = some (.slice (some ⟨gc2, 0, none⟩) n n) := by rw [Lib.cell_of_heap hM]; rfl
  have HCI : Hid (((Sc.start p).is.map boolV).length = n ∧ (s.is.map boolV).length = n ∧ (∀ v ∈ s.is.map boolV, v.oneCell' = true)) := ⟨by simp [hln], by simp [hsi], by intro v hv; obtain ⟨b, _, rfl⟩ := List.mem_map.1 hv; rfl⟩
  have HCC : Hid (((Sc.start p).ct.map iV).length = n ∧ (s.ct.map iV).length = n ∧ (∀ v ∈ s.ct.map iV, v.oneCell' = true)) := ⟨by simp [hlc], by simp [hsc], by intro v hv; obtain ⟨b, _, rfl⟩ := List.mem_map.1 hv; rfl⟩
  clear hst2 hb2 hb3 hM hw3 HSTA hst3 hsto hb13 hbw3 c0 c1 c2 c3 hln hlc
  obtain ⟨w4, hcp1, x1, x2, x3⟩ := copy_whole w3 51 3 4 Tryz.underlying51 (by kernel_rfl) gi2 gi n _ _ 4 4 H3.out.bi HO3.out.bi HCI.out.1 HCI.out.2.1 HCI.out.2.2
  have y0 : w4.cell? ⟨w2.heap.size, 1, none⟩ = some (.slice (some ⟨gc2, 0, none⟩) n n) := by rw [World.cell?_of_block (w' := w4) (w := w3) (x2 _ (by show w2.heap.size ≠ gi2; omega))]; exact dm1
  have y1 : w4.cell? ⟨w.heap.size + 1, 1, none⟩ = some (.slice (some ⟨gc, 0, none⟩) n n) := by rw [World.cell?_of_block (w' := w4) (w := w3) (x2 _ (by show w.heap.size + 1 ≠ gi2; omega))]; exact d3
  obtain ⟨w5, hcp2, z1, z2, z3⟩ := copy_whole w4 36 3 3 Tryz.underlying36 (by kernel_rfl) gc2 gc n _ _ 3 3 ((x2 _ (fun e => hne e.symm)).trans H3.out.bc) ((x2 _ (by omega)).trans HO3.out.bc) HCC.out.1 HCC.out.2.1 HCC.out.2.2
  have H5 : Hid (StAt w5 gi2 gc2 s) := ⟨(z2 _ hne).trans x1, z1⟩
  have HT5 : Hid (Two gi2 gc2 w3 w5) := ⟨z3.2.1.trans x3.2.1, z3.2.2.1.trans x3.2.2.1, z3.2.2.2.trans x3.2.2.2, by rw [z3.1, x3.1]; exact Nat.le_refl _, fun k _ h1 h2 => (z2 k h2).trans (x2 k h1)⟩
  have hz5 : w5.heap.size = w2.heap.size + 1 := by rw [z3.1, x3.1]; exact hz3
  clear x1 x2 x3 z1 z2 z3
  rw [HW3.out] at d0 d1 d2 d3 dm0 dm1 hcp1
  have HOLD : Hid (∀ (W : World), Two gi2 gc2 w5 W → ∀ k, k < w3.heap.size → k ≠ gi2 → k ≠ gc2 → W.heap[k]? = w3.heap[k]?) := fun W hW k h1 h2 h3 => (hW.block k (by rw [hz5, ← hz3]; exact h1) h2 h3).trans (HT5.out.block k h1 h2 h3)
  have HOW3 := hide (own_below HOW.out HB13.out)
  go_wp2_with fail
  clear hcp1 hcp2 d0 d1 d2 d3 dm0 dm1 y0 y1
  go_loopw [58] (fun i wr => ∃ k : Nat, k ≤ q ∧ i = .int .i64 (k : Int) ∧ Hid (StAt wr gi2 gc2 ⟨Sc.readsTo (Ld.kindL p.names 1) inp s.is k, s.ct⟩) ∧ Hid (Two gi2 gc2 w5 wr)) (fun i _ => q - (intOf i).toNat)
  case atStart => exact ⟨0, Nat.zero_le _, rfl, H5.out, Two.refl _ _ _⟩
  case round =>
    obtain ⟨k, hk, rfl, HS, HTW⟩ := hrel
    have HZW := HTW.out.size
    by_cases hlt : k < q
    · have hkl : k < (Ld.kindL p.names 1).length := by rw [← HQ.out]; exact hlt
      have hik : k < inp.length := by rw [HKL.out, ← HQ.out]; exact hlt
      have HSU := hide (Sc.readsTo_succ (Ld.kindL p.names 1) inp s.is HKL.out k hkl)
      have hjn : (Ld.kindL p.names 1)[k] < n := by rw [HN.out]; exact Ld.placesTo_lt _ _ _ _ (List.getElem_mem hkl)
      obtain ⟨g, rfl, hcp, hgk, hck0⟩ : ∃ g, ka = some ⟨g, 0, none⟩ ∧ q ≤ kc ∧ g < w1.heap.size ∧ wr.cell? ⟨g, k, none⟩ = some (.int .i64 ((Ld.kindL p.names 1)[k] : Int)) := by
        rcases HOW.out.2 with ⟨_, h0⟩ | ⟨g, cap, cur, h1, h2, h3, h4, h5, h6, h7⟩
        · omega
        · simp only [Value.slice.injEq] at h1
          have hgl : g < w1.heap.size := (Array.getElem?_eq_some_iff.1 h3).1
          refine ⟨g, h1.1, by omega, hgl, ?_⟩
          have h8 : wr.heap[g]? = some (.cells cur 3 (0, 0)) := by
            rw [HOLD.out wr HTW.out g (by omega) (by omega) (by omega), HB13.out.block g hgl]; exact h3
          rw [Lib.cell_of_heap h8]
          have h9 := congrArg (·[k]?) h7
          simp only [List.getElem?_map, List.getElem?_eq_getElem hkl, Option.map_some] at h9
          rw [List.getElem?_take_of_lt (by omega)] at h9
          simpa [intV] using h9
      obtain ⟨gin, hia, hcin⟩ : ∃ gin, ia = some ⟨gin, 0, none⟩ ∧ w.cell? ⟨gin, k, none⟩ = some (.bool inp[k]) := by
        obtain ⟨a', c', h1, _, h3⟩ := HIN.out
        obtain ⟨gin, h4, h5⟩ := h3 k inp[k] (List.getElem?_eq_getElem hik)
        simp only [Value.slice.injEq] at h1
        exact ⟨gin, h1.1.trans h4, h5⟩
      subst hia
      have hginl : gin < w.heap.size := World.block_lt_of_cell? _ _ hcin
      have f0 : wr.cell? ⟨w2.heap.size, 0, none⟩ = some (.slice (some ⟨gi2, 0, none⟩) n n) := by
        have h8 := (HOLD.out wr HTW.out w2.heap.size (by omega) (by omega) (by omega)).trans HM3.out
        rw [Lib.cell_of_heap h8]; rfl
      have f1 : wr.cell? ⟨gin, k, none⟩ = some (.bool inp[k]) := by
        rw [World.cell?_of_block (w' := wr) (w := w) ((HOLD.out wr HTW.out gin (by omega) (by omega) (by omega)).trans (HBW3.out.block gin hginl))]
        exact hcin
      have hrl : (Sc.readsTo (Ld.kindL p.names 1) inp s.is k).length = n := by rw [Sc.readsTo_len]; exact hsi
      generalize (Ld.kindL p.names 1)[k] = j at *
      generalize inp[k] = bk at *
      have f2 := HS.out.cellI j (by show j < (Sc.readsTo (Ld.kindL p.names 1) inp s.is k).length; omega)
      have f3 := HS.out.frI j
      generalize (Sc.readsTo (Ld.kindL p.names 1) inp s.is k).getD j false = bo at *
      have HFIN := hide (HS.out.setI j bk)
      simp only [← HSU.out] at HFIN
      have hw2r : w2.heap.size < wr.heap.size := by omega
      clear hcin
      go_wp2_with fail
      go_region
      all_goals go_wp2_with fail
      all_goals go_roundw
      case rel => exact ⟨k + 1, by omega, by go_num, ⟨HFIN.out.bi, HFIN.out.bc⟩, HTW.out.trans ⟨rfl, rfl, rfl, (Two.setI (gi := gi2) (gc := gc2) wr j (.bool bk)).size, (Two.setI (gi := gi2) (gc := gc2) wr j (.bool bk)).block⟩⟩
      case measure => simp [intOf]; omega
    · have hkq : k = q := by omega
      have HSR : Hid (StAt wr gi2 gc2 ⟨Sc.reads (Ld.kindL p.names 1) inp s.is, s.ct⟩) := by
        have h8 := HS.out
        rw [hkq, HQ.out, Sc.readsTo_all _ _ _ HKL.out] at h8
        exact h8
      have hold : ∀ b c, w3.heap[b]? = some (.cells c 105 (0, 0)) ∨ w3.heap[b]? = some (.cells c 83 (0, 0)) → b < w3.heap.size → b ≠ gi2 → b ≠ gc2 → ∀ i, wr.cell? ⟨b, i, none⟩ = c[i]? := by
        intro b c hb h1 h2 h3 i
        have h8 := HOLD.out wr HTW.out b h1 h2 h3
        rcases hb with hb | hb
        · exact Lib.cell_of_heap (h8.trans hb) i
        · exact Lib.cell_of_heap (h8.trans hb) i
      obtain ⟨⟨r0, r1⟩, ⟨r2, _⟩, r5⟩ := HBX.out wr (fun k hk => by
        rw [HOLD.out wr HTW.out k (by omega) (by omega) (by omega), HB13.out.block k (by omega)]; exact HB1.out.block k hk)
      have r6 := (HOLD.out wr HTW.out w2.heap.size (by omega) (by omega) (by omega)).trans HM3.out
      have R5 := hide r5
      have R6 := hide r6
      clear r5 r6
      have r4 : wr.cell? ⟨w2.heap.size, 0, none⟩ = some (.slice (some ⟨gi2, 0, none⟩) n n) := by
        have h8 := (HOLD.out wr HTW.out w2.heap.size (by omega) (by omega) (by omega)).trans HM3.out
        rw [Lib.cell_of_heap h8]; rfl
      subst hkq
      clear hold HS
      have hw2r : w2.heap.size < wr.heap.size := by omega
      have hwr : w.heap.size + 1 < wr.heap.size := by omega
      have hwr0 : w.heap.size < wr.heap.size := by omega
      go_upto_region 12 with fail
      go_cut [12, 13] from 72 (fun fi fw wx => ∃ a b c d, fi = .func (.func 234) #[] #[.pointer (some ⟨a, 0, none⟩), .pointer (some ⟨b, 0, none⟩)] ∧ fw = .func (.func 234) #[] #[.pointer (some ⟨c, 0, none⟩), .pointer (some ⟨d, 0, none⟩)] ∧
        (wx.heap[a]? = some (.cells #[.slice na n nc, .slice ra m rc] 83 (0, 0)) ∧ wx.heap[b]? = some (.cells #[.slice (some ⟨gi2, 0, none⟩) n n] 51 (0, 0))) ∧ (wx.heap[c]? = some (.cells #[.slice na n nc, .slice ra m rc] 83 (0, 0)) ∧ wx.heap[d]? = some (.cells #[.slice (some ⟨gi, 0, none⟩) n n] 51 (0, 0))) ∧
        (wr.heap.size ≤ a ∧ wr.heap.size ≤ b ∧ wr.heap.size ≤ c ∧ wr.heap.size ≤ d) ∧ Below wr.heap.size wr wx)
      case first =>
        have HD1 : Hid (∀ W, Calls Tryz.prog 200 #[.agg #[.slice na n nc, .slice ra m rc], .slice (some ⟨gi2, 0, none⟩) n n] W fun e w' => e = .returned (.func (.func 234) #[] #[.pointer (some ⟨W.heap.size, 0, none⟩), .pointer (some ⟨W.heap.size + 1, 0, none⟩)]) ∧ w' = (W.alloc (.cells #[.slice na n nc, .slice ra m rc] 83)).alloc (.cells #[.slice (some ⟨gi2, 0, none⟩) n n] 51)) := fun W => told_any _ _ _ W ⟨_, _, _, rfl⟩ ⟨_, _, _, rfl⟩ ⟨_, _, _, rfl⟩
        have HD2 : Hid (∀ W, Calls Tryz.prog 200 #[.agg #[.slice na n nc, .slice ra m rc], .slice (some ⟨gi, 0, none⟩) n n] W fun e w' => e = .returned (.func (.func 234) #[] #[.pointer (some ⟨W.heap.size, 0, none⟩), .pointer (some ⟨W.heap.size + 1, 0, none⟩)]) ∧ w' = (W.alloc (.cells #[.slice na n nc, .slice ra m rc] 83)).alloc (.cells #[.slice (some ⟨gi, 0, none⟩) n n] 51)) := fun W => told_any _ _ _ W ⟨_, _, _, rfl⟩ ⟨_, _, _, rfl⟩ ⟨_, _, _, rfl⟩
        go_region_held3 (fun W => W.cell? ⟨w.heap.size, 0, none⟩ = some (.slice na n nc) ∧ W.cell? ⟨w.heap.size, 1, none⟩ = some (.slice ra m rc) ∧ W.cell? ⟨w2.heap.size, 0, none⟩ = some (.slice (some ⟨gi2, 0, none⟩) n n) ∧ W.cell? ⟨w.heap.size + 1, 0, none⟩ = some (.slice (some ⟨gi, 0, none⟩) n n)) ((first | exact ⟨r0, r1, r4, r2⟩ | exact ⟨cell_alloc2 r0, cell_alloc2 r1, cell_alloc2 r4, cell_alloc2 r2⟩ | exact ⟨cell_alloc2 (cell_alloc2 r0), cell_alloc2 (cell_alloc2 r1), cell_alloc2 (cell_alloc2 r4), cell_alloc2 (cell_alloc2 r2)⟩)) ((first | (go_at_call 200; (with_reducible refine (HD1.out _).mono ?_); rintro e w' ⟨rfl, rfl⟩) | (go_at_call 200; (with_reducible refine (HD2.out _).mono ?_); rintro e w' ⟨rfl, rfl⟩)))
        all_goals go_wp2_with fail
        all_goals go_meet
        obtain ⟨q1, q2, q3, q4, q5⟩ := cells4 wr (.cells #[.slice na n nc, .slice ra m rc] 83) (.cells #[.slice (some ⟨gi2, 0, none⟩) n n] 51) (.cells #[.slice na n nc, .slice ra m rc] 83) (.cells #[.slice (some ⟨gi, 0, none⟩) n n] 51)
        exact ⟨_, _, _, _, rfl, rfl, ⟨q1, q2⟩, ⟨q3, q4⟩, ⟨by omega, by omega, by omega, by omega⟩, q5⟩
      case rest =>
        obtain ⟨ba, bb, bc, bd, rfl, rfl, ⟨ha, hb⟩, ⟨hc, hd⟩, ⟨ga, gb, gcc, gd⟩, hbx⟩ := hcut
        have HA := hide ha
        have HB := hide hb
        have HC := hide hc
        have HD := hide hd
        have HX := hide hbx
        have HSC := hide (HSR.out.below hbx)
        have BR := hide ((hbx.block _ (by omega)).trans R5.out)
        have BM := hide ((hbx.block _ (by omega)).trans R6.out)
        have t0 : wc.cell? ⟨w.heap.size, 0, none⟩ = some (.slice na n nc) := (hbx.cell (p := ⟨w.heap.size, 0, none⟩) hwr0).trans r0
        have T0 := hide t0
        have hord : wr.heap.size ≤ wc.heap.size ∧ gi2 < wr.heap.size ∧ gc2 < wr.heap.size ∧ w2.heap.size < wr.heap.size := ⟨hbx.size, by omega, by omega, hw2r⟩
        have t1 : wc.cell? ⟨w.heap.size, 1, none⟩ = some (.slice ra m rc) := (hbx.cell (p := ⟨w.heap.size, 1, none⟩) hwr0).trans r1
        clear ha hb hc hd hbx
        have HPL : Hid (p.rungs.foldl (Sc.doRung p.names s.is) ⟨Sc.reads (Ld.kindL p.names 1) inp s.is, s.ct⟩ = Sc.step p s inp) := rfl
        have hrl0 : (Sc.reads (Ld.kindL p.names 1) inp s.is).length = n := by rw [← Sc.readsTo_all _ _ _ HKL.out, Sc.readsTo_len]; exact hsi
        have HWX : Hid (∀ (W : World), Two gi2 gc2 wc W → Below w.heap.size w W ∧ (∀ k, k < wc.heap.size → k ≠ gi2 → k ≠ gc2 → W.heap[k]? = wc.heap[k]?)) := by
          intro W hW
          refine ⟨?_, fun k h1 h2 h3 => hW.block k h1 h2 h3⟩
          have hwx := HX.out
          refine ⟨hW.os.trans (hwx.os.trans (HTW.out.os.trans (HT5.out.os.trans HBW3.out.os))), hW.tape.trans (hwx.tape.trans (HTW.out.tape.trans (HT5.out.tape.trans HBW3.out.tape))), hW.output.trans (hwx.output.trans (HTW.out.output.trans (HT5.out.output.trans HBW3.out.output))), ?_, fun k hk => ?_⟩
          · have := hW.size; have := hwx.size; have := HTW.out.size; omega
          · rw [hW.block k (by have := hwx.size; omega) (by omega) (by omega), hwx.block k (by omega), HOLD.out _ HTW.out k (by omega) (by omega) (by omega)]
            exact HBW3.out.block k hk
        have hzc := HX.out.size
        generalize hS0 : (⟨Sc.reads (Ld.kindL p.names 1) inp s.is, s.ct⟩ : Sc.St) = S0 at *
        have hS0i : S0.is.length = n := by rw [← hS0]; exact hrl0
        have hS0c : S0.ct.length = n := by rw [← hS0]; exact hsc
        have HS0 : Hid (∀ c, c ∈ S0.ct → 0 ≤ c ∧ c ≤ 7) := by rw [← hS0]; exact hct
        clear hS0 HSR HTW HOLD HT5 H5 HOW HOW3 H3 HO3 HCI HCC HB1 HB13 HM3 hrl0
        go_wp2_with fail
        go_loopw [83] (fun i wr => ∃ k : Nat, k ≤ m ∧ i = .int .i64 (k : Int) ∧ Hid (StAt wr gi2 gc2 ((p.rungs.take k).foldl (Sc.doRung p.names s.is) S0)) ∧ Hid (Two gi2 gc2 wc wr) ∧ Hid (((p.rungs.take k).foldl (Sc.doRung p.names s.is) S0).is.length = n ∧ ((p.rungs.take k).foldl (Sc.doRung p.names s.is) S0).ct.length = n ∧ ∀ c, c ∈ ((p.rungs.take k).foldl (Sc.doRung p.names s.is) S0).ct → 0 ≤ c ∧ c ≤ 7)) (fun i _ => m - (intOf i).toNat)
        case atStart => exact ⟨0, Nat.zero_le _, rfl, HSC.out, Two.refl _ _ _, hS0i, hS0c, HS0.out⟩
        case round =>
          obtain ⟨k2, hk2, rfl, HS2, HTK, HLE⟩ := hrel
          obtain ⟨hbw, hblk⟩ := HWX.out wr HTK.out
          have HBW := hide hbw
          have HBLK := hide hblk
          have hzr := HTK.out.size
          have u0 : wr.cell? ⟨w.heap.size, 0, none⟩ = some (.slice na n nc) := by rw [World.cell?_of_block (w' := wr) (w := wc) (hblk _ (by show w.heap.size < _; omega) (by show w.heap.size ≠ gi2; omega) (by show w.heap.size ≠ gc2; omega))]; exact T0.out
          have u1 : wr.cell? ⟨w.heap.size, 1, none⟩ = some (.slice ra m rc) := by rw [World.cell?_of_block (w' := wr) (w := wc) (hblk _ (by show w.heap.size < _; omega) (by show w.heap.size ≠ gi2; omega) (by show w.heap.size ≠ gc2; omega))]; exact t1
          have um := (hblk w2.heap.size (by omega) (by omega) (by omega)).trans BM.out
          have UM := hide um
          clear hbw hblk um t0
          by_cases hlt2 : k2 < m
          · have hkl : k2 < p.rungs.length := by rw [← HM.out]; exact hlt2
            obtain ⟨g, hra, hca, u, e1, e2, e3, _, _, e6⟩ : ∃ g, ra = some ⟨g, 0, none⟩ ∧ m ≤ rc ∧ RungAt wr g k2 p.rungs[k2] := by
              rcases HRA.out.below HBW.out with ⟨h0, _⟩ | ⟨g, cap, h1, h2, h3, h4⟩
              · rw [h0] at hkl; simp at hkl
              · simp only [Value.slice.injEq] at h1
                exact ⟨g, h1.1, by rw [h1.2.2, h1.2.1]; exact h2, h4 k2 _ (List.getElem?_eq_getElem hkl)⟩
            subst hra
            obtain ⟨q1, q2, q3, x, q4, _⟩ := HRS.out _ (List.getElem_mem hkl)
            have HTS : Hid ((p.rungs.take (k2 + 1)).foldl (Sc.doRung p.names s.is) S0 = Sc.doRung p.names s.is ((p.rungs.take k2).foldl (Sc.doRung p.names s.is) S0) p.rungs[k2]) := by
              show _ = _
              rw [List.take_succ_eq_append_getElem hkl, List.foldl_append]; rfl
            generalize p.rungs[k2] = y at *
            obtain ⟨yk, ynm, yc⟩ := y
            simp only at e1 e2 e3 q1 q2 q3 q4 e6
            subst q4
            obtain ⟨hx, hxs, hxt⟩ := e6
            obtain ⟨tu, yu, hiu⟩ := IsEx.iface x u hx
            subst hiu
            have HXE := hide hx
            obtain ⟨wD, hwD⟩ : ∃ wD, wD = wr.alloc (.cells #[.int .i64 yk, .string ⟨ynm.toArray⟩, .iface tu yu] 230) := ⟨_, rfl⟩
            have hbD : Below wr.heap.size wr wD := by rw [hwD]; exact (Below.refl _ _).alloc (Nat.le_refl _) _
            have hnD : wD.heap[wr.heap.size]? = some (.cells #[.int .i64 yk, .string ⟨ynm.toArray⟩, .iface tu yu] 230 (0, 0)) := by rw [hwD]; exact heap_alloc_new _ _
            have hzD : wD.heap.size = wr.heap.size + 1 := by rw [hwD]; simp
            have HNU := hide (Number_any p.names (.slice na n nc) (.slice (some ⟨g, 0, none⟩) m rc) ynm wD ((HNA.out.below HBW.out).below hbD) ⟨_, _, _, rfl⟩)
            rw [hwD] at HNU
            have HWD := hide hwD
            have HBD := hide hbD
            have HND := hide hnD
            have hgw : g < wr.heap.size := World.block_lt_of_cell? _ _ e1
            have hw0r : w.heap.size < wr.heap.size := by omega
            clear hx hwD hbD hnD
            go_wp2_with fail
            refine HNU.out.mono ?_
            rintro e w6 ⟨rfl, hb6⟩
            rw [← HWD.out] at hb6
            have HB6 := hide (HBD.out.trans (hb6.mono HBD.out.size))
            have hn6 := (hb6.block wr.heap.size (by omega)).trans HND.out
            have HN6 := hide hn6
            clear hb6 HNU hn6
            have hz6 := HB6.out.size
            have hnlt := Ld.number_lt p.names ynm
            rcases (show 0 ≤ Ld.number p.names ynm ∨ Ld.number p.names ynm < 0 by omega) with hpos | hneg
            · obtain ⟨j, hj⟩ : ∃ j : Nat, Ld.number p.names ynm = (j : Int) := ⟨(Ld.number p.names ynm).toNat, by omega⟩
              have HJ := hide hj
              have hjn : j < n := by rw [HN.out]; omega
              have hjl : j < p.names.length := by rw [← HN.out]; exact hjn
              rw [hj]
              obtain ⟨gn, hna, hcn, f1, f2, f3, _⟩ : ∃ gn, na = some ⟨gn, 0, none⟩ ∧ n ≤ nc ∧ NameAt w6 gn j p.names[j] := by
                rcases (HNA.out.below HBW.out).below HB6.out with ⟨h0, _⟩ | ⟨g', cap, h1, h2, h3, h4⟩
                · rw [h0] at hjl; simp at hjl
                · simp only [Value.slice.injEq] at h1
                  exact ⟨g', h1.1, by rw [h1.2.2, h1.2.1]; exact h2, h4 j _ (List.getElem?_eq_getElem hjl)⟩
              subst hna
              obtain ⟨L1, L2, L3⟩ := HLE.out
              have HDO : Hid (Sc.doRung p.names s.is ((p.rungs.take k2).foldl (Sc.doRung p.names s.is) S0) ⟨yk, ynm, some x⟩ = Sc.rung yk j p.names[j].count (x.eval (Sc.told p.names ((p.rungs.take k2).foldl (Sc.doRung p.names s.is) S0).is) (Sc.told p.names s.is)) ((p.rungs.take k2).foldl (Sc.doRung p.names s.is) S0)) := by
                show _ = _
                simp only [Sc.doRung, HJ.out, Int.toNat_natCast]
                rw [if_pos (by omega)]
                simp [hjl]
              obtain ⟨_, _, _, hmc⟩ := HNS.out _ (List.getElem_mem hjl)
              have hmost : 0 ≤ p.names[j].count ∧ p.names[j].count ≤ 7 := by
                unfold Ld.mayCount at hmc
                split at hmc
                · simp at hmc; omega
                · simp at hmc; omega
              have hst6 := HS2.out.below HB6.out
              generalize (p.rungs.take k2).foldl (Sc.doRung p.names s.is) S0 = cur at *
              have v0 : w6.cell? ⟨w.heap.size, 0, none⟩ = some (.slice (some ⟨gn, 0, none⟩) n nc) := (HB6.out.cell (p := ⟨w.heap.size, 0, none⟩) hw0r).trans u0
              have vm := (HB6.out.block w2.heap.size (by omega)).trans UM.out
              have m0 : w6.cell? ⟨w2.heap.size, 0, none⟩ = some (.slice (some ⟨gi2, 0, none⟩) n n) := by rw [Lib.cell_of_heap vm]; rfl
              have m1 : w6.cell? ⟨w2.heap.size, 1, none⟩ = some (.slice (some ⟨gc2, 0, none⟩) n n) := by rw [Lib.cell_of_heap vm]; rfl
              have g0 : w6.cell? ⟨wr.heap.size, 0, none⟩ = some (.int .i64 yk) := by rw [Lib.cell_of_heap HN6.out]; rfl
              have g2 : w6.cell? ⟨wr.heap.size, 2, none⟩ = some (.iface tu yu) := by rw [Lib.cell_of_heap HN6.out]; rfl
              have hnm6 := (HNA.out.below HBW.out).below HB6.out
              have hat : ∀ b c T, wc.heap[b]? = some (.cells c T (0, 0)) → wc.heap.size ≤ wr.heap.size → b ≠ gi2 → b ≠ gc2 → w6.heap[b]? = some (.cells c T (0, 0)) := by
                intro b c T h1 _ h3 h4
                have hb := (Array.getElem?_eq_some_iff.1 h1).1
                exact (HB6.out.block b (by omega)).trans ((HBLK.out b hb h3 h4).trans h1)
              have a0 := hat _ _ _ HA.out hzr (by omega) (by omega)
              have a1 := hat _ _ _ HB.out hzr (by omega) (by omega)
              have a2 := hat _ _ _ HC.out hzr (by omega) (by omega)
              have a3 := hat _ _ _ HD.out hzr (by omega) (by omega)
              have hgi6 : w6.heap[gi]? = some (.cells ⟨s.is.map boolV⟩ 4 (0, 0)) := (HB6.out.block gi (by omega)).trans ((HBW.out.block gi hlto.1).trans HST.out.bi)
              have HTI := tells_told p.names (.slice (some ⟨gn, 0, none⟩) n nc) (.slice (some ⟨g, 0, none⟩) m rc) cur.is gi2 ba bb w6 hnm6 ⟨_, _, _, rfl⟩ (by rw [L1, HN.out]) (by rw [Lib.cell_of_heap a0]; rfl) (by rw [Lib.cell_of_heap a0]; rfl) (by rw [Lib.cell_of_heap a1, L1]; rfl) hst6.bi
              have HTV := tells_told p.names (.slice (some ⟨gn, 0, none⟩) n nc) (.slice (some ⟨g, 0, none⟩) m rc) s.is gi bc bd w6 hnm6 ⟨_, _, _, rfl⟩ (by rw [hsi, HN.out]) (by rw [Lib.cell_of_heap a2]; rfl) (by rw [Lib.cell_of_heap a2]; rfl) (by rw [Lib.cell_of_heap a3, hsi]; rfl) hgi6
              have hdr : Below w6.heap.size w6 w6.drew := ⟨rfl, rfl, rfl, Nat.le_refl _, fun _ _ => rfl⟩
              have HEV := hide (E2.Eval_any (fun _ => True) x _ _ _ _ _ w6.drew ((HXE.out.aft HB6.out).aft hdr) (HTI.below hdr) (HTV.below hdr))
              generalize x.eval (Sc.told p.names cur.is) (Sc.told p.names s.is) = says at *
              have hcin := Sc.getD_in cur.ct j L3
              have HRU : Hid (∀ W, Below w6.heap.size w6 W → Calls Tryz.prog 201 #[stV gi2 gc2 n, .int .i64 yk, .int .i64 (j : Int), .int .i64 p.names[j].count, .bool says] W (Does gi2 gc2 (Sc.rung yk j p.names[j].count says cur) W)) := fun W hW => rung_any gi2 gc2 n j yk _ says cur W (hst6.below hW) L1 L2 hjn ⟨by omega, by omega⟩ ⟨q1, q2⟩
              unfold stV at HRU
              have HLEN := hide (Sc.rung_len yk j p.names[j].count says cur)
              have HCT := hide (Sc.rung_ct yk j p.names[j].count says cur L3 hmost)
              generalize p.names[j].count = most at *
              have hgnl : gn < w6.heap.size := World.block_lt_of_cell? _ _ f3
              have hw6 : w.heap.size < w6.heap.size := by omega
              have hw26 : w2.heap.size < w6.heap.size := by omega
              have hwr6 : wr.heap.size < w6.heap.size := World.block_lt_of_cell? _ _ g0
              have hjpos : (0 : Int) ≤ (j : Int) := by omega
              have hgnw : gn < w.heap.size := by
                rcases HNA.out with ⟨h0, _⟩ | ⟨g', cap, h1, _, _, h4⟩
                · rw [h0] at hjl; simp at hjl
                · simp only [Value.slice.injEq, Option.some.injEq, Addr.mk.injEq] at h1
                  have h5 := World.block_lt_of_cell? _ _ (h4 j _ (List.getElem?_eq_getElem hjl)).1
                  have h6 : g' < w.heap.size := h5
                  omega
              have n26 : w2.heap.size ≠ gi2 ∧ w2.heap.size ≠ gc2 := ⟨by omega, by omega⟩
              have nr6 : wr.heap.size ≠ gi2 ∧ wr.heap.size ≠ gc2 := ⟨by omega, by omega⟩
              have nw6 : w.heap.size ≠ gi2 ∧ w.heap.size ≠ gc2 := ⟨by omega, by omega⟩
              have ng6 : gn ≠ gi2 ∧ gn ≠ gc2 := ⟨by omega, by omega⟩
              clear f1 f2 a0 a1 a2 a3 hgi6 HTI HTV hat vm hnm6 hst6 hdr hmc hpos hj e1 e2 e3 u0 u1
              go_upto_region 18 with fail
              go_region_held3 (fun W => W.cell? ⟨w2.heap.size, 0, none⟩ = some (.slice (some ⟨gi2, 0, none⟩) n n) ∧ W.cell? ⟨w2.heap.size, 1, none⟩ = some (.slice (some ⟨gc2, 0, none⟩) n n) ∧ W.cell? ⟨wr.heap.size, 0, none⟩ = some (.int .i64 yk) ∧ W.cell? ⟨wr.heap.size, 2, none⟩ = some (.iface tu yu) ∧ W.cell? ⟨w.heap.size, 0, none⟩ = some (.slice (some ⟨gn, 0, none⟩) n nc) ∧ W.cell? ⟨gn, j * 3 + 2, none⟩ = some (.int .i64 most)) ((first | exact ⟨m0, m1, g0, g2, v0, f3⟩ | exact ⟨(hb7.cell (p := ⟨w2.heap.size, 0, none⟩) hw26).trans m0, (hb7.cell (p := ⟨w2.heap.size, 1, none⟩) hw26).trans m1, (hb7.cell (p := ⟨wr.heap.size, 0, none⟩) hwr6).trans g0, (hb7.cell (p := ⟨wr.heap.size, 2, none⟩) hwr6).trans g2, (hb7.cell (p := ⟨w.heap.size, 0, none⟩) hw6).trans v0, (hb7.cell (p := ⟨gn, j * 3 + 2, none⟩) hgnl).trans f3⟩ | exact ⟨(two_cell ht8 _ _ (Nat.lt_of_lt_of_le hw26 hb7.size) n26.1 n26.2).trans ((hb7.cell (p := ⟨w2.heap.size, 0, none⟩) hw26).trans m0), (two_cell ht8 _ _ (Nat.lt_of_lt_of_le hw26 hb7.size) n26.1 n26.2).trans ((hb7.cell (p := ⟨w2.heap.size, 1, none⟩) hw26).trans m1), (two_cell ht8 _ _ (Nat.lt_of_lt_of_le hwr6 hb7.size) nr6.1 nr6.2).trans ((hb7.cell (p := ⟨wr.heap.size, 0, none⟩) hwr6).trans g0), (two_cell ht8 _ _ (Nat.lt_of_lt_of_le hwr6 hb7.size) nr6.1 nr6.2).trans ((hb7.cell (p := ⟨wr.heap.size, 2, none⟩) hwr6).trans g2), (two_cell ht8 _ _ (Nat.lt_of_lt_of_le hw6 hb7.size) nw6.1 nw6.2).trans ((hb7.cell (p := ⟨w.heap.size, 0, none⟩) hw6).trans v0), (two_cell ht8 _ _ (Nat.lt_of_lt_of_le hgnl hb7.size) ng6.1 ng6.2).trans ((hb7.cell (p := ⟨gn, j * 3 + 2, none⟩) hgnl).trans f3)⟩)) ((first | (go_at_call 38; (with_reducible refine HEV.out.mono ?_); rintro e w7 ⟨rfl, hb7⟩) | (go_at_call 201; (with_reducible refine (HRU.out w7 (below_undrew hb7)).mono ?_); rintro e w8 ⟨rfl, hs8, ht8⟩)))
              all_goals go_wp2_with fail
              all_goals go_roundw
              case rel =>
                refine ⟨k2 + 1, by omega, by go_num, by rw [HTS.out, HDO.out]; exact hs8, HTK.out.trans ((Two.below HB6.out).trans ((Two.below (below_undrew hb7)).trans ht8)), ?_⟩
                rw [HTS.out, HDO.out]
                exact ⟨HLEN.out.1.trans L1, HLEN.out.2.trans L2, HCT.out⟩
              case measure => simp [intOf]; omega
            · have HDO : Hid (Sc.doRung p.names s.is ((p.rungs.take k2).foldl (Sc.doRung p.names s.is) S0) ⟨yk, ynm, some x⟩ = (p.rungs.take k2).foldl (Sc.doRung p.names s.is) S0) := by
                show _ = _
                simp only [Sc.doRung]
                rw [if_neg (by omega)]
              generalize Ld.number p.names ynm = nu at *
              go_wp2_with fail
              go_roundw
              case rel => exact ⟨k2 + 1, by omega, by go_num, by rw [HTS.out, HDO.out]; exact HS2.out.below HB6.out, HTK.out.trans (Two.below HB6.out), by rw [HTS.out, HDO.out]; exact HLE.out⟩
              case measure => simp [intOf]; omega
          · have hkm : k2 = m := by omega
            have hall : (p.rungs.take k2).foldl (Sc.doRung p.names s.is) S0 = Sc.step p s inp := by rw [hkm, List.take_of_length_le (by rw [← HM.out]; exact Nat.le_refl _)]; exact HPL.out
            rw [hall] at HS2
            have ub := (HBLK.out (w.heap.size + 1 + 1) (by omega) (by omega) (by omega)).trans BR.out
            have m0 : wr.cell? ⟨w2.heap.size, 0, none⟩ = some (.slice (some ⟨gi2, 0, none⟩) n n) := by rw [Lib.cell_of_heap UM.out]; rfl
            have m1 : wr.cell? ⟨w2.heap.size, 1, none⟩ = some (.slice (some ⟨gc2, 0, none⟩) n n) := by rw [Lib.cell_of_heap UM.out]; rfl
            have z0 : wr.cell? ⟨w.heap.size + 1 + 1, 0, none⟩ = some (.slice none 0 0) := by rw [Lib.cell_of_heap ub]; rfl
            have z1 : wr.cell? ⟨w.heap.size + 1 + 1, 1, none⟩ = some (.slice none 0 0) := by rw [Lib.cell_of_heap ub]; rfl
            have z2 : wr.frozen? ⟨w.heap.size + 1 + 1, 0, none⟩ = false := Lib.frozen_of_heap ub 0
            have z3 : wr.frozen? ⟨w.heap.size + 1 + 1, 1, none⟩ = false := Lib.frozen_of_heap ub 1
            subst hkm
            have UB := hide ub
            clear hall ub
            go_wp2_with fail
            refine bodyPost_ret_by (v := .tuple #[stV gi2 gc2 n, .nilIface]) ?_ rfl ?_
            · simp [results, Tryz.results163, go_sem, stV, z0, z1]
            · refine ⟨gi2, gc2, rfl, ?_, by omega, by omega, ?_⟩
              · refine ⟨?_, ?_⟩
                · rw [Below.heap_setCell _ _ _ _ (fun e => by simp at e; omega), Below.heap_setCell _ _ _ _ (fun e => by simp at e; omega)]; exact HS2.out.bi
                · rw [Below.heap_setCell _ _ _ _ (fun e => by simp at e; omega), Below.heap_setCell _ _ _ _ (fun e => by simp at e; omega)]; exact HS2.out.bc
              · exact (HBW.out.setCell (p := ⟨w.heap.size + 1 + 1, 0, none⟩) (by show w.heap.size ≤ w.heap.size + 1 + 1; omega) _).setCell (p := ⟨w.heap.size + 1 + 1, 1, none⟩) (by show w.heap.size ≤ w.heap.size + 1 + 1; omega) _
end Go.Proofs.YtgldbliohpfljaaGreatDoor
