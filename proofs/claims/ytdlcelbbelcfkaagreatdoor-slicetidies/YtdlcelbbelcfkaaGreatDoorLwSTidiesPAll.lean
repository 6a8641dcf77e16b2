/-
  The walk of package slice's Tidy: a program whose expressions are tidy, without rungs that never do anything. The walk of SliceTidies: a program made tidy is the document's.
-/
import Derived.Test.YtdlcelbbelcfkaaGreatDoorMcCloneNAll
import Derived.Test.YtdlcelbbelcfkaaGreatDoorSlBuildAll
import Derived.Test.YtdlcelbbelcfkaaGreatDoorRtMathAll
import Derived.Test.YtdlcelbbelcfkaaGreatDoorRtBoundAll
import Derived.Test.YtdlcelbbelcfkaaGreatDoorTdTidy
import Derived.Test.YtdlcelbbelcfkaaGreatDoorLdParseWAll
import Derived.Test.YtdlcelbbelcfkaaGreatDoorRlToldAll
import Derived.Deep.RegionHeld3
namespace Go.Proofs.YtdlcelbbelcfkaaGreatDoor
section
open Go.RowKit
namespace Sl
theorem tidy_rungs (p : Ld.Prg) : (tidy p).rungs = (p.rungs.map tidyR).filter fun r => !idle r := rfl
theorem take_tidy (rs : List Ld.Rng) (k : Nat) (hk : k < rs.length) : ((rs.take (k + 1)).map tidyR).filter (fun r => !idle r) = if idle (tidyR rs[k]) then ((rs.take k).map tidyR).filter (fun r => !idle r) else ((rs.take k).map tidyR).filter (fun r => !idle r) ++ [tidyR rs[k]] := by
  rw [List.take_succ_eq_append_getElem hk, List.map_append, List.filter_append]
  cases hf : idle (tidyR rs[k]) with
  | true => simp [hf]
  | false => simp [hf]
set_option maxHeartbeats 8000000 in
set_option maxRecDepth 100000 in
theorem STidy_any (p : Ld.Prg) (v : Value) (w : World) (h : IsPrg w p v) (hck : Ld.check p = none) (hpar : Ld.Par p.rungs) (hpow : Pow w) :
    Calls Tryz.prog 15 #[v] w fun e w' => ∃ pv, e = .returned (.tuple #[pv, .nilIface]) ∧ IsPrg w' (tidy p) pv ∧ Below w.heap.size w w' := by
  have HPR := hide h
  have HCK := hide hck
  have HCR := hide (Ld.check_rungs p hck)
  have HPAR := hide hpar
  have HPOW := hide hpow
  have hplt := hpow.lt
  have h12 := (Ld.check_names p hck).1
  have h40 := (Ld.check_names p hck).2.1
  obtain ⟨nv, rv, rfl, hn, hr⟩ := h
  have HNA := hide hn
  have HRA := hide hr
  obtain ⟨na, nc, rfl, _⟩ := hn.slice
  obtain ⟨ra, rc, rfl, _⟩ := hr.slice
  obtain ⟨n, hnn⟩ : ∃ n, n = p.names.length := ⟨_, rfl⟩
  obtain ⟨q, hqq⟩ : ∃ q, q = p.rungs.length := ⟨_, rfl⟩
  have HN := hide hnn
  have HQ := hide hqq
  rw [← hnn] at HPR HNA h12 ⊢
  rw [← hqq] at HPR HRA h40 ⊢
  clear hn hr hnn hqq hck hpar hpow
  obtain ⟨wA, hwA⟩ : ∃ wA, wA = (w.alloc (.cells #[.slice na n nc, .slice ra q rc] 26)).alloc (.cells #[.slice none 0 0, .slice none 0 0] 26) := ⟨_, rfl⟩
  have hbA : Below w.heap.size w wA := by rw [hwA]; exact ((Below.refl _ _).alloc (Nat.le_refl _) _).alloc (by simp) _
  have hsA : wA.heap.size = w.heap.size + 1 + 1 := by rw [hwA]; simp
  have hA0 : wA.heap[w.heap.size]? = some (.cells #[.slice na n nc, .slice ra q rc] 26 (0, 0)) := by rw [hwA]; exact (Below.heap_alloc _ _ _ (by simp)).trans (heap_alloc_new _ _)
  have hA1 : wA.heap[w.heap.size + 1]? = some (.cells #[.slice none 0 0, .slice none 0 0] 26 (0, 0)) := by
    rw [hwA]
    have := heap_alloc_new (w.alloc (.cells #[.slice na n nc, .slice ra q rc] 26)) (.cells #[.slice none 0 0, .slice none 0 0] 26)
    rw [World.size_alloc] at this
    exact this
  have HKC := hide (Check_any p _ wA (HPR.out.below hbA))
  rw [HCK.out, hwA] at HKC
  have HWA := hide hwA
  have HBA := hide hbA
  have HA0 := hide hA0
  have HA1 := hide hA1
  clear hwA hbA hA0 hA1
  go_enter Tryz.func15, Tryz.ntmps15
  go_wp2_with fail
  refine HKC.out.mono ?_
  rintro e w1 ⟨er, rfl, her, hb1⟩
  obtain rfl : er = .nilIface := her
  rw [← HWA.out] at hb1
  have HB1 := hide hb1
  have hz1 := hb1.size
  have h10 := (hb1.block w.heap.size (by omega)).trans HA0.out
  have c0 : w1.cell? ⟨w.heap.size, 0, none⟩ = some (.slice na n nc) := by rw [Lib.cell_of_heap h10]; rfl
  have hw1 : Below w.heap.size w w1 := HBA.out.trans (hb1.mono HBA.out.size)
  have HCN := hide (cloneN_any p.names _ w1 (HNA.out.below hw1))
  have hwz1 : w.heap.size < w1.heap.size := by omega
  clear hb1 HKC h10 hw1
  go_wp2_with fail
  refine HCN.out.mono ?_
  rintro e w2 ⟨cv, rfl, hcn, hb2⟩
  have HCV := hide hcn
  obtain ⟨ca, cc, rfl, _⟩ := hcn.slice
  rw [← HN.out] at HCV ⊢
  have hz2 := hb2.size
  obtain ⟨wS, hwS⟩ : ∃ wS, wS = w2.alloc (.cells #[.slice ca n cc, .slice none 0 0] 26) := ⟨_, rfl⟩
  have hbS : Below w2.heap.size w2 wS := by rw [hwS]; exact (Below.refl _ _).alloc (Nat.le_refl _) _
  have hzS : wS.heap.size = w2.heap.size + 1 := by rw [hwS]; simp
  have HP0 : Hid (PR wS w2.heap.size p.names [] (.slice ca n cc) (.slice none 0 0) wS) := ⟨Below.refl _ _, by rw [hwS]; exact heap_alloc_new _ _, HCV.out.below hbS, ⟨rfl, .inl ⟨rfl, rfl⟩⟩, (fun r hr => by cases hr), fun _ => rfl⟩
  have HLOW : Hid (∀ W, Below w2.heap.size wS W → Below w.heap.size w W ∧ W.heap[w.heap.size]? = some (.cells #[.slice na n nc, .slice ra q rc] 26 (0, 0)) ∧ W.heap[w.heap.size + 1]? = some (.cells #[.slice none 0 0, .slice none 0 0] 26 (0, 0))) := by
    intro W hW
    have h1 : Below w2.heap.size w2 W := hbS.trans hW
    have h2 : Below wA.heap.size wA W := (HB1.out.trans (hb2.mono HB1.out.size)).trans (h1.mono (by omega))
    exact ⟨HBA.out.trans (h2.mono HBA.out.size), (h2.block _ (by omega)).trans HA0.out, (h2.block _ (by omega)).trans HA1.out⟩
  obtain ⟨_, s0, _⟩ := HLOW.out wS (Below.refl _ _)
  have c1 : wS.cell? ⟨w.heap.size, 1, none⟩ = some (.slice ra q rc) := by rw [Lib.cell_of_heap s0]; rfl
  have hwzS : w.heap.size < w2.heap.size := by omega
  rw [hwS] at c1
  clear hcn hb2 hbS s0 HCN c0
  go_wp2_with fail
  rw [← hwS]
  clear hwS c1
  obtain ⟨b, hb⟩ : ∃ b, b = w2.heap.size := ⟨_, rfl⟩
  rw [← hb] at HP0 HLOW hz2 hzS hwzS ⊢
  clear hb
  obtain ⟨iR, hiR, hzR0, hzR1, hzR2⟩ := info_parts Tryz.infoRung
  go_loopw [21] (fun i wr => ∃ k : Nat, k ≤ q ∧ i = .int .i64 (k : Int) ∧ ∃ (yv : Value) (rs : List (Ld.Rng × Value)), Hid (PR wS b p.names rs (.slice ca n cc) yv wr) ∧ Hid ((rs.map fun r => r.1) = ((p.rungs.take k).map tidyR).filter fun r => !idle r)) (fun i _ => q - (intOf i).toNat)
  case atStart => exact ⟨0, Nat.zero_le _, rfl, _, [], HP0.out, rfl⟩
  case round =>
    obtain ⟨j, hj, rfl, yv, rs, HPR2, HRS⟩ := hrel
    obtain ⟨hlow, hb0, hb1⟩ := HLOW.out wr HPR2.out.low
    have hzr := HPR2.out.lt
    have hlr : rs.length ≤ q := by
      have h3 := congrArg List.length HRS.out
      rw [List.length_map] at h3
      rw [h3]
      refine Nat.le_trans (List.length_filter_le _ _) ?_
      rw [List.length_map, List.length_take]
      omega
    obtain ⟨ya, yc, rfl⟩ := own_slice HPR2.out.org
    by_cases hlt2 : j < q
    · have hjl : j < p.rungs.length := by rw [← HQ.out]; exact hlt2
      have HTF := hide (take_tidy p.rungs j hjl)
      obtain ⟨r, hr⟩ : ∃ r, r = p.rungs[j] := ⟨_, rfl⟩
      have hrm : r ∈ p.rungs := by rw [hr]; exact List.getElem_mem hjl
      obtain ⟨g, rfl, hcap, hrg⟩ : ∃ g, ra = some ⟨g, 0, none⟩ ∧ q ≤ rc ∧ RungAt wr g j r := by
        rcases HRA.out.below hlow with ⟨h0, _⟩ | ⟨g, cap, h1, h2, h3, h4⟩
        · rw [h0] at hjl; simp at hjl
        · simp only [Value.slice.injEq] at h1
          exact ⟨g, h1.1, by rw [h1.2.2, HQ.out]; exact h2, h4 j r (by rw [hr]; exact List.getElem?_eq_getElem hjl)⟩
      obtain ⟨x, hx⟩ : ∃ x, r.cond = some x := by
        obtain ⟨_, _, _, _, x, h1, h2⟩ := HCR.out r hrm
        exact ⟨x, h1⟩
      obtain ⟨lx, hlx⟩ := HPAR.out r hrm x hx
      have hwf := Ex.parse_wf lx x hlx
      have hco := Ex.cost_parse lx x hlx
      have hxb := Ex.parse_bnd lx x hlx
      obtain ⟨v, c0, c1, c2, c3, c4, c5⟩ := hrg
      rw [hx] at c5
      have HEX := hide c5.1
      obtain ⟨tu, yu, rfl⟩ := IsEx.iface x v c5.1
      rw [← hr] at HTF
      obtain ⟨kd, rn, cd⟩ := r
      simp only at c0 c1 c3 c4 hx
      subst hx
      have HBD : Hid (rn.length ≤ maxLen ∧ I64 kd) := ⟨c3, c4⟩
      have HTB : Hid (x.tidy.size ≤ 1000000 ∧ x.tidy.text.length ≤ 1000000) := by
        have h1 := Ex.size_tidy x hwf
        have h2 := text_size x.tidy (Ex.Td.wf _ (Ex.td_tidy x hwf))
        exact ⟨by omega, by omega⟩
      obtain ⟨wB, hwB⟩ : ∃ wB, wB = wr.alloc (.cells #[.int .i64 kd, .string ⟨rn.toArray⟩, .iface tu yu] 66) := ⟨_, rfl⟩
      have hbB : Below wr.heap.size wr wB := by rw [hwB]; exact (Below.refl _ _).alloc (Nat.le_refl _) _
      have hzB : wB.heap.size = wr.heap.size + 1 := by rw [hwB]; simp
      have hB1 : wB.heap[wr.heap.size]? = some (.cells #[.int .i64 kd, .string ⟨rn.toArray⟩, .iface tu yu] 66 (0, 0)) := by rw [hwB]; exact heap_alloc_new _ _
      have HB1r := hide hB1
      have hpw : Pow wB := HPOW.out.block ((hbB.block _ (by have := hlow.size; omega)).trans (hlow.block _ hplt))
      have HTI := hide (Tidy_any x _ wB (IsEx.stay (Stay.below hbB) (fun _ _ => trivial) x _ HEX.out) hpw hwf (by omega))
      rw [hwB] at HTI
      have HWB := hide hwB
      have HBB := hide hbB
      have hbr : b < wr.heap.size := hzr
      clear hr hrm hwB hbB hB1 hlow hb0 hb1 c3 c4 c5 hpw hlx hwf hco hxb
      go_wp2_with fail
      refine HTI.out.mono ?_
      rintro e w4 ⟨v', rfl, hex4, hb4⟩
      rw [← HWB.out] at hb4
      have hz4 := hb4.size
      have h4r := (hb4.block wr.heap.size (by omega)).trans HB1r.out
      obtain ⟨tv, yv2, rfl⟩ := IsEx.iface x.tidy v' hex4
      obtain ⟨w5, hw5⟩ : ∃ w5, w5 = w4.setCell ⟨wr.heap.size, 2, none⟩ (.iface tv yv2) := ⟨_, rfl⟩
      have h5r : w5.heap[wr.heap.size]? = some (.cells #[.int .i64 kd, .string ⟨rn.toArray⟩, .iface tv yv2] 66 (0, 0)) := by rw [hw5]; simp [World.setCell, Array.getElem?_modify, h4r]
      have hbr5 : Below wr.heap.size wr w5 := by rw [hw5]; exact (HBB.out.trans (hb4.mono HBB.out.size)).setCell (by simp) _
      have hps : PStay w4 w5 := fun g' i u hp hc => by
        have hne : g' ≠ wr.heap.size := by
          intro e
          have h0 : w4.cell? ⟨wr.heap.size, 0, none⟩ = some (.int .i64 kd) := by rw [Lib.cell_of_heap h4r]; rfl
          rcases hp with ⟨s, h1⟩ | ⟨t, y, h1⟩
          · rw [e, h0] at h1; cases h1
          · rw [e, h0] at h1; cases h1
        rw [hw5, World.cell?_of_block (Below.heap_setCell _ _ _ _ (fun e => hne e))]
        exact hc
      have HC5 : Hid (CondAt w5 (some x.tidy) (.iface tv yv2)) := cond_stay hps (x := some x.tidy) ⟨hex4, HTB.out⟩
      have HP5 := hide (HPR2.out.below hbr5)
      have t0 : w4.cell? ⟨wr.heap.size, 2, none⟩ = some (.iface tu yu) := by rw [Lib.cell_of_heap h4r]; rfl
      have tf : w4.frozen? ⟨wr.heap.size, 2, none⟩ = false := Lib.frozen_of_heap h4r 2
      have r0 : w5.cell? ⟨wr.heap.size, 0, none⟩ = some (.int .i64 kd) := by rw [Lib.cell_of_heap h5r]; rfl
      have r1 : w5.cell? ⟨wr.heap.size, 1, none⟩ = some (.string ⟨rn.toArray⟩) := by rw [Lib.cell_of_heap h5r]; rfl
      have r2 : w5.cell? ⟨wr.heap.size, 2, none⟩ = some (.iface tv yv2) := by rw [Lib.cell_of_heap h5r]; rfl
      have hz5 : w5.heap.size = w4.heap.size := by rw [hw5]; simp [World.setCell]
      have HID := hide (isIdle_any (fun _ => True) kd rn x.tidy (.iface tv yv2) w5 HC5.out.1)
      have HW5 := hide hw5
      have H5R := hide h5r
      clear hex4 hb4 h4r h5r hbr5 hps HTI
      rw [HW5.out] at r0 r1 r2 HID
      go_wp2_with fail
      refine HID.out.mono ?_
      rintro e w6 ⟨rfl, hb6⟩
      rw [← HW5.out] at hb6
      have HP6 := hide (HP5.out.below hb6)
      have HC6 := hide (HC5.out.below hb6)
      have h6r := (hb6.block wr.heap.size (by omega)).trans H5R.out
      have u0 : w6.cell? ⟨wr.heap.size, 0, none⟩ = some (.int .i64 kd) := by rw [Lib.cell_of_heap h6r]; rfl
      have u1 : w6.cell? ⟨wr.heap.size, 1, none⟩ = some (.string ⟨rn.toArray⟩) := by rw [Lib.cell_of_heap h6r]; rfl
      have u2 : w6.cell? ⟨wr.heap.size, 2, none⟩ = some (.iface tv yv2) := by rw [Lib.cell_of_heap h6r]; rfl
      have hz6 := hb6.size
      have HIX : Hid (idle (tidyR ⟨kd, rn, some x⟩) = (idleK kd && x.tidy.kind == 0)) := rfl
      generalize (idleK kd && x.tidy.kind == 0) = ib at *
      clear r0 r1 r2 h6r hb6 HID hw5
      cases ib with
      | true =>
        have HNX : Hid ((rs.map fun r => r.1) = ((p.rungs.take (j + 1)).map tidyR).filter fun r => !idle r) := by
          show _ = _
          rw [HTF.out, HRS.out, HIX.out]
          rfl
        go_wp2_with fail
        go_roundw
        case rel => exact ⟨j + 1, by omega, by go_num, _, rs, HP6.out, HNX.out⟩
        case measure => simp [intOf]; omega
      | false =>
        have HNX : Hid (((rs ++ [((⟨kd, rn, some x.tidy⟩ : Ld.Rng), Value.iface tv yv2)]).map fun r => r.1) = ((p.rungs.take (j + 1)).map tidyR).filter fun r => !idle r) := by
          show _ = _
          rw [HTF.out, List.map_append, HRS.out, HIX.out]
          rfl
        obtain ⟨ln, hln⟩ : ∃ ln, ln = rs.length := ⟨_, rfl⟩
        rw [← hln] at HP6 hlr
        have HLL := hide hln
        have HFIN : Hid (∀ (o : Obj) (g cap : Nat) (wC : World), wC.ownsRow (b + 1) 66 3 (.slice (some ⟨g, 0, none⟩) (ln + 1) cap) (ln + 1) (rs.flatMap rgCells ++ rgCells (⟨kd, rn, some x.tidy⟩, .iface tv yv2)) → (w6.alloc o).grownBy wC (Value.slice ya ln yc).ownBlock →
            (wC.cell? ⟨b, 1, none⟩ = some (.slice ya ln yc) ∧ wC.frozen? ⟨b, 1, none⟩ = false) ∧ PR wS b p.names (rs ++ [(⟨kd, rn, some x.tidy⟩, .iface tv yv2)]) (.slice ca n cc) (.slice (some ⟨g, 0, none⟩) (ln + 1) cap) (wC.setCell ⟨b, 1, none⟩ (.slice (some ⟨g, 0, none⟩) (ln + 1) cap))) := by
          intro o g cap wC h1 h2
          rw [HLL.out] at h1 h2 ⊢
          have h3 := HP6.out.below (W' := w6.alloc o) ((Below.refl _ _).alloc (Nat.le_refl _) _)
          rw [HLL.out] at h3
          exact h3.put (⟨kd, rn, some x.tidy⟩, .iface tv yv2) ⟨HBD.out.1, HBD.out.2, HC6.out.below ((Below.refl _ _).alloc (Nat.le_refl _) _)⟩ g cap h1 h2
        have HOWN : Hid (∀ o, (w6.alloc o).ownsRow (b + 1) 66 3 (.slice ya ln yc) ln (rs.flatMap rgCells)) := fun o => by
          have h3 := HP6.out.org.alloc o
          rwa [← HLL.out] at h3
        have HONE : Hid (∀ u ∈ rgCells (⟨kd, rn, some x.tidy⟩, .iface tv yv2), u.oneCell' = true) := by
          intro u hu
          simp only [rgCells, List.mem_cons, List.not_mem_nil, or_false] at hu
          rcases hu with rfl | rfl | rfl <;> rfl
        have d0 : w6.cell? ⟨b, 1, none⟩ = some (.slice ya ln yc) := by rw [Lib.cell_of_heap HP6.out.blk]; rfl
        have hb6s : b < w6.heap.size := HP6.out.lt
        clear hln HPR2
        go_wp2_with (at_builtin; refine wpList_append_lies _ rfl (.tmp 33) (.tmp 35) 24 rfl (b + 1) 66 iR _ 3 40 Tryz.underlying24 hiR hzR0 hzR1 hzR2 rfl (by decide) (.slice ya ln yc) ln (rs.flatMap rgCells) rfl (HOWN.out _) ⟨w6.heap.size, 0, none⟩ 1 1 (rgCells (⟨kd, rn, some x.tidy⟩, .iface tv yv2)) rfl rfl (World.news_of_block (heap_alloc_new w6 _)) HONE.out (by decide) (by unfold maxLen; omega) (by omega) (by simp; omega) (w6.heap.size + 1) (by simp) ?_; intro g5 cap5 wC hown hgrow hat hltg; obtain ⟨⟨hcA, hfA⟩, hTA⟩ := HFIN.out _ g5 cap5 wC hown hgrow; have HTA := hide hTA; clear hTA hown hgrow hat)
        go_roundw
        case rel => exact ⟨j + 1, by omega, by go_num, _, _, HTA.out, HNX.out⟩
        case measure => simp [intOf]; omega
    · have hjq : q = j := by omega
      subst hjq
      have e0 : wr.cell? ⟨b, 0, none⟩ = some (.slice ca n cc) := by rw [Lib.cell_of_heap HPR2.out.blk]; rfl
      have e1 : wr.cell? ⟨b, 1, none⟩ = some (.slice ya rs.length yc) := by rw [Lib.cell_of_heap HPR2.out.blk]; rfl
      have f0 : wr.frozen? ⟨w.heap.size + 1, 0, none⟩ = false := Lib.frozen_of_heap hb1 0
      have f1 : wr.frozen? ⟨w.heap.size + 1, 1, none⟩ = false := Lib.frozen_of_heap hb1 1
      have g0 : wr.cell? ⟨w.heap.size + 1, 0, none⟩ = some (.slice none 0 0) := by rw [Lib.cell_of_heap hb1]; rfl
      have g1 : wr.cell? ⟨w.heap.size + 1, 1, none⟩ = some (.slice none 0 0) := by rw [Lib.cell_of_heap hb1]; rfl
      obtain ⟨wF, hwF⟩ : ∃ wF, wF = (wr.setCell ⟨w.heap.size + 1, 0, none⟩ (.slice ca n cc)).setCell ⟨w.heap.size + 1, 1, none⟩ (.slice ya rs.length yc) := ⟨_, rfl⟩
      have hst : PStay wr wF := fun g i u hp hc => by
        have hne : g ≠ w.heap.size + 1 := by
          intro e
          rcases hp with ⟨s, h1⟩ | ⟨t, y, h1⟩
          · rw [e, g0] at h1; cases h1
          · rw [e, g0] at h1; cases h1
        rw [hwF, World.cell?_of_block (Below.heap_setCell _ _ _ _ (fun e => hne e)), World.cell?_of_block (Below.heap_setCell _ _ _ _ (fun e => hne e))]
        exact hc
      have hlo : Below w.heap.size w wF := by rw [hwF]; exact (hlow.setCell (by simp) _).setCell (by simp) _
      have hF : wF.heap[w.heap.size + 1]? = some (.cells #[.slice ca n cc, .slice ya rs.length yc] 26 (0, 0)) := by rw [hwF]; simp [World.setCell, Array.getElem?_modify, hb1]
      have k0 : wF.cell? ⟨w.heap.size + 1, 0, none⟩ = some (.slice ca n cc) := by rw [Lib.cell_of_heap hF]; rfl
      have k1 : wF.cell? ⟨w.heap.size + 1, 1, none⟩ = some (.slice ya rs.length yc) := by rw [Lib.cell_of_heap hF]; rfl
      have hgw : wr.grownBy wF (some (w.heap.size + 1)) := by
        rw [hwF]
        exact ⟨rfl, rfl, rfl, by simp [World.setCell], fun k _ hk => (Below.heap_setCell _ _ _ _ (fun e => hk (by simp [e]))).trans (Below.heap_setCell _ _ _ _ (fun e => hk (by simp [e])))⟩
      have HFN : Hid (IsPrg wF (tidy p) (.agg #[.slice ca n cc, .slice ya rs.length yc])) := by
        have h2 : PR wF b p.names rs (.slice ca n cc) (.slice ya rs.length yc) wF := by
          refine ⟨Below.refl _ _, (hgw.block b hzr (fun e => by simp at e; omega)).trans HPR2.out.blk, names_stay hst HPR2.out.nat, HPR2.out.org.kept hgw ?_, fun r hr => ⟨(HPR2.out.br r hr).1, (HPR2.out.br r hr).2.1, cond_stay hst (HPR2.out.br r hr).2.2⟩, HPR2.out.e0⟩
          cases ho : (Value.slice ya rs.length yc).ownBlock with
          | none => exact .inl rfl
          | some g => right; intro e; have := (HPR2.out.org.lt g ho).1; simp at e; omega
        have h3 := h2.prg (by omega)
        rw [HRS.out, HQ.out, List.take_length] at h3
        exact h3
      have HLO := hide hlo
      clear hb1 hst hlo hgw hF hb0 hlow
      go_wp2_with fail
      rw [← hwF]
      refine bodyPost_ret_by (v := .tuple #[.agg #[.slice ca n cc, .slice ya rs.length yc], .nilIface]) ?_ rfl ?_
      · simp [results, Tryz.results15, go_sem, k0, k1]
      · exact ⟨_, rfl, HFN.out, HLO.out⟩
end Sl
end
section
open Go.RowKit
namespace Sl
set_option maxHeartbeats 8000000 in
set_option maxRecDepth 100000 in
theorem sliceTidies_of (hbo : ∀ (s : ByteArray) (w : World), s.size ≤ maxLen → Laid w → PLaid w → Calls Tryz.prog 5 #[.string s] w (Both s w)) (s : ByteArray) (w : World) (hs : s.size ≤ maxLen) (hL : Laid w) (hP : PLaid w) :
    Calls Tryz.prog 4 #[.string s] w fun e w' => e = .returned (.bool true) ∧ Below w.heap.size w w' := by
  have HBO := hide (hbo s w hs hL hP)
  have HL := hide hL
  have HP := hide hP
  clear hL hP
  go_enter Tryz.func4, Tryz.ntmps4
  go_wp2_with fail
  refine HBO.out.mono ?_
  rintro e w1 ⟨hb1, he⟩
  clear HBO
  rcases he with rfl | ⟨p, v, u, rfl, hpp, hv, hu, hck⟩
  · have HB1 := hide (((hb1.alloc hb1.size (.cells #[.slice none 0 0, .slice none 0 0] 26))).alloc (by have := hb1.size; simp; omega) (.cells #[.slice none 0 0, .slice none 0 0] 30))
    clear hb1
    go_wp2_with fail
    go_ret
    exact ⟨rfl, HB1.out⟩
  · have hpar := Ld.parse_par _ p hpp
    have HPAR := hide hpar
    have HCT := hide (check_tidy p (par_wf hpar) hck)
    have HCK := hide hck
    have HV := hide hv
    have HU := hide hu
    have HB1 := hide hb1
    obtain ⟨nv, rv, rfl, hn, hr⟩ := hv
    obtain ⟨na, nc, rfl, _⟩ := hn.slice
    obtain ⟨ra, rc, rfl, _⟩ := hr.slice
    obtain ⟨nu, ru, rfl, hnu, hru⟩ := hu
    obtain ⟨ua, uc, rfl, _⟩ := hnu.slice
    obtain ⟨ta, tc, rfl, _⟩ := hru.slice
    obtain ⟨n, hnn⟩ : ∃ n, n = p.names.length := ⟨_, rfl⟩
    obtain ⟨m, hmm⟩ : ∃ m, m = p.rungs.length := ⟨_, rfl⟩
    rw [← hnn] at HV HU ⊢
    rw [← hmm] at HV HU ⊢
    clear hn hr hnu hru hnn hmm hck hpar hpp
    obtain ⟨wA, hwA⟩ : ∃ wA, wA = (w1.alloc (.cells #[.slice na n nc, .slice ra m rc] 26)).alloc (.cells #[.slice ua n uc, .slice ta m tc] 30) := ⟨_, rfl⟩
    have hbA : Below w1.heap.size w1 wA := by rw [hwA]; exact ((Below.refl _ _).alloc (Nat.le_refl _) _).alloc (by simp) _
    have hsA : wA.heap.size = w1.heap.size + 1 + 1 := by rw [hwA]; simp
    have hA1 : wA.heap[w1.heap.size + 1]? = some (.cells #[.slice ua n uc, .slice ta m tc] 30 (0, 0)) := by
      rw [hwA]
      have := heap_alloc_new (w1.alloc (.cells #[.slice na n nc, .slice ra m rc] 26)) (.cells #[.slice ua n uc, .slice ta m tc] 30)
      rw [World.size_alloc] at this
      exact this
    have hbwA : Below w.heap.size w wA := hb1.trans (hbA.mono hb1.size)
    have HTI := hide (STidy_any p _ wA (HV.out.below hbA) HCK.out HPAR.out (show Pow wA from (HL.out.below hbwA).pows))
    rw [hwA] at HTI
    have HWA := hide hwA
    have HBA := hide hbA
    have HBWA := hide hbwA
    have HA1 := hide hA1
    clear hwA hbA hA1 hbwA hb1
    go_wp2_with fail
    refine HTI.out.mono ?_
    rintro e w2 ⟨pv, rfl, hpq, hb2⟩
    rw [← HWA.out] at hb2
    have HPQ := hide hpq
    obtain ⟨nv2, rv2, rfl, hn2, hr2⟩ := hpq
    obtain ⟨na2, nc2, rfl, _⟩ := hn2.slice
    obtain ⟨ra2, rc2, rfl, _⟩ := hr2.slice
    obtain ⟨n2, hn2l⟩ : ∃ n2, n2 = (tidy p).names.length := ⟨_, rfl⟩
    obtain ⟨m2, hm2l⟩ : ∃ m2, m2 = (tidy p).rungs.length := ⟨_, rfl⟩
    rw [← hn2l] at HPQ ⊢
    rw [← hm2l] at HPQ ⊢
    have hz2 := hb2.size
    obtain ⟨wD, hwD⟩ : ∃ wD, wD = w2.alloc (.cells #[.slice na2 n2 nc2, .slice ra2 m2 rc2] 26) := ⟨_, rfl⟩
    have hbD : Below w2.heap.size w2 wD := by rw [hwD]; exact (Below.refl _ _).alloc (Nat.le_refl _) _
    have hsD : wD.heap.size = w2.heap.size + 1 := by rw [hwD]; simp
    have hD : wD.heap[w2.heap.size]? = some (.cells #[.slice na2 n2 nc2, .slice ra2 m2 rc2] 26 (0, 0)) := by rw [hwD]; exact heap_alloc_new _ _
    have HBX : Hid (∀ (W : World), Below wD.heap.size wD W → (W.cell? ⟨w2.heap.size, 0, none⟩ = some (.slice na2 n2 nc2) ∧ W.cell? ⟨w2.heap.size, 1, none⟩ = some (.slice ra2 m2 rc2) ∧ W.cell? ⟨w1.heap.size + 1, 0, none⟩ = some (.slice ua n uc) ∧ W.cell? ⟨w1.heap.size + 1, 1, none⟩ = some (.slice ta m tc)) ∧ Below w2.heap.size w2 W ∧ Below w1.heap.size w1 W ∧ Below w.heap.size w W) := by
      intro W hW
      have h1 : Below w2.heap.size w2 W := hbD.trans (hW.mono hbD.size)
      have h2 : Below wA.heap.size wA W := hb2.trans (h1.mono hb2.size)
      have e0 := (h2.block (w1.heap.size + 1) (by omega)).trans HA1.out
      have e1 := (hW.block w2.heap.size (by omega)).trans hD
      exact ⟨⟨by rw [Lib.cell_of_heap e1]; rfl, by rw [Lib.cell_of_heap e1]; rfl, by rw [Lib.cell_of_heap e0]; rfl, by rw [Lib.cell_of_heap e0]; rfl⟩, h1, HBA.out.trans (h2.mono HBA.out.size), HBWA.out.trans (h2.mono HBWA.out.size)⟩
    have HKEEP : Hid (∀ W, Below wD.heap.size wD W → W.cell? ⟨w2.heap.size, 0, none⟩ = some (.slice na2 n2 nc2) ∧ W.cell? ⟨w2.heap.size, 1, none⟩ = some (.slice ra2 m2 rc2) ∧ W.cell? ⟨w1.heap.size + 1, 0, none⟩ = some (.slice ua n uc) ∧ W.cell? ⟨w1.heap.size + 1, 1, none⟩ = some (.slice ta m tc)) := fun W hW => (HBX.out W hW).1
    have HTX := hide (fun W (hW : Below wD.heap.size wD W) => LText_any (tidy p) (.agg #[.slice na2 n2 nc2, .slice ra2 m2 rc2]) W (HPQ.out.below (HBX.out W hW).2.1) (HL.out.below (HBX.out W hW).2.2.2).words (HL.out.below (HBX.out W hW).2.2.2).pows (HL.out.below (HBX.out W hW).2.2.2).low)
    have HRT := hide (fun W (hW : Below wD.heap.size wD W) => RTidy_any p (.agg #[.slice ua n uc, .slice ta m tc]) W (HU.out.below (HBX.out W hW).2.2.1) HCK.out HPAR.out)
    have HRX := hide (fun W (hW : Below wD.heap.size wD W) x (hx : IsRPrg W (tidy p) x) => rptext_any (tidy p) x W hx (HP.out.below (HBX.out W hW).2.2.2).wd.words (HP.out.below (HBX.out W hW).2.2.2).pows (Nat.lt_of_lt_of_le (by decide : 9 < 14) (HP.out.below (HBX.out W hW).2.2.2).low) HCT.out)
    generalize Ld.text (tidy p) = tx at *
    have HDR : Hid (Below wD.heap.size wD wD.drew) := ⟨rfl, rfl, rfl, Nat.le_refl _, fun _ _ => rfl⟩
    have hw1D : w1.heap.size + 1 < wD.heap.size := by omega
    have hw2D : w2.heap.size < wD.heap.size := by omega
    have HWD := hide hwD
    have hby := bytes_list tx
    clear hn2 hr2 hb2 HTI hwD hbD hD hn2l hm2l
    go_upto_region 5 with fail
    rw [← HWD.out]
    go_region_held3 (fun W => W.cell? ⟨w2.heap.size, 0, none⟩ = some (.slice na2 n2 nc2) ∧ W.cell? ⟨w2.heap.size, 1, none⟩ = some (.slice ra2 m2 rc2) ∧ W.cell? ⟨w1.heap.size + 1, 0, none⟩ = some (.slice ua n uc) ∧ W.cell? ⟨w1.heap.size + 1, 1, none⟩ = some (.slice ta m tc)) ((refine HKEEP.out _ ?_; first | exact HBT.out | exact HDR.out | exact Below.refl _ _)) ((first
      | (go_at_call 12; first
        | ((with_reducible refine (HTX.out _ HBT.out).mono ?_); rintro e wT ⟨rfl, hbT⟩; replace HPV := hide (HPV.out.below hbT); replace HBT : Hid (Below wD.heap.size wD wT) := HBT.out.trans (hbT.mono HBT.out.size); clear hbT)
        | ((with_reducible refine (HTX.out _ HBT.out).mono ?_); rintro e wT ⟨rfl, hbT⟩; replace HBT : Hid (Below wD.heap.size wD wT) := HBT.out.trans (hbT.mono HBT.out.size); clear hbT)
        | ((with_reducible refine (HTX.out _ HDR.out).mono ?_); rintro e wT ⟨rfl, hbT⟩; have HBT : Hid (Below wD.heap.size wD wT) := HDR.out.trans (hbT.mono HDR.out.size); clear hbT))
      | (go_at_call 16; first
        | ((with_reducible refine (HRT.out _ HBT.out).mono ?_); rintro e wT ⟨qv, rfl, hqv, hbT⟩; obtain ⟨qa, qb, hqe⟩ : ∃ a b, qv = .agg #[a, b] := ⟨_, _, hqv.choose_spec.choose_spec.1⟩; subst hqe; have HPV := hide hqv; replace HBT : Hid (Below wD.heap.size wD wT) := HBT.out.trans (hbT.mono HBT.out.size); clear hbT hqv)
        | ((with_reducible refine (HRT.out _ HDR.out).mono ?_); rintro e wT ⟨qv, rfl, hqv, hbT⟩; obtain ⟨qa, qb, hqe⟩ : ∃ a b, qv = .agg #[a, b] := ⟨_, _, hqv.choose_spec.choose_spec.1⟩; subst hqe; have HPV := hide hqv; have HBT : Hid (Below wD.heap.size wD wT) := HDR.out.trans (hbT.mono HDR.out.size); clear hbT hqv))
      | (go_at_call 13; (with_reducible refine (HRX.out _ HBT.out _ HPV.out).mono ?_); rintro e wT ⟨rfl, hbT⟩; replace HBT : Hid (Below wD.heap.size wD wT) := HBT.out.trans (hbT.mono HBT.out.size); clear hbT)))
    all_goals
      have HF := hide (HBX.out _ HBT.out).2.2.2
      go_wp2_with fail
      go_ret
      exact ⟨ret_bool (by first | rfl | simp), HF.out⟩
end Sl
end
end Go.Proofs.YtdlcelbbelcfkaaGreatDoor
