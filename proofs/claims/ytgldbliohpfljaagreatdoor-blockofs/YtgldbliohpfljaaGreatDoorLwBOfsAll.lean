/-
  The walk of BlockOfs where a name is missing. The walk of the law's own sameInts, at two like lists. The walk of the statements' own sameLists, at what is the same. The walk of BlockOfs where all names are known. The walk of BlockOfs: what a machine's table tells of names is the document's.
-/
import Derived.Test.YtgldbliohpfljaaGreatDoorRgBaseAll
import Derived.Test.YtgldbliohpfljaaGreatDoorBoOf
import Derived.Deep.RegionHeld3
import Derived.Test.YtgldbliohpfljaaGreatDoorRlEdgesAll
namespace Go.Proofs.YtgldbliohpfljaaGreatDoor
section
open Go.RowKit
namespace Bo
theorem errEq7 (w : World) : (binOp BinOp.eql 40 (.int .i64 7) (.int .i64 0)).run Tryz.prog w = .ok (.bool false) w := by kernel_rfl
theorem errNe7 (w : World) : (binOp BinOp.neq 40 (.int .i64 7) (.int .i64 0)).run Tryz.prog w = .ok (.bool true) w := by kernel_rfl
theorem errEq0 (w : World) : (binOp BinOp.eql 40 (.int .i64 0) (.int .i64 0)).run Tryz.prog w = .ok (.bool true) w := by kernel_rfl
set_option maxHeartbeats 16000000 in
set_option maxRecDepth 100000 in
theorem blockOfs_bad (hbo : ∀ (s : ByteArray) (w : World), s.size ≤ maxLen → Laid w → PLaid w → Calls Tryz.prog 28 #[.string s] w (Sl.Both s w)) (s : ByteArray) (names : List (List UInt8)) (sv : Value) (w : World) (hs : s.size ≤ maxLen) (hsv : Strs w sv (names.map toBA)) (hL : Laid w) (hP : PLaid w) (hu : names.length ≤ 12)
    (hbad : ∀ p, Ld.parse s.data.toList = .inr p → Ld.check p = none → (nums p.names names).contains (-1) = true) :
    Calls Tryz.prog 6 #[.string s, sv] w fun e w' => e = .returned (.bool true) ∧ Below w.heap.size w w' := by
  obtain ⟨i0, hi0, hz0, hz1, hz2⟩ := info_parts Tryz.infoInt
  have HMS := hide (Rf.machines_of hbo s 40 w hs hL hP)
  have HL := hide hL
  have HSV := hide hsv
  have HBAD := hide hbad
  obtain ⟨sa, sc, rfl, _, _⟩ := strs_cells hsv
  have HU2 := hide hu
  obtain ⟨u, huu⟩ : ∃ u, u = names.length := ⟨_, rfl⟩
  have HU := hide huu
  rw [← huu] at hu HSV ⊢
  clear hL hP hsv huu hbad
  have pn := fun w a => ptrNe w a
  have e7 := fun w => errEq7 w
  have n7 := fun w => errNe7 w
  have e0 := fun w => errEq0 w
  have hu12 : ¬ (12 : Int) < (u : Int) := by omega
  have hu30 : ¬ (30 : Int) < (u : Int) := by omega
  go_enter Tryz.func6, Tryz.ntmps6
  go_wp2_with fail
  refine HMS.out.mono ?_
  rintro e w1 ⟨hb1, he⟩
  have HB1 := hide hb1
  clear HMS hb1
  rcases he with rfl | ⟨p, bm, bx, rfl, hpp, hmach, hrm, hck, _, hq4, hS40⟩
  · go_wp2_with fail
    go_ret
    exact ⟨rfl, HB1.out⟩
  have HCON := hide (HBAD.out p hpp hck)
  have HOM := hide (Of_any bm p names _ w1 hmach hck hq4 hS40 (HSV.out.below HB1.out) HU2.out)
  have HRM := hide hrm
  clear hpp hmach hrm hck hq4 hS40
  go_wp2_with fail
  refine HOM.out.mono ?_
  rintro e w2 ⟨hb2, ⟨_, rfl⟩ | ⟨hc, _⟩⟩
  case inr => rw [HCON.out] at hc; cases hc
  obtain ⟨wA, hwA⟩ : ∃ wA, wA = w2.alloc (.cells #[.slice none 0 0, .slice none 0 0] 67) := ⟨_, rfl⟩
  have hA : wA.heap[w2.heap.size]? = some (.cells #[.slice none 0 0, .slice none 0 0] 67 (0, 0)) := by rw [hwA]; exact heap_alloc_new _ _
  have hltA := (Array.getElem?_eq_some_iff.1 hA).1
  have hbA : Below w1.heap.size w1 wA := by rw [hwA]; exact hb2.alloc hb2.size _
  have HA := hide (fun W (hW : Below wA.heap.size wA W) => (hW.block _ hltA).trans hA)
  have HBA := hide (HB1.out.trans (hbA.mono HB1.out.size))
  have HB1A := hide hbA
  have HON := hide (Of_nil (.slice sa u sc) wA)
  rw [hwA] at HON
  have HWA := hide hwA
  clear hb2 hwA hA hbA HOM
  go_wp2_with fail
  refine HON.out.mono ?_
  rintro e w3 ⟨rfl, hb3⟩
  rw [← HWA.out] at hb3
  have HB3 : Hid (Below wA.heap.size wA (w3.alloc (.cells #[.slice none 0 0, .slice none 0 0] 67))) := hb3.alloc hb3.size _
  have HBA1 := hide (Sl.lbare_any 7 (w3.alloc (.cells #[.slice none 0 0, .slice none 0 0] 67)) (HL.out.below (HBA.out.trans (HB3.out.mono HBA.out.size))).door)
  clear hb3 HON
  go_wp2_with fail
  refine HBA1.out.mono ?_
  rintro e w4 ⟨rfl, hb4⟩
  have HB4 : Hid (Below wA.heap.size wA w4) := HB3.out.trans (hb4.mono HB3.out.size)
  have HB4w := hide (HBA.out.trans (HB4.out.mono HBA.out.size))
  clear hb4 HBA1
  go_wp2_with fail
  obtain ⟨nv3, rv3, nx3, us3, qb3, k1, k2, _⟩ := HRM.out
  obtain ⟨nv', rv', hee, hn3, hr3⟩ := k2
  simp only [Value.agg.injEq, List.toArray_eq_iff, List.cons.injEq, and_true] at hee
  obtain ⟨rfl, rfl⟩ := hee
  have HK1 := hide k1
  have HN3 := hide hn3
  obtain ⟨ua, uc, rfl, _⟩ := hn3.slice
  obtain ⟨ta, tc, rfl, _⟩ := hr3.slice
  have HB14 : Hid (Below w1.heap.size w1 w4) := HB1A.out.trans (HB4.out.mono HB1A.out.size)
  clear k1 hn3 hr3
  go_loopw [14, 12, 13] (fun i e nv wr => ∃ k : Nat, k ≤ u ∧ ∃ xs : List Int, xs.length = k ∧ i = .int .i64 (k : Int) ∧ (∃ a c, nv = .slice a k c) ∧ ((e = .int .i64 0 ∧ Hid (∀ j, j < k → ∀ x, names[j]? = some x → 0 ≤ Ld.number p.names x)) ∨ e = .int .i64 7) ∧ Hid (wr.ownsRow w4.heap.size 3 1 nv k (xs.map iV)) ∧ Hid (Below w4.heap.size w4 wr)) (fun i _ _ _ => u - (intOf i).toNat)
  case atStart => exact ⟨0, Nat.zero_le _, [], rfl, rfl, ⟨_, _, rfl⟩, .inl ⟨rfl, fun j hj => absurd hj (by omega)⟩, World.ownsRow_nil _ _ _ _, Below.refl _ _⟩
  case round =>
    obtain ⟨k, hk, xs, hxl, rfl, ⟨na, nc, rfl⟩, he, HO, HB⟩ := hrel
    rcases he with ⟨rfl, HKN⟩ | rfl
    · by_cases hlt : k < u
      · have hki : (k : Int) < (u : Int) := by omega
        have hkl : k < names.length := by rw [← HU.out]; exact hlt
        have HB1r : Hid (Below w1.heap.size w1 wr) := HB14.out.trans (HB.out.mono HB14.out.size)
        obtain ⟨gs, o, hsa, hsc, hcr⟩ : ∃ gs o, sa = some ⟨gs, o, none⟩ ∧ u ≤ sc ∧ wr.cell? ⟨gs, o + k, none⟩ = some (.string ⟨names[k].toArray⟩) := by
          obtain ⟨sa', sc', h1, h2, h3⟩ := strs_cells (HSV.out.below (HB1.out.trans (HB1r.out.mono HB1.out.size)))
          simp only [Value.slice.injEq] at h1
          obtain ⟨gs, o, h4, h5, h6⟩ := h3 k hkl
          exact ⟨gs, o, h1.1.trans h4, by rw [h1.2.2, h1.2.1]; exact h5, h6⟩
        subst hsa
        obtain ⟨⟨b0, b1⟩, _⟩ := (HK1.out.below HB1r.out).cells
        have HKEEP : Hid (∀ W, Below wr.heap.size wr W → W.cell? ⟨bx, 0, none⟩ = some (.slice ua p.names.length uc) ∧ W.cell? ⟨bx, 1, none⟩ = some (.slice ta p.rungs.length tc) ∧ W.cell? ⟨gs, o + k, none⟩ = some (.string ⟨names[k].toArray⟩)) := fun W hW =>
          have key : ∀ (p : Addr) v, wr.cell? p = some v → W.cell? p = some v := fun _ _ hv => (hW.cell (World.block_lt_of_cell? _ _ hv)).trans hv
          ⟨key _ _ b0, key _ _ b1, key _ _ hcr⟩
        have HDR : Hid (Below wr.heap.size wr wr.drew) := ⟨rfl, rfl, rfl, Nat.le_refl _, fun _ _ => rfl⟩
        have HRN := hide (rNumber_any p.names (.slice ua p.names.length uc) (.slice ta p.rungs.length tc) names[k] wr.drew (HN3.out.below (HB1r.out.trans (HDR.out.mono HB1r.out.size))) ⟨_, _, _, rfl⟩)
        have HGK : Hid (names[k]? = some names[k]) := List.getElem?_eq_getElem hkl
        generalize hx : names[k] = x at *
        clear hx
        go_upto_region 15 with fail
        go_region_held3 (fun W => W.cell? ⟨bx, 0, none⟩ = some (.slice ua p.names.length uc) ∧ W.cell? ⟨bx, 1, none⟩ = some (.slice ta p.rungs.length tc) ∧ W.cell? ⟨gs, o + k, none⟩ = some (.string ⟨x.toArray⟩)) ((refine HKEEP.out _ ?_; first | exact HB3.out | exact HDR.out | exact Below.refl _ _)) ((go_at_call 23; (with_reducible refine HRN.out.mono ?_); rintro e w5 ⟨rfl, hb5⟩; have HB5 : Hid (Below wr.heap.size wr w5) := HDR.out.trans hb5; have HB3 := hide HB5.out; clear hb5))
        have HKN2 : Hid (0 ≤ Ld.number p.names x → ∀ j, j < k + 1 → ∀ y, names[j]? = some y → 0 ≤ Ld.number p.names y) := fun h0 j hj y hy => by
          by_cases e : j < k
          · exact HKN.out j e y hy
          · obtain rfl : j = k := by omega
            rw [HGK.out] at hy
            rw [← Option.some.inj hy]
            exact h0
        generalize Ld.number p.names x = z at *
        have HONE : Hid (∀ u ∈ [Value.int .i64 z], u.oneCell' = true) := by
          intro u hu
          simp only [List.mem_cons, List.not_mem_nil, or_false] at hu
          subst hu; rfl
        have HOE := hide (own_below HO.out HB5.out)
        have hzw : w4.heap.size ≤ w5.heap.size := by have := HB.out.size; have := HB5.out.size; omega
        clear b0 b1 hcr
        by_cases hneg : z < 0
        all_goals
          go_wp2_with (at_builtin; refine wpList_append_lies _ rfl (.tmp 70) (.tmp 72) 36 rfl w4.heap.size 3 i0 _ 1 8 Tryz.underlying36 hi0 hz0 hz1 hz2 rfl (by decide) (.slice na k nc) k (xs.map iV) rfl (HOE.out.alloc _) ⟨w5.heap.size, 0, none⟩ 1 1 [.int .i64 z] rfl rfl (World.news_of_block (heap_alloc_new w5 _)) HONE.out (by decide) (by unfold maxLen; omega) (by omega) (by simp; omega) (w5.heap.size + 1) (by simp) ?_; intro g2 cap2 wF hown hgrow hat hltg; have HBF := hide (((HB.out.trans (HB5.out.mono HB.out.size)).alloc (by omega) _).grown hgrow (by simp; omega) (fun b e => (HOE.out.lt b e).1)); have HOF := hide hown; clear hown hgrow hat)
          go_roundw
          case rel => first
            | exact ⟨k + 1, by omega, xs ++ [z], by simp [hxl], by go_num, ⟨_, _, rfl⟩, .inr rfl, by rw [List.map_append]; exact HOF.out, HBF.out⟩
            | exact ⟨k + 1, by omega, xs ++ [z], by simp [hxl], by go_num, ⟨_, _, rfl⟩, .inl ⟨rfl, HKN2.out (by omega)⟩, by rw [List.map_append]; exact HOF.out, HBF.out⟩
          case measure => simp [intOf]; omega
      · exfalso
        have h := HCON.out
        rw [List.contains_iff_mem] at h
        obtain ⟨x, hx, hxe⟩ := List.mem_map.1 h
        obtain ⟨j, hj⟩ := List.getElem?_of_mem hx
        have hjl := (List.getElem?_eq_some_iff.1 hj).1
        have := HKN.out j (by have := HU.out; omega) x hj
        omega
    · have HB4k : Hid (Below wA.heap.size wA wr) := HB4.out.trans (HB.out.mono HB4.out.size)
      have HBk := hide (HBA.out.trans (HB4k.out.mono HBA.out.size))
      have HBA2 := hide (Sl.lbare_any 7 wr (HL.out.below HBk.out).door)
      by_cases hlt : (k : Int) < (u : Int)
      all_goals
        go_wp2_with fail
        refine HBA2.out.mono ?_
        rintro e w5 ⟨rfl, hb5⟩
        have HB5 : Hid (Below wA.heap.size wA w5) := HB4k.out.trans (hb5.mono HB4k.out.size)
        have HF := hide (HBA.out.trans (HB5.out.mono HBA.out.size))
        obtain ⟨y0, y1, _, _⟩ := two_cells (HA.out w5 HB5.out)
        clear hb5 HBA2
        go_wp2_with fail
        go_ret
        exact ⟨rfl, HF.out⟩
end Bo
end
section
open Go.RowKit
set_option maxHeartbeats 2000000 in
set_option maxRecDepth 100000 in
theorem lsameI_any (l : List Int) (u v : Value) (w : World) (hu : Ints w u l) (hv : Ints w v l) (hl : l.length ≤ 1000000) :
    Calls Tryz.prog 17 #[u, v] w fun e w' => e = .returned (.bool true) ∧ Below w.heap.size w w' := by
  have HU := hide hu
  have HV := hide hv
  obtain ⟨n, hn⟩ : ∃ n, n = l.length := ⟨_, rfl⟩
  have HN := hide hn
  obtain ⟨ua, uc, rfl⟩ := hu.slice
  obtain ⟨va, vc, rfl⟩ := hv.slice
  rw [← hn] at HU HV hl ⊢
  clear hu hv hn
  go_enter Tryz.func17, Tryz.ntmps17
  go_wp2_with fail
  go_loopw [5] (fun i wr => ∃ k : Nat, k ≤ n ∧ i = .int .i64 (k : Int) ∧ Hid (Below w.heap.size w wr)) (fun i _ => n - (intOf i).toNat)
  case atStart => exact ⟨0, Nat.zero_le _, rfl, Below.refl _ _⟩
  case round =>
    obtain ⟨k, hk, rfl, HB⟩ := hrel
    by_cases hlt : k < n
    · have hkl : k < l.length := by rw [← HN.out]; exact hlt
      have hx := List.getElem?_eq_getElem hkl
      obtain ⟨g1, o1, e1, d1⟩ := (HU.out.below HB.out).cell k _ hx
      obtain ⟨g2, o2, e2, d2⟩ := (HV.out.below HB.out).cell k _ hx
      subst e1
      subst e2
      generalize l[k] = x at *
      clear hx
      go_wp2_with fail
      go_quiet (fail)
      go_wp2_with fail
      go_roundw
      case rel => exact ⟨k + 1, by omega, by go_num, HB.out.trans ⟨rfl, rfl, rfl, Nat.le_refl _, fun _ _ => rfl⟩⟩
      case measure => simp [intOf]; omega
    · have hkn : k = n := by omega
      subst hkn
      go_wp2_with fail
      go_ret
      exact ⟨rfl, HB.out⟩
end
section
namespace Rf
open Go.RowKit
set_option maxHeartbeats 4000000 in
set_option maxRecDepth 100000 in
theorem lsameL_any (L : List (List Int)) (u v : Value) (w : World) (hu : RowsI w u L) (hv : RowsI w v L) (hl : L.length ≤ 1000000) (hr : ∀ r, r ∈ L → r.length ≤ 1000000) :
    Calls Tryz.prog 25 #[u, v] w fun e w' => e = .returned (.bool true) ∧ Below w.heap.size w w' := by
  have HU := hide hu
  have HV := hide hv
  have HR := hide hr
  obtain ⟨n, hn⟩ : ∃ n, n = L.length := ⟨_, rfl⟩
  have HN := hide hn
  obtain ⟨ua, uc, rfl⟩ := hu.slice
  obtain ⟨va, vc, rfl⟩ := hv.slice
  rw [← hn] at HU HV hl ⊢
  clear hu hv hn hr
  go_enter Tryz.func25, Tryz.ntmps25
  go_wp2_with fail
  go_loopw [5] (fun i wr => ∃ k : Nat, k ≤ n ∧ i = .int .i64 (k : Int) ∧ Hid (Below w.heap.size w wr)) (fun i _ => n - (intOf i).toNat)
  case atStart => exact ⟨0, Nat.zero_le _, rfl, Below.refl _ _⟩
  case round =>
    obtain ⟨k, hk, rfl, HB⟩ := hrel
    by_cases hlt : k < n
    · have hkl : k < L.length := by rw [← HN.out]; exact hlt
      have hx := List.getElem?_eq_getElem hkl
      obtain ⟨g1, y1, rfl, hc1, c1, i1⟩ := (HU.out.below HB.out).at_ k _ hx
      obtain ⟨g2, y2, rfl, hc2, c2, i2⟩ := (HV.out.below HB.out).at_ k _ hx
      obtain ⟨u1, d1, rfl⟩ := i1.slice
      obtain ⟨u2, d2, rfl⟩ := i2.slice
      have HD : Hid (Below wr.heap.size wr wr.drew) := ⟨rfl, rfl, rfl, Nat.le_refl _, fun _ _ => rfl⟩
      have HRL := hide (HR.out _ (List.getElem_mem hkl))
      have HC := hide (fun W (hW : Below wr.heap.size wr W) => lsameI_any L[k] _ _ W (i1.below hW) (i2.below hW) HRL.out)
      have HK : Hid (∀ W, Below wr.heap.size wr W → W.cell? ⟨g1, k, none⟩ = some (.slice u1 L[k].length d1) ∧ W.cell? ⟨g2, k, none⟩ = some (.slice u2 L[k].length d2)) := fun W hW => ⟨(hW.cell (World.block_lt_of_cell? _ _ c1)).trans c1, (hW.cell (World.block_lt_of_cell? _ _ c2)).trans c2⟩
      have hki : (k : Int) < (n : Int) := by omega
      clear hx i1 i2 HRL
      generalize L[k].length = q at *
      go_wp2_with fail
      go_region_held3 (fun W => W.cell? ⟨g1, k, none⟩ = some (.slice u1 q d1) ∧ W.cell? ⟨g2, k, none⟩ = some (.slice u2 q d2)) ((refine HK.out _ ?_; first | exact HD.out | exact HB2.out | exact Below.refl _ _)) ((go_at_call 17; (with_reducible refine (HC.out _ HD.out).mono ?_); rintro e w2 ⟨rfl, hb2⟩; have HB2 : Hid (Below wr.heap.size wr w2) := HD.out.trans (hb2.mono HD.out.size); clear hb2))
      go_wp2_with fail
      go_roundw
      case rel => exact ⟨k + 1, by omega, by go_num, HB.out.trans (HB2.out.mono HB.out.size)⟩
      case measure => simp [intOf]; omega
    · have hkn : k = n := by omega
      subst hkn
      go_wp2_with fail
      go_ret
      exact ⟨rfl, HB.out⟩
end Rf
end
section
open Go.RowKit
namespace Bo
theorem errNe0 (w : World) : (binOp BinOp.neq 40 (.int .i64 0) (.int .i64 0)).run Tryz.prog w = .ok (.bool false) w := by kernel_rfl
theorem nilEq (w : World) : (binOp BinOp.eql 33 .nilIface .nilIface).run Tryz.prog w = .ok (.bool true) w := by kernel_rfl
set_option maxHeartbeats 16000000 in
set_option maxRecDepth 100000 in
theorem blockOfs_good (hbo : ∀ (s : ByteArray) (w : World), s.size ≤ maxLen → Laid w → PLaid w → Calls Tryz.prog 28 #[.string s] w (Sl.Both s w)) (s : ByteArray) (names : List (List UInt8)) (sv : Value) (w : World) (hs : s.size ≤ maxLen) (hsv : Strs w sv (names.map toBA)) (hL : Laid w) (hP : PLaid w) (hu : names.length ≤ 12)
    (hbad : ∀ p, Ld.parse s.data.toList = .inr p → Ld.check p = none → (nums p.names names).contains (-1) = false) :
    Calls Tryz.prog 6 #[.string s, sv] w fun e w' => e = .returned (.bool true) ∧ Below w.heap.size w w' := by
  obtain ⟨i0, hi0, hz0, hz1, hz2⟩ := info_parts Tryz.infoInt
  have HMS := hide (Rf.machines_of hbo s 40 w hs hL hP)
  have HL := hide hL
  have HSV := hide hsv
  have HBAD := hide hbad
  obtain ⟨sa, sc, rfl, _, _⟩ := strs_cells hsv
  have HU2 := hide hu
  obtain ⟨u, huu⟩ : ∃ u, u = names.length := ⟨_, rfl⟩
  have HU := hide huu
  rw [← huu] at hu HSV ⊢
  have HP := hide hP
  clear hL hP hsv huu hbad
  have pn := fun w a => ptrNe w a
  have n0 := fun w => errNe0 w
  have q0 := fun w => nilEq w
  have e0 := fun w => errEq0 w
  have hu12 : ¬ (12 : Int) < (u : Int) := by omega
  have hu30 : ¬ (30 : Int) < (u : Int) := by omega
  go_enter Tryz.func6, Tryz.ntmps6
  go_wp2_with fail
  refine HMS.out.mono ?_
  rintro e w1 ⟨hb1, he⟩
  have HB1 := hide hb1
  clear HMS hb1
  rcases he with rfl | ⟨p, bm, bx, rfl, hpp, hmach, hrm, hck, _, hq4, hS40⟩
  · go_wp2_with fail
    go_ret
    exact ⟨rfl, HB1.out⟩
  have HCON := hide (HBAD.out p hpp hck)
  have HOM := hide (Of_any bm p names _ w1 hmach hck hq4 hS40 (HSV.out.below HB1.out) HU2.out)
  have HRM := hide hrm
  have HLIM := hide (And.intro hck (And.intro hq4 hS40))
  clear hpp hmach hrm hck hq4 hS40
  go_wp2_with fail
  refine HOM.out.mono ?_
  rintro e w2 ⟨hb2, ⟨hc, _⟩ | ⟨_, ks, nx, tv, hks, hkl, hkb, rfl, hr1, hr2⟩⟩
  case inl => rw [HCON.out] at hc; cases hc
  have HKS := hide hks
  have HKL := hide hkl
  have HKB := hide hkb
  have HR1 := hide hr1
  have HR2 := hide hr2
  obtain ⟨xa1, xc1, rfl⟩ := hr1.slice
  obtain ⟨xa2, xc2, rfl⟩ := hr2.slice
  have HLEN : Hid (((Rf.nextsL p (Mc.total (Mc.parts p)) (2 ^ (Ld.kindL p.names 1).length)).map Rf.asI).length = Mc.total (Mc.parts p) ∧ ((Rf.tellsL p ks (Mc.total (Mc.parts p)) (2 ^ (Ld.kindL p.names 1).length)).map Rf.asI).length = Mc.total (Mc.parts p)) := ⟨by rw [List.length_map, Rf.nextsL_len], by rw [List.length_map, Rf.tellsL_len]⟩
  rw [HLEN.out.1] at HR1
  rw [HLEN.out.2] at HR2
  rw [HLEN.out.1, HLEN.out.2]
  clear hks hkl hkb hr1 hr2
  obtain ⟨wA, hwA⟩ : ∃ wA, wA = w2.alloc (.cells #[.slice xa1 (Mc.total (Mc.parts p)) xc1, .slice xa2 (Mc.total (Mc.parts p)) xc2] 67) := ⟨_, rfl⟩
  have hA : wA.heap[w2.heap.size]? = some (.cells #[.slice xa1 (Mc.total (Mc.parts p)) xc1, .slice xa2 (Mc.total (Mc.parts p)) xc2] 67 (0, 0)) := by rw [hwA]; exact heap_alloc_new _ _
  have hltA := (Array.getElem?_eq_some_iff.1 hA).1
  have hbA : Below w1.heap.size w1 wA := by rw [hwA]; exact hb2.alloc hb2.size _
  have HA := hide (fun W (hW : Below wA.heap.size wA W) => (hW.block _ hltA).trans hA)
  have HBA := hide (HB1.out.trans (hbA.mono HB1.out.size))
  have HB1A := hide hbA
  have HON := hide (Of_nil (.slice sa u sc) wA)
  rw [hwA] at HON
  have HWA := hide hwA
  clear hb2 hwA hA hbA HOM
  go_wp2_with fail
  refine HON.out.mono ?_
  rintro e w3 ⟨rfl, hb3⟩
  rw [← HWA.out] at hb3
  have HB3 : Hid (Below wA.heap.size wA (w3.alloc (.cells #[.slice none 0 0, .slice none 0 0] 67))) := hb3.alloc hb3.size _
  have HBA1 := hide (Sl.lbare_any 7 (w3.alloc (.cells #[.slice none 0 0, .slice none 0 0] 67)) (HL.out.below (HBA.out.trans (HB3.out.mono HBA.out.size))).door)
  clear hb3 HON
  go_wp2_with fail
  refine HBA1.out.mono ?_
  rintro e w4 ⟨rfl, hb4⟩
  have HB4 : Hid (Below wA.heap.size wA w4) := HB3.out.trans (hb4.mono HB3.out.size)
  have HB4w := hide (HBA.out.trans (HB4.out.mono HBA.out.size))
  clear hb4 HBA1
  go_wp2_with fail
  obtain ⟨nv3, rv3, nx3, us3, qb3, k1, k2, _⟩ := HRM.out
  obtain ⟨nv', rv', hee, hn3, hr3⟩ := k2
  simp only [Value.agg.injEq, List.toArray_eq_iff, List.cons.injEq, and_true] at hee
  obtain ⟨rfl, rfl⟩ := hee
  have HN3 := hide hn3
  obtain ⟨ua, uc, rfl, _⟩ := hn3.slice
  obtain ⟨ta, tc, rfl, _⟩ := hr3.slice
  have HB14 : Hid (Below w1.heap.size w1 w4) := HB1A.out.trans (HB4.out.mono HB1A.out.size)
  clear k1 hn3 hr3
  obtain ⟨nv3, rv3, nx3, us3, qb3, k1, k2, k3⟩ := HRM.out
  have HK2 := hide k2
  obtain ⟨nv', rv', hee, hn3, hr3⟩ := k2
  simp only [Value.agg.injEq, List.toArray_eq_iff, List.cons.injEq, and_true] at hee
  obtain ⟨rfl, rfl⟩ := hee
  have HK1 := hide k1
  have HN3 := hide hn3
  obtain ⟨ua, uc, rfl, _⟩ := hn3.slice
  obtain ⟨ta, tc, rfl, _⟩ := hr3.slice
  have HB14 : Hid (Below w1.heap.size w1 w4) := HB1A.out.trans (HB4.out.mono HB1A.out.size)
  have HK1 := hide k1
  have HK3 := hide k3
  obtain ⟨xa3, xc3, rfl⟩ := own_slice k3.own
  rw [Rf.nextsL_len] at HK1 HK3
  clear k1 hn3 hr3 k3
  go_loopw [14, 12, 13] (fun i e nv wr => ∃ k : Nat, k ≤ u ∧ i = .int .i64 (k : Int) ∧ e = .int .i64 0 ∧ (∃ a c, nv = .slice a k c) ∧ Hid (wr.ownsRow w4.heap.size 3 1 nv k ((ks.take k).map intV)) ∧ Hid (Below w4.heap.size w4 wr)) (fun i _ _ _ => u - (intOf i).toNat)
  case atStart => exact ⟨0, Nat.zero_le _, rfl, rfl, ⟨_, _, rfl⟩, World.ownsRow_nil _ _ _ _, Below.refl _ _⟩
  case round =>
    obtain ⟨k, hk, rfl, rfl, ⟨na, nc, rfl⟩, HO, HB⟩ := hrel
    by_cases hlt : k < u
    · have hki : (k : Int) < (u : Int) := by omega
      have hkl : k < names.length := by rw [← HU.out]; exact hlt
      have HB1r : Hid (Below w1.heap.size w1 wr) := HB14.out.trans (HB.out.mono HB14.out.size)
      obtain ⟨gs, o, hsa, hsc, hcr⟩ : ∃ gs o, sa = some ⟨gs, o, none⟩ ∧ u ≤ sc ∧ wr.cell? ⟨gs, o + k, none⟩ = some (.string ⟨names[k].toArray⟩) := by
        obtain ⟨sa', sc', h1, h2, h3⟩ := strs_cells (HSV.out.below (HB1.out.trans (HB1r.out.mono HB1.out.size)))
        simp only [Value.slice.injEq] at h1
        obtain ⟨gs, o, h4, h5, h6⟩ := h3 k hkl
        exact ⟨gs, o, h1.1.trans h4, by rw [h1.2.2, h1.2.1]; exact h5, h6⟩
      subst hsa
      obtain ⟨⟨b0, b1⟩, _⟩ := (HK1.out.below HB1r.out).cells
      have HKEEP : Hid (∀ W, Below wr.heap.size wr W → W.cell? ⟨bx, 0, none⟩ = some (.slice ua p.names.length uc) ∧ W.cell? ⟨bx, 1, none⟩ = some (.slice ta p.rungs.length tc) ∧ W.cell? ⟨gs, o + k, none⟩ = some (.string ⟨names[k].toArray⟩)) := fun W hW =>
        have key : ∀ (p : Addr) v, wr.cell? p = some v → W.cell? p = some v := fun _ _ hv => (hW.cell (World.block_lt_of_cell? _ _ hv)).trans hv
        ⟨key _ _ b0, key _ _ b1, key _ _ hcr⟩
      have HDR : Hid (Below wr.heap.size wr wr.drew) := ⟨rfl, rfl, rfl, Nat.le_refl _, fun _ _ => rfl⟩
      have HRN := hide (rNumber_any p.names (.slice ua p.names.length uc) (.slice ta p.rungs.length tc) names[k] wr.drew (HN3.out.below (HB1r.out.trans (HDR.out.mono HB1r.out.size))) ⟨_, _, _, rfl⟩)
      have HGK : Hid (names[k]? = some names[k]) := List.getElem?_eq_getElem hkl
      generalize hx : names[k] = x at *
      clear hx
      go_upto_region 15 with fail
      go_region_held3 (fun W => W.cell? ⟨bx, 0, none⟩ = some (.slice ua p.names.length uc) ∧ W.cell? ⟨bx, 1, none⟩ = some (.slice ta p.rungs.length tc) ∧ W.cell? ⟨gs, o + k, none⟩ = some (.string ⟨x.toArray⟩)) ((refine HKEEP.out _ ?_; first | exact HB3.out | exact HDR.out | exact Below.refl _ _)) ((go_at_call 23; (with_reducible refine HRN.out.mono ?_); rintro e w5 ⟨rfl, hb5⟩; have HB5 : Hid (Below wr.heap.size wr w5) := HDR.out.trans hb5; have HB3 := hide HB5.out; clear hb5))
      have hkk : k < ks.length := by rw [HKL.out]; exact hkl
      have HZ : Hid (Ld.number p.names x = ((ks[k] : Nat) : Int)) := by
        show _ = _
        have h : (nums p.names names)[k]? = (ks.map fun n : Nat => (n : Int))[k]? := by rw [HKS.out]
        rw [nums, List.getElem?_map, HGK.out, List.getElem?_map, List.getElem?_eq_getElem hkk] at h
        exact Option.some.inj h
      have HSU := hide (List.take_succ_eq_append_getElem hkk)
      rw [HZ.out]
      generalize ks[k] = z at *
      have hneg : ¬ (z : Int) < 0 := by omega
      have HONE : Hid (∀ u ∈ [Value.int .i64 (z : Int)], u.oneCell' = true) := by
        intro u hu
        simp only [List.mem_cons, List.not_mem_nil, or_false] at hu
        subst hu; rfl
      have HOE := hide (own_below HO.out HB5.out)
      have hzw : w4.heap.size ≤ w5.heap.size := by have := HB.out.size; have := HB5.out.size; omega
      clear b0 b1 hcr
      go_wp2_with (at_builtin; refine wpList_append_lies _ rfl (.tmp 70) (.tmp 72) 36 rfl w4.heap.size 3 i0 _ 1 8 Tryz.underlying36 hi0 hz0 hz1 hz2 rfl (by decide) (.slice na k nc) k ((ks.take k).map intV) rfl (HOE.out.alloc _) ⟨w5.heap.size, 0, none⟩ 1 1 [.int .i64 (z : Int)] rfl rfl (World.news_of_block (heap_alloc_new w5 _)) HONE.out (by decide) (by unfold maxLen; omega) (by omega) (by simp; omega) (w5.heap.size + 1) (by simp) ?_; intro g2 cap2 wF hown hgrow hat hltg; have HBF := hide (((HB.out.trans (HB5.out.mono HB.out.size)).alloc (by omega) _).grown hgrow (by simp; omega) (fun b e => (HOE.out.lt b e).1)); have HOF := hide hown; clear hown hgrow hat)
      go_roundw
      case rel => exact ⟨k + 1, by omega, by go_num, rfl, ⟨_, _, rfl⟩, by rw [HSU.out, List.map_append]; exact HOF.out, HBF.out⟩
      case measure => simp [intOf]; omega
    · obtain rfl : k = u := by omega
      have hkl2 : ks.length = k := by rw [HKL.out, HU.out]
      rw [List.take_of_length_le (by omega)] at HO
      have HB1r : Hid (Below w1.heap.size w1 wr) := HB14.out.trans (HB.out.mono HB14.out.size)
      have HBwr := hide (HB1.out.trans (HB1r.out.mono HB1.out.size))
      have h12 := (Ld.check_names p HLIM.out.1).1
      have hIV : Ints wr (.slice na k nc) (Rf.asI ks) := Rf.ints_nat (by rw [hkl2]; exact HO.out) (fun i hi => by have := HKB.out i hi; omega)
      have hI : 2 ^ (Ld.kindL p.names 1).length ≤ 64 := Nat.le_trans (Nat.pow_le_pow_right (by decide) HLIM.out.2.1) (by decide)
      have hS4 : Mc.total (Mc.parts p) ≤ 4096 := by have := HLIM.out.2.2; omega
      have HRT := hide (Rf.RTable_any bx p _ _ _ _ _ _ ks wr (HK1.out.below HB1r.out) (HK2.out.below HB1r.out) (HP.out.below HBwr.out).r HLIM.out.1 hS4 hI ⟨_, _, _, rfl⟩ hIV (by omega) HKB.out)
      have HSM := hide hS4
      clear hIV
      have hkk : ¬ (k : Int) < (k : Int) := by omega
      go_wp2_with fail
      refine HRT.out.mono ?_
      rintro e w5 ⟨hb5, tv3, us4, q4, rfl, hir⟩
      obtain ⟨xa4, xc4, rfl⟩ := own_slice hir.own
      rw [Rf.tellsL_len]
      have HIR := hide hir
      rw [Rf.tellsL_len] at HIR
      generalize hSS : Mc.total (Mc.parts p) = S at *
      generalize hII : 2 ^ (Ld.kindL p.names 1).length = I at *
      obtain ⟨wB, hwB⟩ : ∃ wB, wB = w5.alloc (.cells #[.slice xa3 S xc3, .slice xa4 S xc4] 71) := ⟨_, rfl⟩
      have hbB : Below wr.heap.size wr wB := by rw [hwB]; exact hb5.alloc hb5.size _
      have hbB5 : Below w5.heap.size w5 wB := by rw [hwB]; exact (Below.refl _ _).alloc (Nat.le_refl _) _
      have hB : wB.heap[w5.heap.size]? = some (.cells #[.slice xa3 S xc3, .slice xa4 S xc4] 71 (0, 0)) := by rw [hwB]; exact heap_alloc_new _ _
      have hltB := (Array.getElem?_eq_some_iff.1 hB).1
      have HCB := hide (fun W (hW : Below wB.heap.size wB W) => And.intro (two_cells ((hW.block _ hltB).trans hB)) (two_cells (HA.out W ((HB4.out.trans (HB.out.mono HB4.out.size)).trans ((hbB.trans (hW.mono hbB.size)).mono (HB4.out.trans (HB.out.mono HB4.out.size)).size)))))
      obtain ⟨⟨d0, d1, _, _⟩, ⟨d2, d3, _, _⟩⟩ := HCB.out wB (Below.refl _ _)
      have hA2 : Below w2.heap.size w2 wA := by rw [HWA.out]; exact (Below.refl _ _).alloc (Nat.le_refl _) _
      have hAB : Below wA.heap.size wA wB := (HB4.out.trans (HB.out.mono HB4.out.size)).trans (hbB.mono (HB4.out.trans (HB.out.mono HB4.out.size)).size)
      have h2B : Below w2.heap.size w2 wB := hA2.trans (hAB.mono hA2.size)
      have h1B : Below w1.heap.size w1 wB := HB1r.out.trans (hbB.mono HB1r.out.size)
      have hwB2 : Below w.heap.size w wB := HB1.out.trans (h1B.mono HB1.out.size)
      have hTS : ∀ b, b ∈ Rf.tellsL p ks S I → ∀ i, i ∈ b → i ≤ 1000000 := fun b hb i hi => by
        obtain ⟨_, _, rfl⟩ := List.mem_map.1 hb
        obtain ⟨_, _, rfl⟩ := List.mem_map.1 hi
        exact tell_small _ ks (by omega)
      have u3 := (HK3.out.rowsI (Rf.nexts_small p HLIM.out.1 S I (by rw [hSS]; exact hS4))).below h1B
      have u4 := (HIR.out.rowsI hTS).below hbB5
      have hl1 : ∀ r, r ∈ (Rf.nextsL p S I).map Rf.asI → r.length ≤ 1000000 := fun r hr => by
        obtain ⟨b, hb, rfl⟩ := List.mem_map.1 hr
        obtain ⟨_, _, rfl⟩ := List.mem_map.1 hb
        simp [Rf.asI, Rf.nextL]; omega
      have hl2 : ∀ r, r ∈ (Rf.tellsL p ks S I).map Rf.asI → r.length ≤ 1000000 := fun r hr => by
        obtain ⟨b, hb, rfl⟩ := List.mem_map.1 hr
        obtain ⟨_, _, rfl⟩ := List.mem_map.1 hb
        simp [Rf.asI, Rf.tellL]; omega
      have HS1 := hide (Rf.lsameL_any _ _ _ wB (HR1.out.below h2B) u3 (by rw [List.length_map, Rf.nextsL_len]; omega) hl1)
      have HS2 := hide (fun W (hW : Below wB.heap.size wB W) => Rf.lsameL_any _ _ _ W ((HR2.out.below h2B).below hW) (u4.below hW) (by rw [List.length_map, Rf.tellsL_len]; omega) hl2)
      have HWB := hide hwB
      have HWW := hide hwB2
      rw [hwB] at d0 d1 d2 d3 HS1
      clear hbB hbB5 hB hwB hA2 hAB h2B h1B hwB2 hTS u3 u4 hl1 hl2 HRT hir hb5
      go_wp2_with fail
      refine HS1.out.mono ?_
      rintro e w6 ⟨rfl, hb6⟩
      rw [← HWB.out] at hb6
      have HB6 := hide hb6
      obtain ⟨⟨g0, g1, _, _⟩, ⟨g2, g3, _, _⟩⟩ := HCB.out w6 hb6
      have HS3 := hide (HS2.out w6 hb6)
      clear hb6 d0 d1 d2 d3 HS1
      go_wp2_with fail
      refine HS3.out.mono ?_
      rintro e w7 ⟨rfl, hb7⟩
      have HF := hide (HWW.out.trans ((HB6.out.trans (hb7.mono HB6.out.size)).mono HWW.out.size))
      clear hb7 HS3
      go_wp2_with fail
      go_ret
      exact ⟨rfl, HF.out⟩
end Bo
end
section
open Go.RowKit
namespace Bo
theorem blockOfs_of (hbo : ∀ (s : ByteArray) (w : World), s.size ≤ maxLen → Laid w → PLaid w → Calls Tryz.prog 28 #[.string s] w (Sl.Both s w)) (s : ByteArray) (names : List (List UInt8)) (sv : Value) (w : World) (hs : s.size ≤ maxLen) (hsv : Strs w sv (names.map toBA)) (hL : Laid w) (hP : PLaid w) :
    Calls Tryz.prog 6 #[.string s, sv] w fun e w' => e = .returned (.bool true) ∧ Below w.heap.size w w' := by
  by_cases hu : 12 < names.length
  · obtain ⟨sa, sc, rfl, _, _⟩ := strs_cells hsv
    exact blockOfs_many hbo s sa _ sc w hs hL hP hu
  by_cases h : ∃ p, Ld.parse s.data.toList = .inr p ∧ (nums p.names names).contains (-1) = false
  · obtain ⟨p, h1, h2⟩ := h
    exact blockOfs_good hbo s names sv w hs hsv hL hP (by omega) (fun p' h3 _ => by
      rw [h1] at h3
      cases h3
      exact h2)
  · exact blockOfs_bad hbo s names sv w hs hsv hL hP (by omega) (fun p h3 _ => by
      cases hc : (nums p.names names).contains (-1) with
      | true => rfl
      | false => exact absurd ⟨p, h3, hc⟩ h)
end Bo
end
end Go.Proofs.YtgldbliohpfljaaGreatDoor
