/-
  The walk of package route's Check.
-/
import Derived.Test.YtmniiclmimidjaaDoorRoCheck
namespace Go.Proofs.YtmniiclmimidjaaDoor
namespace Ro
open Go.RowKit
set_option maxHeartbeats 4000000 in
set_option maxRecDepth 100000 in
theorem Check_any (t : Tbl) (rv : Value) (w : World) (hr : Rts w rv t.rts) :
    Calls Tryd.prog 7 #[.agg #[.int .i64 t.secs, .int .i64 t.pts, rv]] w fun e w' => ∃ v, e = .returned v ∧ ErrIs w' v (check t) ∧ Below w.heap.size w w' := by
  obtain ⟨ra, rc, rfl⟩ := hr.slice
  have hlen := hr.len
  unfold maxLen at hlen
  obtain ⟨n, hn⟩ : ∃ n, n = t.rts.length := ⟨_, rfl⟩
  obtain ⟨wA, hwA⟩ : ∃ wA, wA = w.alloc (.cells #[.int .i64 t.secs, .int .i64 t.pts, .slice ra t.rts.length rc] 24) := ⟨_, rfl⟩
  have hbA : Below w.heap.size w wA := by rw [hwA]; exact newB _ _
  have rT : RowIs wA w.heap.size 24 [.int .i64 t.secs, .int .i64 t.pts, .slice ra t.rts.length rc] := by rw [hwA]; exact RowIs.new _ _ _
  have HRA := hide (hr.below hbA)
  have HB := hide hbA
  have HW := hide hwA
  have HI1 := hide (isFrom_any 1 3 t.secs wA)
  have HI2 := hide (isFrom_any 0 2 t.pts wA)
  have HI3 := hide (isFrom_any 1 3 (t.rts.length : Int) wA)
  have HSZ : Hid (sized t = (fromTo 1 3 t.secs && (fromTo 0 2 t.pts && fromTo 1 3 (t.rts.length : Int)))) := rfl
  have HCK : Hid (sized t = false → check t = some (4, none)) := fun h => by unfold check; rw [if_pos h]
  have x0 := rT.cell 0 _ rfl
  have x1 := rT.cell 1 _ rfl
  have x2 := rT.cell 2 _ rfl
  have HN := hide hn
  rw [← hn] at HRA HW HI3 x2 hlen HSZ ⊢
  have HKT : Hid (∀ W, Below wA.heap.size wA W → W.cell? ⟨w.heap.size, 0, none⟩ = some (.int .i64 t.secs) ∧ W.cell? ⟨w.heap.size, 1, none⟩ = some (.int .i64 t.pts) ∧ W.cell? ⟨w.heap.size, 2, none⟩ = some (.slice ra n rc)) := fun W hW => ⟨kept hW x0, kept hW x1, kept hW x2⟩
  have hwl : w.heap.size < wA.heap.size := rT.lt
  clear hwA hbA rT hr hn
  go_enter Tryd.func7, Tryd.ntmps7
  go_wp2_with fail
  rw [← HW.out]
  clear HW
  refine HI1.out.mono ?_
  rintro e w1 ⟨rfl, hw1⟩
  obtain rfl := hw1.symm
  clear HI1
  cases hq1 : fromTo 1 3 t.secs with
  | false =>
    have HX : Hid (check t = some (4, none)) := HCK.out (by rw [HSZ.out, hq1]; rfl)
    clear hq1
    go_wp2_with fail
    go_ret
    exact ⟨_, rfl, by rw [HX.out]; exact rfl, HB.out⟩
  | true =>
    have HQ1 := hide hq1
    clear hq1
    go_wp2_with fail
    refine HI2.out.mono ?_
    rintro e w1 ⟨rfl, hw1⟩
    obtain rfl := hw1.symm
    clear HI2
    cases hq2 : fromTo 0 2 t.pts with
    | false =>
      have HX : Hid (check t = some (4, none)) := HCK.out (by rw [HSZ.out, HQ1.out, hq2]; rfl)
      clear hq2
      go_wp2_with fail
      go_ret
      exact ⟨_, rfl, by rw [HX.out]; exact rfl, HB.out⟩
    | true =>
      have HQ2 := hide hq2
      clear hq2
      go_wp2_with fail
      refine HI3.out.mono ?_
      rintro e w1 ⟨rfl, hw1⟩
      obtain rfl := hw1.symm
      clear HI3
      cases hq3 : fromTo 1 3 (n : Int) with
      | false =>
        have HX : Hid (check t = some (4, none)) := HCK.out (by rw [HSZ.out, HQ1.out, HQ2.out, hq3]; rfl)
        clear hq3
        go_wp2_with fail
        go_ret
        exact ⟨_, rfl, by rw [HX.out]; exact rfl, HB.out⟩
      | true =>
        have HSD : Hid (sized t = true) := by show _ = _; rw [HSZ.out, HQ1.out, HQ2.out, hq3]; rfl
        have hsd := (sized_iff t).1 HSD.out
        rw [← HN.out] at hsd
        obtain ⟨⟨hs1, hs3⟩, ⟨hp0, hp2⟩, hn1, hn3⟩ := hsd
        have HCK2 : Hid (check t = badAt t (firstBad t)) := by show _ = _; unfold check; rw [if_neg (by rw [HSD.out]; decide)]
        clear hq3 HCK HSZ HQ1 HQ2
        have HS1 := hide hs1
        have HS3 := hide hs3
        have HP0 := hide hp0
        have HP2 := hide hp2
        clear hs1 hs3 hp0 hp2 hn1
        go_wp2_with fail
        clear x0 x1 x2
        go_loopw [27] (fun iv wr => ∃ k : Nat, k ≤ n ∧ iv = .int .i64 (k : Int) ∧ Hid (∀ (j : Nat) r, j < k → t.rts[j]? = some r → wrongR t.secs t.pts r = 0) ∧ Hid (Below wA.heap.size wA wr)) (fun iv _ => n - (intOf iv).toNat)
        case atStart => exact ⟨0, Nat.zero_le _, rfl, fun j r hj => by omega, Below.refl _ _⟩
        case round =>
          obtain ⟨k, hk, rfl, HZ, HBR⟩ := hrel
          by_cases hlt : k < n
          · have hkl : k < t.rts.length := by rw [← HN.out]; exact hlt
            obtain ⟨g, o, sa, sc, pa, pc, rfl, c0, c1, hIs, hPs, hmx⟩ := (HRA.out.below HBR.out).cell k _ (List.getElem?_eq_getElem hkl)
            have hki : (k : Int) < (n : Int) := by omega
            obtain ⟨y0, y1, y2⟩ := HKT.out wr HBR.out
            obtain ⟨wL, hwL⟩ : ∃ wL, wL = wr.alloc (.cells #[.slice sa t.rts[k].secs.length sc, .slice pa t.rts[k].pts.length pc] 42) := ⟨_, rfl⟩
            have hbL : Below wr.heap.size wr wL := by rw [hwL]; exact newB _ _
            have HBL : Hid (Below wA.heap.size wA wL) := then_ HBR.out hbL
            have hwlr : w.heap.size < wr.heap.size := World.block_lt_of_cell? _ _ y0
            have HWC := hide (wrongRoute_any t.secs t.pts (some ⟨g, o, none⟩) n rc t.rts[k] _ _ wL (hIs.below hbL) (hPs.below hbL) hmx (by have := HS1.out; omega) (by have := HS3.out; omega) HP0.out (by have := HP2.out; omega))
            have HLE := hide (wrongR_le t.secs t.pts t.rts[k])
            have HZ1 : Hid (wrongR t.secs t.pts t.rts[k] = 0 → ∀ (j : Nat) r, j < k + 1 → t.rts[j]? = some r → wrongR t.secs t.pts r = 0) := fun h0 j r hj hr => by
              by_cases hjk : j = k
              · subst hjk
                rw [List.getElem?_eq_getElem hkl] at hr
                cases hr
                exact h0
              · exact HZ.out j r (by omega) hr
            have HBAD : Hid (wrongR t.secs t.pts t.rts[k] ≠ 0 → check t = some (wrongR t.secs t.pts t.rts[k], some k)) := fun h0 => by
              rw [HCK2.out, firstBad_hit t k hkl h0 HZ.out]
              simp [badAt, hkl]
            have HWL := hide hwL
            clear hIs hPs hmx hbL hwL
            generalize wrongR t.secs t.pts t.rts[k] = y at *
            generalize t.rts[k] = r at *
            by_cases h0 : y = 0
            · have HZ2 := hide (HZ1.out h0)
              subst h0
              clear HBAD HZ1 HLE
              go_wp2_with fail
              rw [← HWL.out]
              refine HWC.out.mono ?_
              rintro e w2 ⟨rfl, hb2⟩
              have HB2 := hide (then_ HBL.out hb2)
              clear hb2 HWC
              go_wp2_with fail
              go_roundw
              case rel => exact ⟨k + 1, by omega, by go_num, HZ2.out, HB2.out⟩
              case measure => simp [intOf]; omega
            · have HX := hide (HBAD.out h0)
              have h0i : ((y : Int) != 0) = true := by simp; omega
              have hyl := HLE.out
              clear HBAD HZ1 HLE h0
              go_wp2_with fail
              rw [← HWL.out]
              refine HWC.out.mono ?_
              rintro e w2 ⟨rfl, hb2⟩
              have HB2 := hide (then_ (then_ HB.out (then_ HBL.out hb2)) (newB w2 (.cells #[.int .i64 (y : Int), .int .i64 (k : Int)] 58)))
              clear hb2 HWC
              go_wp2_with fail
              go_ret
              refine ⟨_, rfl, ?_, HB2.out⟩
              rw [HX.out]
              have hr := RowIs.new w2 58 [.int .i64 (y : Int), .int .i64 (k : Int)]
              exact ⟨w2.heap.size, rfl, hr.cell 0 _ rfl, hr.cell 1 _ rfl⟩
          · have hkn : k = n := by omega
            have HX : Hid (check t = none) := by
              show _ = _
              rw [HCK2.out, firstBad_none t (fun j r hj hr => HZ.out j r (by rw [hkn, HN.out]; exact hj) hr)]
              rfl
            have HBX := hide (then_ HB.out HBR.out)
            subst hkn
            go_wp2_with fail
            go_ret
            exact ⟨_, rfl, by rw [HX.out]; exact rfl, HBX.out⟩
end Ro
end Go.Proofs.YtmniiclmimidjaaDoor
