/-
  The walks of package route's wrongRoute and Check. The walk of package route's Check.
-/
import Derived.Test.YtflonjbbolmelaaGreatDoorRoTwiceAll
namespace Go.Proofs.YtflonjbbolmelaaGreatDoor
section
namespace Ro
open Go.RowKit
def mxP : Nat := 17592186044416
/-- routes, as a slice -/
def Rts (w : World) (sv : Value) (l : List Rt) : Prop := ∃ a c, sv = .slice a l.length c ∧ l.length ≤ maxLen ∧ ∀ (k : Nat) r, l[k]? = some r → ∃ g o u v, a = some ⟨g, o, none⟩ ∧ l.length ≤ c ∧ w.cell? ⟨g, o + k * 2, none⟩ = some u ∧ w.cell? ⟨g, o + k * 2 + 1, none⟩ = some v ∧ Ints w u r.secs ∧ Pts w v r.pts ∧ r.pts.length ≤ mxP
theorem Rts.below {w w' : World} {sv : Value} {l : List Rt} (h : Rts w sv l) (hb : Below w.heap.size w w') : Rts w' sv l := by
  obtain ⟨a, c, h1, h2, h3⟩ := h
  refine ⟨a, c, h1, h2, fun k x hx => ?_⟩
  obtain ⟨g, o, u, v, e1, e2, e3, e4, e5, e6, e7⟩ := h3 k x hx
  exact ⟨g, o, u, v, e1, e2, kept hb e3, kept hb e4, e5.below hb, e6.below hb, e7⟩
theorem Rts.slice {w : World} {sv : Value} {l : List Rt} (h : Rts w sv l) : ∃ a c, sv = .slice a l.length c := by obtain ⟨a, c, h, _⟩ := h; exact ⟨a, c, h⟩
theorem Rts.len {w : World} {sv : Value} {l : List Rt} (h : Rts w sv l) : l.length ≤ maxLen := by obtain ⟨a, c, _, h, _⟩ := h; exact h
theorem Rts.cell {w : World} {a : Option Addr} {n c : Nat} {l : List Rt} (h : Rts w (.slice a n c) l) (k : Nat) (r : Rt) (hx : l[k]? = some r) : ∃ g o sa sc pa pc, a = some ⟨g, o, none⟩ ∧ w.cell? ⟨g, o + k * 2, none⟩ = some (.slice sa r.secs.length sc) ∧ w.cell? ⟨g, o + k * 2 + 1, none⟩ = some (.slice pa r.pts.length pc) ∧ Ints w (.slice sa r.secs.length sc) r.secs ∧ Pts w (.slice pa r.pts.length pc) r.pts ∧ r.pts.length ≤ mxP := by
  obtain ⟨a', c', h1, h2, h3⟩ := h
  obtain ⟨g, o, u, v, e1, e2, e3, e4, e5, e6, e7⟩ := h3 k r hx
  simp only [Value.slice.injEq] at h1
  obtain ⟨sa, sc, rfl⟩ := e5.slice
  obtain ⟨pa, pc, rfl⟩ := e6.slice
  exact ⟨g, o, sa, sc, pa, pc, by rw [h1.1]; exact e1, e3, e4, e5, e6, e7⟩
theorem wrongR_le (s p : Int) (r : Rt) : wrongR s p r ≤ 9 := by
  unfold wrongR
  split
  · omega
  · split
    · omega
    · split <;> omega
set_option maxHeartbeats 4000000 in
set_option maxRecDepth 100000 in
theorem wrongRoute_any (s p : Int) (ra : Option Addr) (rn rc : Nat) (r : Rt) (sv pv : Value) (w : World) (hs : Ints w sv r.secs) (hp : Pts w pv r.pts) (hl : r.pts.length ≤ mxP) (hs0 : 0 ≤ s) (hs3 : s ≤ 100) (hp0 : 0 ≤ p) (hp3 : p ≤ 100) :
    Calls Tryz.prog 26 #[.agg #[.int .i64 s, .int .i64 p, .slice ra rn rc], .agg #[sv, pv]] w fun e w' => e = .returned (.int .i64 (wrongR s p r : Int)) ∧ Below w.heap.size w w' := by
  obtain ⟨sa, sc, rfl⟩ := hs.slice
  obtain ⟨pa, pc, rfl⟩ := hp.slice
  obtain ⟨wA, hwA⟩ : ∃ wA, wA = (w.alloc (.cells #[.int .i64 s, .int .i64 p, .slice ra rn rc] 24)).alloc (.cells #[.slice sa r.secs.length sc, .slice pa r.pts.length pc] 57) := ⟨_, rfl⟩
  have hbA : Below w.heap.size w wA := by rw [hwA]; exact then_ (newB _ _) (newB _ _)
  have rT : RowIs wA w.heap.size 24 [.int .i64 s, .int .i64 p, .slice ra rn rc] := by rw [hwA]; exact (RowIs.new _ _ _).alloc _
  have rR : RowIs wA (w.heap.size + 1) 57 [.slice sa r.secs.length sc, .slice pa r.pts.length pc] := by
    rw [hwA]
    have := RowIs.new (w.alloc (.cells #[.int .i64 s, .int .i64 p, .slice ra rn rc] 24)) 57 [.slice sa r.secs.length sc, .slice pa r.pts.length pc]
    rw [World.size_alloc] at this
    exact this
  have HNU := hide (numbers_any r _ _ wA (hs.below hbA) (hp.below hbA) hl)
  have HSS := hide (fun W (hW : Below wA.heap.size wA W) => (hs.below hbA).below hW)
  have HKT : Hid (∀ W, Below wA.heap.size wA W → W.cell? ⟨w.heap.size, 0, none⟩ = some (.int .i64 s) ∧ W.cell? ⟨w.heap.size, 1, none⟩ = some (.int .i64 p) ∧ W.cell? ⟨w.heap.size + 1, 0, none⟩ = some (.slice sa r.secs.length sc)) := fun W hW => ⟨kept hW (rT.cell 0 _ rfl), kept hW (rT.cell 1 _ rfl), kept hW (rR.cell 0 _ rfl)⟩
  have HW := hide hwA
  have HB := hide hbA
  have hlen := hs.len
  unfold maxLen at hlen
  clear hwA hbA rT rR hs hp
  have HWR : Hid (wrongR s p r = if r.secs = [] then 8 else if beyond r.secs s || beyond (nums r) p then 2 else if twice r.secs || twice (nums r) then 9 else 0) := rfl
  have HE : Hid (r.secs = [] ↔ r.secs.length = 0) := ⟨fun h => by rw [h]; rfl, List.length_eq_zero_iff.1⟩
  generalize wrongR s p r = y at *
  go_enter Tryz.func26, Tryz.ntmps26
  go_wp2_with fail
  rw [← HW.out]
  clear HW
  refine HNU.out.mono ?_
  rintro e w1 ⟨nv, rfl, hI, hb1⟩
  have HI1 := hide hI
  have HB1 := hide hb1
  obtain ⟨na, nc, rfl⟩ := hI.slice
  obtain ⟨x0, x1, x2⟩ := HKT.out w1 hb1
  have HBY1 := hide (hasBeyond_any r.secs s _ w1 (HSS.out w1 hb1) hs0 hs3)
  clear hI hb1 HNU
  generalize r.secs.length = sn at *
  generalize (nums r).length = nn at *
  by_cases h0 : sn = 0
  · have HY : Hid (y = 8) := by show _ = _; rw [HWR.out, if_pos (HE.out.2 h0)]
    have h0i : ((sn : Int) == 0) = true := by simp [h0]
    have HB1' := hide (then_ HB.out HB1.out)
    clear h0
    go_wp2_with fail
    go_ret
    exact ⟨by rw [HY.out]; rfl, HB1'.out⟩
  have HWR2 : Hid (y = if beyond r.secs s || beyond (nums r) p then 2 else if twice r.secs || twice (nums r) then 9 else 0) := by show _ = _; rw [HWR.out, if_neg (fun h => h0 (HE.out.1 h))]
  have h0i : ((sn : Int) == 0) = false := by simp [h0]
  clear HWR HE h0
  go_wp2_with fail
  refine HBY1.out.mono ?_
  rintro e w2 ⟨rfl, hb2⟩
  have HB2 := hide (then_ HB1.out hb2)
  have HI2 := hide (HI1.out.below hb2)
  obtain ⟨y0, y1, y2⟩ := HKT.out w2 HB2.out
  have HBY2 := hide (hasBeyond_any (nums r) p _ w2 HI2.out hp0 hp3)
  have HTW2 := hide (hasTwice_any r.secs _ w2 (HSS.out w2 HB2.out))
  clear hb2 HBY1 x0 x1 x2
  generalize beyond r.secs s = q1 at *
  cases q1 with
  | true =>
    have HY : Hid (y = 2) := HWR2.out
    have HB2' := hide (then_ HB.out HB2.out)
    go_wp2_with fail
    go_ret
    exact ⟨by rw [HY.out]; rfl, HB2'.out⟩
  | false =>
    have HWR3 : Hid (y = if beyond (nums r) p then 2 else if twice r.secs || twice (nums r) then 9 else 0) := HWR2.out
    go_wp2_with fail
    refine HBY2.out.mono ?_
    rintro e w3 ⟨rfl, hb3⟩
    have HB3 := hide (then_ HB2.out hb3)
    have HI3 := hide (HI2.out.below hb3)
    obtain ⟨z0, z1, z2⟩ := HKT.out w3 HB3.out
    have HTW3 := hide (hasTwice_any r.secs _ w3 (HSS.out w3 HB3.out))
    clear hb3 HBY2 y0 y1 y2 HTW2 HWR2
    generalize beyond (nums r) p = q2 at *
    cases q2 with
    | true =>
      have HY : Hid (y = 2) := HWR3.out
      have HB3' := hide (then_ HB.out HB3.out)
      go_wp2_with fail
      go_ret
      exact ⟨by rw [HY.out]; rfl, HB3'.out⟩
    | false =>
      have HWR4 : Hid (y = if twice r.secs || twice (nums r) then 9 else 0) := HWR3.out
      go_wp2_with fail
      refine HTW3.out.mono ?_
      rintro e w4 ⟨rfl, hb4⟩
      have HB4 := hide (then_ HB3.out hb4)
      have HTW4 := hide (hasTwice_any (nums r) _ w4 (HI3.out.below hb4))
      clear hb4 HTW3 HWR3 z0 z1 z2
      generalize twice r.secs = q3 at *
      cases q3 with
      | true =>
        have HY : Hid (y = 9) := HWR4.out
        have HB4' := hide (then_ HB.out HB4.out)
        go_wp2_with fail
        go_ret
        exact ⟨by rw [HY.out]; rfl, HB4'.out⟩
      | false =>
        have HWR5 : Hid (y = if twice (nums r) then 9 else 0) := HWR4.out
        go_wp2_with fail
        refine HTW4.out.mono ?_
        rintro e w5 ⟨rfl, hb5⟩
        have HB5 := hide (then_ HB.out (then_ HB4.out hb5))
        clear hb5 HTW4 HWR4
        generalize twice (nums r) = q4 at *
        cases q4 with
        | true =>
          have HY : Hid (y = 9) := HWR5.out
          go_wp2_with fail
          go_ret
          exact ⟨by rw [HY.out]; rfl, HB5.out⟩
        | false =>
          have HY : Hid (y = 0) := HWR5.out
          go_wp2_with fail
          go_ret
          exact ⟨by rw [HY.out]; rfl, HB5.out⟩
end Ro
end
section
namespace Ro
open Go.RowKit
set_option maxHeartbeats 4000000 in
set_option maxRecDepth 100000 in
theorem Check_any (t : Tbl) (rv : Value) (w : World) (hr : Rts w rv t.rts) :
    Calls Tryz.prog 11 #[.agg #[.int .i64 t.secs, .int .i64 t.pts, rv]] w fun e w' => ∃ v, e = .returned v ∧ ErrIs w' v (check t) ∧ Below w.heap.size w w' := by
  obtain ⟨ra, rc, rfl⟩ := hr.slice
  have hlen := hr.len
  unfold maxLen at hlen
  obtain ⟨n, hn⟩ : ∃ n, n = t.rts.length := ⟨_, rfl⟩
  obtain ⟨wA, hwA⟩ : ∃ wA, wA = w.alloc (.cells #[.int .i64 t.secs, .int .i64 t.pts, .slice ra t.rts.length rc] 24) := ⟨_, rfl⟩
  have hbA : Below w.heap.size w wA := by rw [hwA]; exact newB _ _
  have rT : RowIs wA w.heap.size 24 [.int .i64 t.secs, .int .i64 t.pts, .slice ra t.rts.length rc] := by rw [hwA]; exact RowIs.new _ _ _
  have HRA := hide (hr.below hbA)
  have HB := hide hbA
  have HW := hide hwA
  have HI1 := hide (isFrom_any 1 3 t.secs wA)
  have HI2 := hide (isFrom_any 0 2 t.pts wA)
  have HI3 := hide (isFrom_any 1 3 (t.rts.length : Int) wA)
  have HSZ : Hid (sized t = (fromTo 1 3 t.secs && (fromTo 0 2 t.pts && fromTo 1 3 (t.rts.length : Int)))) := rfl
  have HCK : Hid (sized t = false → check t = some (4, none)) := fun h => by unfold check; rw [if_pos h]
  have x0 := rT.cell 0 _ rfl
  have x1 := rT.cell 1 _ rfl
  have x2 := rT.cell 2 _ rfl
  have HN := hide hn
  rw [← hn] at HRA HW HI3 x2 hlen HSZ ⊢
  have HKT : Hid (∀ W, Below wA.heap.size wA W → W.cell? ⟨w.heap.size, 0, none⟩ = some (.int .i64 t.secs) ∧ W.cell? ⟨w.heap.size, 1, none⟩ = some (.int .i64 t.pts) ∧ W.cell? ⟨w.heap.size, 2, none⟩ = some (.slice ra n rc)) := fun W hW => ⟨kept hW x0, kept hW x1, kept hW x2⟩
  have hwl : w.heap.size < wA.heap.size := rT.lt
  clear hwA hbA rT hr hn
  go_enter Tryz.func11, Tryz.ntmps11
  go_wp2_with fail
  rw [← HW.out]
  clear HW
  refine HI1.out.mono ?_
  rintro e w1 ⟨rfl, hw1⟩
  obtain rfl := hw1.symm
  clear HI1
  cases hq1 : fromTo 1 3 t.secs with
  | false =>
    have HX : Hid (check t = some (4, none)) := HCK.out (by rw [HSZ.out, hq1]; rfl)
    clear hq1
    go_wp2_with fail
    go_ret
    exact ⟨_, rfl, by rw [HX.out]; exact rfl, HB.out⟩
  | true =>
    have HQ1 := hide hq1
    clear hq1
    go_wp2_with fail
    refine HI2.out.mono ?_
    rintro e w1 ⟨rfl, hw1⟩
    obtain rfl := hw1.symm
    clear HI2
    cases hq2 : fromTo 0 2 t.pts with
    | false =>
      have HX : Hid (check t = some (4, none)) := HCK.out (by rw [HSZ.out, HQ1.out, hq2]; rfl)
      clear hq2
      go_wp2_with fail
      go_ret
      exact ⟨_, rfl, by rw [HX.out]; exact rfl, HB.out⟩
    | true =>
      have HQ2 := hide hq2
      clear hq2
      go_wp2_with fail
      refine HI3.out.mono ?_
      rintro e w1 ⟨rfl, hw1⟩
      obtain rfl := hw1.symm
      clear HI3
      cases hq3 : fromTo 1 3 (n : Int) with
      | false =>
        have HX : Hid (check t = some (4, none)) := HCK.out (by rw [HSZ.out, HQ1.out, HQ2.out, hq3]; rfl)
        clear hq3
        go_wp2_with fail
        go_ret
        exact ⟨_, rfl, by rw [HX.out]; exact rfl, HB.out⟩
      | true =>
        have HSD : Hid (sized t = true) := by show _ = _; rw [HSZ.out, HQ1.out, HQ2.out, hq3]; rfl
        have hsd := (sized_iff t).1 HSD.out
        rw [← HN.out] at hsd
        obtain ⟨⟨hs1, hs3⟩, ⟨hp0, hp2⟩, hn1, hn3⟩ := hsd
        have HCK2 : Hid (check t = badAt t (firstBad t)) := by show _ = _; unfold check; rw [if_neg (by rw [HSD.out]; decide)]
        clear hq3 HCK HSZ HQ1 HQ2
        have HS1 := hide hs1
        have HS3 := hide hs3
        have HP0 := hide hp0
        have HP2 := hide hp2
        clear hs1 hs3 hp0 hp2 hn1
        go_wp2_with fail
        clear x0 x1 x2
        go_loopw [27] (fun iv wr => ∃ k : Nat, k ≤ n ∧ iv = .int .i64 (k : Int) ∧ Hid (∀ (j : Nat) r, j < k → t.rts[j]? = some r → wrongR t.secs t.pts r = 0) ∧ Hid (Below wA.heap.size wA wr)) (fun iv _ => n - (intOf iv).toNat)
        case atStart => exact ⟨0, Nat.zero_le _, rfl, fun j r hj => by omega, Below.refl _ _⟩
        case round =>
          obtain ⟨k, hk, rfl, HZ, HBR⟩ := hrel
          by_cases hlt : k < n
          · have hkl : k < t.rts.length := by rw [← HN.out]; exact hlt
            obtain ⟨g, o, sa, sc, pa, pc, rfl, c0, c1, hIs, hPs, hmx⟩ := (HRA.out.below HBR.out).cell k _ (List.getElem?_eq_getElem hkl)
            have hki : (k : Int) < (n : Int) := by omega
            obtain ⟨y0, y1, y2⟩ := HKT.out wr HBR.out
            obtain ⟨wL, hwL⟩ : ∃ wL, wL = wr.alloc (.cells #[.slice sa t.rts[k].secs.length sc, .slice pa t.rts[k].pts.length pc] 57) := ⟨_, rfl⟩
            have hbL : Below wr.heap.size wr wL := by rw [hwL]; exact newB _ _
            have HBL : Hid (Below wA.heap.size wA wL) := then_ HBR.out hbL
            have hwlr : w.heap.size < wr.heap.size := World.block_lt_of_cell? _ _ y0
            have HWC := hide (wrongRoute_any t.secs t.pts (some ⟨g, o, none⟩) n rc t.rts[k] _ _ wL (hIs.below hbL) (hPs.below hbL) hmx (by have := HS1.out; omega) (by have := HS3.out; omega) HP0.out (by have := HP2.out; omega))
            have HLE := hide (wrongR_le t.secs t.pts t.rts[k])
            have HZ1 : Hid (wrongR t.secs t.pts t.rts[k] = 0 → ∀ (j : Nat) r, j < k + 1 → t.rts[j]? = some r → wrongR t.secs t.pts r = 0) := fun h0 j r hj hr => by
              by_cases hjk : j = k
              · subst hjk
                rw [List.getElem?_eq_getElem hkl] at hr
                cases hr
                exact h0
              · exact HZ.out j r (by omega) hr
            have HBAD : Hid (wrongR t.secs t.pts t.rts[k] ≠ 0 → check t = some (wrongR t.secs t.pts t.rts[k], some k)) := fun h0 => by
              rw [HCK2.out, firstBad_hit t k hkl h0 HZ.out]
              simp [badAt, hkl]
            have HWL := hide hwL
            clear hIs hPs hmx hbL hwL
            generalize wrongR t.secs t.pts t.rts[k] = y at *
            generalize t.rts[k] = r at *
            by_cases h0 : y = 0
            · have HZ2 := hide (HZ1.out h0)
              subst h0
              clear HBAD HZ1 HLE
              go_wp2_with fail
              rw [← HWL.out]
              refine HWC.out.mono ?_
              rintro e w2 ⟨rfl, hb2⟩
              have HB2 := hide (then_ HBL.out hb2)
              clear hb2 HWC
              go_wp2_with fail
              go_roundw
              case rel => exact ⟨k + 1, by omega, by go_num, HZ2.out, HB2.out⟩
              case measure => simp [intOf]; omega
            · have HX := hide (HBAD.out h0)
              have h0i : ((y : Int) != 0) = true := by simp; omega
              have hyl := HLE.out
              clear HBAD HZ1 HLE h0
              go_wp2_with fail
              rw [← HWL.out]
              refine HWC.out.mono ?_
              rintro e w2 ⟨rfl, hb2⟩
              have HB2 := hide (then_ (then_ HB.out (then_ HBL.out hb2)) (newB w2 (.cells #[.int .i64 (y : Int), .int .i64 (k : Int)] 74)))
              clear hb2 HWC
              go_wp2_with fail
              go_ret
              refine ⟨_, rfl, ?_, HB2.out⟩
              rw [HX.out]
              have hr := RowIs.new w2 74 [.int .i64 (y : Int), .int .i64 (k : Int)]
              exact ⟨w2.heap.size, rfl, hr.cell 0 _ rfl, hr.cell 1 _ rfl⟩
          · have hkn : k = n := by omega
            have HX : Hid (check t = none) := by
              show _ = _
              rw [HCK2.out, firstBad_none t (fun j r hj hr => HZ.out j r (by rw [hkn, HN.out]; exact hj) hr)]
              rfl
            have HBX := hide (then_ HB.out HBR.out)
            subst hkn
            go_wp2_with fail
            go_ret
            exact ⟨_, rfl, by rw [HX.out]; exact rfl, HBX.out⟩
end Ro
end
end Go.Proofs.YtflonjbbolmelaaGreatDoor
