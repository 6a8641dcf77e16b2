/-
  The walk of the statement RouteClash.
-/
import Derived.Test.YtjnmeacblefkgaaDoorRoRouted
namespace Go.Proofs.YtjnmeacblefkgaaDoor
namespace Ro
open Go.RowKit
set_option maxHeartbeats 8000000 in
set_option maxRecDepth 100000 in
theorem routeClash_any (a b : Rt) (sa pa sb pb : Value) (w : World) (hsa : Ints w sa a.secs) (hpa : Pts w pa a.pts) (hsb : Ints w sb b.secs) (hpb : Pts w pb b.pts) (l1 : a.secs.length ≤ mxP) (l2 : b.secs.length ≤ mxP) (l3 : a.pts.length ≤ mxP) (l4 : b.pts.length ≤ mxP) :
    Calls Tryd.prog 3 #[.agg #[sa, pa], .agg #[sb, pb]] w fun e w' => e = .returned (.bool true) ∧ Below w.heap.size w w' := by
  obtain ⟨sa1, sa2, rfl⟩ := hsa.slice
  obtain ⟨pa1, pa2, rfl⟩ := hpa.slice
  obtain ⟨sb1, sb2, rfl⟩ := hsb.slice
  obtain ⟨pb1, pb2, rfl⟩ := hpb.slice
  unfold mxP at l1 l2 l3 l4
  obtain ⟨wA, hwA⟩ : ∃ wA, wA = (w.alloc (.cells #[.slice sa1 a.secs.length sa2, .slice pa1 a.pts.length pa2] 25)).alloc (.cells #[.slice sb1 b.secs.length sb2, .slice pb1 b.pts.length pb2] 25) := ⟨_, rfl⟩
  have hbA : Below w.heap.size w wA := by rw [hwA]; exact then_ (newB _ _) (newB _ _)
  have ra : RowIs wA w.heap.size 25 [.slice sa1 a.secs.length sa2, .slice pa1 a.pts.length pa2] := by rw [hwA]; exact (RowIs.new _ _ _).alloc _
  have rb : RowIs wA (w.heap.size + 1) 25 [.slice sb1 b.secs.length sb2, .slice pb1 b.pts.length pb2] := by
    rw [hwA]
    have := RowIs.new (w.alloc (.cells #[.slice sa1 a.secs.length sa2, .slice pa1 a.pts.length pa2] 25)) 25 [.slice sb1 b.secs.length sb2, .slice pb1 b.pts.length pb2]
    rw [World.size_alloc] at this
    exact this
  have HK : Hid (∀ W, Below wA.heap.size wA W → W.cell? ⟨w.heap.size, 0, none⟩ = some (.slice sa1 a.secs.length sa2) ∧ W.cell? ⟨w.heap.size, 1, none⟩ = some (.slice pa1 a.pts.length pa2) ∧ W.cell? ⟨w.heap.size + 1, 0, none⟩ = some (.slice sb1 b.secs.length sb2) ∧ W.cell? ⟨w.heap.size + 1, 1, none⟩ = some (.slice pb1 b.pts.length pb2)) := fun W hW => ⟨kept hW (ra.cell 0 _ rfl), kept hW (ra.cell 1 _ rfl), kept hW (rb.cell 0 _ rfl), kept hW (rb.cell 1 _ rfl)⟩
  have HAB := hide (fun W (hW : Below wA.heap.size wA W) (h1 : a.secs.length ≤ 1000) (h2 : a.pts.length ≤ 1000) => Clash_any a b _ _ _ _ W ((hsa.below hbA).below hW) ((hpa.below hbA).below hW) ((hsb.below hbA).below hW) ((hpb.below hbA).below hW) h1 h2)
  have HBA := hide (fun W (hW : Below wA.heap.size wA W) (h1 : b.secs.length ≤ 1000) (h2 : b.pts.length ≤ 1000) => Clash_any b a _ _ _ _ W ((hsb.below hbA).below hW) ((hpb.below hbA).below hW) ((hsa.below hbA).below hW) ((hpa.below hbA).below hW) h1 h2)
  have HSA := hide (hsa.below hbA)
  have HSB := hide (hsb.below hbA)
  have HB0 := hide hbA
  have HW := hide hwA
  have HCM := hide (clash_comm a b)
  have HSH : Hid (∀ (i k : Nat) (x : Int), a.secs[i]? = some x → b.secs[k]? = some x → clash a b = true) := fun i k x h1 h2 => clash_share a b x (List.mem_of_getElem? h1) (List.mem_of_getElem? h2)
  have HRO := hide routed_any
  clear hwA hbA ra rb hsa hpa hsb hpb
  obtain ⟨na, hna⟩ : ∃ na, na = a.secs.length := ⟨_, rfl⟩
  obtain ⟨nb, hnb⟩ : ∃ nb, nb = b.secs.length := ⟨_, rfl⟩
  have HNA := hide hna
  have HNB := hide hnb
  rw [← hna, ← hnb] at HK HAB HBA HW ⊢
  rw [← hna] at HSA l1
  rw [← hnb] at HSB l2
  clear hna hnb
  go_enter Tryd.func3, Tryd.ntmps3
  go_wp2_with fail
  rw [← HW.out]
  refine (HRO.out wA).mono ?_
  rintro e w1 ⟨rfl, hb1⟩
  have HB1 := hide hb1
  obtain ⟨x0, x1, x2, x3⟩ := HK.out w1 hb1
  clear hb1 HW
  generalize hnp : a.pts.length = np at *
  generalize hnq : b.pts.length = nq at *
  have HNP := hide hnp
  have HNQ := hide hnq
  clear hnp hnq
  by_cases h60 : 60 < na + nb + np + nq
  · have h60i : (60 : Int) < (na : Int) + (nb : Int) + (np : Int) + (nq : Int) := by omega
    go_wp2_with fail
    refine (HRO.out w1).mono ?_
    rintro e w2 ⟨rfl, hb2⟩
    have HB2 := hide (then_ HB0.out (then_ HB1.out hb2))
    clear hb2
    go_wp2_with fail
    go_ret
    exact ⟨rfl, HB2.out⟩
  · have h60i : ¬ (60 : Int) < (na : Int) + (nb : Int) + (np : Int) + (nq : Int) := by omega
    have HC1 := hide (HAB.out w1 HB1.out (by omega) (by omega))
    go_wp2_with fail
    refine HC1.out.mono ?_
    rintro e w2 ⟨rfl, hb2⟩
    have HB2 := hide (then_ HB1.out hb2)
    have HC2 := hide (fun W (hW : Below wA.heap.size wA W) => HBA.out W hW (by omega) (by omega))
    clear hb2 HC1 HAB HBA x0 x1 x2 x3 h60i
    rw [← HCM.out] at HC2
    generalize clash a b = q at *
    go_wp2_with fail
    go_loopw [6] (fun iv wr => ∃ i : Nat, i ≤ na ∧ iv = .int .i64 (i : Int) ∧ Hid (Below wA.heap.size wA wr)) (fun iv _ => na - (intOf iv).toNat)
    case atStart => exact ⟨0, Nat.zero_le _, rfl, HB2.out⟩
    case round =>
      obtain ⟨i, hi, rfl, HBI⟩ := hrel
      obtain ⟨y0, y1, y2, y3⟩ := HK.out wr HBI.out
      by_cases hil : i < na
      · have hii : (i : Int) < (na : Int) := by omega
        have hia : i < a.secs.length := by rw [← HNA.out]; exact hil
        obtain ⟨wO, rfl⟩ : ∃ wO, wO = wr := ⟨_, rfl⟩
        go_wp2_with fail
        go_loopw [7] (fun iv wr => ∃ k : Nat, k ≤ nb ∧ iv = .int .i64 (k : Int) ∧ Hid (Below wA.heap.size wA wr)) (fun iv _ => nb - (intOf iv).toNat)
        case atStart => exact ⟨0, Nat.zero_le _, rfl, HBI.out⟩
        case round =>
          obtain ⟨k, hk, rfl, HBK⟩ := hrel
          obtain ⟨z0, z1, z2, z3⟩ := HK.out wr HBK.out
          by_cases hkl : k < nb
          · have hki : (k : Int) < (nb : Int) := by omega
            have hkb : k < b.secs.length := by rw [← HNB.out]; exact hkl
            obtain ⟨g1, o1, rfl, d1, _⟩ := (HSA.out.below HBK.out).cell i _ (List.getElem?_eq_getElem hia)
            obtain ⟨g2, o2, rfl, d2, _⟩ := (HSB.out.below HBK.out).cell k _ (List.getElem?_eq_getElem hkb)
            have HQ : Hid (a.secs[i] = b.secs[k] → q = true) := fun h => HSH.out i k a.secs[i] (List.getElem?_eq_getElem hia) (by rw [h]; exact List.getElem?_eq_getElem hkb)
            generalize a.secs[i] = u1 at *
            generalize b.secs[k] = u2 at *
            by_cases hu : u1 = u2
            · have hqt := HQ.out hu
              subst hu
              subst hqt
              go_wp2_with fail
              go_quiet (fail)
              go_wp2_with fail
              go_roundw
              case rel => exact ⟨k + 1, by omega, by go_num, then_ HBK.out (drewN_b _ _)⟩
              case measure => simp [intOf]; omega
            · have hub : (u1 == u2) = false := by simpa using hu
              clear HQ hu
              go_wp2_with fail
              go_quiet (fail)
              go_wp2_with fail
              go_roundw
              case rel => exact ⟨k + 1, by omega, by go_num, then_ HBK.out (drewN_b _ _)⟩
              case measure => simp [intOf]; omega
          · have hkn : k = nb := by omega
            subst hkn
            go_wp2_with fail
            go_roundw
            case rel => exact ⟨i + 1, by omega, by go_num, HBK.out⟩
            case measure => simp [intOf]; omega
      · have hin : i = na := by omega
        subst hin
        have HC3 := hide (HC2.out wr HBI.out)
        go_wp2_with fail
        refine HC3.out.mono ?_
        rintro e w5 ⟨rfl, hb5⟩
        have HB5 := hide (then_ HB0.out (then_ HBI.out hb5))
        clear hb5
        go_wp2_with fail
        go_ret
        exact ⟨by simp, HB5.out⟩
end Ro
end Go.Proofs.YtjnmeacblefkgaaDoor
