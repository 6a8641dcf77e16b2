/-
  The walk of the statement RouteTells.
-/
import Derived.Test.YtmniiclmimidjaaDoorRjFine
namespace Go.Proofs.YtmniiclmimidjaaDoor
namespace Ro
open Go.RowKit ErAs
set_option maxHeartbeats 16000000 in
set_option maxRecDepth 100000 in
theorem routeTells_any (t : Tbl) (rv : Value) (w : World) (hr : Rts w rv t.rts) (hF : FineAt w) (hD : Door w) :
    Calls Tryd.prog 3 #[.agg #[.int .i64 t.secs, .int .i64 t.pts, rv]] w fun e w' => e = .returned (.bool true) ∧ Below w.heap.size w w' := by
  obtain ⟨ra, rc, rfl⟩ := hr.slice
  have hlen := hr.len
  unfold maxLen at hlen
  obtain ⟨n, hn⟩ : ∃ n, n = t.rts.length := ⟨_, rfl⟩
  have HN := hide hn
  rw [← hn] at hr hlen ⊢
  obtain ⟨wA, hwA⟩ : ∃ wA, wA = w.alloc (.cells #[.int .i64 t.secs, .int .i64 t.pts, .slice ra n rc] 24) := ⟨_, rfl⟩
  have hbA : Below w.heap.size w wA := by rw [hwA]; exact newB _ _
  have rT : RowIs wA w.heap.size 24 [.int .i64 t.secs, .int .i64 t.pts, .slice ra n rc] := by rw [hwA]; exact RowIs.new _ _ _
  have HKT : Hid (∀ W, Below wA.heap.size wA W → W.cell? ⟨w.heap.size, 0, none⟩ = some (.int .i64 t.secs) ∧ W.cell? ⟨w.heap.size, 1, none⟩ = some (.int .i64 t.pts) ∧ W.cell? ⟨w.heap.size, 2, none⟩ = some (.slice ra n rc)) := fun W hW => ⟨kept hW (rT.cell 0 _ rfl), kept hW (rT.cell 1 _ rfl), kept hW (rT.cell 2 _ rfl)⟩
  have HR : Hid (∀ W, Below wA.heap.size wA W → Rts W (.slice ra n rc) t.rts) := fun W hW => (hr.below hbA).below hW
  have HF : Hid (∀ W, Below wA.heap.size wA W → FineAt W) := fun W hW => (hF.below hbA).below hW
  have HDR : Hid (∀ W, Below wA.heap.size wA W → Door W) := fun W hW => door_below (door_below hD hbA) hW
  have HTR := hide (track_any t (.slice ra n rc) wA (HR.out wA (Below.refl _ _)))
  have HB0 := hide hbA
  have HW := hide hwA
  have hwl : w.heap.size < wA.heap.size := rT.lt
  clear hwA hbA rT hr hn hF hD
  go_enter Tryd.func3, Tryd.ntmps3
  go_wp2_with fail
  rw [← HW.out]
  refine HTR.out.mono ?_
  rintro e w1 ⟨hb1, ⟨a1, n1, c1, rfl⟩ | ⟨v1, rfl, hrr, h8, h20⟩⟩
  · have HB1 := hide (then_ HB0.out hb1)
    clear hb1 HTR
    go_wp2_with fail
    go_ret
    exact ⟨rfl, then_ HB1.out (newB _ _)⟩
  · have HB1 := hide hb1
    obtain ⟨va, vc, hv⟩ := hrr.slice
    rw [List.length_map, ← HN.out] at hv
    subst hv
    obtain ⟨wB, hwB⟩ : ∃ wB, wB = w1.alloc (.cells #[.int .i64 t.secs, .int .i64 t.pts, .slice va n vc] 27) := ⟨_, rfl⟩
    have hbB : Below w1.heap.size w1 wB := by rw [hwB]; exact newB _ _
    have rB : RowIs wB w1.heap.size 27 [.int .i64 t.secs, .int .i64 t.pts, .slice va n vc] := by rw [hwB]; exact RowIs.new _ _ _
    have HTC := hide (TrackCheck_any t (.slice va n vc) wB (hrr.below hbB) (HF.out wB (then_ hb1 hbB)))
    have HWB := hide hwB
    have HRR := hide (hrr.below hbB)
    have HBB := hide (then_ hb1 hbB)
    clear hwB hbB HTR
    go_wp2_with fail
    rw [← HWB.out]
    refine HTC.out.mono ?_
    rintro e w2 ⟨rfl, hb2⟩
    have HZ := hide (flt_zero t)
    have HZ0 : Hid (check t = none → (flt (check t)).1 = 0) := fun h => by rw [h]; rfl
    obtain ⟨wC, hwC⟩ : ∃ wC, wC = w2.alloc (.cells #[.int .i64 (flt (check t)).1, .int .i64 (flt (check t)).2] 32) := ⟨_, rfl⟩
    have hbC : Below w2.heap.size w2 wC := by rw [hwC]; exact newB _ _
    have rC : RowIs wC w2.heap.size 32 [.int .i64 (flt (check t)).1, .int .i64 (flt (check t)).2] := by rw [hwC]; exact RowIs.new _ _ _
    have HBC : Hid (Below wA.heap.size wA wC) := then_ HBB.out (then_ hb2 hbC)
    have rB2 := (rB.below hb2).below hbC
    have HKC : Hid (∀ W, Below wC.heap.size wC W → W.cell? ⟨w1.heap.size, 0, none⟩ = some (.int .i64 t.secs) ∧ W.cell? ⟨w1.heap.size, 1, none⟩ = some (.int .i64 t.pts) ∧ W.cell? ⟨w1.heap.size, 2, none⟩ = some (.slice va n vc) ∧ W.cell? ⟨w2.heap.size, 0, none⟩ = some (.int .i64 (flt (check t)).1) ∧ W.cell? ⟨w2.heap.size, 1, none⟩ = some (.int .i64 (flt (check t)).2)) := fun W hW => ⟨kept hW (rB2.cell 0 _ rfl), kept hW (rB2.cell 1 _ rfl), kept hW (rB2.cell 2 _ rfl), kept hW (rC.cell 0 _ rfl), kept hW (rC.cell 1 _ rfl)⟩
    have HRX : Hid (∀ W, Below wC.heap.size wC W → Rrs W (.slice va n vc) (t.rts.map refR)) := fun W hW => ((HRR.out.below hb2).below hbC).below hW
    have HFS := hide fun h => fine_short t h h8 h20
    have HCK : Hid (Calls Tryd.prog 7 #[.agg #[.int .i64 t.secs, .int .i64 t.pts, .slice ra n rc]] wC.drew fun e w' => ∃ v, e = .returned v ∧ ErrIs w' v (check t) ∧ Below wC.drew.heap.size wC.drew w') := Check_any t (.slice ra n rc) wC.drew (HR.out _ (drew_below HBC.out))
    have HAT : Hid (∀ (W : World) (v : Value), Below wC.heap.size wC W → ErrIs W v (check t) → Calls Tryd.prog 6 #[v, .agg #[.int .i64 (flt (check t)).1, .int .i64 (flt (check t)).2]] W fun x w' => x = .returned (.bool true) ∧ Below W.heap.size W w') := fun W v hW h => at_any (check t) v W (HDR.out W (then_ HBC.out hW)) h
    have HWC := hide hwC
    have HER : Hid (∀ (W : World) (v : Value), ErrIs W v (check t) → (∃ t x, v = .iface t x) ∨ v = .nilIface) := fun W v h => err_form h
    have hs1 : w1.heap.size < wC.heap.size := rB2.lt
    have hs2 : w2.heap.size < wC.heap.size := rC.lt
    clear hwC hbC rC rB2 rB hb2 HTC hrr hb1 h8 h20 HRR
    generalize (flt (check t)).1 = f1 at *
    generalize (flt (check t)).2 = f2 at *
    have HD : Hid (Below wC.heap.size wC wC.drew) := drewB wC
    go_wp2_with fail
    rw [← HWC.out]
    go_region_held3 (fun W => W.cell? ⟨w.heap.size, 0, none⟩ = some (.int .i64 t.secs) ∧ W.cell? ⟨w.heap.size, 1, none⟩ = some (.int .i64 t.pts) ∧ W.cell? ⟨w.heap.size, 2, none⟩ = some (.slice ra n rc) ∧ W.cell? ⟨w2.heap.size, 0, none⟩ = some (.int .i64 f1) ∧ W.cell? ⟨w2.heap.size, 1, none⟩ = some (.int .i64 f2)) ((refine ⟨(HKT.out _ (then_ HBC.out ?_)).1, (HKT.out _ (then_ HBC.out ?_)).2.1, (HKT.out _ (then_ HBC.out ?_)).2.2, (HKC.out _ ?_).2.2.2.1, (HKC.out _ ?_).2.2.2.2⟩ <;> first | exact HB4.out | exact HB3.out | exact HD.out | exact Below.refl _ _)) ((first
      | (go_at_call 7; (with_reducible refine HCK.out.mono ?_); rintro e w3 ⟨v, rfl, her, hx3⟩; have HB3 : Hid (Below wC.heap.size wC w3) := then_ HD.out hx3; have HAX := hide (HAT.out w3 v HB3.out her); clear hx3 her)
      | (go_at_call 6; (with_reducible refine HAX.out.mono ?_); rintro e w4 ⟨rfl, hx4⟩; have HB4 : Hid (Below wC.heap.size wC w4) := then_ HB3.out hx4; clear hx4)))
    have HZN : Hid (f1 = 0 → check t = none) := fun h => HZ.out.elim id fun hn => absurd h hn
    obtain ⟨k0, k1, k2, k3, k4⟩ := HKC.out w4 HB4.out
    clear HAX HCK HAT HER HD HWC HB3
    by_cases hf : f1 = 0
    · obtain ⟨hsh, hby⟩ := HFS.out (HZN.out hf)
      have HSH := hide hsh
      have HBY := hide hby
      clear hsh hby HZN HZ HZ0
      subst hf
      go_wp2_with fail
      have HTX : Hid (∀ W, Below wC.heap.size wC W → Calls Tryd.prog 10 #[.agg #[.int .i64 t.secs, .int .i64 t.pts, .slice ra n rc]] W fun e w' => e = .returned (.string ⟨(headT t.secs t.pts ++ rtsT t.rts).toArray⟩) ∧ Below W.heap.size W w') := fun W hW => Text_any t (.slice ra n rc) W (HR.out W (then_ HBC.out hW)) HSH.out
      have HTT : Hid (∀ W, Below wC.heap.size wC W → Calls Tryd.prog 11 #[.agg #[.int .i64 t.secs, .int .i64 t.pts, .slice va n vc]] W fun e w' => e = .returned (.string ⟨(headT t.secs t.pts ++ rtsT t.rts).toArray⟩) ∧ Below W.heap.size W w') := fun W hW => TrackText_any t (.slice va n vc) W (HRX.out W hW) HSH.out
      generalize (headT t.secs t.pts ++ rtsT t.rts).toArray = ar at *
      clear k0 k1 k2 k3 k4
      go_loopw [6] (fun iv wr => ∃ i : Nat, i ≤ n ∧ iv = .int .i64 (i : Int) ∧ Hid (Below wC.heap.size wC wr)) (fun iv _ => n - (intOf iv).toNat)
      case atStart => exact ⟨0, Nat.zero_le _, rfl, HB4.out⟩
      case round =>
        obtain ⟨i, hi, rfl, HBI⟩ := hrel
        obtain ⟨y0, y1, y2⟩ := HKT.out wr (then_ HBC.out HBI.out)
        by_cases hil : i < n
        · have hii : (i : Int) < (n : Int) := by omega
          obtain ⟨wO, rfl⟩ : ∃ wO, wO = wr := ⟨_, rfl⟩
          go_wp2_with fail
          go_loopw [7] (fun iv wr => ∃ k : Nat, k ≤ n ∧ iv = .int .i64 (k : Int) ∧ Hid (Below wC.heap.size wC wr)) (fun iv _ => n - (intOf iv).toNat)
          case atStart => exact ⟨0, Nat.zero_le _, rfl, HBI.out⟩
          case round =>
            obtain ⟨k, hk, rfl, HBK⟩ := hrel
            obtain ⟨z0, z1, z2⟩ := HKT.out wr (then_ HBC.out HBK.out)
            by_cases hkl : k < n
            · have hki : (k : Int) < (n : Int) := by omega
              have hit : i < t.rts.length := by rw [← HN.out]; exact hil
              have hkt : k < t.rts.length := by rw [← HN.out]; exact hkl
              have hRW := HR.out wr (then_ HBC.out HBK.out)
              have hXW := HRX.out wr HBK.out
              obtain ⟨g, o, sa, sc, pa, pc, ea, c0, c1, hs1', hp1', hm1⟩ := hRW.cell i _ (List.getElem?_eq_getElem hit)
              obtain ⟨g', o', sb, sd, pb, pd, eb, c2, c3, hs2', hp2', hm2⟩ := hRW.cell k _ (List.getElem?_eq_getElem hkt)
              have hir : (t.rts.map refR)[i]? = some (refR t.rts[i]) := by rw [List.getElem?_map, List.getElem?_eq_getElem hit]; rfl
              have hkr : (t.rts.map refR)[k]? = some (refR t.rts[k]) := by rw [List.getElem?_map, List.getElem?_eq_getElem hkt]; rfl
              obtain ⟨q, r, se, sf, pe, pf, ec, d0, d1, hs3', hp3'⟩ := hXW.cell i _ hir
              obtain ⟨q', r', sg, sh, pg, ph, ed, d2, d3, hs4', hp4'⟩ := hXW.cell k _ hkr
              subst ea
              subst ec
              obtain ⟨rfl, rfl⟩ : g = g' ∧ o = o' := by cases eb; exact ⟨rfl, rfl⟩
              obtain ⟨rfl, rfl⟩ : q = q' ∧ r = r' := by cases ed; exact ⟨rfl, rfl⟩
              clear eb ed
              obtain ⟨v0, v1, v2, v3, v4⟩ := HKC.out wr HBK.out
              have hri := HSH.out.secs _ (List.getElem_mem hit)
              have hrp := HSH.out.pts _ (List.getElem_mem hit)
              have HCE : Hid (clashR (refR t.rts[i]) (refR t.rts[k]) = clash t.rts[i] t.rts[k]) := clash_ref _ _ (HBY.out _ (List.getElem_mem hit)) (HBY.out _ (List.getElem_mem hkt))
              have HCL := hide fun W (hW : Below wr.heap.size wr W) => Clash_any t.rts[i] t.rts[k] _ _ _ _ W (hs1'.below hW) (hp1'.below hW) (hs2'.below hW) (hp2'.below hW) (by omega) (by omega)
              have HCR := hide fun W (hW : Below wr.heap.size wr W) => clashR_any (refR t.rts[i]) (refR t.rts[k]) _ _ _ _ W (hs3'.below hW) (hp3'.below hW) (hs4'.below hW) (hp4'.below hW) (fun c hc => by
                obtain ⟨y, _, rfl⟩ := List.mem_map.1 hc
                have := code_bd y
                omega)
              rw [HCE.out] at HCR
              have HKR : Hid (∀ W, Below wr.heap.size wr W → W.cell? ⟨w.heap.size, 2, none⟩ = some (.slice (some ⟨g, o, none⟩) n rc) ∧ W.cell? ⟨w1.heap.size, 2, none⟩ = some (.slice (some ⟨q, r, none⟩) n vc) ∧ W.cell? ⟨g, o + i * 2, none⟩ = some (.slice sa t.rts[i].secs.length sc) ∧ W.cell? ⟨g, o + i * 2 + 1, none⟩ = some (.slice pa t.rts[i].pts.length pc) ∧ W.cell? ⟨g, o + k * 2, none⟩ = some (.slice sb t.rts[k].secs.length sd) ∧ W.cell? ⟨g, o + k * 2 + 1, none⟩ = some (.slice pb t.rts[k].pts.length pd) ∧ W.cell? ⟨q, r + i * 2, none⟩ = some (.slice se (refR t.rts[i]).secs.length sf) ∧ W.cell? ⟨q, r + i * 2 + 1, none⟩ = some (.slice pe (refR t.rts[i]).pts.length pf) ∧ W.cell? ⟨q, r + k * 2, none⟩ = some (.slice sg (refR t.rts[k]).secs.length sh) ∧ W.cell? ⟨q, r + k * 2 + 1, none⟩ = some (.slice pg (refR t.rts[k]).pts.length ph)) := fun W hW => ⟨kept hW z2, kept hW v2, kept hW c0, kept hW c1, kept hW c2, kept hW c3, kept hW d0, kept hW d1, kept hW d2, kept hW d3⟩
              clear HCE hri hrp hs1' hp1' hs2' hp2' hs3' hp3' hs4' hp4' hm1 hm2 hir hkr hRW hXW v0 v1 v2 v3 v4
              generalize clash t.rts[i] t.rts[k] = cb at *
              generalize t.rts[i].secs.length = m1 at *
              generalize t.rts[i].pts.length = m2 at *
              generalize t.rts[k].secs.length = m3 at *
              generalize t.rts[k].pts.length = m4 at *
              generalize (refR t.rts[i]).secs.length = m5 at *
              generalize (refR t.rts[i]).pts.length = m6 at *
              generalize (refR t.rts[k]).secs.length = m7 at *
              generalize (refR t.rts[k]).pts.length = m8 at *
              clear hit hkt
              have HD : Hid (Below wr.heap.size wr wr.drew) := drewB wr
              have HX1 := hide (HCL.out wr.drew HD.out)
              have HY1 := hide (HCR.out wr.drew HD.out)
              go_wp2_with fail
              clear c0 c1 c2 c3 d0 d1 d2 d3 z0 z1 z2
              go_region_held3 (fun W => W.cell? ⟨w.heap.size, 2, none⟩ = some (.slice (some ⟨g, o, none⟩) n rc) ∧ W.cell? ⟨w1.heap.size, 2, none⟩ = some (.slice (some ⟨q, r, none⟩) n vc) ∧ W.cell? ⟨g, o + i * 2, none⟩ = some (.slice sa m1 sc) ∧ W.cell? ⟨g, o + i * 2 + 1, none⟩ = some (.slice pa m2 pc) ∧ W.cell? ⟨g, o + k * 2, none⟩ = some (.slice sb m3 sd) ∧ W.cell? ⟨g, o + k * 2 + 1, none⟩ = some (.slice pb m4 pd) ∧ W.cell? ⟨q, r + i * 2, none⟩ = some (.slice se m5 sf) ∧ W.cell? ⟨q, r + i * 2 + 1, none⟩ = some (.slice pe m6 pf) ∧ W.cell? ⟨q, r + k * 2, none⟩ = some (.slice sg m7 sh) ∧ W.cell? ⟨q, r + k * 2 + 1, none⟩ = some (.slice pg m8 ph)) ((refine HKR.out _ ?_; first | exact HB6.out | exact HB5.out | exact HD.out | exact Below.refl _ _)) ((first
                | (go_at_call 8; (with_reducible refine HX1.out.mono ?_); rintro e w5 ⟨rfl, hx5⟩; have HB5 : Hid (Below wr.heap.size wr w5) := then_ HD.out hx5; have HY2 := hide (HCR.out w5 HB5.out); clear hx5 HX1 HY1)
                | (go_at_call 9; (with_reducible refine HY2.out.mono ?_); rintro e w6 ⟨rfl, hx6⟩; have HB6 : Hid (Below wr.heap.size wr w6) := then_ HB5.out hx6; clear hx6)
                | (go_at_call 9; (with_reducible refine HY1.out.mono ?_); rintro e w5 ⟨rfl, hx5⟩; have HB5 : Hid (Below wr.heap.size wr w5) := then_ HD.out hx5; have HX2 := hide (HCL.out w5 HB5.out); clear hx5 HX1 HY1)
                | (go_at_call 8; (with_reducible refine HX2.out.mono ?_); rintro e w6 ⟨rfl, hx6⟩; have HB6 : Hid (Below wr.heap.size wr w6) := then_ HB5.out hx6; clear hx6)))
              all_goals
                have HBX := hide (then_ HBK.out HB6.out)
                have hcb : (cb != cb) = false := by cases cb <;> rfl
                go_wp2_with fail
                go_roundw
                case rel => exact ⟨k + 1, by omega, by go_num, HBX.out⟩
                case measure => simp [intOf]; omega
            · have hkn : k = n := by omega
              obtain rfl := hkn.symm
              go_wp2_with fail
              go_roundw
              case rel => exact ⟨i + 1, by omega, by go_num, HBK.out⟩
              case measure => simp [intOf]; omega
        · have hin : i = n := by omega
          obtain rfl := hin.symm
          have HD : Hid (Below wC.heap.size wC wr.drew) := drew_below HBI.out
          have HX1 := hide (HTX.out wr.drew HD.out)
          have HY1 := hide (HTT.out wr.drew HD.out)
          go_wp2_with fail
          go_region_held3 (fun W => W.cell? ⟨w.heap.size, 0, none⟩ = some (.int .i64 t.secs) ∧ W.cell? ⟨w.heap.size, 1, none⟩ = some (.int .i64 t.pts) ∧ W.cell? ⟨w.heap.size, 2, none⟩ = some (.slice ra n rc) ∧ W.cell? ⟨w1.heap.size, 0, none⟩ = some (.int .i64 t.secs) ∧ W.cell? ⟨w1.heap.size, 1, none⟩ = some (.int .i64 t.pts) ∧ W.cell? ⟨w1.heap.size, 2, none⟩ = some (.slice va n vc)) ((refine ⟨(HKT.out _ (then_ HBC.out ?_)).1, (HKT.out _ (then_ HBC.out ?_)).2.1, (HKT.out _ (then_ HBC.out ?_)).2.2, (HKC.out _ ?_).1, (HKC.out _ ?_).2.1, (HKC.out _ ?_).2.2.1⟩ <;> first | exact HB6.out | exact HB5.out | exact HD.out | exact HBI.out)) ((first
            | (go_at_call 10; (with_reducible refine HX1.out.mono ?_); rintro e w5 ⟨rfl, hx5⟩; have HB5 : Hid (Below wC.heap.size wC w5) := then_ HD.out hx5; have HY2 := hide (HTT.out w5 HB5.out); clear hx5 HX1 HY1)
            | (go_at_call 11; (with_reducible refine HY2.out.mono ?_); rintro e w6 ⟨rfl, hx6⟩; have HB6 : Hid (Below wC.heap.size wC w6) := then_ HB5.out hx6; clear hx6)
            | (go_at_call 11; (with_reducible refine HY1.out.mono ?_); rintro e w5 ⟨rfl, hx5⟩; have HB5 : Hid (Below wC.heap.size wC w5) := then_ HD.out hx5; have HX2 := hide (HTX.out w5 HB5.out); clear hx5 HX1 HY1)
            | (go_at_call 10; (with_reducible refine HX2.out.mono ?_); rintro e w6 ⟨rfl, hx6⟩; have HB6 : Hid (Below wC.heap.size wC w6) := then_ HB5.out hx6; clear hx6)))
          all_goals
            go_wp2_with fail
            go_ret
            exact ⟨by simp, then_ HB0.out (then_ HBC.out HB6.out)⟩
    · have hff : (f1 == 0) = false := by simpa using hf
      clear hf
      go_wp2_with fail
      go_ret
      exact ⟨rfl, then_ HB0.out (then_ HBC.out HB4.out)⟩
end Ro
end Go.Proofs.YtmniiclmimidjaaDoor
