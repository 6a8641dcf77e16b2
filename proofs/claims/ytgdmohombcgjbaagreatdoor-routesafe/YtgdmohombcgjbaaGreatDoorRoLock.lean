/-
  The walk of package route's locking.
-/
import Derived.Test.YtgdmohombcgjbaaGreatDoorRoLetGoAll
namespace Go.Proofs.YtgdmohombcgjbaaGreatDoor
namespace Ro
open Go.RowKit
/-- the rung that locks route i -/
def lockRg (t : Tbl) (i : Nat) : Rg := ⟨2, 108, i, 101, (bitV 97 i :: freeVs (rt t i)) ++ (clashing t i).map (notV 108)⟩
set_option maxHeartbeats 8000000 in
set_option maxRecDepth 100000 in
theorem locking_any (t : Tbl) (rv : Value) (w : World) (hr : Rts w rv t.rts) (hgd : Good t) :
    Calls Tryz.prog 12 #[.agg #[.int .i64 t.secs, .int .i64 t.pts, rv]] w fun e w' => ∃ v l, e = .returned v ∧ l.map (fun x => x.1) = (List.range t.rts.length).map (lockRg t) ∧ RR w.heap.size w' v l ∧ Below w.heap.size w w' := by
  obtain ⟨i0, hi0, hz0, hz1, hz2⟩ := info_parts Tryz.infoRung
  obtain ⟨ra, rc, rfl⟩ := hr.slice
  obtain ⟨n, hn⟩ : ∃ n, n = t.rts.length := ⟨_, rfl⟩
  obtain ⟨wA, hwA⟩ : ∃ wA, wA = w.alloc (.cells #[.int .i64 t.secs, .int .i64 t.pts, .slice ra n rc] 24) := ⟨_, rfl⟩
  have hbA : Below w.heap.size w wA := by rw [hwA]; exact newB _ _
  have HR := hide hr
  have HN := hide hn
  have hn3 : n ≤ 3 := by rw [hn]; exact hgd.few
  rw [← hn] at HR ⊢
  have HB0 := hide hbA
  have HW := hide hwA
  have HGD := hide hgd
  have HTA : Hid (∀ W, Below wA.heap.size wA W → W.cell? ⟨w.heap.size, 0, none⟩ = some (.int .i64 t.secs) ∧ W.cell? ⟨w.heap.size, 1, none⟩ = some (.int .i64 t.pts) ∧ W.cell? ⟨w.heap.size, 2, none⟩ = some (.slice ra n rc)) := fun W hW => by
    have rT : RowIs wA w.heap.size 24 [.int .i64 t.secs, .int .i64 t.pts, .slice ra n rc] := by rw [hwA]; exact RowIs.new _ _ _
    exact ⟨kept hW (rT.cell 0 _ rfl), kept hW (rT.cell 1 _ rfl), kept hW (rT.cell 2 _ rfl)⟩
  clear hwA hbA hr hn hgd
  go_enter Tryz.func12, Tryz.ntmps12
  go_wp2_with fail
  rw [← HW.out]
  clear HW
  go_loopw [12, 3] (fun iv s wr => ∃ (k : Nat) (l : List (Rg × Value)) (a : Option Addr) (c : Nat), k ≤ n ∧ iv = .int .i64 (k : Int) ∧ s = .slice a k c ∧ Hid (l.length = k) ∧ Hid (l.map (fun x => x.1) = (List.range k).map (lockRg t)) ∧ Hid (RR wA.heap.size wr (.slice a k c) l) ∧ Hid (Below wA.heap.size wA wr)) (fun iv _ _ => n - (intOf iv).toNat)
  case atStart => exact ⟨0, [], none, 0, Nat.zero_le _, rfl, rfl, rfl, rfl, RR.nil _ _, Below.refl _ _⟩
  case round =>
    obtain ⟨k, l, a, c, hk, rfl, rfl, HL, HM, HO, HB⟩ := hrel
    by_cases hlt : k < n
    · have hkl : k < t.rts.length := by rw [← HN.out]; exact hlt
      obtain ⟨g, o, sa, sc, pa, pc, rfl, c0, c1, hIs, hPs, _⟩ := ((HR.out.below HB0.out).below HB.out).cell k _ (rt_at t k hkl)
      have hki : (k : Int) < (n : Int) := by omega
      obtain ⟨wL, hwL⟩ : ∃ wL, wL = wr.alloc (.cells #[.slice sa (rt t k).secs.length sc, .slice pa (rt t k).pts.length pc] 54) := ⟨_, rfl⟩
      have hbL : Below wr.heap.size wr wL := by rw [hwL]; exact newB _ _
      have rL : RowIs wL wr.heap.size 54 [.slice sa (rt t k).secs.length sc, .slice pa (rt t k).pts.length pc] := by rw [hwL]; exact RowIs.new _ _ _
      have hmem := rt_mem t k hkl
      have hsl := HGD.out.ls _ hmem
      have HFR := hide (fun W (hW : Below wL.heap.size wL W) => free_any (rt t k) _ _ W ((hIs.below hbL).below hW) ((hPs.below hbL).below hW) (HGD.out.secs _ hmem) hsl)
      have HIN := hide (is_any 97 k (by omega))
      have HNM := hide (named_any 108 k (by omega))
      obtain ⟨nx, hnx⟩ := bitV_iface 97 k
      obtain ⟨us0, hus⟩ : ∃ us0, us0 = bitV 97 k :: freeVs (rt t k) := ⟨_, rfl⟩
      have HUL : Hid (us0.length = 1 + (rt t k).secs.length) := by show _ = _; rw [hus]; unfold freeVs; simp; omega
      have HU0 : Hid (us0 ≠ []) := by show us0 ≠ []; rw [hus]; simp
      have HUI : Hid (∀ u, u ∈ us0 → ∃ t x, u = .iface t x) := fun u hu => by
        rw [hus] at hu
        rcases List.mem_cons.1 hu with rfl | hu
        · exact ⟨_, _, rfl⟩
        · exact freeVs_iface _ u hu
      have HBL := hide hbL
      have hfl : (freeVs (rt t k)).length = (rt t k).secs.length := by unfold freeVs; simp
      /- the append of what is free behind the first part -/
      have HAP : Hid (∀ (W : World) (b : Nat) (fv : Value), wL.heap.size ≤ b → W.ownsRow wL.heap.size 34 1 (.slice (some ⟨b, 0, none⟩) 1 1) 1 [.iface 102 nx] → W.ownsRow wL.heap.size 34 1 fv (rt t k).secs.length (freeVs (rt t k)) → Below wL.heap.size wL W → ∃ g cap W', (Builtin.append_ #[51, 51] 51 #[.slice (some ⟨b, 0, none⟩) 1 1, fv]).run Tryz.prog W = .ok (.slice (some ⟨g, 0, none⟩) us0.length cap) W' ∧ W'.ownsRow wL.heap.size 34 1 (.slice (some ⟨g, 0, none⟩) us0.length cap) us0.length us0 ∧ Below wL.heap.size wL W') := fun W b fv hb1 h1 h2 hW => by
        have h2' : W.ownsRow wL.heap.size 34 1 fv (freeVs (rt t k)).length (freeVs (rt t k)) := by rw [hfl]; exact h2
        obtain ⟨v', W', r1, r2, r3⟩ := append_own2 wL.heap.size wL.heap.size 51 (.slice (some ⟨b, 0, none⟩) 1 1) fv [.iface 102 nx] (freeVs (rt t k)) h1 h2' (freeVs_one _) hW.size (by simp) (by omega)
        have e : [Value.iface 102 nx] ++ freeVs (rt t k) = us0 := by rw [hus, hnx]; rfl
        rw [e] at r2
        obtain ⟨_, g, cap, rfl, hg, hcap⟩ := vs_own r2 HU0.out (by rw [HUL.out]; omega) HUI.out
        refine ⟨g, cap, W', r1, r2, ?_⟩
        exact below_grown hW r3 (.inr ⟨b, rfl, hb1⟩)
      have f0 := rL.cell 0 _ rfl
      have f1 := rL.cell 1 _ rfl
      have HWL := hide hwL
      have HLE : Hid (lockRg t k = ⟨2, 108, k, 101, us0 ++ (clashing t k).map (notV 108)⟩) := by rw [hus]; rfl
      have HONEW : Hid (∀ (W : World), Below wL.heap.size wL W → (W.alloc (.cells #[.iface 102 nx] 34)).ownsRow wL.heap.size 34 1 (.slice (some ⟨W.heap.size, 0, none⟩) 1 1) 1 [.iface 102 nx]) := fun W hW => own_one W wL.heap.size 34 _ hW.size
      rw [hnx] at HIN
      clear hIs hPs hbL hwL rL hmem hfl hus hnx
      have HTC : Hid (∀ W, Below wL.heap.size wL W → W.cell? ⟨w.heap.size, 0, none⟩ = some (.int .i64 t.secs) ∧ W.cell? ⟨w.heap.size, 1, none⟩ = some (.int .i64 t.pts) ∧ W.cell? ⟨w.heap.size, 2, none⟩ = some (.slice (some ⟨g, o, none⟩) n rc)) := fun W hW => HTA.out W (then_ HB.out (then_ HBL.out hW))
      have HCC := hide (fun W (hW : Below wL.heap.size wL W) => clashing_any t _ k W ((HR.out.below HB0.out).below (then_ HB.out (then_ HBL.out hW))) hkl HGD.out.small)
      generalize freeVs (rt t k) = fus at *
      generalize (rt t k).secs.length = n1 at *
      generalize (rt t k).pts.length = n2 at *
      go_upto_region 5 with fail
      rw [← HWL.out]
      go_cut [6] from 17 to 22 (fun v wx => ∃ g cap, v = .slice (some ⟨g, 0, none⟩) us0.length cap ∧ Hid (wx.ownsRow wL.heap.size 34 1 (.slice (some ⟨g, 0, none⟩) us0.length cap) us0.length us0) ∧ Hid (Below wL.heap.size wL wx))
      case first =>
        have HD : Hid (Below wL.heap.size wL wL.drew) := drewB wL
        have HDB : Hid (∀ o, Below wL.heap.size wL (wL.drew.alloc o)) := fun o => HD.out.alloc (Nat.le_refl _) _
        have HDC : Hid (∀ o, Below wL.heap.size wL (wL.alloc o).drew) := fun o => HDB.out o
        have HKK : Hid (∀ W, Below wL.heap.size wL W → W.cell? ⟨wr.heap.size, 0, none⟩ = some (.slice sa n1 sc) ∧ W.cell? ⟨wr.heap.size, 1, none⟩ = some (.slice pa n2 pc)) := fun W hW => ⟨kept hW f0, kept hW f1⟩
        go_region_held3 (fun W => W.cell? ⟨wr.heap.size, 0, none⟩ = some (.slice sa n1 sc) ∧ W.cell? ⟨wr.heap.size, 1, none⟩ = some (.slice pa n2 pc)) ((refine HKK.out _ ?_; repeat (first | exact HB4.out | exact HB3.out | exact HD.out | exact Below.refl _ _ | refine drew_below ?_ | refine Below.alloc ?_ (by first | exact Nat.le_refl _ | exact HB3.out.size) _))) ((first
          | (refine step_append_run _ rfl (.tmp 19) (.tmp 21) 51 51 rfl _ _ rfl rfl _ _ HAPP.out ?_)
          | (go_at_call 17; refine (HIN.out _).mono ?_; rintro e w1 ⟨rfl, hw⟩; obtain rfl := hw.symm)
          | (go_at_call 35; (with_reducible refine (HFR.out _ HD.out).mono ?_); rintro e w3 ⟨fv, rfl, ho3, hb3⟩; obtain ⟨fa, fc, rfl⟩ := own_slice ho3; have hbb : Below wL.heap.size wL w3 := HD.out.trans hb3; have HB3 := hide hbb; obtain ⟨g4, cap4, w4, happ, ho4, hb4⟩ := HAP.out (w3.alloc (.cells #[.iface 102 nx] 34)) w3.heap.size _ hbb.size (HONEW.out w3 hbb) (own_below ho3 (newB _ _)) (then_ hbb (newB _ _)); have HAPP := hide happ; have HO4 := hide ho4; have HB4 := hide hb4; clear happ ho4 hb4 ho3 hb3 hbb)
          | (go_at_call 35; (with_reducible refine (HFR.out _ (HDB.out _)).mono ?_); rintro e w3 ⟨fv, rfl, ho3, hb3⟩; obtain ⟨fa, fc, rfl⟩ := own_slice ho3; have hbb : Below wL.heap.size wL w3 := (HDB.out _).trans (hb3.mono (by simp)); have HB3 := hide hbb; obtain ⟨g4, cap4, w4, happ, ho4, hb4⟩ := HAP.out w3 wL.heap.size _ (Nat.le_refl _) (own_below (HONEW.out wL.drew HD.out) hb3) (own_mono ho3 (by simp)) hbb; have HAPP := hide happ; have HO4 := hide ho4; have HB4 := hide hb4; clear happ ho4 hb4 ho3 hb3 hbb)
          | (go_at_call 35; (with_reducible refine (HFR.out _ (HDC.out _)).mono ?_); rintro e w3 ⟨fv, rfl, ho3, hb3⟩; obtain ⟨fa, fc, rfl⟩ := own_slice ho3; have hbb : Below wL.heap.size wL w3 := (HDC.out _).trans (hb3.mono (by simp)); have HB3 := hide hbb; obtain ⟨g4, cap4, w4, happ, ho4, hb4⟩ := HAP.out w3 wL.heap.size _ (Nat.le_refl _) (own_below (HONEW.out wL.drew HD.out) hb3) (own_mono ho3 (by simp)) hbb; have HAPP := hide happ; have HO4 := hide ho4; have HB4 := hide hb4; clear happ ho4 hb4 ho3 hb3 hbb)))
        all_goals
          go_wp2_with fail
          go_meet
          exact ⟨g4, cap4, rfl, HO4.out, HB4.out⟩
      case rest =>
        obtain ⟨g4, cap4, rfl, HO4, HB4⟩ := hcut
        obtain ⟨tc0, tc1, tc2⟩ := HTC.out wc HB4.out
        have HCW := hide (HCC.out wc HB4.out)
        have HCLN := hide (clashTo_len t k t.rts.length)
        have HISN := hide (fun (y : Nat) (hy : y < 4) W => isNot_any 108 y hy W)
        clear HFR HIN HONEW HAP HTC HCC
        go_wp2_with fail
        refine HCW.out.mono ?_
        rintro e w5 ⟨cv5, rfl, ho5, hb5⟩
        obtain ⟨ca, cc, rfl⟩ := own_slice ho5
        have hcl3 : (clashing t k).length ≤ 3 := by have := HCLN.out; have h3 := HGD.out.few; unfold clashing; omega
        have HCELL : Hid (∀ (j y : Nat), (clashing t k)[j]? = some y → ∃ gC, ca = some ⟨gC, 0, none⟩ ∧ wc.heap.size ≤ gC ∧ gC < w5.heap.size ∧ w5.cell? ⟨gC, j, none⟩ = some (.int .i64 (y : Int))) := fun j y hy => by
          rcases ho5.2 with ⟨_, h0⟩ | ⟨g', cap', cur, e1, e2, e3, _, _, _, e4⟩
          · rw [List.length_eq_zero_iff.1 h0] at hy; simp at hy
          · simp only [Value.slice.injEq] at e1
            exact ⟨g', e1.1, e2, (Array.getElem?_eq_some_iff.1 e3).1, row_cell e3 (by simpa using e4) (by rw [List.getElem?_map, hy]; rfl)⟩
        have HY4 : Hid (∀ (j y : Nat), (clashing t k)[j]? = some y → y < 4) := fun j y hy => by
          have hm := List.mem_of_getElem? hy
          unfold clashing clashTo at hm
          have := List.mem_range.1 (List.mem_filter.1 hm).1
          have h3 := HGD.out.few
          omega
        have HO5 : Hid (w5.ownsRow wL.heap.size 34 1 (.slice (some ⟨g4, 0, none⟩) us0.length cap4) us0.length us0) := own_below HO4.out hb5
        have HB5 : Hid (Below wL.heap.size wL w5) := then_ HB4.out hb5
        have hg4 : g4 < wc.heap.size := by
          rcases HO4.out.2 with ⟨h, _⟩ | ⟨g', cap', cur, e1, _, e3, _⟩
          · cases h
          · simp only [Value.slice.injEq, Option.some.injEq, Addr.mk.injEq, and_true] at e1
            rw [e1.1]
            exact (Array.getElem?_eq_some_iff.1 e3).1
        have HCELL0 : Hid (∀ (j y : Nat), (clashing t k)[j]? = some y → ∃ gC, ca = some ⟨gC, 0, none⟩ ∧ gC < w5.heap.size ∧ some gC ≠ (Value.slice (some ⟨g4, 0, none⟩) us0.length cap4).ownBlock ∧ w5.cell? ⟨gC, j, none⟩ = some (.int .i64 (y : Int))) := fun j y hy => by
          obtain ⟨gC, e1, e2, e3, e4⟩ := HCELL.out j y hy
          refine ⟨gC, e1, e3, ?_, e4⟩
          show some gC ≠ some g4
          intro e
          cases e
          omega
        obtain ⟨cs, hcs⟩ : ∃ cs, cs = (clashing t k) := ⟨_, rfl⟩
        have HUS := hide hcs
        rw [← hcs] at HCELL0 HY4 hcl3 HLE ⊢
        have hul0 : us0.length ≤ 101 := by rw [HUL.out]; omega
        obtain ⟨j0, hj0, hj1, hj2⟩ := info_parts Tryz.infoExpr
        clear ho5 hb5 HCW HCELL hg4 hcs tc0 tc1 tc2
        generalize hcsl : cs.length = cn at *
        have HCN := hide hcsl
        clear hcsl
        have HOJ0 : Hid (w5.ownsRow wL.heap.size 34 1 (.slice (some ⟨g4, 0, none⟩) us0.length cap4) us0.length (us0 ++ (cs.take 0).map (notV 108))) := by show World.ownsRow _ _ _ _ _ _ _; simpa using HO5.out
        obtain ⟨wO, rfl⟩ : ∃ wO, wO = wr := ⟨_, rfl⟩
        go_wp2_with fail
        go_loopw [27, 6] (fun iv s wx => ∃ (j m : Nat) (a1 : Addr) (c1 : Nat), j ≤ cn ∧ iv = .int .i64 (j : Int) ∧ s = .slice (some a1) m c1 ∧ m ≤ 101 + j ∧ Hid (m = (us0 ++ (cs.take j).map (notV 108)).length) ∧ Hid (wx.ownsRow wL.heap.size 34 1 (.slice (some a1) m c1) m (us0 ++ (cs.take j).map (notV 108))) ∧ Hid (Below wL.heap.size wL wx) ∧ Hid (∀ (j y : Nat), cs[j]? = some y → ∃ gC, ca = some ⟨gC, 0, none⟩ ∧ gC < wx.heap.size ∧ some gC ≠ (Value.slice (some a1) m c1).ownBlock ∧ wx.cell? ⟨gC, j, none⟩ = some (.int .i64 (y : Int)))) (fun iv _ _ => cn - (intOf iv).toNat)
        case atStart => exact ⟨0, us0.length, ⟨g4, 0, none⟩, cap4, Nat.zero_le _, rfl, rfl, by omega, by simp [Hid], HOJ0.out, HB5.out, HCELL0.out⟩
        case round =>
          obtain ⟨j, m, a1, c1, hj, rfl, rfl, hm110, HMM0, HOJ, HBJ, HCJ⟩ := hrel
          by_cases hjlt : j < cn
          · have hjl : j < cs.length := by rw [HCN.out]; exact hjlt
            obtain ⟨gC, rfl, hgC, hgne, cj⟩ := HCJ.out j cs[j] (List.getElem?_eq_getElem hjl)
            have hy4 := HY4.out j cs[j] (List.getElem?_eq_getElem hjl)
            have HTJ : Hid (us0 ++ (cs.take (j + 1)).map (notV 108) = (us0 ++ (cs.take j).map (notV 108)) ++ [notV 108 cs[j]]) := by
              show _ = _
              rw [List.take_succ_eq_append_getElem hjl, List.map_append, ← List.append_assoc]
              rfl
            have hji : (j : Int) < (cn : Int) := by omega
            have HCI := hide (HISN.out cs[j] hy4 wr)
            obtain ⟨yx, hyx⟩ := notV_iface 108 cs[j]
            rw [hyx] at HTJ HCI
            have HMJ : Hid (m + 1 = (us0 ++ (cs.take (j + 1)).map (notV 108)).length) := by show _ = _; rw [HTJ.out, List.length_append, ← HMM0.out]; rfl
            have HOWN : Hid (∀ o, (wr.alloc o).ownsRow wL.heap.size 34 1 (.slice (some a1) m c1) m (us0 ++ (cs.take j).map (notV 108))) := fun o => own_below HOJ.out (newB _ _)
            have HONE : Hid (∀ u ∈ [Value.iface 59 yx], u.oneCell' = true) := fun u hu => by obtain rfl := List.mem_singleton.1 hu; rfl
            have HBN : Hid (∀ (o : Obj) (wC : World), (wr.alloc o).grownBy wC (Value.slice (some a1) m c1).ownBlock → Below wL.heap.size wL wC) := fun o wC hg => below_grown (then_ HBJ.out (newB _ _)) hg (ownBlock_new HOJ.out)
            have HCN2 : Hid (∀ (o : Obj) (wC : World) (g2 cap2 : Nat), (wr.alloc o).grownBy wC (Value.slice (some a1) m c1).ownBlock → ((Value.slice (some a1) m c1).ownBlock = some g2 ∨ g2 = wr.heap.size + 1) → ∀ (j y : Nat), cs[j]? = some y → ∃ gC', (some ⟨gC, 0, none⟩ : Option Addr) = some ⟨gC', 0, none⟩ ∧ gC' < wC.heap.size ∧ some gC' ≠ (Value.slice (some ⟨g2, 0, none⟩) (m + 1) cap2).ownBlock ∧ wC.cell? ⟨gC', j, none⟩ = some (.int .i64 (y : Int))) := fun o wC g2 cap2 hg hat j y hy => by
              obtain ⟨gC', e1, e2, e3, e4⟩ := HCJ.out j y hy
              have hgs := hg.size
              rw [World.size_alloc] at hgs
              refine ⟨gC', e1, by omega, ?_, hg.cell (cell_alloc_keep _ _ _ _ e4) e3⟩
              show some gC' ≠ some g2
              intro e
              cases e
              rcases hat with h1 | h1
              · exact e3 h1.symm
              · omega
            have hle : wL.heap.size ≤ wr.heap.size := HBJ.out.size
            clear hyx hy4 hgne
            generalize cs[j] = y at *
            go_wp2_with (first
              | (at_builtin; refine wpList_append_lies _ rfl (.tmp 31) (.tmp 34) 51 rfl wL.heap.size 34 j0 _ 1 16 Tryz.underlying51 hj0 hj1 hj2.1 hj2.2 rfl (by decide) (.slice (some a1) m c1) m (us0 ++ (cs.take j).map (notV 108)) rfl (HOWN.out _) ⟨wr.heap.size, 0, none⟩ 1 1 [.iface 59 yx] rfl rfl (World.news_of_block (heap_alloc_new wr _)) HONE.out (by decide) (by unfold maxLen; omega) (by omega) (by simp; omega) (wr.heap.size + 1) (by simp) ?_; intro g2 cap2 wC hown hgrow hat hltg; have HOC := hide hown; have HBC := hide (HBN.out _ wC hgrow); have HCC2 := hide (HCN2.out _ wC g2 cap2 hgrow hat); clear hown hgrow hat)
              | (go_at_call 34; refine HCI.out.mono ?_; rintro e w6 ⟨rfl, hw⟩; obtain rfl := hw.symm))
            go_roundw
            case rel => exact ⟨j + 1, m + 1, ⟨g2, 0, none⟩, cap2, by omega, by go_num, rfl, by omega, HMJ.out, by rw [HTJ.out]; exact HOC.out, HBC.out, HCC2.out⟩
            case measure => simp [intOf]; omega
          · have hjn : j = cn := by omega
            obtain ⟨us, hus⟩ : ∃ us, us = us0 ++ cs.map (notV 108) := ⟨_, rfl⟩
            have hjt : cs.take j = cs := List.take_of_length_le (by rw [HCN.out]; omega)
            have hmu : m = us.length := by rw [hus, HMM0.out, hjt]
            have HOU : Hid (wr.ownsRow wL.heap.size 34 1 (.slice (some a1) us.length c1) us.length us) := by
              have h := HOJ.out
              rw [hjt, ← hus, hmu] at h
              exact h
            have HU0' : Hid (us ≠ []) := by
              show us ≠ []
              rw [hus]
              intro e
              exact HU0.out (List.append_eq_nil_iff.1 e).1
            have HUI' : Hid (∀ u, u ∈ us → ∃ t x, u = .iface t x) := fun u hu => by
              rw [hus] at hu
              rcases List.mem_append.1 hu with hu | hu
              · exact HUI.out u hu
              · obtain ⟨y, _, rfl⟩ := List.mem_map.1 hu
                exact ⟨_, _, rfl⟩
            have hul : us.length ≤ 1000 := by omega
            have HLE' : Hid (lockRg t k = ⟨2, 108, k, 101, us⟩) := by show _ = _; rw [HLE.out, hus]
            rw [hmu]
            clear hmu hjt hus
            subst hjn
            have HAL := hide (all_any us _ wr (vs_own HOU.out HU0'.out hul HUI'.out).1 HU0'.out)
            have HCD := hide (cond_all HOU.out HU0'.out hul HUI'.out)
            obtain ⟨cv, hcv⟩ : ∃ cv, cv = allV (.slice (some a1) us.length c1) us := ⟨_, rfl⟩
            rw [← hcv] at HAL HCD
            obtain ⟨ct, cx, hct⟩ := HCD.out.iface
            obtain ⟨nb, hnb⟩ : ∃ nb, nmV 108 k = .string nb := ⟨_, rfl⟩
            have HNW := hide (HNM.out wr)
            obtain ⟨x, hx⟩ : ∃ x : Rg × Value, x = (⟨2, 108, k, 101, us⟩, cv) := ⟨_, rfl⟩
            have hx3 : rg3 x = [.int .i64 2, .string nb, .iface ct cx] := by
              unfold rg3
              rw [hx]
              show [Value.int .i64 2, nmV 108 k, cv] = _
              rw [hnb, hct]
            have HX3 := hide hx3
            have HBC : Hid (Below wO.heap.size wO wr) := then_ HBL.out HBJ.out
            have HCX : Hid (CondV (fun b => wO.heap.size ≤ b) wr x.1.ty x.1.us x.2) := by
              rw [hx]
              exact HCD.out.stay (fun _ _ _ _ hc => hc) fun _ hg => Nat.le_trans HBL.out.size hg
            have HX1 : Hid (x.1 = lockRg t k) := by show _ = _; rw [HLE'.out, hx]
            have HONE : Hid (∀ u ∈ [Value.int .i64 2, .string nb, .iface ct cx], u.oneCell' = true) := by
              have h := rg3_one (x := x) ⟨ct, cx, by rw [hx]; exact hct⟩
              rw [hx3] at h
              exact h
            have hqw : wA.heap.size ≤ wO.heap.size := HB.out.size
            have HFIN : Hid (∀ (g2 cap2 : Nat) (wC : World), wC.ownsRow wA.heap.size 48 3 (.slice (some ⟨g2, 0, none⟩) (k + 1) cap2) (k + 1) (fl l ++ [.int .i64 2, .string nb, .iface ct cx]) → (wr.alloc (.cells #[.int .i64 2, .string nb, .iface ct cx] 48)).grownBy wC (Value.slice a k c).ownBlock → ((Value.slice a k c).ownBlock = some g2 ∨ g2 = wr.heap.size + 1) → RR wA.heap.size wC (.slice (some ⟨g2, 0, none⟩) (k + 1) cap2) (l ++ [x]) ∧ Below wA.heap.size wA wC) := fun g2 cap2 wC ho hg hat => by
              have hl := HL.out
              have h := RR.push (x := x) (g := g2) (cap := cap2) (o := .cells #[.int .i64 2, .string nb, .iface ct cx] 48) HO.out hqw HBC.out HCX.out (by rw [hl, HX3.out]; exact ho) hg hat
              rw [hl] at h
              exact ⟨h, below_grown (then_ (then_ HB.out HBC.out) (newB _ _)) hg (ownBlock_new HO.out.1)⟩
            have HOWN : Hid (∀ o, (wr.alloc o).ownsRow wA.heap.size 48 3 (.slice a k c) k (fl l)) := fun o => by
              have h := own_below (own_below HO.out.1 HBC.out) (newB wr o)
              rw [HL.out] at h
              exact h
            have HLL : Hid ((l ++ [x]).length = k + 1) := by show _ = _; rw [List.length_append, HL.out]; rfl
            have HMM : Hid ((l ++ [x]).map (fun x => x.1) = (List.range (k + 1)).map (lockRg t)) := by
              show _ = _
              rw [List.map_append, HM.out, List.range_succ, List.map_append]
              show _ ++ [x.1] = _ ++ [lockRg t k]
              rw [HX1.out]
            have HNEW : Hid ((wr.alloc (.cells #[.int .i64 2, .string nb, .iface ct cx] 48)).heap[wr.heap.size]? = some (.cells #[.int .i64 2, .string nb, .iface ct cx] 48 (0, 0))) := heap_alloc_new _ _
            have hle : wA.heap.size ≤ wr.heap.size := Nat.le_trans hqw HBC.out.size
            rw [hnb] at HNW
            rw [hct] at HAL
            clear hx3 hx hcv hct hnb HCD HNM
            generalize us.length = un at *
            go_wp2_with (first
              | (at_builtin; refine wpList_append_lies _ rfl (.tmp 37) (.tmp 43) 26 rfl wA.heap.size 48 i0 _ 3 40 Tryz.underlying26 hi0 hz0 hz1 hz2 rfl (by decide) (.slice a k c) k (fl l) rfl (HOWN.out _) ⟨wr.heap.size, 0, none⟩ 1 1 [.int .i64 2, .string nb, .iface ct cx] rfl rfl (World.news_of_block HNEW.out) HONE.out (by decide) (by unfold maxLen; omega) (by omega) (by simp; omega) (wr.heap.size + 1) (by simp) ?_; intro g2 cap2 wC hown hgrow hat hltg; obtain ⟨hrr, hbn⟩ := HFIN.out g2 cap2 wC hown hgrow hat; have HRR := hide hrr; have HBN := hide hbn; clear hown hgrow hat hrr hbn)
              | (go_at_call 36; refine HNW.out.mono ?_; rintro e w6 ⟨rfl, hw⟩; obtain rfl := hw.symm)
              | (go_at_call 16; refine HAL.out.mono ?_; rintro e w6 ⟨rfl, hw⟩; obtain rfl := hw.symm))
            go_roundw
            case rel => exact ⟨k + 1, l ++ [x], some ⟨g2, 0, none⟩, cap2, by omega, by go_num, rfl, HLL.out, HMM.out, HRR.out, HBN.out⟩
            case measure => simp [intOf]; omega
    · have hkn : k = n := by omega
      have HRS : Hid (RR w.heap.size wr (.slice a k c) l) := ⟨own_mono HO.out.1 HB0.out.size, fun x hx => (HO.out.2 x hx).stay (fun _ _ _ _ hc => hc) fun b hb => ⟨⟨Nat.le_trans HB0.out.size hb.1.1, hb.1.2⟩, hb.2⟩⟩
      have HBX := hide (then_ HB0.out HB.out)
      have HMX : Hid (l.map (fun x => x.1) = (List.range n).map (lockRg t)) := by rw [← hkn]; exact HM.out
      subst hkn
      go_wp2_with fail
      go_ret
      exact ⟨_, l, rfl, HMX.out, HRS.out, HBX.out⟩
end Ro
end Go.Proofs.YtgdmohombcgjbaaGreatDoor
