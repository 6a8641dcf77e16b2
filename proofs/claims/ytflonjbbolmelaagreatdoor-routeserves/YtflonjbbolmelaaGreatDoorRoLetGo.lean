/-
  The walk of package route's lettingGo.
-/
import Derived.Test.YtflonjbbolmelaaGreatDoorRoRowsAll
import Derived.Deep.CutRange
namespace Go.Proofs.YtflonjbbolmelaaGreatDoor
namespace Ro
open Go.RowKit
/-- the rung that lets route i go -/
def letRg (t : Tbl) (i : Nat) : Rg := ⟨3, 108, i, 106, notV 97 i :: freeVs (rt t i)⟩
theorem freeVs_one (r : Rt) : ∀ u, u ∈ freeVs r → u.oneCell' = true := fun u hu => by
  obtain ⟨s, _, rfl⟩ := List.mem_map.1 hu
  rfl
theorem freeVs_iface (r : Rt) : ∀ u, u ∈ freeVs r → ∃ t x, u = .iface t x := fun u hu => by
  obtain ⟨s, _, rfl⟩ := List.mem_map.1 hu
  exact ⟨_, _, rfl⟩
/-- tables of which all numbers are there -/
structure Good (t : Tbl) : Prop where
  few : t.rts.length ≤ 3
  secs : ∀ r, r ∈ t.rts → ∀ s, s ∈ r.secs → 0 ≤ s ∧ s < 4
  some : ∀ r, r ∈ t.rts → r.secs ≠ []
  ls : ∀ r, r ∈ t.rts → r.secs.length ≤ 100
  lp : ∀ r, r ∈ t.rts → r.pts.length ≤ 100
theorem Good.small {t : Tbl} (h : Good t) : SmallR t := ⟨h.few, fun r hr => ⟨h.ls r hr, h.lp r hr⟩⟩
theorem rt_mem (t : Tbl) (i : Nat) (h : i < t.rts.length) : rt t i ∈ t.rts := List.mem_of_getElem? (rt_at t i h)
/-- parts in an own row, as 'all' takes them -/
theorem vs_own {W : World} {base : Nat} {v : Value} {us : List Value} (h : W.ownsRow base 50 1 v us.length us) (h0 : us ≠ []) (hl : us.length ≤ 1000) (hi : ∀ u, u ∈ us → ∃ t x, u = .iface t x) : Vs W v us ∧ ∃ g cap, v = .slice (some ⟨g, 0, none⟩) us.length cap ∧ base ≤ g ∧ us.length ≤ cap := by
  rcases h.2 with ⟨_, h1⟩ | ⟨g, cap, cur, rfl, hg, hcur, hcap, _, _, htk⟩
  · exact absurd (List.length_eq_zero_iff.1 h1) h0
  · exact ⟨⟨g, cap, rfl, hcap, hl, fun k u hu => ⟨row_cell hcur (by simpa using htk) hu, hi u (List.mem_of_getElem? hu)⟩⟩, g, cap, rfl, hg, hcap⟩
/-- what 'all' makes of them -/
theorem cond_all {W : World} {base : Nat} {v : Value} {us : List Value} (h : W.ownsRow base 50 1 v us.length us) (h0 : us ≠ []) (hl : us.length ≤ 1000) (hi : ∀ u, u ∈ us → ∃ t x, u = .iface t x) : CondV (fun g => base ≤ g) W 106 us (allV v us) := by
  obtain ⟨⟨g', c', e', hc', _, hx⟩, g, cap, rfl, hg, hcap⟩ := vs_own h h0 hl hi
  match us, h0, hi, hx, e', hcap, hl with
  | [u], _, hi, _, _, _, _ =>
    obtain ⟨t, x, e⟩ := hi u (List.mem_singleton.2 rfl)
    exact .inl ⟨t, x, rfl, e⟩
  | u :: u2 :: r, _, _, hx, e', hcap, hl =>
    simp only [Value.slice.injEq, Option.some.injEq, Addr.mk.injEq, and_true, true_and] at e'
    obtain ⟨rfl, rfl⟩ := e'
    exact .inr ⟨by simp, hl, g, cap, rfl, hcap, hg, fun k u hu => (hx k u hu).1⟩
theorem cond_some {W : World} {base : Nat} {v : Value} {us : List Value} (h : W.ownsRow base 50 1 v us.length us) (h0 : us ≠ []) (hl : us.length ≤ 1000) (hi : ∀ u, u ∈ us → ∃ t x, u = .iface t x) : CondV (fun g => base ≤ g) W 108 us (someV v us) := by
  obtain ⟨⟨g', c', e', hc', _, hx⟩, g, cap, rfl, hg, hcap⟩ := vs_own h h0 hl hi
  match us, h0, hi, hx, e', hcap, hl with
  | [u], _, hi, _, _, _, _ =>
    obtain ⟨t, x, e⟩ := hi u (List.mem_singleton.2 rfl)
    exact .inl ⟨t, x, rfl, e⟩
  | u :: u2 :: r, _, _, hx, e', hcap, hl =>
    simp only [Value.slice.injEq, Option.some.injEq, Addr.mk.injEq, and_true, true_and] at e'
    obtain ⟨rfl, rfl⟩ := e'
    exact .inr ⟨by simp, hl, g, cap, rfl, hcap, hg, fun k u hu => (hx k u hu).1⟩
theorem rg3_one {x : Rg × Value} (h : ∃ t y, x.2 = .iface t y) : ∀ u ∈ rg3 x, u.oneCell' = true := fun u hu => by
  obtain ⟨t, y, e⟩ := h
  unfold rg3 nmV at hu
  rw [e] at hu
  simp only [List.mem_cons, List.not_mem_nil, or_false] at hu
  rcases hu with rfl | rfl | rfl <;> rfl
set_option maxHeartbeats 8000000 in
set_option maxRecDepth 100000 in
theorem lettingGo_any (t : Tbl) (rv : Value) (w : World) (hr : Rts w rv t.rts) (hgd : Good t) :
    Calls Tryz.prog 13 #[.agg #[.int .i64 t.secs, .int .i64 t.pts, rv]] w fun e w' => ∃ v l, e = .returned v ∧ l.map (fun x => x.1) = (List.range t.rts.length).map (letRg t) ∧ RR w.heap.size w' v l ∧ Below w.heap.size w w' := by
  obtain ⟨i0, hi0, hz0, hz1, hz2⟩ := info_parts Tryz.infoRung
  obtain ⟨ra, rc, rfl⟩ := hr.slice
  obtain ⟨n, hn⟩ : ∃ n, n = t.rts.length := ⟨_, rfl⟩
  obtain ⟨wA, hwA⟩ : ∃ wA, wA = w.alloc (.cells #[.int .i64 t.secs, .int .i64 t.pts, .slice ra n rc] 24) := ⟨_, rfl⟩
  have hbA : Below w.heap.size w wA := by rw [hwA]; exact newB _ _
  have HR := hide hr
  have HN := hide hn
  have hn3 : n ≤ 3 := by rw [hn]; exact hgd.few
  rw [← hn] at HR ⊢
  have HB0 := hide hbA
  have HW := hide hwA
  have HGD := hide hgd
  clear hwA hbA hr hn hgd
  go_enter Tryz.func13, Tryz.ntmps13
  go_wp2_with fail
  rw [← HW.out]
  clear HW
  go_loopw [10, 3] (fun iv s wr => ∃ (k : Nat) (l : List (Rg × Value)) (a : Option Addr) (c : Nat), k ≤ n ∧ iv = .int .i64 (k : Int) ∧ s = .slice a k c ∧ Hid (l.length = k) ∧ Hid (l.map (fun x => x.1) = (List.range k).map (letRg t)) ∧ Hid (RR wA.heap.size wr (.slice a k c) l) ∧ Hid (Below wA.heap.size wA wr)) (fun iv _ _ => n - (intOf iv).toNat)
  case atStart => exact ⟨0, [], none, 0, Nat.zero_le _, rfl, rfl, rfl, rfl, RR.nil _ _, Below.refl _ _⟩
  case round =>
    obtain ⟨k, l, a, c, hk, rfl, rfl, HL, HM, HO, HB⟩ := hrel
    by_cases hlt : k < n
    · have hkl : k < t.rts.length := by rw [← HN.out]; exact hlt
      obtain ⟨g, o, sa, sc, pa, pc, rfl, c0, c1, hIs, hPs, _⟩ := ((HR.out.below HB0.out).below HB.out).cell k _ (rt_at t k hkl)
      have hki : (k : Int) < (n : Int) := by omega
      obtain ⟨wL, hwL⟩ : ∃ wL, wL = wr.alloc (.cells #[.slice sa (rt t k).secs.length sc, .slice pa (rt t k).pts.length pc] 57) := ⟨_, rfl⟩
      have hbL : Below wr.heap.size wr wL := by rw [hwL]; exact newB _ _
      have rL : RowIs wL wr.heap.size 57 [.slice sa (rt t k).secs.length sc, .slice pa (rt t k).pts.length pc] := by rw [hwL]; exact RowIs.new _ _ _
      have hmem := rt_mem t k hkl
      have hsl := HGD.out.ls _ hmem
      have HFR := hide (fun W (hW : Below wL.heap.size wL W) => free_any (rt t k) _ _ W ((hIs.below hbL).below hW) ((hPs.below hbL).below hW) (HGD.out.secs _ hmem) hsl)
      have HIN := hide (isNot_any 97 k (by omega))
      have HNM := hide (named_any 108 k (by omega))
      obtain ⟨nx, hnx⟩ := notV_iface 97 k
      obtain ⟨us, hus⟩ : ∃ us, us = notV 97 k :: freeVs (rt t k) := ⟨_, rfl⟩
      have HUL : Hid (us.length = 1 + (rt t k).secs.length) := by show _ = _; rw [hus]; unfold freeVs; simp; omega
      have HU0 : Hid (us ≠ []) := by show us ≠ []; rw [hus]; simp
      have HUI : Hid (∀ u, u ∈ us → ∃ t x, u = .iface t x) := fun u hu => by
        rw [hus] at hu
        rcases List.mem_cons.1 hu with rfl | hu
        · exact ⟨_, _, rfl⟩
        · exact freeVs_iface _ u hu
      have HBL := hide hbL
      have hfl : (freeVs (rt t k)).length = (rt t k).secs.length := by unfold freeVs; simp
      /- the append of what is free behind the first part -/
      have HAP : Hid (∀ (W : World) (b : Nat) (fv : Value), wL.heap.size ≤ b → W.ownsRow wL.heap.size 50 1 (.slice (some ⟨b, 0, none⟩) 1 1) 1 [.iface 103 nx] → W.ownsRow wL.heap.size 50 1 fv (rt t k).secs.length (freeVs (rt t k)) → Below wL.heap.size wL W → ∃ g cap W', (Builtin.append_ #[77, 77] 77 #[.slice (some ⟨b, 0, none⟩) 1 1, fv]).run Tryz.prog W = .ok (.slice (some ⟨g, 0, none⟩) us.length cap) W' ∧ W'.ownsRow wL.heap.size 50 1 (.slice (some ⟨g, 0, none⟩) us.length cap) us.length us ∧ Below wL.heap.size wL W') := fun W b fv hb1 h1 h2 hW => by
        have h2' : W.ownsRow wL.heap.size 50 1 fv (freeVs (rt t k)).length (freeVs (rt t k)) := by rw [hfl]; exact h2
        obtain ⟨v', W', r1, r2, r3⟩ := append_own2 wL.heap.size wL.heap.size 77 (.slice (some ⟨b, 0, none⟩) 1 1) fv [.iface 103 nx] (freeVs (rt t k)) h1 h2' (freeVs_one _) hW.size (by simp) (by omega)
        have e : [Value.iface 103 nx] ++ freeVs (rt t k) = us := by rw [hus, hnx]; rfl
        rw [e] at r2
        obtain ⟨_, g, cap, rfl, hg, hcap⟩ := vs_own r2 HU0.out (by rw [HUL.out]; omega) HUI.out
        refine ⟨g, cap, W', r1, r2, ?_⟩
        exact below_grown hW r3 (.inr ⟨b, rfl, hb1⟩)
      have f0 := rL.cell 0 _ rfl
      have f1 := rL.cell 1 _ rfl
      have HWL := hide hwL
      have HLE : Hid (letRg t k = ⟨3, 108, k, 106, us⟩) := by rw [hus]; rfl
      have HONEW : Hid (∀ (W : World), Below wL.heap.size wL W → (W.alloc (.cells #[.iface 103 nx] 50)).ownsRow wL.heap.size 50 1 (.slice (some ⟨W.heap.size, 0, none⟩) 1 1) 1 [.iface 103 nx]) := fun W hW => own_one W wL.heap.size 50 _ hW.size
      rw [hnx] at HIN
      clear hIs hPs hbL hwL rL hmem hfl hus hnx
      generalize freeVs (rt t k) = fus at *
      generalize (rt t k).secs.length = n1 at *
      generalize (rt t k).pts.length = n2 at *
      go_upto_region 5 with fail
      rw [← HWL.out]
      go_cut [6] from 15 to 20 (fun v wx => ∃ g cap, v = .slice (some ⟨g, 0, none⟩) us.length cap ∧ Hid (wx.ownsRow wL.heap.size 50 1 (.slice (some ⟨g, 0, none⟩) us.length cap) us.length us) ∧ Hid (Below wL.heap.size wL wx))
      case first =>
        have HD : Hid (Below wL.heap.size wL wL.drew) := drewB wL
        have HDB : Hid (∀ o, Below wL.heap.size wL (wL.drew.alloc o)) := fun o => HD.out.alloc (Nat.le_refl _) _
        have HDC : Hid (∀ o, Below wL.heap.size wL (wL.alloc o).drew) := fun o => HDB.out o
        have HKK : Hid (∀ W, Below wL.heap.size wL W → W.cell? ⟨wr.heap.size, 0, none⟩ = some (.slice sa n1 sc) ∧ W.cell? ⟨wr.heap.size, 1, none⟩ = some (.slice pa n2 pc)) := fun W hW => ⟨kept hW f0, kept hW f1⟩
        go_region_held3 (fun W => W.cell? ⟨wr.heap.size, 0, none⟩ = some (.slice sa n1 sc) ∧ W.cell? ⟨wr.heap.size, 1, none⟩ = some (.slice pa n2 pc)) ((refine HKK.out _ ?_; repeat (first | exact HB4.out | exact HB3.out | exact HD.out | exact Below.refl _ _ | refine drew_below ?_ | refine Below.alloc ?_ (by first | exact Nat.le_refl _ | exact HB3.out.size) _))) ((first
          | (refine step_append_run _ rfl (.tmp 17) (.tmp 19) 77 77 rfl _ _ rfl rfl _ _ HAPP.out ?_)
          | (go_at_call 28; refine (HIN.out _).mono ?_; rintro e w1 ⟨rfl, hw⟩; obtain rfl := hw.symm)
          | (go_at_call 29; (with_reducible refine (HFR.out _ HD.out).mono ?_); rintro e w3 ⟨fv, rfl, ho3, hb3⟩; obtain ⟨fa, fc, rfl⟩ := own_slice ho3; have hbb : Below wL.heap.size wL w3 := HD.out.trans hb3; have HB3 := hide hbb; obtain ⟨g4, cap4, w4, happ, ho4, hb4⟩ := HAP.out (w3.alloc (.cells #[.iface 103 nx] 50)) w3.heap.size _ hbb.size (HONEW.out w3 hbb) (own_below ho3 (newB _ _)) (then_ hbb (newB _ _)); have HAPP := hide happ; have HO4 := hide ho4; have HB4 := hide hb4; clear happ ho4 hb4 ho3 hb3 hbb)
          | (go_at_call 29; (with_reducible refine (HFR.out _ (HDB.out _)).mono ?_); rintro e w3 ⟨fv, rfl, ho3, hb3⟩; obtain ⟨fa, fc, rfl⟩ := own_slice ho3; have hbb : Below wL.heap.size wL w3 := (HDB.out _).trans (hb3.mono (by simp)); have HB3 := hide hbb; obtain ⟨g4, cap4, w4, happ, ho4, hb4⟩ := HAP.out w3 wL.heap.size _ (Nat.le_refl _) (own_below (HONEW.out wL.drew HD.out) hb3) (own_mono ho3 (by simp)) hbb; have HAPP := hide happ; have HO4 := hide ho4; have HB4 := hide hb4; clear happ ho4 hb4 ho3 hb3 hbb)
          | (go_at_call 29; (with_reducible refine (HFR.out _ (HDC.out _)).mono ?_); rintro e w3 ⟨fv, rfl, ho3, hb3⟩; obtain ⟨fa, fc, rfl⟩ := own_slice ho3; have hbb : Below wL.heap.size wL w3 := (HDC.out _).trans (hb3.mono (by simp)); have HB3 := hide hbb; obtain ⟨g4, cap4, w4, happ, ho4, hb4⟩ := HAP.out w3 wL.heap.size _ (Nat.le_refl _) (own_below (HONEW.out wL.drew HD.out) hb3) (own_mono ho3 (by simp)) hbb; have HAPP := hide happ; have HO4 := hide ho4; have HB4 := hide hb4; clear happ ho4 hb4 ho3 hb3 hbb)))
        all_goals
          go_wp2_with fail
          go_meet
          exact ⟨g4, cap4, rfl, HO4.out, HB4.out⟩
      case rest =>
        obtain ⟨g4, cap4, rfl, HO4, HB4⟩ := hcut
        have hul : us.length ≤ 1000 := by rw [HUL.out]; omega
        have HAL := hide (all_any us _ wc (vs_own HO4.out HU0.out hul HUI.out).1 HU0.out)
        have HCD := hide (cond_all HO4.out HU0.out hul HUI.out)
        obtain ⟨cv, hcv⟩ : ∃ cv, cv = allV (.slice (some ⟨g4, 0, none⟩) us.length cap4) us := ⟨_, rfl⟩
        rw [← hcv] at HAL HCD
        obtain ⟨ct, cx, hct⟩ := HCD.out.iface
        obtain ⟨nb, hnb⟩ : ∃ nb, nmV 108 k = .string nb := ⟨_, rfl⟩
        have HNW := hide (HNM.out wc)
        obtain ⟨x, hx⟩ : ∃ x : Rg × Value, x = (⟨3, 108, k, 106, us⟩, cv) := ⟨_, rfl⟩
        have hx3 : rg3 x = [.int .i64 3, .string nb, .iface ct cx] := by
          unfold rg3
          rw [hx]
          show [Value.int .i64 3, nmV 108 k, cv] = _
          rw [hnb, hct]
        have HX3 := hide hx3
        have HBC : Hid (Below wr.heap.size wr wc) := then_ HBL.out HB4.out
        have HCX : Hid (CondV (fun b => wr.heap.size ≤ b) wc x.1.ty x.1.us x.2) := by
          rw [hx]
          exact HCD.out.stay (fun _ _ _ _ hc => hc) fun _ hg => Nat.le_trans HBL.out.size hg
        have HX1 : Hid (x.1 = letRg t k) := by show _ = _; rw [HLE.out, hx]
        have HONE : Hid (∀ u ∈ [Value.int .i64 3, .string nb, .iface ct cx], u.oneCell' = true) := by
          have h := rg3_one (x := x) ⟨ct, cx, by rw [hx]; exact hct⟩
          rw [hx3] at h
          exact h
        have hqw : wA.heap.size ≤ wr.heap.size := HB.out.size
        have HFIN : Hid (∀ (g2 cap2 : Nat) (wC : World), wC.ownsRow wA.heap.size 52 3 (.slice (some ⟨g2, 0, none⟩) (k + 1) cap2) (k + 1) (fl l ++ [.int .i64 3, .string nb, .iface ct cx]) → (wc.alloc (.cells #[.int .i64 3, .string nb, .iface ct cx] 52)).grownBy wC (Value.slice a k c).ownBlock → ((Value.slice a k c).ownBlock = some g2 ∨ g2 = wc.heap.size + 1) → RR wA.heap.size wC (.slice (some ⟨g2, 0, none⟩) (k + 1) cap2) (l ++ [x]) ∧ Below wA.heap.size wA wC) := fun g2 cap2 wC ho hg hat => by
          have hl := HL.out
          have h := RR.push (x := x) (g := g2) (cap := cap2) (o := .cells #[.int .i64 3, .string nb, .iface ct cx] 52) HO.out hqw HBC.out HCX.out (by rw [hl, HX3.out]; exact ho) hg hat
          rw [hl] at h
          exact ⟨h, below_grown (then_ (then_ HB.out HBC.out) (newB _ _)) hg (ownBlock_new HO.out.1)⟩
        have HOWN : Hid (∀ o, (wc.alloc o).ownsRow wA.heap.size 52 3 (.slice a k c) k (fl l)) := fun o => by
          have h := own_below (own_below HO.out.1 HBC.out) (newB wc o)
          rw [HL.out] at h
          exact h
        have HLL : Hid ((l ++ [x]).length = k + 1) := by show _ = _; rw [List.length_append, HL.out]; rfl
        have HMM : Hid ((l ++ [x]).map (fun x => x.1) = (List.range (k + 1)).map (letRg t)) := by
          show _ = _
          rw [List.map_append, HM.out, List.range_succ, List.map_append]
          show _ ++ [x.1] = _ ++ [letRg t k]
          rw [HX1.out]
        have HNEW : Hid ((wc.alloc (.cells #[.int .i64 3, .string nb, .iface ct cx] 52)).heap[wc.heap.size]? = some (.cells #[.int .i64 3, .string nb, .iface ct cx] 52 (0, 0))) := heap_alloc_new _ _
        have hle : wA.heap.size ≤ wc.heap.size := Nat.le_trans hqw HBC.out.size
        rw [hnb] at HNW
        rw [hct] at HAL
        clear hx3 hx hcv hct hnb HCD HIN HFR HNM HONEW HAP
        generalize us.length = un at *
        go_wp2_with (first
          | (at_builtin; refine wpList_append_lies _ rfl (.tmp 21) (.tmp 27) 27 rfl wA.heap.size 52 i0 _ 3 40 Tryz.underlying27 hi0 hz0 hz1 hz2 rfl (by decide) (.slice a k c) k (fl l) rfl (HOWN.out _) ⟨wc.heap.size, 0, none⟩ 1 1 [.int .i64 3, .string nb, .iface ct cx] rfl rfl (World.news_of_block HNEW.out) HONE.out (by decide) (by unfold maxLen; omega) (by omega) (by simp; omega) (wc.heap.size + 1) (by simp) ?_; intro g2 cap2 wC hown hgrow hat hltg; obtain ⟨hrr, hbn⟩ := HFIN.out g2 cap2 wC hown hgrow hat; have HRR := hide hrr; have HBN := hide hbn; clear hown hgrow hat hrr hbn)
          | (go_at_call 30; refine HNW.out.mono ?_; rintro e w6 ⟨rfl, hw⟩; obtain rfl := hw.symm)
          | (go_at_call 31; refine HAL.out.mono ?_; rintro e w6 ⟨rfl, hw⟩; obtain rfl := hw.symm))
        go_roundw
        case rel => exact ⟨k + 1, l ++ [x], some ⟨g2, 0, none⟩, cap2, by omega, by go_num, rfl, HLL.out, HMM.out, HRR.out, HBN.out⟩
        case measure => simp [intOf]; omega
    · have hkn : k = n := by omega
      have HRS : Hid (RR w.heap.size wr (.slice a k c) l) := ⟨own_mono HO.out.1 HB0.out.size, fun x hx => (HO.out.2 x hx).stay (fun _ _ _ _ hc => hc) fun b hb => ⟨⟨Nat.le_trans HB0.out.size hb.1.1, hb.1.2⟩, hb.2⟩⟩
      have HBX := hide (then_ HB0.out HB.out)
      have HMX : Hid (l.map (fun x => x.1) = (List.range n).map (letRg t)) := by rw [← hkn]; exact HM.out
      subst hkn
      go_wp2_with fail
      go_ret
      exact ⟨_, l, rfl, HMX.out, HRS.out, HBX.out⟩
end Ro
end Go.Proofs.YtflonjbbolmelaaGreatDoor
