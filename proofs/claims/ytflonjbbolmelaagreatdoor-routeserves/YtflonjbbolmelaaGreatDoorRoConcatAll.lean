/-
  The walks of package route's names, and of the function within. The walks of slices.Grow and slices.Concat over rungs.
-/
import Derived.Test.YtflonjbbolmelaaGreatDoorRoLay
import Derived.Lib.AppendZeros
namespace Go.Proofs.YtflonjbbolmelaaGreatDoor
section
namespace Ro
open Go.RowKit
/-- the shared row of names -/
structure LN (wA w : World) (v : Value) (n : Nat) (us : List Value) : Prop where
  bel : Below wA.heap.size wA w
  cell : RowIs w wA.heap.size 26 [v]
  row : w.ownsRow (wA.heap.size + 1) 62 3 v n us
theorem LN.push {wA wr W wC : World} {v : Value} {n : Nat} {us xs : List Value} {g cap : Nat} {o : Obj} (h : LN wA wr v n us) (hb : Below wr.heap.size wr W) (ho : wC.ownsRow (wA.heap.size + 1) 62 3 (.slice (some ⟨g, 0, none⟩) (n + 1) cap) (n + 1) (us ++ xs)) (hg : (W.alloc o).grownBy wC v.ownBlock) :
    LN wA (wC.setCell ⟨wA.heap.size, 0, none⟩ (.slice (some ⟨g, 0, none⟩) (n + 1) cap)) (.slice (some ⟨g, 0, none⟩) (n + 1) cap) (n + 1) (us ++ xs) ∧ wC.cell? ⟨wA.heap.size, 0, none⟩ = some v ∧ wC.frozen? ⟨wA.heap.size, 0, none⟩ = false := by
  have hlt := h.cell.lt
  have hvb := ownBlock_new h.row
  have hne : some wA.heap.size ≠ v.ownBlock := by
    rcases hvb with e | ⟨g', e, hl⟩
    · rw [e]; intro e; cases e
    · rw [e]; intro e; cases e; omega
  have hcell : RowIs wC wA.heap.size 26 [v] := (hg.block _ (by have := hb.size; rw [World.size_alloc]; omega) hne).trans ((h.cell.below hb).alloc _)
  refine ⟨⟨?_, hcell.set 0 _, ?_⟩, hcell.cell 0 _ rfl, hcell.frozen 0⟩
  · refine (below_grown (then_ (then_ h.bel hb) (newB _ _)) hg ?_).setCell (Nat.le_refl _) _
    exact hvb.imp id fun ⟨g', e, hl⟩ => ⟨g', e, by omega⟩
  · refine ⟨ho.1, ?_⟩
    rcases ho.2 with e | ⟨g', cap', cur, e1, e2, e3, e4⟩
    · exact .inl e
    · refine .inr ⟨g', cap', cur, e1, e2, ?_, e4⟩
      rw [Below.heap_setCell _ _ _ _ (fun e => by have e2' : g' = wA.heap.size := e; omega)]
      exact e3
def nm3 (kind : Int) (c : UInt8) (i : Nat) : List Value := [nmV c i, .int .i64 kind, .int .i64 0]
def nmsV (kind : Int) (c : UInt8) (k : Nat) : List Value := (List.range k).flatMap (nm3 kind c)
theorem nmsV_succ (kind : Int) (c : UInt8) (k : Nat) : nmsV kind c (k + 1) = nmsV kind c k ++ nm3 kind c k := by
  unfold nmsV
  rw [List.range_succ, List.flatMap_append]
  simp
set_option maxHeartbeats 8000000 in
set_option maxRecDepth 100000 in
theorem names1_any (wA w : World) (v : Value) (n : Nat) (us : List Value) (kind : Int) (c : UInt8) (m : Nat) (h : LN wA w v n us) (hn : n ≤ 1000) (hm : m ≤ 4) :
    Calls Tryz.prog 37 #[.int .i64 kind, .string ⟨#[c]⟩, .int .i64 (m : Int), .pointer (some ⟨wA.heap.size, 0, none⟩)] w fun e w' => e = .returned (.tuple #[]) ∧ ∃ v', LN wA w' v' (n + m) (us ++ nmsV kind c m) := by
  obtain ⟨i0, hi0, hz0, hz1, hz2⟩ := info_parts Tryz.infoName
  have HL := hide h
  clear h
  go_enter Tryz.func37, Tryz.ntmps37
  go_wp2_with fail
  go_loopw [9] (fun iv wr => ∃ (k q : Nat) (a : Option Addr) (ca : Nat), k ≤ m ∧ iv = .int .i64 (k : Int) ∧ Hid (q = n + k) ∧ q ≤ 1004 ∧ Hid (LN wA wr (.slice a q ca) q (us ++ nmsV kind c k))) (fun iv _ => m - (intOf iv).toNat)
  case atStart =>
    obtain ⟨a, ca, rfl⟩ := own_slice HL.out.row
    exact ⟨0, n, a, ca, Nat.zero_le _, rfl, rfl, by omega, by simpa [Hid, nmsV] using HL.out⟩
  case round =>
    obtain ⟨k, q, a, ca, hk, rfl, HQ, hq, HY⟩ := hrel
    by_cases hlt : k < m
    · have hki : (k : Int) < (m : Int) := by omega
      have hc0 := HY.out.cell.cell 0 _ rfl
      have hlw : wA.heap.size < wr.heap.size := HY.out.cell.lt
      obtain ⟨nb, hnb⟩ : ∃ nb, nmV c k = .string nb := ⟨_, rfl⟩
      have HNM := hide (named_any c k (by omega))
      have HSU : Hid (us ++ nmsV kind c (k + 1) = (us ++ nmsV kind c k) ++ [.string nb, .int .i64 kind, .int .i64 0]) := by
        show _ = _
        rw [nmsV_succ, ← List.append_assoc]
        unfold nm3
        rw [hnb]
      have HONE : Hid (∀ u ∈ [Value.string nb, .int .i64 kind, .int .i64 0], u.oneCell' = true) := fun u hu => by
        simp only [List.mem_cons, List.not_mem_nil, or_false] at hu
        rcases hu with rfl | rfl | rfl <;> rfl
      have HFIN : Hid (∀ (g2 cap2 : Nat) (wC : World), wC.ownsRow (wA.heap.size + 1) 62 3 (.slice (some ⟨g2, 0, none⟩) (q + 1) cap2) (q + 1) ((us ++ nmsV kind c k) ++ [.string nb, .int .i64 kind, .int .i64 0]) → (wr.drew.alloc (.cells #[.string nb, .int .i64 kind, .int .i64 0] 62)).grownBy wC (Value.slice a q ca).ownBlock → LN wA (wC.setCell ⟨wA.heap.size, 0, none⟩ (.slice (some ⟨g2, 0, none⟩) (q + 1) cap2)) (.slice (some ⟨g2, 0, none⟩) (q + 1) cap2) (q + 1) (us ++ nmsV kind c (k + 1)) ∧ wC.cell? ⟨wA.heap.size, 0, none⟩ = some (.slice a q ca) ∧ wC.frozen? ⟨wA.heap.size, 0, none⟩ = false) := fun g2 cap2 wC ho hg => by
        rw [HSU.out]
        exact LN.push HY.out (drewB wr) ho hg
      have HOWN : Hid (∀ (o : Obj), (wr.drew.alloc o).ownsRow (wA.heap.size + 1) 62 3 (.slice a q ca) q (us ++ nmsV kind c k)) := fun o => own_below (own_below HY.out.row (drewB wr)) (newB _ o)
      rw [hnb] at HNM
      clear hnb
      go_wp2_with fail
      go_region_law (first
        | (refine step_append_lies _ rfl (.tmp 12) (.tmp 18) 26 rfl (wA.heap.size + 1) 62 i0 _ 3 32 Tryz.underlying26 hi0 hz0 hz1 hz2 rfl (by decide) (.slice a q ca) q (us ++ nmsV kind c k) rfl (HOWN.out _) ⟨wr.heap.size, 0, none⟩ 1 1 [.string nb, .int .i64 kind, .int .i64 0] rfl rfl (World.news_of_block (heap_alloc_new wr.drew _)) HONE.out (by decide) (by unfold maxLen; omega) (by omega) (by simp; omega) (wr.heap.size + 1) (by simp) ?_; intro g7 cap7 wD hown hgrow hat hltg; obtain ⟨hpn, wd0, wdf⟩ := HFIN.out g7 cap7 wD hown hgrow; have HP7 := hide hpn; clear hpn hown hgrow hat)
        | (go_simp; go_at_call 30; (with_reducible refine (HNM.out _).mono ?_); rintro e w6 ⟨rfl, hw⟩; obtain rfl := hw.symm))
      all_goals
        go_wp2_with fail
        go_roundw
        case rel => exact ⟨k + 1, q + 1, some ⟨g7, 0, none⟩, cap7, by omega, by go_num, hide (by rw [HQ.out]; omega), by have := HQ.out; omega, HP7.out⟩
        case measure => simp [intOf]; omega
    · have hkn : k = m := by omega
      have HR : Hid (∃ v', LN wA wr v' (n + m) (us ++ nmsV kind c m)) := by
        have h := HY.out
        rw [HQ.out, hkn] at h
        exact ⟨_, h⟩
      subst hkn
      go_wp2_with fail
      go_end0
      exact ⟨rfl, HR.out⟩
/-- the names of a table's program -/
def namesV (r s p : Nat) : List Value := ((nmsV 1 97 r ++ nmsV 1 98 s) ++ nmsV 2 108 r) ++ nmsV 2 112 p
set_option maxHeartbeats 8000000 in
set_option maxRecDepth 100000 in
theorem names_any (t : Tbl) (rv : Value) (S P : Nat) (w : World) (hr : Rts w rv t.rts) (hn3 : t.rts.length ≤ 3) (hS : t.secs = (S : Int)) (hS3 : S ≤ 3) (hP : t.pts = (P : Int)) (hP2 : P ≤ 2) :
    Calls Tryz.prog 16 #[.agg #[.int .i64 t.secs, .int .i64 t.pts, rv]] w fun e w' => ∃ v, e = .returned v ∧ w'.ownsRow w.heap.size 62 3 v (t.rts.length + S + t.rts.length + P) (namesV t.rts.length S P) ∧ Below w.heap.size w w' := by
  obtain ⟨ra, rc, rfl⟩ := hr.slice
  obtain ⟨wA, hwA⟩ : ∃ wA, wA = w.alloc (.cells #[.int .i64 t.secs, .int .i64 t.pts, .slice ra t.rts.length rc] 24) := ⟨_, rfl⟩
  have hbA : Below w.heap.size w wA := by rw [hwA]; exact newB _ _
  have rT : RowIs wA w.heap.size 24 [.int .i64 t.secs, .int .i64 t.pts, .slice ra t.rts.length rc] := by rw [hwA]; exact RowIs.new _ _ _
  have hsA : wA.heap.size = w.heap.size + 1 := by rw [hwA]; simp
  rw [hS, hP] at rT hwA
  have HTA : Hid (∀ W, Below wA.heap.size wA W → W.cell? ⟨w.heap.size, 0, none⟩ = some (.int .i64 (S : Int)) ∧ W.cell? ⟨w.heap.size, 1, none⟩ = some (.int .i64 (P : Int)) ∧ W.cell? ⟨w.heap.size, 2, none⟩ = some (.slice ra t.rts.length rc)) := fun W hW => ⟨kept hW (rT.cell 0 _ rfl), kept hW (rT.cell 1 _ rfl), kept hW (rT.cell 2 _ rfl)⟩
  obtain ⟨w0, hw0⟩ : ∃ w0, w0 = wA.alloc (.cells #[.slice none 0 0] 26) := ⟨_, rfl⟩
  have HL0 : Hid (LN wA w0 (.slice none 0 0) 0 []) := by
    rw [hw0]
    exact ⟨newB _ _, RowIs.new _ _ _, World.ownsRow_nil _ _ _ _⟩
  have HB0 := hide hbA
  have HW := hide hwA
  have HW0 := hide hw0
  have HSA := hide hsA
  rw [hS, hP]
  clear hwA hbA rT hr hw0 hsA hS hP
  generalize t.rts.length = n at *
  go_enter Tryz.func16, Tryz.ntmps16
  go_upto_region 3 with fail
  rw [← HSA.out, ← HW.out, ← HW0.out]
  clear HW HW0
  obtain ⟨a0, a1, a2⟩ := HTA.out w0 HL0.out.bel
  have HC1 := hide (names1_any wA w0 _ 0 [] 1 97 n HL0.out (by omega) (by omega))
  go_wp2_with fail
  refine HC1.out.mono ?_
  rintro e w1 ⟨rfl, v1, hl1⟩
  have HL1 := hide hl1
  have HC2 := hide (names1_any wA w1 v1 _ _ 1 98 S hl1 (by omega) (by omega))
  obtain ⟨b0, b1, b2⟩ := HTA.out w1 hl1.bel
  clear HC1 a0 a1 a2 hl1
  go_wp2_with fail
  refine HC2.out.mono ?_
  rintro e w2 ⟨rfl, v2, hl2⟩
  have HL2 := hide hl2
  have HC3 := hide (names1_any wA w2 v2 _ _ 2 108 n hl2 (by omega) (by omega))
  obtain ⟨a0, a1, a2⟩ := HTA.out w2 hl2.bel
  clear HC2 b0 b1 b2 hl2
  go_wp2_with fail
  refine HC3.out.mono ?_
  rintro e w3 ⟨rfl, v3, hl3⟩
  have HL3 := hide hl3
  have HC4 := hide (names1_any wA w3 v3 _ _ 2 112 P hl3 (by omega) (by omega))
  obtain ⟨b0, b1, b2⟩ := HTA.out w3 hl3.bel
  clear HC3 a0 a1 a2 hl3
  go_wp2_with fail
  refine HC4.out.mono ?_
  rintro e w4 ⟨rfl, v4, hl4⟩
  have c0 := hl4.cell.cell 0 _ rfl
  obtain ⟨va, vc, hv⟩ := own_slice hl4.row
  have HRS : Hid (w4.ownsRow w.heap.size 62 3 v4 (n + S + n + P) (namesV n S P)) := by
    have h := own_mono hl4.row (by rw [HSA.out]; omega : w.heap.size ≤ wA.heap.size + 1)
    rw [Nat.zero_add, List.nil_append] at h
    exact h
  have HBX := hide (then_ HB0.out hl4.bel)
  subst hv
  rw [Nat.zero_add] at HRS
  clear HC4 hl4 b0 b1 b2
  go_wp2_with fail
  go_ret
  exact ⟨_, rfl, HRS.out, HBX.out⟩
end Ro
end
section
namespace Ro
open Go.RowKit
theorem append_rungs {W : World} (base base2 : Nat) (ty : TypeId) (v : Value) (n : Nat) (xs : List Value) (a : Option Addr) (m c : Nat) (us : List Value) (hown : W.ownsRow base 52 3 v n xs) (hs : W.ownsRow base2 52 3 (.slice a m c) m us) (hone : ∀ u, u ∈ us → u.oneCell' = true) (hb : base ≤ W.heap.size) (hx : n ≤ 1000) (hu : m ≤ 1000) :
    ∃ v' W', (Builtin.append_ #[27, 27] ty #[v, .slice a m c]).run Tryz.prog W = .ok v' W' ∧ W'.ownsRow base 52 3 v' (n + m) (xs ++ us) ∧ W.grownBy W' v.ownBlock := by
  obtain ⟨i0, hi0, hz0, hz1, hz2⟩ := info_parts Tryz.infoRung
  rcases hs.2 with ⟨e1, h0⟩ | ⟨g, cap, cur, e1, _, hcur, hcap, _, _, htk⟩
  · have h3 := hs.1
    rw [h0, Nat.zero_mul] at h3
    have : us = [] := List.length_eq_zero_iff.1 h3
    subst this
    subst h0
    exact ⟨v, W, append_zero base _ ty _ i0 3 Tryz.underlying27 hi0 v _ _ hown _ _, by simpa using hown, ⟨rfl, rfl, rfl, Nat.le_refl _, fun _ _ _ => rfl⟩⟩
  · simp only [Value.slice.injEq] at e1
    obtain ⟨rfl, _, rfl⟩ := e1
    obtain ⟨v', W', h1, h2, h3, _⟩ := run_append_own_at (P := Tryz.prog) W base 27 ty 52 i0 _ 3 40 Tryz.underlying27 hi0 hz0 hz1 hz2 rfl (by decide) v n xs hown ⟨g, 0, none⟩ m c us hs.1 (fun j u hj => by
        have := row_cell hcur htk hj
        cases j <;> simpa [Addr.add] using this) hone (by unfold maxLen; omega) (by omega) hb
    exact ⟨v', W', h1, h2, h3⟩
set_option maxHeartbeats 2000000 in
set_option maxRecDepth 100000 in
theorem growR_any (t : Nat) (h0 : 0 < t) (h60 : t ≤ 1000) (w : World) :
    Calls Tryz.prog 27 #[.slice none 0 0, .int .i64 (t : Int)] w fun e w' => ∃ v, e = .returned v ∧ w'.ownsRow w.heap.size 52 3 v 0 [] ∧ Below w.heap.size w w' := by
  obtain ⟨i0, hi0, hz0, hz1, hz2⟩ := info_parts Tryz.infoRung
  have HA := hide (fun (W : World) (ty : TypeId) => Lib.run_append_nil_zeros (P := Tryz.prog) W 27 3 ty 52 i0 _ .i64 .i64 Tryz.underlying27 Tryz.underlying3 hi0 hz0 t h0 (by omega) (by omega) (by rw [hz2]; omega))
  have hti : (0 : Int) < (t : Int) := by omega
  have HCG := hide (grownCap_ge w t 0 52)
  have HCM := hide (grownCap_le_maxLen w t 0 52 (by unfold maxLen; omega))
  clear hi0 hz0 hz1 hz2
  go_enter Tryz.func27, Tryz.ntmps27
  go_wp2_with (at_builtin; refine Lib.wpList_append_run _ rfl _ _ _ _ rfl _ _ rfl rfl _ _ (HA.out _ _) ?_)
  go_ret
  refine ⟨_, rfl, ⟨by simp, .inr ⟨w.heap.size, grownCap w t 0 52, _, rfl, Nat.le_refl _, heap_alloc_new w _, Nat.zero_le _, HCM.out, ?_, by simp⟩⟩, ?_⟩
  · have := HCG.out
    simp [Builtin.zeroCells]
    omega
  · exact ((Below.refl _ w).alloc (Nat.le_refl _) _).trans ⟨rfl, rfl, rfl, Nat.le_refl _, fun _ _ => rfl⟩
def sumN (f : Nat → Nat) : Nat → Nat
  | 0 => 0
  | k + 1 => sumN f k + f k
def catN (f : Nat → List Value) : Nat → List Value
  | 0 => []
  | k + 1 => catN f k ++ f k
/-- three rows of rungs that lie in a row -/
def Src (w : World) (g : Nat) (nN : Nat → Nat) (aN : Nat → Option Addr) (cN : Nat → Nat) (usN : Nat → List Value) : Prop := ∀ k, k < 3 → w.cell? ⟨g, k, none⟩ = some (.slice (aN k) (nN k) (cN k)) ∧ w.ownsRow 0 52 3 (.slice (aN k) (nN k) (cN k)) (nN k) (usN k) ∧ (∀ u, u ∈ usN k → u.oneCell' = true) ∧ nN k ≤ 100
theorem Src.below {w w' : World} {g : Nat} {nN : Nat → Nat} {aN : Nat → Option Addr} {cN : Nat → Nat} {usN : Nat → List Value} (h : Src w g nN aN cN usN) (hb : Below w.heap.size w w') : Src w' g nN aN cN usN := fun k hk => ⟨kept hb (h k hk).1, own_below (h k hk).2.1 hb, (h k hk).2.2⟩
set_option maxHeartbeats 4000000 in
set_option maxRecDepth 100000 in
theorem concatR_any (g : Nat) (nN : Nat → Nat) (aN : Nat → Option Addr) (cN : Nat → Nat) (usN : Nat → List Value) (w : World) (h : Src w g nN aN cN usN) (h0 : 0 < nN 0) :
    Calls Tryz.prog 12 #[.slice (some ⟨g, 0, none⟩) 3 3] w fun e w' => ∃ v, e = .returned v ∧ w'.ownsRow w.heap.size 52 3 v (sumN nN 3) (catN usN 3) ∧ Below w.heap.size w w' := by
  have HS := hide h
  have n0 := (h 0 (by omega)).2.2.2
  have n1 := (h 1 (by omega)).2.2.2
  have n2 := (h 2 (by omega)).2.2.2
  have hsum : 0 < sumN nN 3 ∧ sumN nN 3 ≤ 300 := by simp only [sumN]; omega
  have HG := hide (fun W => growR_any (sumN nN 3) hsum.1 (by omega) W)
  have HSB : Hid (∀ k, k ≤ 3 → sumN nN k ≤ 300) := fun k hk => by
    have : k = 0 ∨ k = 1 ∨ k = 2 ∨ k = 3 := by omega
    rcases this with rfl | rfl | rfl | rfl <;> simp only [sumN] <;> omega
  have HSUC : Hid (∀ k, sumN nN (k + 1) = sumN nN k + nN k) := fun k => rfl
  have HCUC : Hid (∀ k, catN usN (k + 1) = catN usN k ++ usN k) := fun k => rfl
  clear h h0 n0 n1 n2
  generalize hS3 : sumN nN 3 = S3 at *
  have HS3 := hide hS3
  clear hS3
  go_enter Tryz.func12, Tryz.ntmps12
  go_wp2_with fail
  go_loop [11, 3] (fun i s => ∃ (k q : Nat), k ≤ 3 ∧ i = .int .i64 (k : Int) ∧ s = .int .i64 (q : Int) ∧ q ≤ 300 ∧ Hid (q = sumN nN k)) (fun i _ => 3 - (intOf i).toNat)
  case atStart => exact ⟨0, 0, by omega, rfl, rfl, by omega, rfl⟩
  case round =>
    obtain ⟨k, q, hk, rfl, rfl, hq, HQ⟩ := hrel
    by_cases hlt : k < 3
    · obtain ⟨c0, _, _, hn⟩ := HS.out k hlt
      have hki : (k : Int) < 3 := by omega
      have hsb := HSB.out (k + 1) (by omega)
      have HQ2 : Hid (q + nN k = sumN nN (k + 1)) := by show _ = _; rw [HSUC.out, HQ.out]
      have hqn : q + nN k ≤ 300 := by rw [HQ2.out]; exact hsb
      have hni : ¬ ((q : Int) + (nN k : Int) < 0) := by omega
      clear hsb
      generalize nN k = m at *
      generalize aN k = a at *
      generalize cN k = c at *
      go_wp2_with fail
      go_round
      case rel => exact ⟨k + 1, q + m, by omega, by go_num, by go_num, by omega, HQ2.out⟩
      case measure => simp [intOf]; omega
    · have hk3 : k = 3 := by omega
      subst hk3
      have hq3 : q = S3 := HQ.out.trans HS3.out
      subst hq3
      have hki : ¬ ((3 : Int) < 3) := by omega
      have HGW := hide (HG.out w)
      clear hk HQ HG
      go_wp2_with fail
      refine HGW.out.mono ?_
      rintro e w1 ⟨v1, rfl, hown1, hb1⟩
      have HO1 := hide hown1
      have HB1 := hide hb1
      obtain ⟨a1, cp1, rfl⟩ := own_slice hown1
      clear hown1 hb1 HGW
      go_wp2_with fail
      go_loopw [27, 6] (fun i s wr => ∃ (k q : Nat) (a : Option Addr) (c : Nat), k ≤ 3 ∧ i = .int .i64 (k : Int) ∧ s = .slice a q c ∧ q ≤ 300 ∧ Hid (q = sumN nN k) ∧ Hid (wr.ownsRow w.heap.size 52 3 (.slice a q c) q (catN usN k)) ∧ Hid (Below w.heap.size w wr)) (fun i _ _ => 3 - (intOf i).toNat)
      case atStart => exact ⟨0, 0, a1, cp1, by omega, rfl, rfl, by omega, rfl, HO1.out, HB1.out⟩
      case round =>
        obtain ⟨k, r, a2, c2, hk, rfl, rfl, hr, HQ, HO, HB⟩ := hrel
        by_cases hlt : k < 3
        · obtain ⟨c0, hs, hone, hn⟩ := (HS.out.below HB.out) k hlt
          have hki : (k : Int) < 3 := by omega
          have hsb := HSB.out (k + 1) (by omega)
          have HQ2 : Hid (r + nN k = sumN nN (k + 1)) := by show _ = _; rw [HSUC.out, HQ.out]
          have hqn : r + nN k ≤ 300 := by rw [HQ2.out]; exact hsb
          obtain ⟨v', W', r1, r2, r3⟩ := append_rungs w.heap.size 0 27 (.slice a2 r c2) r (catN usN k) (aN k) (nN k) (cN k) (usN k) HO.out hs hone HB.out.size (by omega) (by omega)
          have HR1 := hide r1
          have HO2 : Hid (W'.ownsRow w.heap.size 52 3 v' (r + nN k) (catN usN (k + 1))) := by rw [HCUC.out]; exact r2
          have HB2 := hide (below_grown HB.out r3 (ownBlock_new HO.out))
          obtain ⟨a3, c3, rfl⟩ := own_slice r2
          clear r1 r2 r3 hs hone hsb hn
          generalize nN k = m at *
          generalize aN k = a at *
          generalize cN k = c at *
          go_wp2_with (at_builtin; refine Lib.wpList_append_run _ rfl _ _ _ _ rfl _ _ rfl rfl _ _ HR1.out ?_)
          go_roundw
          case rel => exact ⟨k + 1, r + m, a3, c3, by omega, by go_num, rfl, by omega, HQ2.out, HO2.out, HB2.out⟩
          case measure => simp [intOf]; omega
        · have hk3 : k = 3 := by omega
          subst hk3
          have hq3 : r = q := HQ.out.trans HS3.out
          subst hq3
          clear hk HQ
          go_wp2_with fail
          go_ret
          exact ⟨_, rfl, HO.out, HB.out⟩
end Ro
end
end Go.Proofs.YtflonjbbolmelaaGreatDoor
