/-
  The walks of package route's names, and of the function within.
-/
import Derived.Test.YtjnmeacblefkgaaDoorRoLay
namespace Go.Proofs.YtjnmeacblefkgaaDoor
namespace Ro
open Go.RowKit
/-- the shared row of names -/
structure LN (wA w : World) (v : Value) (n : Nat) (us : List Value) : Prop where
  bel : Below wA.heap.size wA w
  cell : RowIs w wA.heap.size 31 [v]
  row : w.ownsRow (wA.heap.size + 1) 78 3 v n us
theorem LN.push {wA wr W wC : World} {v : Value} {n : Nat} {us xs : List Value} {g cap : Nat} {o : Obj} (h : LN wA wr v n us) (hb : Below wr.heap.size wr W) (ho : wC.ownsRow (wA.heap.size + 1) 78 3 (.slice (some ⟨g, 0, none⟩) (n + 1) cap) (n + 1) (us ++ xs)) (hg : (W.alloc o).grownBy wC v.ownBlock) :
    LN wA (wC.setCell ⟨wA.heap.size, 0, none⟩ (.slice (some ⟨g, 0, none⟩) (n + 1) cap)) (.slice (some ⟨g, 0, none⟩) (n + 1) cap) (n + 1) (us ++ xs) ∧ wC.cell? ⟨wA.heap.size, 0, none⟩ = some v ∧ wC.frozen? ⟨wA.heap.size, 0, none⟩ = false := by
  have hlt := h.cell.lt
  have hvb := ownBlock_new h.row
  have hne : some wA.heap.size ≠ v.ownBlock := by
    rcases hvb with e | ⟨g', e, hl⟩
    · rw [e]; intro e; cases e
    · rw [e]; intro e; cases e; omega
  have hcell : RowIs wC wA.heap.size 31 [v] := (hg.block _ (by have := hb.size; rw [World.size_alloc]; omega) hne).trans ((h.cell.below hb).alloc _)
  refine ⟨⟨?_, hcell.set 0 _, ?_⟩, hcell.cell 0 _ rfl, hcell.frozen 0⟩
  · refine (below_grown (then_ (then_ h.bel hb) (newB _ _)) hg ?_).setCell (Nat.le_refl _) _
    exact hvb.imp id fun ⟨g', e, hl⟩ => ⟨g', e, by omega⟩
  · refine ⟨ho.1, ?_⟩
    rcases ho.2 with e | ⟨g', cap', cur, e1, e2, e3, e4⟩
    · exact .inl e
    · refine .inr ⟨g', cap', cur, e1, e2, ?_, e4⟩
      rw [Below.heap_setCell _ _ _ _ (fun e => by have e2' : g' = wA.heap.size := e; omega)]
      exact e3
def nm3 (kind : Int) (c : UInt8) (i : Nat) : List Value := [nmV c i, .int .i64 kind, .int .i64 0]
def nmsV (kind : Int) (c : UInt8) (k : Nat) : List Value := (List.range k).flatMap (nm3 kind c)
theorem nmsV_succ (kind : Int) (c : UInt8) (k : Nat) : nmsV kind c (k + 1) = nmsV kind c k ++ nm3 kind c k := by
  unfold nmsV
  rw [List.range_succ, List.flatMap_append]
  simp
set_option maxHeartbeats 8000000 in
set_option maxRecDepth 100000 in
theorem names1_any (wA w : World) (v : Value) (n : Nat) (us : List Value) (kind : Int) (c : UInt8) (m : Nat) (h : LN wA w v n us) (hn : n ≤ 1000) (hm : m ≤ 4) :
    Calls Tryd.prog 34 #[.int .i64 kind, .string ⟨#[c]⟩, .int .i64 (m : Int), .pointer (some ⟨wA.heap.size, 0, none⟩)] w fun e w' => e = .returned (.tuple #[]) ∧ ∃ v', LN wA w' v' (n + m) (us ++ nmsV kind c m) := by
  obtain ⟨i0, hi0, hz0, hz1, hz2⟩ := info_parts Tryd.infoName
  have HL := hide h
  clear h
  go_enter Tryd.func34, Tryd.ntmps34
  go_wp2_with fail
  go_loopw [9] (fun iv wr => ∃ (k q : Nat) (a : Option Addr) (ca : Nat), k ≤ m ∧ iv = .int .i64 (k : Int) ∧ Hid (q = n + k) ∧ q ≤ 1004 ∧ Hid (LN wA wr (.slice a q ca) q (us ++ nmsV kind c k))) (fun iv _ => m - (intOf iv).toNat)
  case atStart =>
    obtain ⟨a, ca, rfl⟩ := own_slice HL.out.row
    exact ⟨0, n, a, ca, Nat.zero_le _, rfl, rfl, by omega, by simpa [Hid, nmsV] using HL.out⟩
  case round =>
    obtain ⟨k, q, a, ca, hk, rfl, HQ, hq, HY⟩ := hrel
    by_cases hlt : k < m
    · have hki : (k : Int) < (m : Int) := by omega
      have hc0 := HY.out.cell.cell 0 _ rfl
      have hlw : wA.heap.size < wr.heap.size := HY.out.cell.lt
      obtain ⟨nb, hnb⟩ : ∃ nb, nmV c k = .string nb := ⟨_, rfl⟩
      have HNM := hide (named_any c k (by omega))
      have HSU : Hid (us ++ nmsV kind c (k + 1) = (us ++ nmsV kind c k) ++ [.string nb, .int .i64 kind, .int .i64 0]) := by
        show _ = _
        rw [nmsV_succ, ← List.append_assoc]
        unfold nm3
        rw [hnb]
      have HONE : Hid (∀ u ∈ [Value.string nb, .int .i64 kind, .int .i64 0], u.oneCell' = true) := fun u hu => by
        simp only [List.mem_cons, List.not_mem_nil, or_false] at hu
        rcases hu with rfl | rfl | rfl <;> rfl
      have HFIN : Hid (∀ (g2 cap2 : Nat) (wC : World), wC.ownsRow (wA.heap.size + 1) 78 3 (.slice (some ⟨g2, 0, none⟩) (q + 1) cap2) (q + 1) ((us ++ nmsV kind c k) ++ [.string nb, .int .i64 kind, .int .i64 0]) → (wr.drew.alloc (.cells #[.string nb, .int .i64 kind, .int .i64 0] 78)).grownBy wC (Value.slice a q ca).ownBlock → LN wA (wC.setCell ⟨wA.heap.size, 0, none⟩ (.slice (some ⟨g2, 0, none⟩) (q + 1) cap2)) (.slice (some ⟨g2, 0, none⟩) (q + 1) cap2) (q + 1) (us ++ nmsV kind c (k + 1)) ∧ wC.cell? ⟨wA.heap.size, 0, none⟩ = some (.slice a q ca) ∧ wC.frozen? ⟨wA.heap.size, 0, none⟩ = false) := fun g2 cap2 wC ho hg => by
        rw [HSU.out]
        exact LN.push HY.out (drewB wr) ho hg
      have HOWN : Hid (∀ (o : Obj), (wr.drew.alloc o).ownsRow (wA.heap.size + 1) 78 3 (.slice a q ca) q (us ++ nmsV kind c k)) := fun o => own_below (own_below HY.out.row (drewB wr)) (newB _ o)
      rw [hnb] at HNM
      clear hnb
      go_wp2_with fail
      go_region_law (first
        | (refine step_append_lies _ rfl (.tmp 12) (.tmp 18) 31 rfl (wA.heap.size + 1) 78 i0 _ 3 32 Tryd.underlying31 hi0 hz0 hz1 hz2 rfl (by decide) (.slice a q ca) q (us ++ nmsV kind c k) rfl (HOWN.out _) ⟨wr.heap.size, 0, none⟩ 1 1 [.string nb, .int .i64 kind, .int .i64 0] rfl rfl (World.news_of_block (heap_alloc_new wr.drew _)) HONE.out (by decide) (by unfold maxLen; omega) (by omega) (by simp; omega) (wr.heap.size + 1) (by simp) ?_; intro g7 cap7 wD hown hgrow hat hltg; obtain ⟨hpn, wd0, wdf⟩ := HFIN.out g7 cap7 wD hown hgrow; have HP7 := hide hpn; clear hpn hown hgrow hat)
        | (go_simp; go_at_call 27; (with_reducible refine (HNM.out _).mono ?_); rintro e w6 ⟨rfl, hw⟩; obtain rfl := hw.symm))
      all_goals
        go_wp2_with fail
        go_roundw
        case rel => exact ⟨k + 1, q + 1, some ⟨g7, 0, none⟩, cap7, by omega, by go_num, hide (by rw [HQ.out]; omega), by have := HQ.out; omega, HP7.out⟩
        case measure => simp [intOf]; omega
    · have hkn : k = m := by omega
      have HR : Hid (∃ v', LN wA wr v' (n + m) (us ++ nmsV kind c m)) := by
        have h := HY.out
        rw [HQ.out, hkn] at h
        exact ⟨_, h⟩
      subst hkn
      go_wp2_with fail
      go_end0
      exact ⟨rfl, HR.out⟩
/-- the names of a table's program -/
def namesV (r s p : Nat) : List Value := ((nmsV 1 97 r ++ nmsV 1 98 s) ++ nmsV 2 108 r) ++ nmsV 2 112 p
set_option maxHeartbeats 8000000 in
set_option maxRecDepth 100000 in
theorem names_any (t : Tbl) (rv : Value) (S P : Nat) (w : World) (hr : Rts w rv t.rts) (hn3 : t.rts.length ≤ 3) (hS : t.secs = (S : Int)) (hS3 : S ≤ 3) (hP : t.pts = (P : Int)) (hP2 : P ≤ 2) :
    Calls Tryd.prog 17 #[.agg #[.int .i64 t.secs, .int .i64 t.pts, rv]] w fun e w' => ∃ v, e = .returned v ∧ w'.ownsRow w.heap.size 78 3 v (t.rts.length + S + t.rts.length + P) (namesV t.rts.length S P) ∧ Below w.heap.size w w' := by
  obtain ⟨ra, rc, rfl⟩ := hr.slice
  obtain ⟨wA, hwA⟩ : ∃ wA, wA = w.alloc (.cells #[.int .i64 t.secs, .int .i64 t.pts, .slice ra t.rts.length rc] 30) := ⟨_, rfl⟩
  have hbA : Below w.heap.size w wA := by rw [hwA]; exact newB _ _
  have rT : RowIs wA w.heap.size 30 [.int .i64 t.secs, .int .i64 t.pts, .slice ra t.rts.length rc] := by rw [hwA]; exact RowIs.new _ _ _
  have hsA : wA.heap.size = w.heap.size + 1 := by rw [hwA]; simp
  rw [hS, hP] at rT hwA
  have HTA : Hid (∀ W, Below wA.heap.size wA W → W.cell? ⟨w.heap.size, 0, none⟩ = some (.int .i64 (S : Int)) ∧ W.cell? ⟨w.heap.size, 1, none⟩ = some (.int .i64 (P : Int)) ∧ W.cell? ⟨w.heap.size, 2, none⟩ = some (.slice ra t.rts.length rc)) := fun W hW => ⟨kept hW (rT.cell 0 _ rfl), kept hW (rT.cell 1 _ rfl), kept hW (rT.cell 2 _ rfl)⟩
  obtain ⟨w0, hw0⟩ : ∃ w0, w0 = wA.alloc (.cells #[.slice none 0 0] 31) := ⟨_, rfl⟩
  have HL0 : Hid (LN wA w0 (.slice none 0 0) 0 []) := by
    rw [hw0]
    exact ⟨newB _ _, RowIs.new _ _ _, World.ownsRow_nil _ _ _ _⟩
  have HB0 := hide hbA
  have HW := hide hwA
  have HW0 := hide hw0
  have HSA := hide hsA
  rw [hS, hP]
  clear hwA hbA rT hr hw0 hsA hS hP
  generalize t.rts.length = n at *
  go_enter Tryd.func17, Tryd.ntmps17
  go_upto_region 3 with fail
  rw [← HSA.out, ← HW.out, ← HW0.out]
  clear HW HW0
  obtain ⟨a0, a1, a2⟩ := HTA.out w0 HL0.out.bel
  have HC1 := hide (names1_any wA w0 _ 0 [] 1 97 n HL0.out (by omega) (by omega))
  go_wp2_with fail
  refine HC1.out.mono ?_
  rintro e w1 ⟨rfl, v1, hl1⟩
  have HL1 := hide hl1
  have HC2 := hide (names1_any wA w1 v1 _ _ 1 98 S hl1 (by omega) (by omega))
  obtain ⟨b0, b1, b2⟩ := HTA.out w1 hl1.bel
  clear HC1 a0 a1 a2 hl1
  go_wp2_with fail
  refine HC2.out.mono ?_
  rintro e w2 ⟨rfl, v2, hl2⟩
  have HL2 := hide hl2
  have HC3 := hide (names1_any wA w2 v2 _ _ 2 108 n hl2 (by omega) (by omega))
  obtain ⟨a0, a1, a2⟩ := HTA.out w2 hl2.bel
  clear HC2 b0 b1 b2 hl2
  go_wp2_with fail
  refine HC3.out.mono ?_
  rintro e w3 ⟨rfl, v3, hl3⟩
  have HL3 := hide hl3
  have HC4 := hide (names1_any wA w3 v3 _ _ 2 112 P hl3 (by omega) (by omega))
  obtain ⟨b0, b1, b2⟩ := HTA.out w3 hl3.bel
  clear HC3 a0 a1 a2 hl3
  go_wp2_with fail
  refine HC4.out.mono ?_
  rintro e w4 ⟨rfl, v4, hl4⟩
  have c0 := hl4.cell.cell 0 _ rfl
  obtain ⟨va, vc, hv⟩ := own_slice hl4.row
  have HRS : Hid (w4.ownsRow w.heap.size 78 3 v4 (n + S + n + P) (namesV n S P)) := by
    have h := own_mono hl4.row (by rw [HSA.out]; omega : w.heap.size ≤ wA.heap.size + 1)
    rw [Nat.zero_add, List.nil_append] at h
    exact h
  have HBX := hide (then_ HB0.out hl4.bel)
  subst hv
  rw [Nat.zero_add] at HRS
  clear HC4 hl4 b0 b1 b2
  go_wp2_with fail
  go_ret
  exact ⟨_, rfl, HRS.out, HBX.out⟩
end Ro
end Go.Proofs.YtjnmeacblefkgaaDoor
