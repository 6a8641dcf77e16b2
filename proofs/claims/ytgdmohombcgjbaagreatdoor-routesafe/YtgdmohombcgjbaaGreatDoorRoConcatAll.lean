/-
  The walk of the function within package route's laying, which appends a rung to a row that it shares. The walks of package route's names, and of the function within. The walks of slices.Grow and slices.Concat over rungs.
-/
import Derived.Test.YtgdmohombcgjbaaGreatDoorRoLock
import Derived.Lib.AppendZeros
namespace Go.Proofs.YtgdmohombcgjbaaGreatDoor
section
namespace Ro
open Go.RowKit
/-- the shared row of rungs -/
structure LY (wA w : World) (v : Value) (l : List (Rg × Value)) : Prop where
  bel : Below wA.heap.size wA w
  cell : RowIs w wA.heap.size 26 [v]
  row : RR (wA.heap.size + 1) w v l
theorem LY.below {wA w w' : World} {v : Value} {l : List (Rg × Value)} (h : LY wA w v l) (hb : Below w.heap.size w w') : LY wA w' v l := ⟨then_ h.bel hb, h.cell.below hb, h.row.below hb⟩
theorem LY.push {wA wr W wC : World} {v : Value} {l : List (Rg × Value)} {x : Rg × Value} {g cap : Nat} {o : Obj} (h : LY wA wr v l) (hb : Below wr.heap.size wr W) (hx : CondV (fun b => wr.heap.size ≤ b) W x.1.ty x.1.us x.2) (ho : wC.ownsRow (wA.heap.size + 1) 48 3 (.slice (some ⟨g, 0, none⟩) (l.length + 1) cap) (l.length + 1) (fl l ++ rg3 x)) (hg : (W.alloc o).grownBy wC v.ownBlock) (hat : v.ownBlock = some g ∨ g = W.heap.size + 1) :
    LY wA (wC.setCell ⟨wA.heap.size, 0, none⟩ (.slice (some ⟨g, 0, none⟩) (l.length + 1) cap)) (.slice (some ⟨g, 0, none⟩) (l.length + 1) cap) (l ++ [x]) ∧ wC.cell? ⟨wA.heap.size, 0, none⟩ = some v ∧ wC.frozen? ⟨wA.heap.size, 0, none⟩ = false := by
  have hlt := h.cell.lt
  have hrr := RR.push h.row (by omega) hb hx ho hg hat
  have hvb := ownBlock_new h.row.1
  have hne : some wA.heap.size ≠ v.ownBlock := by
    rcases hvb with e | ⟨g', e, hl⟩
    · rw [e]; intro e; cases e
    · rw [e]; intro e; cases e; omega
  have hcell : RowIs wC wA.heap.size 26 [v] := (hg.block _ (by have := hb.size; rw [World.size_alloc]; omega) hne).trans ((h.cell.below hb).alloc _)
  have hgq : wA.heap.size + 1 ≤ g := by
    rcases ho.2 with ⟨e, _⟩ | ⟨g', cap', cur, e, hl, _⟩
    · cases e
    · simp only [Value.slice.injEq, Option.some.injEq, Addr.mk.injEq, and_true] at e
      omega
  refine ⟨⟨?_, hcell.set 0 _, ⟨?_, fun y hy => ?_⟩⟩, hcell.cell 0 _ rfl, hcell.frozen 0⟩
  · refine (below_grown (then_ (then_ h.bel hb) (newB _ _)) hg ?_).setCell (Nat.le_refl _) _
    exact hvb.imp id fun ⟨g', e, hl⟩ => ⟨g', e, by omega⟩
  · refine ⟨hrr.1.1, ?_⟩
    rcases hrr.1.2 with e | ⟨g', cap', cur, e1, e2, e3, e4⟩
    · exact .inl e
    · refine .inr ⟨g', cap', cur, e1, e2, ?_, e4⟩
      rw [Below.heap_setCell _ _ _ _ (fun e => by have e2' : g' = wA.heap.size := e; omega)]
      exact e3
  · exact (hrr.2 y hy).stay (fun b k u hb' hc => cell_set_block _ _ _ _ _ _ _ (by omega) hc) fun b hb' => ⟨⟨hb'.1.1, by rw [World.size_setCell]; exact hb'.1.2⟩, hb'.2⟩
set_option maxHeartbeats 8000000 in
set_option maxRecDepth 100000 in
theorem laying1_any (wA wr w : World) (v wv : Value) (l : List (Rg × Value)) (kind : Int) (p : Nat) (us : List Value) (h : LY wA wr v l) (hb : Below wr.heap.size wr w) (hu : w.ownsRow wr.heap.size 34 1 wv us.length us) (hui : ∀ u, u ∈ us → ∃ t x, u = .iface t x) (hul : us.length ≤ 1000) (hll : l.length ≤ 1000) (hp : p < 4) :
    Calls Tryz.prog 37 #[.int .i64 kind, .int .i64 (p : Int), wv, .pointer (some ⟨wA.heap.size, 0, none⟩)] w fun e w' => e = .returned (.tuple #[]) ∧ ∃ v' l', LY wA w' v' l' ∧ l'.map (fun x => x.1) = l.map (fun x => x.1) ++ (if us = [] then [] else [⟨kind, 112, p, 143, us⟩]) := by
  obtain ⟨i0, hi0, hz0, hz1, hz2⟩ := info_parts Tryz.infoRung
  obtain ⟨wa, wcp, rfl⟩ := own_slice hu
  by_cases h0 : us = []
  · subst h0
    have HR := hide (h.below hb)
    go_enter Tryz.func37, Tryz.ntmps37
    go_wp2_with fail
    go_end0
    exact ⟨rfl, v, l, HR.out, by simp⟩
  · have hpos : 0 < us.length := by
      cases us with
      | nil => exact absurd rfl h0
      | cons a r => simp
    have hposi : (0 : Int) < (us.length : Int) := by omega
    have HSM := hide (fun W (hW : Below w.heap.size w W) => some_any us _ W (vs_own (own_below hu hW) h0 hul hui).1 h0)
    have HCD := hide (cond_some hu h0 hul hui)
    obtain ⟨cv, hcv⟩ : ∃ cv, cv = someV (.slice wa us.length wcp) us := ⟨_, rfl⟩
    rw [← hcv] at HSM HCD
    obtain ⟨ct, cx, hct⟩ := HCD.out.iface
    obtain ⟨nb, hnb⟩ : ∃ nb, nmV 112 p = .string nb := ⟨_, rfl⟩
    have HNM := hide (named_any 112 p hp)
    obtain ⟨x, hx⟩ : ∃ x : Rg × Value, x = (⟨kind, 112, p, 143, us⟩, cv) := ⟨_, rfl⟩
    have hx3 : rg3 x = [.int .i64 kind, .string nb, .iface ct cx] := by
      unfold rg3
      rw [hx]
      show [Value.int .i64 kind, nmV 112 p, cv] = _
      rw [hnb, hct]
    have HX3 := hide hx3
    have HCX : Hid (CondV (fun b => wr.heap.size ≤ b) w x.1.ty x.1.us x.2) := by rw [hx]; exact HCD.out
    have HX1 : Hid ((l ++ [x]).map (fun x => x.1) = l.map (fun x => x.1) ++ (if us = [] then [] else [⟨kind, 112, p, 143, us⟩])) := by
      show _ = _
      rw [if_neg h0, List.map_append, hx]
      rfl
    have HONE : Hid (∀ u ∈ [Value.int .i64 kind, .string nb, .iface ct cx], u.oneCell' = true) := by
      have h := rg3_one (x := x) ⟨ct, cx, by rw [hx]; exact hct⟩
      rw [hx3] at h
      exact h
    obtain ⟨va, vc, hv⟩ := own_slice h.row.1
    obtain ⟨k, hk⟩ : ∃ k, k = l.length := ⟨_, rfl⟩
    have HK := hide hk
    rw [← hk] at hv hll
    subst hv
    have HFIN : Hid (∀ (W : World) (g2 cap2 : Nat) (wC : World), Below w.heap.size w W → wC.ownsRow (wA.heap.size + 1) 48 3 (.slice (some ⟨g2, 0, none⟩) (k + 1) cap2) (k + 1) (fl l ++ [.int .i64 kind, .string nb, .iface ct cx]) → (W.alloc (.cells #[.int .i64 kind, .string nb, .iface ct cx] 48)).grownBy wC (Value.slice va k vc).ownBlock → ((Value.slice va k vc).ownBlock = some g2 ∨ g2 = W.heap.size + 1) → LY wA (wC.setCell ⟨wA.heap.size, 0, none⟩ (.slice (some ⟨g2, 0, none⟩) (k + 1) cap2)) (.slice (some ⟨g2, 0, none⟩) (k + 1) cap2) (l ++ [x]) ∧ wC.cell? ⟨wA.heap.size, 0, none⟩ = some (.slice va k vc) ∧ wC.frozen? ⟨wA.heap.size, 0, none⟩ = false) := fun W g2 cap2 wC hW ho hg hat => by
      have hl := HK.out
      have h := LY.push (x := x) (g := g2) (cap := cap2) (o := .cells #[.int .i64 kind, .string nb, .iface ct cx] 48) h (then_ hb hW) (HCX.out.stay (fun _ _ _ _ hc => kept hW hc) fun _ hg => hg) (by rw [← hl, HX3.out]; exact ho) hg hat
      rw [← hl] at h
      exact h
    have HOWN : Hid (∀ (W : World) (o : Obj), Below w.heap.size w W → (W.alloc o).ownsRow (wA.heap.size + 1) 48 3 (.slice va k vc) k (fl l)) := fun W o hW => by
      have h := own_below (own_below (own_below h.row.1 hb) hW) (newB W o)
      rw [← HK.out] at h
      exact h
    have hc0 := (h.cell.below hb).cell 0 _ rfl
    have hlw : wA.heap.size < w.heap.size := (h.cell.below hb).lt
    have HD : Hid (Below w.heap.size w w.drew) := drewB w
    rw [hnb] at HNM
    rw [hct] at HSM
    clear hx3 hx hcv hct hnb HCD hu hui hk
    generalize us.length = un at *
    go_enter Tryz.func37, Tryz.ntmps37
    go_wp2_with fail
    go_region_law (first
      | (refine step_append_lies _ rfl (.tmp 10) (.tmp 17) 26 rfl (wA.heap.size + 1) 48 i0 _ 3 40 Tryz.underlying26 hi0 hz0 hz1 hz2 rfl (by decide) (.slice va k vc) k (fl l) rfl (HOWN.out w.drew _ HD.out) ⟨w.heap.size, 0, none⟩ 1 1 [.int .i64 kind, .string nb, .iface ct cx] rfl rfl (World.news_of_block (heap_alloc_new w.drew _)) HONE.out (by decide) (by unfold maxLen; omega) (by omega) (by simp; omega) (w.heap.size + 1) (by simp) ?_; intro g7 cap7 wD hown hgrow hat hltg; obtain ⟨hpn, wd0, wdf⟩ := HFIN.out w.drew g7 cap7 wD HD.out hown hgrow hat; have HP7 := hide hpn; clear hpn hown hgrow hat)
      | (go_simp; go_at_call 36; (with_reducible refine (HNM.out _).mono ?_); rintro e w6 ⟨rfl, hw⟩; obtain rfl := hw.symm)
      | (go_simp; go_at_call 38; (with_reducible refine (HSM.out _ HD.out).mono ?_); rintro e w6 ⟨rfl, hw⟩; obtain rfl := hw.symm))
    all_goals
      go_wp2_with fail
      go_end0
      exact ⟨rfl, _, l ++ [x], HP7.out, HX1.out.trans (by rw [if_neg h0])⟩
/-- the rung that lays point p so -/
def layRg (t : Tbl) (p : Nat) (b : Bool) : List Rg := if (wanting t ((p : Int), b)).map (bitV 108) = [] then [] else [⟨if b then 2 else 3, 112, p, 143, (wanting t ((p : Int), b)).map (bitV 108)⟩]
def layTo (t : Tbl) (k : Nat) : List Rg := (List.range k).flatMap fun p => layRg t p true ++ layRg t p false
theorem layTo_succ (t : Tbl) (k : Nat) : layTo t (k + 1) = (layTo t k ++ layRg t k true) ++ layRg t k false := by
  unfold layTo
  rw [List.range_succ, List.flatMap_append]
  simp
theorem layRg_len (t : Tbl) (p : Nat) (b : Bool) : (layRg t p b).length ≤ 1 := by unfold layRg; split <;> simp
theorem bits_iface (l : List Nat) : ∀ u, u ∈ l.map (bitV 108) → ∃ t x, u = .iface t x := fun u hu => by
  obtain ⟨y, _, rfl⟩ := List.mem_map.1 hu
  exact ⟨_, _, rfl⟩
set_option maxHeartbeats 8000000 in
set_option maxRecDepth 100000 in
theorem laying_any (t : Tbl) (rv : Value) (P : Nat) (w : World) (hr : Rts w rv t.rts) (hgd : Good t) (hP : t.pts = (P : Int)) (hP2 : P ≤ 2) :
    Calls Tryz.prog 13 #[.agg #[.int .i64 t.secs, .int .i64 t.pts, rv]] w fun e w' => ∃ v l, e = .returned v ∧ l.map (fun x => x.1) = layTo t P ∧ RR w.heap.size w' v l ∧ Below w.heap.size w w' := by
  obtain ⟨ra, rc, rfl⟩ := hr.slice
  obtain ⟨n, hn⟩ : ∃ n, n = t.rts.length := ⟨_, rfl⟩
  obtain ⟨wA, hwA⟩ : ∃ wA, wA = w.alloc (.cells #[.int .i64 t.secs, .int .i64 t.pts, .slice ra n rc] 24) := ⟨_, rfl⟩
  have hbA : Below w.heap.size w wA := by rw [hwA]; exact newB _ _
  have rT : RowIs wA w.heap.size 24 [.int .i64 t.secs, .int .i64 t.pts, .slice ra n rc] := by rw [hwA]; exact RowIs.new _ _ _
  have hsA : wA.heap.size = w.heap.size + 1 := by rw [hwA]; simp
  have HR := hide hr
  have HN := hide hn
  rw [← hn] at HR ⊢
  have HB0 := hide hbA
  have HW := hide hwA
  have HGD := hide hgd
  have HTA : Hid (∀ W, Below wA.heap.size wA W → W.cell? ⟨w.heap.size, 0, none⟩ = some (.int .i64 t.secs) ∧ W.cell? ⟨w.heap.size, 1, none⟩ = some (.int .i64 (P : Int)) ∧ W.cell? ⟨w.heap.size, 2, none⟩ = some (.slice ra n rc)) := fun W hW => ⟨kept hW (rT.cell 0 _ rfl), by rw [← hP]; exact kept hW (rT.cell 1 _ rfl), kept hW (rT.cell 2 _ rfl)⟩
  have HWT := hide (fun (wr : World) (hW : Below wA.heap.size wA wr) (p : Nat) (b : Bool) => wanting_any t _ ((p : Int), b) wr ((HR.out.below hbA).below hW) hgd.small)
  have HWL := hide (fun (p : Nat) (b : Bool) => wantTo_len t ((p : Int), b) t.rts.length)
  obtain ⟨w0, hw0⟩ : ∃ w0, w0 = wA.alloc (.cells #[.slice none 0 0] 26) := ⟨_, rfl⟩
  have HL0 : Hid (LY wA w0 (.slice none 0 0) []) := by
    rw [hw0]
    exact ⟨newB _ _, RowIs.new _ _ _, RR.nil _ _⟩
  have HW0 := hide hw0
  rw [hP] at HW HWT ⊢
  have HFEW := hide hgd.few
  have HSA := hide hsA
  clear hwA hbA rT hr hn hgd hw0 hsA
  unfold ptV at HWT
  go_enter Tryz.func13, Tryz.ntmps13
  go_wp2_with fail
  rw [← HSA.out, ← HW.out, ← HW0.out]
  clear HW HW0
  go_loopw [9] (fun iv wr => ∃ (k : Nat) (v : Value) (l : List (Rg × Value)), k ≤ P ∧ iv = .int .i64 (k : Int) ∧ Hid (l.map (fun x => x.1) = layTo t k) ∧ Hid (l.length ≤ 2 * k) ∧ Hid (LY wA wr v l)) (fun iv _ => P - (intOf iv).toNat)
  case atStart => exact ⟨0, _, [], Nat.zero_le _, rfl, rfl, Nat.le_refl _, HL0.out⟩
  case round =>
    obtain ⟨k, v, l, hk, rfl, HM, HLL, HY⟩ := hrel
    by_cases hlt : k < P
    · have hki : (k : Int) < (P : Int) := by omega
      obtain ⟨t0, t1, t2⟩ := HTA.out wr HY.out.bel
      have HW1 := hide (HWT.out wr HY.out.bel k true)
      have HE1 : Hid (l.map (fun x => x.1) ++ layRg t k true = layTo t k ++ layRg t k true) := by show _ = _; rw [HM.out]
      have HE2 := hide (layTo_succ t k)
      go_wp2_with fail
      refine HW1.out.mono ?_
      rintro e w1 ⟨wv1, rfl, ho1, hb1⟩
      have hlw := HWL.out k true
      have hl3 := HFEW.out
      have hlen1 : ((wanting t ((k : Int), true)).map (bitV 108)).length ≤ 1000 := by rw [List.length_map]; unfold wanting; omega
      have HC1 := hide (laying1_any wA wr w1 v wv1 l 2 k ((wanting t ((k : Int), true)).map (bitV 108)) HY.out hb1 (by rw [List.length_map]; exact ho1) (bits_iface _) hlen1 (by have := HLL.out; omega) (by omega))
      obtain ⟨a1, c1, rfl⟩ := own_slice ho1
      clear ho1 hb1 HW1 t0 t1 t2 hlen1 hlw hl3
      generalize (wanting t ((k : Int), true)).length = n1 at *
      go_wp2_with fail
      refine HC1.out.mono ?_
      rintro e w2 ⟨rfl, v2, l2, hy2, hm2⟩
      have HY2 := hide hy2
      have HM2 : Hid (l2.map (fun x => x.1) = layTo t k ++ layRg t k true) := by show _ = _; rw [hm2, ← HE1.out]; rfl
      have HL2 : Hid (l2.length ≤ 2 * k + 1) := by
        show _ ≤ _
        have h := congrArg List.length HM2.out
        rw [← HM.out, List.length_append, List.length_map, List.length_map] at h
        have := layRg_len t k true
        have := HLL.out
        omega
      obtain ⟨t0, t1, t2⟩ := HTA.out w2 hy2.bel
      have HW2 := hide (HWT.out w2 hy2.bel k false)
      clear hy2 hm2 HC1
      go_wp2_with fail
      refine HW2.out.mono ?_
      rintro e w3 ⟨wv3, rfl, ho3, hb3⟩
      have hlw := HWL.out k false
      have hl3 := HFEW.out
      have hlen3 : ((wanting t ((k : Int), false)).map (bitV 108)).length ≤ 1000 := by rw [List.length_map]; unfold wanting; omega
      have HC3 := hide (laying1_any wA w2 w3 v2 wv3 l2 3 k ((wanting t ((k : Int), false)).map (bitV 108)) HY2.out hb3 (by rw [List.length_map]; exact ho3) (bits_iface _) hlen3 (by have := HL2.out; omega) (by omega))
      obtain ⟨a3, c3, rfl⟩ := own_slice ho3
      clear ho3 hb3 HW2 t0 t1 t2 hlen3 hlw hl3
      generalize (wanting t ((k : Int), false)).length = n3 at *
      go_wp2_with fail
      refine HC3.out.mono ?_
      rintro e w4 ⟨rfl, v4, l4, hy4, hm4⟩
      have HY4 := hide hy4
      have HM4 : Hid (l4.map (fun x => x.1) = layTo t (k + 1)) := by show _ = _; rw [hm4, HM2.out, HE2.out]; rfl
      have HL4 : Hid (l4.length ≤ 2 * (k + 1)) := by
        show _ ≤ _
        have h := congrArg List.length HM4.out
        rw [HE2.out, ← HM2.out, List.length_append, List.length_map, List.length_map] at h
        have := layRg_len t k false
        have := HL2.out
        omega
      clear hy4 hm4 HC3
      go_wp2_with fail
      go_roundw
      case rel => exact ⟨k + 1, v4, l4, by omega, by go_num, HM4.out, HL4.out, HY4.out⟩
      case measure => simp [intOf]; omega
    · have hkn : k = P := by omega
      have c0 := HY.out.cell.cell 0 _ rfl
      obtain ⟨va, vc, hv⟩ := own_slice HY.out.row.1
      have HRS : Hid (RR w.heap.size wr v l) := ⟨own_mono HY.out.row.1 (by rw [HSA.out]; omega), fun x hx => (HY.out.row.2 x hx).stay (fun _ _ _ _ hc => hc) fun b hb => ⟨⟨by have := HSA.out; omega, hb.1.2⟩, hb.2⟩⟩
      have HBX := hide (then_ HB0.out HY.out.bel)
      subst hv
      subst hkn
      go_wp2_with fail
      go_ret
      exact ⟨_, l, rfl, HM.out, HRS.out, HBX.out⟩
end Ro
end
section
namespace Ro
open Go.RowKit
/-- the shared row of names -/
structure LN (wA w : World) (v : Value) (n : Nat) (us : List Value) : Prop where
  bel : Below wA.heap.size wA w
  cell : RowIs w wA.heap.size 25 [v]
  row : w.ownsRow (wA.heap.size + 1) 98 3 v n us
theorem LN.push {wA wr W wC : World} {v : Value} {n : Nat} {us xs : List Value} {g cap : Nat} {o : Obj} (h : LN wA wr v n us) (hb : Below wr.heap.size wr W) (ho : wC.ownsRow (wA.heap.size + 1) 98 3 (.slice (some ⟨g, 0, none⟩) (n + 1) cap) (n + 1) (us ++ xs)) (hg : (W.alloc o).grownBy wC v.ownBlock) :
    LN wA (wC.setCell ⟨wA.heap.size, 0, none⟩ (.slice (some ⟨g, 0, none⟩) (n + 1) cap)) (.slice (some ⟨g, 0, none⟩) (n + 1) cap) (n + 1) (us ++ xs) ∧ wC.cell? ⟨wA.heap.size, 0, none⟩ = some v ∧ wC.frozen? ⟨wA.heap.size, 0, none⟩ = false := by
  have hlt := h.cell.lt
  have hvb := ownBlock_new h.row
  have hne : some wA.heap.size ≠ v.ownBlock := by
    rcases hvb with e | ⟨g', e, hl⟩
    · rw [e]; intro e; cases e
    · rw [e]; intro e; cases e; omega
  have hcell : RowIs wC wA.heap.size 25 [v] := (hg.block _ (by have := hb.size; rw [World.size_alloc]; omega) hne).trans ((h.cell.below hb).alloc _)
  refine ⟨⟨?_, hcell.set 0 _, ?_⟩, hcell.cell 0 _ rfl, hcell.frozen 0⟩
  · refine (below_grown (then_ (then_ h.bel hb) (newB _ _)) hg ?_).setCell (Nat.le_refl _) _
    exact hvb.imp id fun ⟨g', e, hl⟩ => ⟨g', e, by omega⟩
  · refine ⟨ho.1, ?_⟩
    rcases ho.2 with e | ⟨g', cap', cur, e1, e2, e3, e4⟩
    · exact .inl e
    · refine .inr ⟨g', cap', cur, e1, e2, ?_, e4⟩
      rw [Below.heap_setCell _ _ _ _ (fun e => by have e2' : g' = wA.heap.size := e; omega)]
      exact e3
def nm3 (kind : Int) (c : UInt8) (i : Nat) : List Value := [nmV c i, .int .i64 kind, .int .i64 0]
def nmsV (kind : Int) (c : UInt8) (k : Nat) : List Value := (List.range k).flatMap (nm3 kind c)
theorem nmsV_succ (kind : Int) (c : UInt8) (k : Nat) : nmsV kind c (k + 1) = nmsV kind c k ++ nm3 kind c k := by
  unfold nmsV
  rw [List.range_succ, List.flatMap_append]
  simp
set_option maxHeartbeats 8000000 in
set_option maxRecDepth 100000 in
theorem names1_any (wA w : World) (v : Value) (n : Nat) (us : List Value) (kind : Int) (c : UInt8) (m : Nat) (h : LN wA w v n us) (hn : n ≤ 1000) (hm : m ≤ 4) :
    Calls Tryz.prog 40 #[.int .i64 kind, .string ⟨#[c]⟩, .int .i64 (m : Int), .pointer (some ⟨wA.heap.size, 0, none⟩)] w fun e w' => e = .returned (.tuple #[]) ∧ ∃ v', LN wA w' v' (n + m) (us ++ nmsV kind c m) := by
  obtain ⟨i0, hi0, hz0, hz1, hz2⟩ := info_parts Tryz.infoName
  have HL := hide h
  clear h
  go_enter Tryz.func40, Tryz.ntmps40
  go_wp2_with fail
  go_loopw [9] (fun iv wr => ∃ (k q : Nat) (a : Option Addr) (ca : Nat), k ≤ m ∧ iv = .int .i64 (k : Int) ∧ Hid (q = n + k) ∧ q ≤ 1004 ∧ Hid (LN wA wr (.slice a q ca) q (us ++ nmsV kind c k))) (fun iv _ => m - (intOf iv).toNat)
  case atStart =>
    obtain ⟨a, ca, rfl⟩ := own_slice HL.out.row
    exact ⟨0, n, a, ca, Nat.zero_le _, rfl, rfl, by omega, by simpa [Hid, nmsV] using HL.out⟩
  case round =>
    obtain ⟨k, q, a, ca, hk, rfl, HQ, hq, HY⟩ := hrel
    by_cases hlt : k < m
    · have hki : (k : Int) < (m : Int) := by omega
      have hc0 := HY.out.cell.cell 0 _ rfl
      have hlw : wA.heap.size < wr.heap.size := HY.out.cell.lt
      obtain ⟨nb, hnb⟩ : ∃ nb, nmV c k = .string nb := ⟨_, rfl⟩
      have HNM := hide (named_any c k (by omega))
      have HSU : Hid (us ++ nmsV kind c (k + 1) = (us ++ nmsV kind c k) ++ [.string nb, .int .i64 kind, .int .i64 0]) := by
        show _ = _
        rw [nmsV_succ, ← List.append_assoc]
        unfold nm3
        rw [hnb]
      have HONE : Hid (∀ u ∈ [Value.string nb, .int .i64 kind, .int .i64 0], u.oneCell' = true) := fun u hu => by
        simp only [List.mem_cons, List.not_mem_nil, or_false] at hu
        rcases hu with rfl | rfl | rfl <;> rfl
      have HFIN : Hid (∀ (g2 cap2 : Nat) (wC : World), wC.ownsRow (wA.heap.size + 1) 98 3 (.slice (some ⟨g2, 0, none⟩) (q + 1) cap2) (q + 1) ((us ++ nmsV kind c k) ++ [.string nb, .int .i64 kind, .int .i64 0]) → (wr.drew.alloc (.cells #[.string nb, .int .i64 kind, .int .i64 0] 98)).grownBy wC (Value.slice a q ca).ownBlock → LN wA (wC.setCell ⟨wA.heap.size, 0, none⟩ (.slice (some ⟨g2, 0, none⟩) (q + 1) cap2)) (.slice (some ⟨g2, 0, none⟩) (q + 1) cap2) (q + 1) (us ++ nmsV kind c (k + 1)) ∧ wC.cell? ⟨wA.heap.size, 0, none⟩ = some (.slice a q ca) ∧ wC.frozen? ⟨wA.heap.size, 0, none⟩ = false) := fun g2 cap2 wC ho hg => by
        rw [HSU.out]
        exact LN.push HY.out (drewB wr) ho hg
      have HOWN : Hid (∀ (o : Obj), (wr.drew.alloc o).ownsRow (wA.heap.size + 1) 98 3 (.slice a q ca) q (us ++ nmsV kind c k)) := fun o => own_below (own_below HY.out.row (drewB wr)) (newB _ o)
      rw [hnb] at HNM
      clear hnb
      go_wp2_with fail
      go_region_law (first
        | (refine step_append_lies _ rfl (.tmp 12) (.tmp 18) 25 rfl (wA.heap.size + 1) 98 i0 _ 3 32 Tryz.underlying25 hi0 hz0 hz1 hz2 rfl (by decide) (.slice a q ca) q (us ++ nmsV kind c k) rfl (HOWN.out _) ⟨wr.heap.size, 0, none⟩ 1 1 [.string nb, .int .i64 kind, .int .i64 0] rfl rfl (World.news_of_block (heap_alloc_new wr.drew _)) HONE.out (by decide) (by unfold maxLen; omega) (by omega) (by simp; omega) (wr.heap.size + 1) (by simp) ?_; intro g7 cap7 wD hown hgrow hat hltg; obtain ⟨hpn, wd0, wdf⟩ := HFIN.out g7 cap7 wD hown hgrow; have HP7 := hide hpn; clear hpn hown hgrow hat)
        | (go_simp; go_at_call 36; (with_reducible refine (HNM.out _).mono ?_); rintro e w6 ⟨rfl, hw⟩; obtain rfl := hw.symm))
      all_goals
        go_wp2_with fail
        go_roundw
        case rel => exact ⟨k + 1, q + 1, some ⟨g7, 0, none⟩, cap7, by omega, by go_num, hide (by rw [HQ.out]; omega), by have := HQ.out; omega, HP7.out⟩
        case measure => simp [intOf]; omega
    · have hkn : k = m := by omega
      have HR : Hid (∃ v', LN wA wr v' (n + m) (us ++ nmsV kind c m)) := by
        have h := HY.out
        rw [HQ.out, hkn] at h
        exact ⟨_, h⟩
      subst hkn
      go_wp2_with fail
      go_end0
      exact ⟨rfl, HR.out⟩
/-- the names of a table's program -/
def namesV (r s p : Nat) : List Value := ((nmsV 1 97 r ++ nmsV 1 98 s) ++ nmsV 2 108 r) ++ nmsV 2 112 p
set_option maxHeartbeats 8000000 in
set_option maxRecDepth 100000 in
theorem names_any (t : Tbl) (rv : Value) (S P : Nat) (w : World) (hr : Rts w rv t.rts) (hn3 : t.rts.length ≤ 3) (hS : t.secs = (S : Int)) (hS3 : S ≤ 3) (hP : t.pts = (P : Int)) (hP2 : P ≤ 2) :
    Calls Tryz.prog 14 #[.agg #[.int .i64 t.secs, .int .i64 t.pts, rv]] w fun e w' => ∃ v, e = .returned v ∧ w'.ownsRow w.heap.size 98 3 v (t.rts.length + S + t.rts.length + P) (namesV t.rts.length S P) ∧ Below w.heap.size w w' := by
  obtain ⟨ra, rc, rfl⟩ := hr.slice
  obtain ⟨wA, hwA⟩ : ∃ wA, wA = w.alloc (.cells #[.int .i64 t.secs, .int .i64 t.pts, .slice ra t.rts.length rc] 24) := ⟨_, rfl⟩
  have hbA : Below w.heap.size w wA := by rw [hwA]; exact newB _ _
  have rT : RowIs wA w.heap.size 24 [.int .i64 t.secs, .int .i64 t.pts, .slice ra t.rts.length rc] := by rw [hwA]; exact RowIs.new _ _ _
  have hsA : wA.heap.size = w.heap.size + 1 := by rw [hwA]; simp
  rw [hS, hP] at rT hwA
  have HTA : Hid (∀ W, Below wA.heap.size wA W → W.cell? ⟨w.heap.size, 0, none⟩ = some (.int .i64 (S : Int)) ∧ W.cell? ⟨w.heap.size, 1, none⟩ = some (.int .i64 (P : Int)) ∧ W.cell? ⟨w.heap.size, 2, none⟩ = some (.slice ra t.rts.length rc)) := fun W hW => ⟨kept hW (rT.cell 0 _ rfl), kept hW (rT.cell 1 _ rfl), kept hW (rT.cell 2 _ rfl)⟩
  obtain ⟨w0, hw0⟩ : ∃ w0, w0 = wA.alloc (.cells #[.slice none 0 0] 25) := ⟨_, rfl⟩
  have HL0 : Hid (LN wA w0 (.slice none 0 0) 0 []) := by
    rw [hw0]
    exact ⟨newB _ _, RowIs.new _ _ _, World.ownsRow_nil _ _ _ _⟩
  have HB0 := hide hbA
  have HW := hide hwA
  have HW0 := hide hw0
  have HSA := hide hsA
  rw [hS, hP]
  clear hwA hbA rT hr hw0 hsA hS hP
  generalize t.rts.length = n at *
  go_enter Tryz.func14, Tryz.ntmps14
  go_upto_region 3 with fail
  rw [← HSA.out, ← HW.out, ← HW0.out]
  clear HW HW0
  obtain ⟨a0, a1, a2⟩ := HTA.out w0 HL0.out.bel
  have HC1 := hide (names1_any wA w0 _ 0 [] 1 97 n HL0.out (by omega) (by omega))
  go_wp2_with fail
  refine HC1.out.mono ?_
  rintro e w1 ⟨rfl, v1, hl1⟩
  have HL1 := hide hl1
  have HC2 := hide (names1_any wA w1 v1 _ _ 1 98 S hl1 (by omega) (by omega))
  obtain ⟨b0, b1, b2⟩ := HTA.out w1 hl1.bel
  clear HC1 a0 a1 a2 hl1
  go_wp2_with fail
  refine HC2.out.mono ?_
  rintro e w2 ⟨rfl, v2, hl2⟩
  have HL2 := hide hl2
  have HC3 := hide (names1_any wA w2 v2 _ _ 2 108 n hl2 (by omega) (by omega))
  obtain ⟨a0, a1, a2⟩ := HTA.out w2 hl2.bel
  clear HC2 b0 b1 b2 hl2
  go_wp2_with fail
  refine HC3.out.mono ?_
  rintro e w3 ⟨rfl, v3, hl3⟩
  have HL3 := hide hl3
  have HC4 := hide (names1_any wA w3 v3 _ _ 2 112 P hl3 (by omega) (by omega))
  obtain ⟨b0, b1, b2⟩ := HTA.out w3 hl3.bel
  clear HC3 a0 a1 a2 hl3
  go_wp2_with fail
  refine HC4.out.mono ?_
  rintro e w4 ⟨rfl, v4, hl4⟩
  have c0 := hl4.cell.cell 0 _ rfl
  obtain ⟨va, vc, hv⟩ := own_slice hl4.row
  have HRS : Hid (w4.ownsRow w.heap.size 98 3 v4 (n + S + n + P) (namesV n S P)) := by
    have h := own_mono hl4.row (by rw [HSA.out]; omega : w.heap.size ≤ wA.heap.size + 1)
    rw [Nat.zero_add, List.nil_append] at h
    exact h
  have HBX := hide (then_ HB0.out hl4.bel)
  subst hv
  rw [Nat.zero_add] at HRS
  clear HC4 hl4 b0 b1 b2
  go_wp2_with fail
  go_ret
  exact ⟨_, rfl, HRS.out, HBX.out⟩
end Ro
end
section
namespace Ro
open Go.RowKit
theorem append_rungs {W : World} (base base2 : Nat) (ty : TypeId) (v : Value) (n : Nat) (xs : List Value) (a : Option Addr) (m c : Nat) (us : List Value) (hown : W.ownsRow base 48 3 v n xs) (hs : W.ownsRow base2 48 3 (.slice a m c) m us) (hone : ∀ u, u ∈ us → u.oneCell' = true) (hb : base ≤ W.heap.size) (hx : n ≤ 1000) (hu : m ≤ 1000) :
    ∃ v' W', (Builtin.append_ #[26, 26] ty #[v, .slice a m c]).run Tryz.prog W = .ok v' W' ∧ W'.ownsRow base 48 3 v' (n + m) (xs ++ us) ∧ W.grownBy W' v.ownBlock := by
  obtain ⟨i0, hi0, hz0, hz1, hz2⟩ := info_parts Tryz.infoRung
  rcases hs.2 with ⟨e1, h0⟩ | ⟨g, cap, cur, e1, _, hcur, hcap, _, _, htk⟩
  · have h3 := hs.1
    rw [h0, Nat.zero_mul] at h3
    have : us = [] := List.length_eq_zero_iff.1 h3
    subst this
    subst h0
    exact ⟨v, W, append_zero base _ ty _ i0 3 Tryz.underlying26 hi0 v _ _ hown _ _, by simpa using hown, ⟨rfl, rfl, rfl, Nat.le_refl _, fun _ _ _ => rfl⟩⟩
  · simp only [Value.slice.injEq] at e1
    obtain ⟨rfl, _, rfl⟩ := e1
    obtain ⟨v', W', h1, h2, h3, _⟩ := run_append_own_at (P := Tryz.prog) W base 26 ty 48 i0 _ 3 40 Tryz.underlying26 hi0 hz0 hz1 hz2 rfl (by decide) v n xs hown ⟨g, 0, none⟩ m c us hs.1 (fun j u hj => by
        have := row_cell hcur htk hj
        cases j <;> simpa [Addr.add] using this) hone (by unfold maxLen; omega) (by omega) hb
    exact ⟨v', W', h1, h2, h3⟩
set_option maxHeartbeats 2000000 in
set_option maxRecDepth 100000 in
theorem growR_any (t : Nat) (h0 : 0 < t) (h60 : t ≤ 1000) (w : World) :
    Calls Tryz.prog 33 #[.slice none 0 0, .int .i64 (t : Int)] w fun e w' => ∃ v, e = .returned v ∧ w'.ownsRow w.heap.size 48 3 v 0 [] ∧ Below w.heap.size w w' := by
  obtain ⟨i0, hi0, hz0, hz1, hz2⟩ := info_parts Tryz.infoRung
  have HA := hide (fun (W : World) (ty : TypeId) => Lib.run_append_nil_zeros (P := Tryz.prog) W 26 3 ty 48 i0 _ .i64 .i64 Tryz.underlying26 Tryz.underlying3 hi0 hz0 t h0 (by omega) (by omega) (by rw [hz2]; omega))
  have hti : (0 : Int) < (t : Int) := by omega
  have HCG := hide (grownCap_ge w t 0 48)
  have HCM := hide (grownCap_le_maxLen w t 0 48 (by unfold maxLen; omega))
  clear hi0 hz0 hz1 hz2
  go_enter Tryz.func33, Tryz.ntmps33
  go_wp2_with (at_builtin; refine Lib.wpList_append_run _ rfl _ _ _ _ rfl _ _ rfl rfl _ _ (HA.out _ _) ?_)
  go_ret
  refine ⟨_, rfl, ⟨by simp, .inr ⟨w.heap.size, grownCap w t 0 48, _, rfl, Nat.le_refl _, heap_alloc_new w _, Nat.zero_le _, HCM.out, ?_, by simp⟩⟩, ?_⟩
  · have := HCG.out
    simp [Builtin.zeroCells]
    omega
  · exact ((Below.refl _ w).alloc (Nat.le_refl _) _).trans ⟨rfl, rfl, rfl, Nat.le_refl _, fun _ _ => rfl⟩
def sumN (f : Nat → Nat) : Nat → Nat
  | 0 => 0
  | k + 1 => sumN f k + f k
def catN (f : Nat → List Value) : Nat → List Value
  | 0 => []
  | k + 1 => catN f k ++ f k
/-- three rows of rungs that lie in a row -/
def Src (w : World) (g : Nat) (nN : Nat → Nat) (aN : Nat → Option Addr) (cN : Nat → Nat) (usN : Nat → List Value) : Prop := ∀ k, k < 3 → w.cell? ⟨g, k, none⟩ = some (.slice (aN k) (nN k) (cN k)) ∧ w.ownsRow 0 48 3 (.slice (aN k) (nN k) (cN k)) (nN k) (usN k) ∧ (∀ u, u ∈ usN k → u.oneCell' = true) ∧ nN k ≤ 100
theorem Src.below {w w' : World} {g : Nat} {nN : Nat → Nat} {aN : Nat → Option Addr} {cN : Nat → Nat} {usN : Nat → List Value} (h : Src w g nN aN cN usN) (hb : Below w.heap.size w w') : Src w' g nN aN cN usN := fun k hk => ⟨kept hb (h k hk).1, own_below (h k hk).2.1 hb, (h k hk).2.2⟩
set_option maxHeartbeats 4000000 in
set_option maxRecDepth 100000 in
theorem concatR_any (g : Nat) (nN : Nat → Nat) (aN : Nat → Option Addr) (cN : Nat → Nat) (usN : Nat → List Value) (w : World) (h : Src w g nN aN cN usN) (h0 : 0 < nN 0) :
    Calls Tryz.prog 10 #[.slice (some ⟨g, 0, none⟩) 3 3] w fun e w' => ∃ v, e = .returned v ∧ w'.ownsRow w.heap.size 48 3 v (sumN nN 3) (catN usN 3) ∧ Below w.heap.size w w' := by
  have HS := hide h
  have n0 := (h 0 (by omega)).2.2.2
  have n1 := (h 1 (by omega)).2.2.2
  have n2 := (h 2 (by omega)).2.2.2
  have hsum : 0 < sumN nN 3 ∧ sumN nN 3 ≤ 300 := by simp only [sumN]; omega
  have HG := hide (fun W => growR_any (sumN nN 3) hsum.1 (by omega) W)
  have HSB : Hid (∀ k, k ≤ 3 → sumN nN k ≤ 300) := fun k hk => by
    have : k = 0 ∨ k = 1 ∨ k = 2 ∨ k = 3 := by omega
    rcases this with rfl | rfl | rfl | rfl <;> simp only [sumN] <;> omega
  have HSUC : Hid (∀ k, sumN nN (k + 1) = sumN nN k + nN k) := fun k => rfl
  have HCUC : Hid (∀ k, catN usN (k + 1) = catN usN k ++ usN k) := fun k => rfl
  clear h h0 n0 n1 n2
  generalize hS3 : sumN nN 3 = S3 at *
  have HS3 := hide hS3
  clear hS3
  go_enter Tryz.func10, Tryz.ntmps10
  go_wp2_with fail
  go_loop [11, 3] (fun i s => ∃ (k q : Nat), k ≤ 3 ∧ i = .int .i64 (k : Int) ∧ s = .int .i64 (q : Int) ∧ q ≤ 300 ∧ Hid (q = sumN nN k)) (fun i _ => 3 - (intOf i).toNat)
  case atStart => exact ⟨0, 0, by omega, rfl, rfl, by omega, rfl⟩
  case round =>
    obtain ⟨k, q, hk, rfl, rfl, hq, HQ⟩ := hrel
    by_cases hlt : k < 3
    · obtain ⟨c0, _, _, hn⟩ := HS.out k hlt
      have hki : (k : Int) < 3 := by omega
      have hsb := HSB.out (k + 1) (by omega)
      have HQ2 : Hid (q + nN k = sumN nN (k + 1)) := by show _ = _; rw [HSUC.out, HQ.out]
      have hqn : q + nN k ≤ 300 := by rw [HQ2.out]; exact hsb
      have hni : ¬ ((q : Int) + (nN k : Int) < 0) := by omega
      clear hsb
      generalize nN k = m at *
      generalize aN k = a at *
      generalize cN k = c at *
      go_wp2_with fail
      go_round
      case rel => exact ⟨k + 1, q + m, by omega, by go_num, by go_num, by omega, HQ2.out⟩
      case measure => simp [intOf]; omega
    · have hk3 : k = 3 := by omega
      subst hk3
      have hq3 : q = S3 := HQ.out.trans HS3.out
      subst hq3
      have hki : ¬ ((3 : Int) < 3) := by omega
      have HGW := hide (HG.out w)
      clear hk HQ HG
      go_wp2_with fail
      refine HGW.out.mono ?_
      rintro e w1 ⟨v1, rfl, hown1, hb1⟩
      have HO1 := hide hown1
      have HB1 := hide hb1
      obtain ⟨a1, cp1, rfl⟩ := own_slice hown1
      clear hown1 hb1 HGW
      go_wp2_with fail
      go_loopw [27, 6] (fun i s wr => ∃ (k q : Nat) (a : Option Addr) (c : Nat), k ≤ 3 ∧ i = .int .i64 (k : Int) ∧ s = .slice a q c ∧ q ≤ 300 ∧ Hid (q = sumN nN k) ∧ Hid (wr.ownsRow w.heap.size 48 3 (.slice a q c) q (catN usN k)) ∧ Hid (Below w.heap.size w wr)) (fun i _ _ => 3 - (intOf i).toNat)
      case atStart => exact ⟨0, 0, a1, cp1, by omega, rfl, rfl, by omega, rfl, HO1.out, HB1.out⟩
      case round =>
        obtain ⟨k, r, a2, c2, hk, rfl, rfl, hr, HQ, HO, HB⟩ := hrel
        by_cases hlt : k < 3
        · obtain ⟨c0, hs, hone, hn⟩ := (HS.out.below HB.out) k hlt
          have hki : (k : Int) < 3 := by omega
          have hsb := HSB.out (k + 1) (by omega)
          have HQ2 : Hid (r + nN k = sumN nN (k + 1)) := by show _ = _; rw [HSUC.out, HQ.out]
          have hqn : r + nN k ≤ 300 := by rw [HQ2.out]; exact hsb
          obtain ⟨v', W', r1, r2, r3⟩ := append_rungs w.heap.size 0 26 (.slice a2 r c2) r (catN usN k) (aN k) (nN k) (cN k) (usN k) HO.out hs hone HB.out.size (by omega) (by omega)
          have HR1 := hide r1
          have HO2 : Hid (W'.ownsRow w.heap.size 48 3 v' (r + nN k) (catN usN (k + 1))) := by rw [HCUC.out]; exact r2
          have HB2 := hide (below_grown HB.out r3 (ownBlock_new HO.out))
          obtain ⟨a3, c3, rfl⟩ := own_slice r2
          clear r1 r2 r3 hs hone hsb hn
          generalize nN k = m at *
          generalize aN k = a at *
          generalize cN k = c at *
          go_wp2_with (at_builtin; refine Lib.wpList_append_run _ rfl _ _ _ _ rfl _ _ rfl rfl _ _ HR1.out ?_)
          go_roundw
          case rel => exact ⟨k + 1, r + m, a3, c3, by omega, by go_num, rfl, by omega, HQ2.out, HO2.out, HB2.out⟩
          case measure => simp [intOf]; omega
        · have hk3 : k = 3 := by omega
          subst hk3
          have hq3 : r = q := HQ.out.trans HS3.out
          subst hq3
          clear hk HQ
          go_wp2_with fail
          go_ret
          exact ⟨_, rfl, HO.out, HB.out⟩
end Ro
end
end Go.Proofs.YtgdmohombcgjbaaGreatDoor
