/-
  The walk of the function within package route's laying, which appends a rung to a row that it shares.
-/
import Derived.Test.YtflonjbbolmelaaGreatDoorRoLock
namespace Go.Proofs.YtflonjbbolmelaaGreatDoor
namespace Ro
open Go.RowKit
/-- the shared row of rungs -/
structure LY (wA w : World) (v : Value) (l : List (Rg × Value)) : Prop where
  bel : Below wA.heap.size wA w
  cell : RowIs w wA.heap.size 27 [v]
  row : RR (wA.heap.size + 1) w v l
theorem LY.below {wA w w' : World} {v : Value} {l : List (Rg × Value)} (h : LY wA w v l) (hb : Below w.heap.size w w') : LY wA w' v l := ⟨then_ h.bel hb, h.cell.below hb, h.row.below hb⟩
theorem LY.push {wA wr W wC : World} {v : Value} {l : List (Rg × Value)} {x : Rg × Value} {g cap : Nat} {o : Obj} (h : LY wA wr v l) (hb : Below wr.heap.size wr W) (hx : CondV (fun b => wr.heap.size ≤ b) W x.1.ty x.1.us x.2) (ho : wC.ownsRow (wA.heap.size + 1) 52 3 (.slice (some ⟨g, 0, none⟩) (l.length + 1) cap) (l.length + 1) (fl l ++ rg3 x)) (hg : (W.alloc o).grownBy wC v.ownBlock) (hat : v.ownBlock = some g ∨ g = W.heap.size + 1) :
    LY wA (wC.setCell ⟨wA.heap.size, 0, none⟩ (.slice (some ⟨g, 0, none⟩) (l.length + 1) cap)) (.slice (some ⟨g, 0, none⟩) (l.length + 1) cap) (l ++ [x]) ∧ wC.cell? ⟨wA.heap.size, 0, none⟩ = some v ∧ wC.frozen? ⟨wA.heap.size, 0, none⟩ = false := by
  have hlt := h.cell.lt
  have hrr := RR.push h.row (by omega) hb hx ho hg hat
  have hvb := ownBlock_new h.row.1
  have hne : some wA.heap.size ≠ v.ownBlock := by
    rcases hvb with e | ⟨g', e, hl⟩
    · rw [e]; intro e; cases e
    · rw [e]; intro e; cases e; omega
  have hcell : RowIs wC wA.heap.size 27 [v] := (hg.block _ (by have := hb.size; rw [World.size_alloc]; omega) hne).trans ((h.cell.below hb).alloc _)
  have hgq : wA.heap.size + 1 ≤ g := by
    rcases ho.2 with ⟨e, _⟩ | ⟨g', cap', cur, e, hl, _⟩
    · cases e
    · simp only [Value.slice.injEq, Option.some.injEq, Addr.mk.injEq, and_true] at e
      omega
  refine ⟨⟨?_, hcell.set 0 _, ⟨?_, fun y hy => ?_⟩⟩, hcell.cell 0 _ rfl, hcell.frozen 0⟩
  · refine (below_grown (then_ (then_ h.bel hb) (newB _ _)) hg ?_).setCell (Nat.le_refl _) _
    exact hvb.imp id fun ⟨g', e, hl⟩ => ⟨g', e, by omega⟩
  · refine ⟨hrr.1.1, ?_⟩
    rcases hrr.1.2 with e | ⟨g', cap', cur, e1, e2, e3, e4⟩
    · exact .inl e
    · refine .inr ⟨g', cap', cur, e1, e2, ?_, e4⟩
      rw [Below.heap_setCell _ _ _ _ (fun e => by have e2' : g' = wA.heap.size := e; omega)]
      exact e3
  · exact (hrr.2 y hy).stay (fun b k u hb' hc => cell_set_block _ _ _ _ _ _ _ (by omega) hc) fun b hb' => ⟨⟨hb'.1.1, by rw [World.size_setCell]; exact hb'.1.2⟩, hb'.2⟩
set_option maxHeartbeats 8000000 in
set_option maxRecDepth 100000 in
theorem laying1_any (wA wr w : World) (v wv : Value) (l : List (Rg × Value)) (kind : Int) (p : Nat) (us : List Value) (h : LY wA wr v l) (hb : Below wr.heap.size wr w) (hu : w.ownsRow wr.heap.size 50 1 wv us.length us) (hui : ∀ u, u ∈ us → ∃ t x, u = .iface t x) (hul : us.length ≤ 1000) (hll : l.length ≤ 1000) (hp : p < 4) :
    Calls Tryz.prog 34 #[.int .i64 kind, .int .i64 (p : Int), wv, .pointer (some ⟨wA.heap.size, 0, none⟩)] w fun e w' => e = .returned (.tuple #[]) ∧ ∃ v' l', LY wA w' v' l' ∧ l'.map (fun x => x.1) = l.map (fun x => x.1) ++ (if us = [] then [] else [⟨kind, 112, p, 108, us⟩]) := by
  obtain ⟨i0, hi0, hz0, hz1, hz2⟩ := info_parts Tryz.infoRung
  obtain ⟨wa, wcp, rfl⟩ := own_slice hu
  by_cases h0 : us = []
  · subst h0
    have HR := hide (h.below hb)
    go_enter Tryz.func34, Tryz.ntmps34
    go_wp2_with fail
    go_end0
    exact ⟨rfl, v, l, HR.out, by simp⟩
  · have hpos : 0 < us.length := by
      cases us with
      | nil => exact absurd rfl h0
      | cons a r => simp
    have hposi : (0 : Int) < (us.length : Int) := by omega
    have HSM := hide (fun W (hW : Below w.heap.size w W) => some_any us _ W (vs_own (own_below hu hW) h0 hul hui).1 h0)
    have HCD := hide (cond_some hu h0 hul hui)
    obtain ⟨cv, hcv⟩ : ∃ cv, cv = someV (.slice wa us.length wcp) us := ⟨_, rfl⟩
    rw [← hcv] at HSM HCD
    obtain ⟨ct, cx, hct⟩ := HCD.out.iface
    obtain ⟨nb, hnb⟩ : ∃ nb, nmV 112 p = .string nb := ⟨_, rfl⟩
    have HNM := hide (named_any 112 p hp)
    obtain ⟨x, hx⟩ : ∃ x : Rg × Value, x = (⟨kind, 112, p, 108, us⟩, cv) := ⟨_, rfl⟩
    have hx3 : rg3 x = [.int .i64 kind, .string nb, .iface ct cx] := by
      unfold rg3
      rw [hx]
      show [Value.int .i64 kind, nmV 112 p, cv] = _
      rw [hnb, hct]
    have HX3 := hide hx3
    have HCX : Hid (CondV (fun b => wr.heap.size ≤ b) w x.1.ty x.1.us x.2) := by rw [hx]; exact HCD.out
    have HX1 : Hid ((l ++ [x]).map (fun x => x.1) = l.map (fun x => x.1) ++ (if us = [] then [] else [⟨kind, 112, p, 108, us⟩])) := by
      show _ = _
      rw [if_neg h0, List.map_append, hx]
      rfl
    have HONE : Hid (∀ u ∈ [Value.int .i64 kind, .string nb, .iface ct cx], u.oneCell' = true) := by
      have h := rg3_one (x := x) ⟨ct, cx, by rw [hx]; exact hct⟩
      rw [hx3] at h
      exact h
    obtain ⟨va, vc, hv⟩ := own_slice h.row.1
    obtain ⟨k, hk⟩ : ∃ k, k = l.length := ⟨_, rfl⟩
    have HK := hide hk
    rw [← hk] at hv hll
    subst hv
    have HFIN : Hid (∀ (W : World) (g2 cap2 : Nat) (wC : World), Below w.heap.size w W → wC.ownsRow (wA.heap.size + 1) 52 3 (.slice (some ⟨g2, 0, none⟩) (k + 1) cap2) (k + 1) (fl l ++ [.int .i64 kind, .string nb, .iface ct cx]) → (W.alloc (.cells #[.int .i64 kind, .string nb, .iface ct cx] 52)).grownBy wC (Value.slice va k vc).ownBlock → ((Value.slice va k vc).ownBlock = some g2 ∨ g2 = W.heap.size + 1) → LY wA (wC.setCell ⟨wA.heap.size, 0, none⟩ (.slice (some ⟨g2, 0, none⟩) (k + 1) cap2)) (.slice (some ⟨g2, 0, none⟩) (k + 1) cap2) (l ++ [x]) ∧ wC.cell? ⟨wA.heap.size, 0, none⟩ = some (.slice va k vc) ∧ wC.frozen? ⟨wA.heap.size, 0, none⟩ = false) := fun W g2 cap2 wC hW ho hg hat => by
      have hl := HK.out
      have h := LY.push (x := x) (g := g2) (cap := cap2) (o := .cells #[.int .i64 kind, .string nb, .iface ct cx] 52) h (then_ hb hW) (HCX.out.stay (fun _ _ _ _ hc => kept hW hc) fun _ hg => hg) (by rw [← hl, HX3.out]; exact ho) hg hat
      rw [← hl] at h
      exact h
    have HOWN : Hid (∀ (W : World) (o : Obj), Below w.heap.size w W → (W.alloc o).ownsRow (wA.heap.size + 1) 52 3 (.slice va k vc) k (fl l)) := fun W o hW => by
      have h := own_below (own_below (own_below h.row.1 hb) hW) (newB W o)
      rw [← HK.out] at h
      exact h
    have hc0 := (h.cell.below hb).cell 0 _ rfl
    have hlw : wA.heap.size < w.heap.size := (h.cell.below hb).lt
    have HD : Hid (Below w.heap.size w w.drew) := drewB w
    rw [hnb] at HNM
    rw [hct] at HSM
    clear hx3 hx hcv hct hnb HCD hu hui hk
    generalize us.length = un at *
    go_enter Tryz.func34, Tryz.ntmps34
    go_wp2_with fail
    go_region_law (first
      | (refine step_append_lies _ rfl (.tmp 10) (.tmp 17) 27 rfl (wA.heap.size + 1) 52 i0 _ 3 40 Tryz.underlying27 hi0 hz0 hz1 hz2 rfl (by decide) (.slice va k vc) k (fl l) rfl (HOWN.out w.drew _ HD.out) ⟨w.heap.size, 0, none⟩ 1 1 [.int .i64 kind, .string nb, .iface ct cx] rfl rfl (World.news_of_block (heap_alloc_new w.drew _)) HONE.out (by decide) (by unfold maxLen; omega) (by omega) (by simp; omega) (w.heap.size + 1) (by simp) ?_; intro g7 cap7 wD hown hgrow hat hltg; obtain ⟨hpn, wd0, wdf⟩ := HFIN.out w.drew g7 cap7 wD HD.out hown hgrow hat; have HP7 := hide hpn; clear hpn hown hgrow hat)
      | (go_simp; go_at_call 30; (with_reducible refine (HNM.out _).mono ?_); rintro e w6 ⟨rfl, hw⟩; obtain rfl := hw.symm)
      | (go_simp; go_at_call 35; (with_reducible refine (HSM.out _ HD.out).mono ?_); rintro e w6 ⟨rfl, hw⟩; obtain rfl := hw.symm))
    all_goals
      go_wp2_with fail
      go_end0
      exact ⟨rfl, _, l ++ [x], HP7.out, HX1.out.trans (by rw [if_neg h0])⟩
/-- the rung that lays point p so -/
def layRg (t : Tbl) (p : Nat) (b : Bool) : List Rg := if (wanting t ((p : Int), b)).map (bitV 108) = [] then [] else [⟨if b then 2 else 3, 112, p, 108, (wanting t ((p : Int), b)).map (bitV 108)⟩]
def layTo (t : Tbl) (k : Nat) : List Rg := (List.range k).flatMap fun p => layRg t p true ++ layRg t p false
theorem layTo_succ (t : Tbl) (k : Nat) : layTo t (k + 1) = (layTo t k ++ layRg t k true) ++ layRg t k false := by
  unfold layTo
  rw [List.range_succ, List.flatMap_append]
  simp
theorem layRg_len (t : Tbl) (p : Nat) (b : Bool) : (layRg t p b).length ≤ 1 := by unfold layRg; split <;> simp
theorem bits_iface (l : List Nat) : ∀ u, u ∈ l.map (bitV 108) → ∃ t x, u = .iface t x := fun u hu => by
  obtain ⟨y, _, rfl⟩ := List.mem_map.1 hu
  exact ⟨_, _, rfl⟩
set_option maxHeartbeats 8000000 in
set_option maxRecDepth 100000 in
theorem laying_any (t : Tbl) (rv : Value) (P : Nat) (w : World) (hr : Rts w rv t.rts) (hgd : Good t) (hP : t.pts = (P : Int)) (hP2 : P ≤ 2) :
    Calls Tryz.prog 15 #[.agg #[.int .i64 t.secs, .int .i64 t.pts, rv]] w fun e w' => ∃ v l, e = .returned v ∧ l.map (fun x => x.1) = layTo t P ∧ RR w.heap.size w' v l ∧ Below w.heap.size w w' := by
  obtain ⟨ra, rc, rfl⟩ := hr.slice
  obtain ⟨n, hn⟩ : ∃ n, n = t.rts.length := ⟨_, rfl⟩
  obtain ⟨wA, hwA⟩ : ∃ wA, wA = w.alloc (.cells #[.int .i64 t.secs, .int .i64 t.pts, .slice ra n rc] 24) := ⟨_, rfl⟩
  have hbA : Below w.heap.size w wA := by rw [hwA]; exact newB _ _
  have rT : RowIs wA w.heap.size 24 [.int .i64 t.secs, .int .i64 t.pts, .slice ra n rc] := by rw [hwA]; exact RowIs.new _ _ _
  have hsA : wA.heap.size = w.heap.size + 1 := by rw [hwA]; simp
  have HR := hide hr
  have HN := hide hn
  rw [← hn] at HR ⊢
  have HB0 := hide hbA
  have HW := hide hwA
  have HGD := hide hgd
  have HTA : Hid (∀ W, Below wA.heap.size wA W → W.cell? ⟨w.heap.size, 0, none⟩ = some (.int .i64 t.secs) ∧ W.cell? ⟨w.heap.size, 1, none⟩ = some (.int .i64 (P : Int)) ∧ W.cell? ⟨w.heap.size, 2, none⟩ = some (.slice ra n rc)) := fun W hW => ⟨kept hW (rT.cell 0 _ rfl), by rw [← hP]; exact kept hW (rT.cell 1 _ rfl), kept hW (rT.cell 2 _ rfl)⟩
  have HWT := hide (fun (wr : World) (hW : Below wA.heap.size wA wr) (p : Nat) (b : Bool) => wanting_any t _ ((p : Int), b) wr ((HR.out.below hbA).below hW) hgd.small)
  have HWL := hide (fun (p : Nat) (b : Bool) => wantTo_len t ((p : Int), b) t.rts.length)
  obtain ⟨w0, hw0⟩ : ∃ w0, w0 = wA.alloc (.cells #[.slice none 0 0] 27) := ⟨_, rfl⟩
  have HL0 : Hid (LY wA w0 (.slice none 0 0) []) := by
    rw [hw0]
    exact ⟨newB _ _, RowIs.new _ _ _, RR.nil _ _⟩
  have HW0 := hide hw0
  rw [hP] at HW HWT ⊢
  have HFEW := hide hgd.few
  have HSA := hide hsA
  clear hwA hbA rT hr hn hgd hw0 hsA
  unfold ptV at HWT
  go_enter Tryz.func15, Tryz.ntmps15
  go_wp2_with fail
  rw [← HSA.out, ← HW.out, ← HW0.out]
  clear HW HW0
  go_loopw [9] (fun iv wr => ∃ (k : Nat) (v : Value) (l : List (Rg × Value)), k ≤ P ∧ iv = .int .i64 (k : Int) ∧ Hid (l.map (fun x => x.1) = layTo t k) ∧ Hid (l.length ≤ 2 * k) ∧ Hid (LY wA wr v l)) (fun iv _ => P - (intOf iv).toNat)
  case atStart => exact ⟨0, _, [], Nat.zero_le _, rfl, rfl, Nat.le_refl _, HL0.out⟩
  case round =>
    obtain ⟨k, v, l, hk, rfl, HM, HLL, HY⟩ := hrel
    by_cases hlt : k < P
    · have hki : (k : Int) < (P : Int) := by omega
      obtain ⟨t0, t1, t2⟩ := HTA.out wr HY.out.bel
      have HW1 := hide (HWT.out wr HY.out.bel k true)
      have HE1 : Hid (l.map (fun x => x.1) ++ layRg t k true = layTo t k ++ layRg t k true) := by show _ = _; rw [HM.out]
      have HE2 := hide (layTo_succ t k)
      go_wp2_with fail
      refine HW1.out.mono ?_
      rintro e w1 ⟨wv1, rfl, ho1, hb1⟩
      have hlw := HWL.out k true
      have hl3 := HFEW.out
      have hlen1 : ((wanting t ((k : Int), true)).map (bitV 108)).length ≤ 1000 := by rw [List.length_map]; unfold wanting; omega
      have HC1 := hide (laying1_any wA wr w1 v wv1 l 2 k ((wanting t ((k : Int), true)).map (bitV 108)) HY.out hb1 (by rw [List.length_map]; exact ho1) (bits_iface _) hlen1 (by have := HLL.out; omega) (by omega))
      obtain ⟨a1, c1, rfl⟩ := own_slice ho1
      clear ho1 hb1 HW1 t0 t1 t2 hlen1 hlw hl3
      generalize (wanting t ((k : Int), true)).length = n1 at *
      go_wp2_with fail
      refine HC1.out.mono ?_
      rintro e w2 ⟨rfl, v2, l2, hy2, hm2⟩
      have HY2 := hide hy2
      have HM2 : Hid (l2.map (fun x => x.1) = layTo t k ++ layRg t k true) := by show _ = _; rw [hm2, ← HE1.out]; rfl
      have HL2 : Hid (l2.length ≤ 2 * k + 1) := by
        show _ ≤ _
        have h := congrArg List.length HM2.out
        rw [← HM.out, List.length_append, List.length_map, List.length_map] at h
        have := layRg_len t k true
        have := HLL.out
        omega
      obtain ⟨t0, t1, t2⟩ := HTA.out w2 hy2.bel
      have HW2 := hide (HWT.out w2 hy2.bel k false)
      clear hy2 hm2 HC1
      go_wp2_with fail
      refine HW2.out.mono ?_
      rintro e w3 ⟨wv3, rfl, ho3, hb3⟩
      have hlw := HWL.out k false
      have hl3 := HFEW.out
      have hlen3 : ((wanting t ((k : Int), false)).map (bitV 108)).length ≤ 1000 := by rw [List.length_map]; unfold wanting; omega
      have HC3 := hide (laying1_any wA w2 w3 v2 wv3 l2 3 k ((wanting t ((k : Int), false)).map (bitV 108)) HY2.out hb3 (by rw [List.length_map]; exact ho3) (bits_iface _) hlen3 (by have := HL2.out; omega) (by omega))
      obtain ⟨a3, c3, rfl⟩ := own_slice ho3
      clear ho3 hb3 HW2 t0 t1 t2 hlen3 hlw hl3
      generalize (wanting t ((k : Int), false)).length = n3 at *
      go_wp2_with fail
      refine HC3.out.mono ?_
      rintro e w4 ⟨rfl, v4, l4, hy4, hm4⟩
      have HY4 := hide hy4
      have HM4 : Hid (l4.map (fun x => x.1) = layTo t (k + 1)) := by show _ = _; rw [hm4, HM2.out, HE2.out]; rfl
      have HL4 : Hid (l4.length ≤ 2 * (k + 1)) := by
        show _ ≤ _
        have h := congrArg List.length HM4.out
        rw [HE2.out, ← HM2.out, List.length_append, List.length_map, List.length_map] at h
        have := layRg_len t k false
        have := HL2.out
        omega
      clear hy4 hm4 HC3
      go_wp2_with fail
      go_roundw
      case rel => exact ⟨k + 1, v4, l4, by omega, by go_num, HM4.out, HL4.out, HY4.out⟩
      case measure => simp [intOf]; omega
    · have hkn : k = P := by omega
      have c0 := HY.out.cell.cell 0 _ rfl
      obtain ⟨va, vc, hv⟩ := own_slice HY.out.row.1
      have HRS : Hid (RR w.heap.size wr v l) := ⟨own_mono HY.out.row.1 (by rw [HSA.out]; omega), fun x hx => (HY.out.row.2 x hx).stay (fun _ _ _ _ hc => hc) fun b hb => ⟨⟨by have := HSA.out; omega, hb.1.2⟩, hb.2⟩⟩
      have HBX := hide (then_ HB0.out HY.out.bel)
      subst hv
      subst hkn
      go_wp2_with fail
      go_ret
      exact ⟨_, l, rfl, HM.out, HRS.out, HBX.out⟩
end Ro
end Go.Proofs.YtflonjbbolmelaaGreatDoor
