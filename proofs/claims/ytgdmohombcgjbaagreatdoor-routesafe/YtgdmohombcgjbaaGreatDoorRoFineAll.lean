/-
  The walk of package route's Ladder, at tables that may be. What a table that check passes is like: its numbers are there, and are few.
-/
import Derived.Test.YtgdmohombcgjbaaGreatDoorRoConcatAll
import Derived.Test.YtgdmohombcgjbaaGreatDoorRoCheckWAll
namespace Go.Proofs.YtgdmohombcgjbaaGreatDoor
section
namespace Ro
open Go.RowKit
/-- the rungs of a table's program -/
def ladderRg (t : Tbl) (P : Nat) : List Rg := ((List.range t.rts.length).map (letRg t) ++ (List.range t.rts.length).map (lockRg t)) ++ layTo t P
/-- a table's program in memory -/
def PrgAt (w : World) (t : Tbl) (S P : Nat) (nv rv : Value) : Prop := w.ownsRow 0 98 3 nv (t.rts.length + S + t.rts.length + P) (namesV t.rts.length S P) ∧ ∃ l : List (Rg × Value), l.map (fun x => x.1) = ladderRg t P ∧ w.ownsRow 0 48 3 rv l.length (fl l) ∧ ∀ x, x ∈ l → CondV (fun _ => True) w x.1.ty x.1.us x.2
theorem fl_one (l : List (Rg × Value)) (h : ∀ x, x ∈ l → ∃ t y, x.2 = .iface t y) : ∀ u, u ∈ fl l → u.oneCell' = true := fun u hu => by
  unfold fl at hu
  obtain ⟨x, hx, hu⟩ := List.mem_flatMap.1 hu
  exact rg3_one (h x hx) u hu
theorem RR.fl_one {q : Nat} {W : World} {v : Value} {l : List (Rg × Value)} (h : RR q W v l) : ∀ u, u ∈ fl l → u.oneCell' = true := Ro.fl_one l fun x hx => (h.2 x hx).iface
theorem layTo_len (t : Tbl) : ∀ k, (layTo t k).length ≤ 2 * k
  | 0 => by simp [layTo]
  | k + 1 => by
    have h := layTo_len t k
    have h1 := layRg_len t k true
    have h2 := layRg_len t k false
    rw [layTo_succ, List.length_append, List.length_append]
    omega
theorem own_set {W : World} {q : Nat} {e : TypeId} {s : Nat} {v : Value} {n : Nat} {xs : List Value} (h : W.ownsRow q e s v n xs) (b i : Nat) (u : Value) (hb : b < q) : (W.setCell ⟨b, i, none⟩ u).ownsRow q e s v n xs := by
  refine ⟨h.1, ?_⟩
  rcases h.2 with e | ⟨g', cap', cur, e1, e2, e3, e4⟩
  · exact .inl e
  · refine .inr ⟨g', cap', cur, e1, e2, ?_, e4⟩
    rw [Below.heap_setCell _ _ _ _ (fun e => by have e2' : g' = b := e; omega)]
    exact e3
def sel3 {α : Type} (x y z : α) : Nat → α
  | 0 => x
  | 1 => y
  | _ => z
/-- three rows of rungs, put into a row -/
theorem src3 {w : World} {a1 a2 a3 : Option Addr} {c1 c2 c3 q1 q2 q3 : Nat} {l1 l2 l3 : List (Rg × Value)} (h1 : RR q1 w (.slice a1 l1.length c1) l1) (h2 : RR q2 w (.slice a2 l2.length c2) l2) (h3 : RR q3 w (.slice a3 l3.length c3) l3) (n1 : l1.length ≤ 100) (n2 : l2.length ≤ 100) (n3 : l3.length ≤ 100) :
    Src (w.alloc (.cells #[.slice a1 l1.length c1, .slice a2 l2.length c2, .slice a3 l3.length c3] 26)) w.heap.size (sel3 l1.length l2.length l3.length) (sel3 a1 a2 a3) (sel3 c1 c2 c3) (sel3 (fl l1) (fl l2) (fl l3)) := fun k hk => by
  have hr := RowIs.new w 26 [.slice a1 l1.length c1, .slice a2 l2.length c2, .slice a3 l3.length c3]
  have hb := newB w (.cells #[.slice a1 l1.length c1, .slice a2 l2.length c2, .slice a3 l3.length c3] 26)
  match k, hk with
  | 0, _ => exact ⟨hr.cell 0 _ rfl, own_mono (own_below h1.1 hb) (Nat.zero_le _), h1.fl_one, n1⟩
  | 1, _ => exact ⟨hr.cell 1 _ rfl, own_mono (own_below h2.1 hb) (Nat.zero_le _), h2.fl_one, n2⟩
  | 2, _ => exact ⟨hr.cell 2 _ rfl, own_mono (own_below h3.1 hb) (Nat.zero_le _), h3.fl_one, n3⟩
  | k + 3, hk => omega
set_option maxHeartbeats 8000000 in
set_option maxRecDepth 100000 in
theorem Ladder_any (t : Tbl) (rv : Value) (S P : Nat) (w : World) (hr : Rts w rv t.rts) (hgd : Good t) (hck : check t = none) (hn1 : 1 ≤ t.rts.length) (hS : t.secs = (S : Int)) (hS3 : S ≤ 3) (hP : t.pts = (P : Int)) (hP2 : P ≤ 2) :
    Calls Tryz.prog 4 #[.agg #[.int .i64 t.secs, .int .i64 t.pts, rv]] w fun e w' => ∃ nv pv, e = .returned (.tuple #[.agg #[nv, pv], .nilIface]) ∧ PrgAt w' t S P nv pv ∧ Below w.heap.size w w' := by
  obtain ⟨ra, rc, rfl⟩ := hr.slice
  have q1 : ∀ w : World, (binOp BinOp.neq 30 .nilIface .nilIface).run Tryz.prog w = .ok (.bool false) w := fun w => by kernel_rfl
  obtain ⟨wA, hwA⟩ : ∃ wA, wA = (w.alloc (.cells #[.int .i64 t.secs, .int .i64 t.pts, .slice ra t.rts.length rc] 24)).alloc (.cells #[.slice none 0 0, .slice none 0 0] 28) := ⟨_, rfl⟩
  have hbA : Below w.heap.size w wA := by rw [hwA]; exact then_ (newB _ _) (newB _ _)
  have rT : RowIs wA w.heap.size 24 [.int .i64 t.secs, .int .i64 t.pts, .slice ra t.rts.length rc] := by rw [hwA]; exact (RowIs.new _ _ _).alloc _
  have rP : RowIs wA (w.heap.size + 1) 28 [.slice none 0 0, .slice none 0 0] := by
    rw [hwA]
    have := RowIs.new (w.alloc (.cells #[.int .i64 t.secs, .int .i64 t.pts, .slice ra t.rts.length rc] 24)) 28 [.slice none 0 0, .slice none 0 0]
    rw [World.size_alloc] at this
    exact this
  have HRW := hide (fun W (hW : Below wA.heap.size wA W) => (hr.below hbA).below hW)
  have HTC : Hid (∀ W, Below wA.heap.size wA W → W.cell? ⟨w.heap.size, 0, none⟩ = some (.int .i64 t.secs) ∧ W.cell? ⟨w.heap.size, 1, none⟩ = some (.int .i64 t.pts) ∧ W.cell? ⟨w.heap.size, 2, none⟩ = some (.slice ra t.rts.length rc)) := fun W hW => ⟨kept hW (rT.cell 0 _ rfl), kept hW (rT.cell 1 _ rfl), kept hW (rT.cell 2 _ rfl)⟩
  have HPC : Hid (∀ W, Below wA.heap.size wA W → RowIs W (w.heap.size + 1) 28 [.slice none 0 0, .slice none 0 0]) := fun W hW => rP.below hW
  have HCK : Hid (Calls Tryz.prog 9 #[.agg #[.int .i64 t.secs, .int .i64 t.pts, .slice ra t.rts.length rc]] wA fun e w' => e = .returned .nilIface ∧ Below wA.heap.size wA w') := (Check_any t _ wA (HRW.out wA (Below.refl _ _))).mono fun e w' ⟨v, h1, h2, h3⟩ => by
    rw [hck] at h2
    exact ⟨by rw [h1, show v = .nilIface from h2], h3⟩
  have HC1 := hide (fun W (hW : Below wA.heap.size wA W) => lettingGo_any t _ W (HRW.out W hW) hgd)
  have HC2 := hide (fun W (hW : Below wA.heap.size wA W) => locking_any t _ W (HRW.out W hW) hgd)
  have HC3 := hide (fun W (hW : Below wA.heap.size wA W) => laying_any t _ P W (HRW.out W hW) hgd hP hP2)
  have HCN := hide (fun W (hW : Below wA.heap.size wA W) => names_any t _ S P W (HRW.out W hW) hgd.few hS hS3 hP hP2)
  have HB0 := hide hbA
  have HW := hide hwA
  have HFEW := hide hgd.few
  have HN1 := hide hn1
  have HLT := hide (layTo_len t P)
  have hlA : w.heap.size + 1 < wA.heap.size := rP.lt
  clear hwA hbA rT rP hr hgd hck hS hP hn1
  go_enter Tryz.func4, Tryz.ntmps4
  obtain ⟨x0, x1, x2⟩ := HTC.out wA (Below.refl _ _)
  rw [HW.out] at x0 x1 x2
  go_wp2_with fail
  rw [← HW.out]
  clear x0 x1 x2
  refine HCK.out.mono ?_
  rintro e w1 ⟨rfl, hb1⟩
  have HB1 := hide hb1
  clear hb1 HCK HW
  go_upto_region 4 with fail
  go_cut [5] from 12 to 19 (fun v wx => ∃ (a : Option Addr) (c : Nat) (l : List (Rg × Value)), v = .slice a l.length c ∧ Hid (l.map (fun x => x.1) = ladderRg t P) ∧ Hid (wx.ownsRow wA.heap.size 48 3 (.slice a l.length c) l.length (fl l)) ∧ Hid (∀ x, x ∈ l → CondV (fun b => wA.heap.size ≤ b) wx x.1.ty x.1.us x.2) ∧ Hid (Below wA.heap.size wA wx))
  case first =>
    have HD : Hid (Below wA.heap.size wA w1.drew) := then_ HB1.out (drewB _)
    have HLE : Hid (∀ (l : List (Rg × Value)) (f : Nat → Rg), l.map (fun x => x.1) = (List.range t.rts.length).map f → l.length = t.rts.length) := fun l f h => by
      have := congrArg List.length h
      simpa using this
    have HLE3 : Hid (∀ (l : List (Rg × Value)), l.map (fun x => x.1) = layTo t P → l.length ≤ 4) := fun l h => by
      have h1 := congrArg List.length h
      rw [List.length_map] at h1
      have := HLT.out
      omega
    have HFI : Hid (∀ (w2 w3 w4 w7 : World) (v1 v2 v3 : Value) (l1 l2 l3 : List (Rg × Value)) (q1 q2 q3 : Nat), RR q1 w2 v1 l1 → RR q2 w3 v2 l2 → RR q3 w4 v3 l3 → Below w2.heap.size w2 w3 → Below w3.heap.size w3 w4 → Below w4.heap.size w4 w7 → wA.heap.size ≤ q1 → wA.heap.size ≤ q2 → wA.heap.size ≤ q3 → ∀ x, x ∈ (l1 ++ l2) ++ l3 → CondV (fun b => wA.heap.size ≤ b) w7 x.1.ty x.1.us x.2) := fun w2 w3 w4 w7 v1 v2 v3 l1 l2 l3 q1 q2 q3 h1 h2 h3 b1 b2 b3 e1 e2 e3 x hx => by
      rcases List.mem_append.1 hx with hx | hx
      · rcases List.mem_append.1 hx with hx | hx
        · exact (h1.2 x hx).stay (fun _ _ _ _ hc => kept b3 (kept b2 (kept b1 hc))) fun _ hg => Nat.le_trans e1 hg.1.1
        · exact (h2.2 x hx).stay (fun _ _ _ _ hc => kept b3 (kept b2 hc)) fun _ hg => Nat.le_trans e2 hg.1.1
      · exact (h3.2 x hx).stay (fun _ _ _ _ hc => kept b3 hc) fun _ hg => Nat.le_trans e3 hg.1.1
    go_region_held3 (fun W => W.cell? ⟨w.heap.size, 0, none⟩ = some (.int .i64 t.secs) ∧ W.cell? ⟨w.heap.size, 1, none⟩ = some (.int .i64 t.pts) ∧ W.cell? ⟨w.heap.size, 2, none⟩ = some (.slice ra t.rts.length rc)) ((refine HTC.out _ ?_; repeat (first | exact HB7.out | exact HB4.out | exact HB3.out | exact HB2.out | exact HD.out | exact HB1.out | refine drew_below ?_ | refine Below.alloc ?_ (by first | exact HB4.out.size) _))) ((first
      | (go_at_call 11; (with_reducible refine (HC1.out _ HD.out).mono ?_); rintro e w2 ⟨v1, l1, rfl, hm1, hr1, hb2⟩; obtain ⟨a1, c1, rfl⟩ := own_slice hr1.1; have HM1 := hide hm1; have HR1 := hide hr1; have HB2 : Hid (Below wA.heap.size wA w2) := then_ HD.out hb2; clear hm1 hr1 hb2)
      | (go_at_call 12; (with_reducible refine (HC2.out _ HB2.out).mono ?_); rintro e w3 ⟨v2, l2, rfl, hm2, hr2, hb3⟩; obtain ⟨a2, c2, rfl⟩ := own_slice hr2.1; have HM2 := hide hm2; have HR2 := hide hr2; have HX23 := hide hb3; have HB3 : Hid (Below wA.heap.size wA w3) := then_ HB2.out hb3; clear hm2 hr2 hb3)
      | (go_at_call 13; (with_reducible refine (HC3.out _ HB3.out).mono ?_); rintro e w4 ⟨v3, l3, rfl, hm3, hr3, hb4⟩; obtain ⟨a3, c3, rfl⟩ := own_slice hr3.1; have HM3 := hide hm3; have HR3 := hide hr3; have HX34 := hide hb4; have HB4 : Hid (Below wA.heap.size wA w4) := then_ HB3.out hb4; have hl1 := HLE.out l1 _ HM1.out; have hl2 := HLE.out l2 _ HM2.out; have hl3 := HLE3.out l3 hm3; have hfw := HFEW.out; have HCON := hide (concatR_any w4.heap.size (sel3 l1.length l2.length l3.length) (sel3 a1 a2 a3) (sel3 c1 c2 c3) (sel3 (fl l1) (fl l2) (fl l3)) (w4.alloc (.cells #[.slice a1 l1.length c1, .slice a2 l2.length c2, .slice a3 l3.length c3] 26)) (src3 ((HR1.out.below HX23.out).below hb4) (HR2.out.below hb4) hr3 (by omega) (by omega) (by omega)) (by show 0 < l1.length; have := HN1.out; omega)); clear hm3 hr3 hb4 hl1 hl2 hl3 hfw)
      | (go_at_call 10; (with_reducible refine HCON.out.mono ?_); rintro e w7 ⟨v7, rfl, ho7, hb7⟩; have HX47 : Hid (Below w4.heap.size w4 w7) := then_ (newB _ _) hb7; have HB7 : Hid (Below wA.heap.size wA w7) := then_ HB4.out HX47.out; have HO7 : Hid (w7.ownsRow wA.heap.size 48 3 v7 ((l1 ++ l2) ++ l3).length (fl ((l1 ++ l2) ++ l3))) := (by have h := own_mono ho7 (Nat.le_trans HB4.out.size (by simp : w4.heap.size ≤ (w4.alloc (.cells #[.slice a1 l1.length c1, .slice a2 l2.length c2, .slice a3 l3.length c3] 26)).heap.size)); show World.ownsRow _ _ _ _ _ _ _; rw [List.length_append, List.length_append, fl_append, fl_append]; simpa [sumN, catN, sel3] using h); obtain ⟨a7, c7, rfl⟩ := own_slice HO7.out; clear ho7 hb7)))
    all_goals
      go_wp2_with fail
      go_meet
      refine ⟨a7, c7, (l1 ++ l2) ++ l3, by rw [List.length_append, List.length_append, Nat.add_assoc], ?_, HO7.out, HFI.out w2 w3 w4 w7 _ _ _ l1 l2 l3 _ _ _ HR1.out HR2.out HR3.out HX23.out HX34.out HX47.out HD.out.size HB2.out.size HB3.out.size, HB7.out⟩
      show List.map (fun x => x.1) ((l1 ++ l2) ++ l3) = ladderRg t P
      rw [List.map_append, List.map_append, HM1.out, HM2.out, HM3.out]
      rfl
  case rest =>
    obtain ⟨a, c, l, rfl, HM, HO, HC, HB⟩ := hcut
    obtain ⟨x0, x1, x2⟩ := HTC.out wc HB.out
    have HNW := hide (HCN.out wc HB.out)
    clear HC1 HC2 HC3 HCN
    generalize hln : l.length = ln at *
    have HLN := hide hln
    clear hln
    go_wp2_with fail
    refine HNW.out.mono ?_
    rintro e w6 ⟨nv, rfl, hn6, hb6⟩
    have HB6 := hide (then_ HB.out hb6)
    have HX6 := hide hb6
    have rp := HPC.out w6 HB6.out
    have p0 := rp.cell 0 _ rfl
    have p1 := rp.cell 1 _ rfl
    have pf0 := rp.frozen 0
    have pf1 := rp.frozen 1
    have hlp := rp.lt
    obtain ⟨na, nc, rfl⟩ := own_slice hn6
    clear hb6 HNW x0 x1 x2
    go_wp2_with fail
    have z0 : ((w6.setCell ⟨w.heap.size + 1, 0, none⟩ (.slice na (t.rts.length + S + t.rts.length + P) nc)).setCell ⟨w.heap.size + 1, 1, none⟩ (.slice a ln c)).cell? ⟨w.heap.size + 1, 0, none⟩ = some (.slice na (t.rts.length + S + t.rts.length + P) nc) := cell_set_other _ _ _ _ _ _ (by decide) (World.cell?_setCell_same _ _ _ p0)
    have z1 : ((w6.setCell ⟨w.heap.size + 1, 0, none⟩ (.slice na (t.rts.length + S + t.rts.length + P) nc)).setCell ⟨w.heap.size + 1, 1, none⟩ (.slice a ln c)).cell? ⟨w.heap.size + 1, 1, none⟩ = some (.slice a ln c) := World.cell?_setCell_same _ _ _ (cell_set_other _ _ _ _ _ _ (by decide) p1)
    refine bodyPost_ret_by (v := .tuple #[.agg #[.slice na (t.rts.length + S + t.rts.length + P) nc, .slice a ln c], .nilIface]) ?_ rfl ?_
    · simp [results, Tryz.results4, go_sem, z0, z1]
    · have hb1 := HB.out.size
      refine ⟨_, _, rfl, ⟨own_mono (own_set (own_set hn6 _ _ _ (by omega)) _ _ _ (by omega)) (Nat.zero_le _), l, HM.out, ?_, fun x hx => ?_⟩, ?_⟩
      · have h := own_mono (own_set (own_set (own_below HO.out HX6.out) (w.heap.size + 1) 0 (.slice na (t.rts.length + S + t.rts.length + P) nc) (by omega)) (w.heap.size + 1) 1 (.slice a ln c) (by omega)) (Nat.zero_le _)
        rw [HLN.out]
        exact h
      · exact (HC.out x hx).stay (fun b k u hb hc => cell_set_block _ _ _ _ _ _ _ (by omega) (cell_set_block _ _ _ _ _ _ _ (by omega) (kept HX6.out hc))) fun _ _ => trivial
      · exact ((then_ HB0.out HB6.out).setCell (Nat.le_succ _) _).setCell (Nat.le_succ _) _
end Ro
end
section
namespace Ro
theorem ok_of (t : Tbl) (h : check t = none) : sized t = true ∧ ∀ r, r ∈ t.rts → wrongR t.secs t.pts r = 0 := by
  unfold check at h
  split at h
  · cases h
  · rename_i h1
    refine ⟨by simpa using h1, fun r hr => ?_⟩
    have hf : firstBad t = none := by
      cases hc : firstBad t with
      | none => rfl
      | some i => rw [hc] at h; cases h
    unfold firstBad at hf
    rw [List.findIdx?_eq_none_iff] at hf
    simpa using hf r hr
theorem wrong_zero (s p : Int) (r : Rt) (h : wrongR s p r = 0) : beyond r.secs s = false ∧ beyond (nums r) p = false := by
  unfold wrongR at h
  split at h
  · cases h
  · split at h
    · cases h
    · rename_i h2
      simpa using h2
theorem beyond_mem {l : List Int} {m : Int} (h : beyond l m = false) (x : Int) (hx : x ∈ l) : 0 ≤ x ∧ x ≤ m - 1 := by
  unfold beyond at h
  rw [List.any_eq_false] at h
  have := h x hx
  unfold fromTo at this
  simp at this
  omega
theorem beyond_of {l : List Int} {m : Int} (h : ∀ x, x ∈ l → 0 ≤ x ∧ x ≤ m - 1) : beyond l m = false := by
  unfold beyond
  rw [List.any_eq_false]
  intro x hx
  have := h x hx
  unfold fromTo
  simp
  omega
/-- numbers below m, none twice, are at most m -/
theorem few_of : ∀ (m : Nat) (l : List Int), l.Nodup → (∀ x, x ∈ l → 0 ≤ x ∧ x < (m : Int)) → l.length ≤ m
  | 0, l, _, h => by
    cases l with
    | nil => exact Nat.le_refl _
    | cons a l => have := h a (by simp); omega
  | m + 1, l, hd, h => by
    have h1 : (l.erase (m : Int)).length ≤ m := few_of m (l.erase (m : Int)) (hd.erase _) fun x hx => by
      obtain ⟨hne, hm⟩ := (hd.mem_erase_iff).1 hx
      have := h x hm
      omega
    rw [List.length_erase] at h1
    split at h1 <;> omega
theorem wrong_nodup (s p : Int) (r : Rt) (h : wrongR s p r = 0) : r.secs ≠ [] ∧ r.secs.Nodup ∧ (nums r).Nodup := by
  unfold wrongR at h
  split at h
  · cases h
  · rename_i h1
    split at h
    · cases h
    · split at h
      · cases h
      · rename_i h3
        unfold twice at h3
        simp at h3
        exact ⟨h1, h3⟩
/-- a table's numbers -/
structure Fits (t : Tbl) (S P : Nat) : Prop where
  hS : t.secs = (S : Int)
  hP : t.pts = (P : Int)
  S3 : S ≤ 3
  P2 : P ≤ 2
  R1 : 1 ≤ t.rts.length
  R3 : t.rts.length ≤ 3
  secs : ∀ r, r ∈ t.rts → ∀ s, s ∈ r.secs → 0 ≤ s ∧ s < (S : Int)
  pts : ∀ r, r ∈ t.rts → ∀ q, q ∈ r.pts → 0 ≤ q.1 ∧ q.1 < (P : Int)
  some : ∀ r, r ∈ t.rts → r.secs ≠ []
  ls : ∀ r, r ∈ t.rts → r.secs.length ≤ 3
  lp : ∀ r, r ∈ t.rts → r.pts.length ≤ 2
theorem fits_of (t : Tbl) (h : check t = none) : ∃ S P, Fits t S P := by
  obtain ⟨h1, h2⟩ := ok_of t h
  obtain ⟨hs, hp, hn⟩ := (sized_iff t).1 h1
  have hS : t.secs = ((t.secs.toNat : Nat) : Int) := by omega
  have hP : t.pts = ((t.pts.toNat : Nat) : Int) := by omega
  have ks : ∀ r, r ∈ t.rts → ∀ s, s ∈ r.secs → 0 ≤ s ∧ s < ((t.secs.toNat : Nat) : Int) := fun r hr s hs' => by
    have := beyond_mem (wrong_zero _ _ r (h2 r hr)).1 s hs'
    omega
  have kp : ∀ r, r ∈ t.rts → ∀ q, q ∈ r.pts → 0 ≤ q.1 ∧ q.1 < ((t.pts.toNat : Nat) : Int) := fun r hr q hq => by
    have := beyond_mem (wrong_zero _ _ r (h2 r hr)).2 q.1 (List.mem_map.2 ⟨q, hq, rfl⟩)
    omega
  refine ⟨t.secs.toNat, t.pts.toNat, hS, hP, by omega, by omega, by omega, by omega, ks, kp, fun r hr => (wrong_nodup _ _ r (h2 r hr)).1, fun r hr => ?_, fun r hr => ?_⟩
  · have := few_of _ r.secs (wrong_nodup _ _ r (h2 r hr)).2.1 (ks r hr)
    omega
  · have h3 := few_of _ (nums r) (wrong_nodup _ _ r (h2 r hr)).2.2 (fun x hx => by
      obtain ⟨q, hq, rfl⟩ := List.mem_map.1 hx
      exact kp r hr q hq)
    have h4 : (nums r).length = r.pts.length := List.length_map ..
    omega
end Ro
end
end Go.Proofs.YtgdmohombcgjbaaGreatDoor
