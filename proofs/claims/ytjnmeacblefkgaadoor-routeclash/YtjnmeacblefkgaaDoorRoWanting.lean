/-
  The walks of slices.Index and Contains over points, and of package route's wanting.
-/
import Derived.Test.YtjnmeacblefkgaaDoorRoClashing
namespace Go.Proofs.YtjnmeacblefkgaaDoor
namespace Ro
open Go.RowKit
set_option maxHeartbeats 4000000 in
set_option maxRecDepth 100000 in
theorem indexPt_any (l : List (Int × Bool)) (x : Int × Bool) (sv : Value) (w : World) (h : Pts w sv l) :
    Calls Tryd.prog 43 #[sv, ptV x] w fun e w' => e = .returned (.int .i64 (idxP (fun y => y == x) l)) ∧ Below w.heap.size w w' := by
  have hlen := h.len
  unfold maxLen at hlen
  obtain ⟨x1, x2⟩ := x
  obtain ⟨wA, hwA⟩ : ∃ wA, wA = w.alloc (.cells #[.int .i64 x1, .bool x2] 44) := ⟨_, rfl⟩
  have hbA : Below w.heap.size w wA := by rw [hwA]; exact newB _ _
  have rA : RowIs wA w.heap.size 44 [.int .i64 x1, .bool x2] := by rw [hwA]; exact RowIs.new _ _ _
  have HR := hide (h.below hbA)
  obtain ⟨a, cp, rfl⟩ := h.slice
  obtain ⟨n, hn⟩ : ∃ n, n = l.length := ⟨_, rfl⟩
  have HN := hide hn
  rw [← hn] at hlen HR ⊢
  have HB0 := hide hbA
  have HW := hide hwA
  have HK : Hid (∀ W, Below wA.heap.size wA W → W.cell? ⟨w.heap.size, 0, none⟩ = some (.int .i64 x1) ∧ W.cell? ⟨w.heap.size, 1, none⟩ = some (.bool x2)) := fun W hW => ⟨kept hW (rA.cell 0 _ rfl), kept hW (rA.cell 1 _ rfl)⟩
  clear h hn hwA hbA rA
  unfold ptV
  go_enter Tryd.func43, Tryd.ntmps43
  go_wp2_with fail
  rw [← HW.out]
  clear HW
  go_loopw [8] (fun i wr => ∃ k : Nat, k ≤ n ∧ i = .int .i64 (k : Int) ∧ Hid ((l.take k).any (fun y => y == (x1, x2)) = false) ∧ Hid (Below wA.heap.size wA wr)) (fun i _ => n - (intOf i).toNat)
  case atStart => exact ⟨0, Nat.zero_le _, rfl, rfl, Below.refl _ _⟩
  case round =>
    obtain ⟨k, hk, rfl, HT, HB⟩ := hrel
    obtain ⟨u0, u1⟩ := HK.out wr HB.out
    by_cases hlt : k < n
    · have hkl : k < l.length := by rw [← HN.out]; exact hlt
      obtain ⟨g, o, rfl, c0, c1, hi⟩ := (HR.out.below HB.out).cell k _ (List.getElem?_eq_getElem hkl)
      have HSU : Hid ((l.take (k + 1)).any (fun y => y == (x1, x2)) = (l[k] == (x1, x2))) := by show _ = _; rw [List.take_succ_eq_append_getElem hkl, List.any_append, HT.out]; simp
      have HHIT := hide (idxP_hit (fun y => y == (x1, x2)) l k hkl HT.out)
      have hki : (k : Int) < (n : Int) := by omega
      clear hi
      generalize l[k] = z at *
      obtain ⟨z1, z2⟩ := z
      simp only at c0 c1
      by_cases hz : z1 = x1 ∧ z2 = x2
      · obtain ⟨rfl, rfl⟩ := hz
        have HA := hide (HHIT.out (by simp))
        clear HHIT HSU
        go_wp2_with fail
        go_quiet (fail)
        go_wp2_with fail
        go_ret
        exact ⟨by rw [HA.out]; rfl, then_ HB0.out (then_ HB.out (drewN_b _ _))⟩
      · have hzb : ((z1, z2) == (x1, x2)) = false := by rw [beq_eq_false_iff_ne]; intro e; exact hz (Prod.mk.inj e)
        rw [hzb] at HSU
        clear HHIT hzb
        by_cases h1 : z1 = x1
        · subst h1
          have h2 : (x2 == z2) = false := by
            rw [beq_eq_false_iff_ne]
            exact fun e => hz ⟨rfl, e.symm⟩
          clear hz
          go_wp2_with fail
          go_quiet (fail)
          go_wp2_with fail
          go_roundw
          case rel => exact ⟨k + 1, by omega, by go_num, HSU.out, then_ HB.out (drewN_b _ _)⟩
          case measure => simp [intOf]; omega
        · have h2 : (x1 == z1) = false := by
            rw [beq_eq_false_iff_ne]
            exact fun e => h1 e.symm
          clear hz h1
          go_wp2_with fail
          go_quiet (fail)
          go_wp2_with fail
          go_roundw
          case rel => exact ⟨k + 1, by omega, by go_num, HSU.out, then_ HB.out (drewN_b _ _)⟩
          case measure => simp [intOf]; omega
    · have hkn : k = n := by omega
      have HA : Hid (idxP (fun y => y == (x1, x2)) l = -1) := idxP_none _ l (by have := HT.out; rw [List.take_of_length_le (by rw [← HN.out]; omega)] at this; exact this)
      have HBX := hide (then_ HB0.out HB.out)
      subst hkn
      go_wp2_with fail
      go_ret
      exact ⟨by rw [HA.out]; rfl, HBX.out⟩
set_option maxHeartbeats 2000000 in
theorem containsPt_any (l : List (Int × Bool)) (x : Int × Bool) (sv : Value) (w : World) (h : Pts w sv l) :
    Calls Tryd.prog 39 #[sv, ptV x] w fun e w' => e = .returned (.bool (l.contains x)) ∧ Below w.heap.size w w' := by
  obtain ⟨wA, hwA⟩ : ∃ wA, wA = w.alloc (.cells #[.int .i64 x.1, .bool x.2] 44) := ⟨_, rfl⟩
  have hbA : Below w.heap.size w wA := by rw [hwA]; exact newB _ _
  have HI := hide (indexPt_any l x sv wA (h.below hbA))
  have HA : Hid (decide (0 ≤ idxP (fun y => y == x) l) = l.contains x) := by
    show _ = _
    rw [idxP_any, Bool.eq_iff_iff, List.any_eq_true, List.contains_iff_mem]
    constructor
    · rintro ⟨y, hy, e⟩
      obtain rfl : y = x := by simpa using e
      exact hy
    · exact fun hx => ⟨x, hx, by simp⟩
  have HB0 := hide hbA
  have HW := hide hwA
  obtain ⟨a, cp, rfl⟩ := h.slice
  generalize idxP (fun y => y == x) l = r at *
  generalize l.contains x = y at *
  generalize l.length = n at *
  clear h hbA hwA
  unfold ptV at *
  obtain ⟨x1, x2⟩ := x
  simp only at HW HI
  go_enter Tryd.func39, Tryd.ntmps39
  go_wp2_with fail
  rw [← HW.out]
  refine HI.out.mono ?_
  rintro e w1 ⟨rfl, hb1⟩
  have HB := hide (then_ HB0.out hb1)
  clear hb1 HI
  go_wp2_with fail
  go_ret
  exact ⟨by rw [← HA.out]; rfl, HB.out⟩
set_option maxHeartbeats 4000000 in
set_option maxRecDepth 100000 in
theorem wanting_any (t : Tbl) (rv : Value) (p : Int × Bool) (w : World) (hr : Rts w rv t.rts) (hsm : SmallR t) :
    Calls Tryd.prog 33 #[.agg #[.int .i64 t.secs, .int .i64 t.pts, rv], ptV p] w fun e w' => ∃ v, e = .returned v ∧ w'.ownsRow w.heap.size 50 1 v (wanting t p).length ((wanting t p).map (bitV 108)) ∧ Below w.heap.size w w' := by
  obtain ⟨i0, hi0, hz0, hz1, hz2⟩ := info_parts Tryd.infoExpr
  obtain ⟨ra, rc, rfl⟩ := hr.slice
  obtain ⟨n, hn⟩ : ∃ n, n = t.rts.length := ⟨_, rfl⟩
  obtain ⟨p1, p2⟩ := p
  obtain ⟨wA, hwA⟩ : ∃ wA, wA = (w.alloc (.cells #[.int .i64 t.secs, .int .i64 t.pts, .slice ra n rc] 30)).alloc (.cells #[.int .i64 p1, .bool p2] 44) := ⟨_, rfl⟩
  have hbA : Below w.heap.size w wA := by rw [hwA]; exact then_ (newB _ _) (newB _ _)
  have rT : RowIs wA w.heap.size 30 [.int .i64 t.secs, .int .i64 t.pts, .slice ra n rc] := by rw [hwA]; exact (RowIs.new _ _ _).alloc _
  have rP : RowIs wA (w.heap.size + 1) 44 [.int .i64 p1, .bool p2] := by
    rw [hwA]
    have := RowIs.new (w.alloc (.cells #[.int .i64 t.secs, .int .i64 t.pts, .slice ra n rc] 30)) 44 [.int .i64 p1, .bool p2]
    rw [World.size_alloc] at this
    exact this
  have HR := hide hr
  have HN := hide hn
  have hn3 : n ≤ 3 := by rw [hn]; exact hsm.1
  rw [← hn] at HR ⊢
  have x2 := rT.cell 2 _ rfl
  have HB0 := hide hbA
  have HW := hide hwA
  have HXP : Hid (∀ W, Below wA.heap.size wA W → W.cell? ⟨w.heap.size + 1, 0, none⟩ = some (.int .i64 p1) ∧ W.cell? ⟨w.heap.size + 1, 1, none⟩ = some (.bool p2)) := fun W hW => ⟨kept hW (rP.cell 0 _ rfl), kept hW (rP.cell 1 _ rfl)⟩
  have hwl : w.heap.size + 1 < wA.heap.size := rP.lt
  clear hwA hbA rT rP hr hn hsm
  unfold ptV
  go_enter Tryd.func33, Tryd.ntmps33
  go_wp2_with fail
  rw [← HW.out]
  clear HW x2
  go_loopw [11, 5] (fun iv s wr => ∃ (k m : Nat) (a : Option Addr) (c : Nat), k ≤ n ∧ iv = .int .i64 (k : Int) ∧ s = .slice a m c ∧ Hid (m = (wantTo t (p1, p2) k).length) ∧ m ≤ k ∧ Hid (wr.ownsRow wA.heap.size 50 1 (.slice a m c) m ((wantTo t (p1, p2) k).map (bitV 108))) ∧ Hid (Below wA.heap.size wA wr)) (fun iv _ _ => n - (intOf iv).toNat)
  case atStart => exact ⟨0, 0, none, 0, Nat.zero_le _, rfl, rfl, rfl, Nat.le_refl _, World.ownsRow_nil _ _ _ _, Below.refl _ _⟩
  case round =>
    obtain ⟨k, m, a, c, hk, rfl, rfl, HM, hmk, HO, HB⟩ := hrel
    by_cases hlt : k < n
    · have hkl : k < t.rts.length := by rw [← HN.out]; exact hlt
      obtain ⟨g, o, sa, sc, pa, pc, rfl, c0, c1, hIs, hPs, _⟩ := ((HR.out.below HB0.out).below HB.out).cell k _ (rt_at t k hkl)
      have hki : (k : Int) < (n : Int) := by omega
      obtain ⟨wL, hwL⟩ : ∃ wL, wL = wr.alloc (.cells #[.slice sa (rt t k).secs.length sc, .slice pa (rt t k).pts.length pc] 25) := ⟨_, rfl⟩
      have hbL : Below wr.heap.size wr wL := by rw [hwL]; exact newB _ _
      have HBL : Hid (Below wA.heap.size wA wL) := then_ HB.out hbL
      have HOL := hide (own_below HO.out hbL)
      have HCT := hide (containsPt_any (rt t k).pts (p1, p2) _ wL (hPs.below hbL))
      have HSU := hide (wantTo_succ t (p1, p2) k)
      obtain ⟨y0, y1⟩ := HXP.out wr HB.out
      have hwr : w.heap.size + 1 < wr.heap.size := Nat.lt_of_lt_of_le hwl HB.out.size
      have HWL := hide hwL
      have HIS := hide (is_any 108 k (by omega))
      unfold ptV at HCT
      clear hIs hPs hbL hwL
      generalize (rt t k).pts.contains (p1, p2) = q at *
      generalize (rt t k).secs.length = n1 at *
      generalize (rt t k).pts.length = n2 at *
      go_wp2_with fail
      rw [← HWL.out]
      refine HCT.out.mono ?_
      rintro e w2 ⟨rfl, hb2⟩
      have HB3 := hide (then_ HBL.out hb2)
      have HO3 := hide (own_below HOL.out hb2)
      clear hb2 HCT
      cases q with
      | false =>
        have HT : Hid (wantTo t (p1, p2) (k + 1) = wantTo t (p1, p2) k) := by show _ = _; have h := HSU.out; simpa using h
        clear HSU
        go_wp2_with fail
        go_roundw
        case rel => exact ⟨k + 1, m, a, c, by omega, by go_num, rfl, by rw [HT.out]; exact HM.out, by omega, by rw [HT.out]; exact HO3.out, HB3.out⟩
        case measure => simp [intOf]; omega
      | true =>
        have HT : Hid (wantTo t (p1, p2) (k + 1) = wantTo t (p1, p2) k ++ [k]) := by show _ = _; have h := HSU.out; simpa using h
        have HTL : Hid (m + 1 = (wantTo t (p1, p2) (k + 1)).length) := by show _ = _; rw [HT.out, List.length_append, HM.out]; rfl
        have HTM : Hid ((wantTo t (p1, p2) (k + 1)).map (bitV 108) = (wantTo t (p1, p2) k).map (bitV 108) ++ [bitV 108 k]) := by show _ = _; rw [HT.out, List.map_append]; rfl
        obtain ⟨bx, hbx⟩ := bitV_iface 108 k
        have HC2 := hide (HIS.out w2)
        rw [hbx] at HTM HC2
        have HOWN : Hid (∀ o, (w2.alloc o).ownsRow wA.heap.size 50 1 (.slice a m c) m ((wantTo t (p1, p2) k).map (bitV 108))) := fun o => own_below HO3.out (newB _ _)
        have HONE : Hid (∀ u ∈ [Value.iface 88 bx], u.oneCell' = true) := fun u hu => by obtain rfl := List.mem_singleton.1 hu; rfl
        have HBN : Hid (∀ (o : Obj) (wC : World), (w2.alloc o).grownBy wC (Value.slice a m c).ownBlock → Below wA.heap.size wA wC) := fun o wC hg => below_grown (then_ HB3.out (newB _ _)) hg (ownBlock_new HO3.out)
        have hle : wA.heap.size ≤ w2.heap.size := HB3.out.size
        clear HSU hbx HIS
        go_wp2_with (first
          | (at_builtin; refine wpList_append_lies _ rfl (.tmp 20) (.tmp 23) 69 rfl wA.heap.size 50 i0 _ 1 16 Tryd.underlying69 hi0 hz0 hz1 hz2 rfl (by decide) (.slice a m c) m ((wantTo t (p1, p2) k).map (bitV 108)) rfl (HOWN.out _) ⟨w2.heap.size, 0, none⟩ 1 1 [.iface 88 bx] rfl rfl (World.news_of_block (heap_alloc_new w2 _)) HONE.out (by decide) (by unfold maxLen; omega) (by omega) (by simp; omega) (w2.heap.size + 1) (by simp) ?_; intro g2 cap2 wC hown hgrow hat hltg; have HOC := hide hown; have HBC := hide (HBN.out _ wC hgrow); clear hown hgrow hat)
          | (go_at_call 29; refine HC2.out.mono ?_; rintro e w3 ⟨rfl, hw⟩; obtain rfl := hw.symm))
        go_roundw
        case rel => exact ⟨k + 1, m + 1, some ⟨g2, 0, none⟩, cap2, by omega, by go_num, rfl, HTL.out, by omega, by rw [HTM.out]; exact HOC.out, HBC.out⟩
        case measure => simp [intOf]; omega
    · have hkn : k = n := by omega
      have HRS : Hid (wr.ownsRow w.heap.size 50 1 (.slice a m c) (wanting t (p1, p2)).length ((wanting t (p1, p2)).map (bitV 108))) := by
        have h := own_mono HO.out HB0.out.size
        unfold wanting
        rw [← HN.out, ← hkn, ← HM.out]
        exact h
      have HBX := hide (then_ HB0.out HB.out)
      subst hkn
      go_wp2_with fail
      go_ret
      exact ⟨_, rfl, HRS.out, HBX.out⟩
end Ro
end Go.Proofs.YtjnmeacblefkgaaDoor
