/-
  The walks of slices.Index and Contains over points, and of package route's wanting. Rows of rungs in memory that package route builds: each rung's kind, name, and what it asks. The walk of package route's lettingGo.
-/
import Derived.Test.YtgdmohombcgjbaaGreatDoorRoClashingAll
import Derived.Maps.AppendAt
import Derived.Deep.CutRange
namespace Go.Proofs.YtgdmohombcgjbaaGreatDoor
section
namespace Ro
open Go.RowKit
set_option maxHeartbeats 4000000 in
set_option maxRecDepth 100000 in
theorem indexPt_any (l : List (Int × Bool)) (x : Int × Bool) (sv : Value) (w : World) (h : Pts w sv l) :
    Calls Tryz.prog 95 #[sv, ptV x] w fun e w' => e = .returned (.int .i64 (idxP (fun y => y == x) l)) ∧ Below w.heap.size w w' := by
  have hlen := h.len
  unfold maxLen at hlen
  obtain ⟨x1, x2⟩ := x
  obtain ⟨wA, hwA⟩ : ∃ wA, wA = w.alloc (.cells #[.int .i64 x1, .bool x2] 61) := ⟨_, rfl⟩
  have hbA : Below w.heap.size w wA := by rw [hwA]; exact newB _ _
  have rA : RowIs wA w.heap.size 61 [.int .i64 x1, .bool x2] := by rw [hwA]; exact RowIs.new _ _ _
  have HR := hide (h.below hbA)
  obtain ⟨a, cp, rfl⟩ := h.slice
  obtain ⟨n, hn⟩ : ∃ n, n = l.length := ⟨_, rfl⟩
  have HN := hide hn
  rw [← hn] at hlen HR ⊢
  have HB0 := hide hbA
  have HW := hide hwA
  have HK : Hid (∀ W, Below wA.heap.size wA W → W.cell? ⟨w.heap.size, 0, none⟩ = some (.int .i64 x1) ∧ W.cell? ⟨w.heap.size, 1, none⟩ = some (.bool x2)) := fun W hW => ⟨kept hW (rA.cell 0 _ rfl), kept hW (rA.cell 1 _ rfl)⟩
  clear h hn hwA hbA rA
  unfold ptV
  go_enter Tryz.func95, Tryz.ntmps95
  go_wp2_with fail
  rw [← HW.out]
  clear HW
  go_loopw [8] (fun i wr => ∃ k : Nat, k ≤ n ∧ i = .int .i64 (k : Int) ∧ Hid ((l.take k).any (fun y => y == (x1, x2)) = false) ∧ Hid (Below wA.heap.size wA wr)) (fun i _ => n - (intOf i).toNat)
  case atStart => exact ⟨0, Nat.zero_le _, rfl, rfl, Below.refl _ _⟩
  case round =>
    obtain ⟨k, hk, rfl, HT, HB⟩ := hrel
    obtain ⟨u0, u1⟩ := HK.out wr HB.out
    by_cases hlt : k < n
    · have hkl : k < l.length := by rw [← HN.out]; exact hlt
      obtain ⟨g, o, rfl, c0, c1, hi⟩ := (HR.out.below HB.out).cell k _ (List.getElem?_eq_getElem hkl)
      have HSU : Hid ((l.take (k + 1)).any (fun y => y == (x1, x2)) = (l[k] == (x1, x2))) := by show _ = _; rw [List.take_succ_eq_append_getElem hkl, List.any_append, HT.out]; simp
      have HHIT := hide (idxP_hit (fun y => y == (x1, x2)) l k hkl HT.out)
      have hki : (k : Int) < (n : Int) := by omega
      clear hi
      generalize l[k] = z at *
      obtain ⟨z1, z2⟩ := z
      simp only at c0 c1
      by_cases hz : z1 = x1 ∧ z2 = x2
      · obtain ⟨rfl, rfl⟩ := hz
        have HA := hide (HHIT.out (by simp))
        clear HHIT HSU
        go_wp2_with fail
        go_quiet (fail)
        go_wp2_with fail
        go_ret
        exact ⟨by rw [HA.out]; rfl, then_ HB0.out (then_ HB.out (drewN_b _ _))⟩
      · have hzb : ((z1, z2) == (x1, x2)) = false := by rw [beq_eq_false_iff_ne]; intro e; exact hz (Prod.mk.inj e)
        rw [hzb] at HSU
        clear HHIT hzb
        by_cases h1 : z1 = x1
        · subst h1
          have h2 : (x2 == z2) = false := by
            rw [beq_eq_false_iff_ne]
            exact fun e => hz ⟨rfl, e.symm⟩
          clear hz
          go_wp2_with fail
          go_quiet (fail)
          go_wp2_with fail
          go_roundw
          case rel => exact ⟨k + 1, by omega, by go_num, HSU.out, then_ HB.out (drewN_b _ _)⟩
          case measure => simp [intOf]; omega
        · have h2 : (x1 == z1) = false := by
            rw [beq_eq_false_iff_ne]
            exact fun e => h1 e.symm
          clear hz h1
          go_wp2_with fail
          go_quiet (fail)
          go_wp2_with fail
          go_roundw
          case rel => exact ⟨k + 1, by omega, by go_num, HSU.out, then_ HB.out (drewN_b _ _)⟩
          case measure => simp [intOf]; omega
    · have hkn : k = n := by omega
      have HA : Hid (idxP (fun y => y == (x1, x2)) l = -1) := idxP_none _ l (by have := HT.out; rw [List.take_of_length_le (by rw [← HN.out]; omega)] at this; exact this)
      have HBX := hide (then_ HB0.out HB.out)
      subst hkn
      go_wp2_with fail
      go_ret
      exact ⟨by rw [HA.out]; rfl, HBX.out⟩
set_option maxHeartbeats 2000000 in
theorem containsPt_any (l : List (Int × Bool)) (x : Int × Bool) (sv : Value) (w : World) (h : Pts w sv l) :
    Calls Tryz.prog 70 #[sv, ptV x] w fun e w' => e = .returned (.bool (l.contains x)) ∧ Below w.heap.size w w' := by
  obtain ⟨wA, hwA⟩ : ∃ wA, wA = w.alloc (.cells #[.int .i64 x.1, .bool x.2] 61) := ⟨_, rfl⟩
  have hbA : Below w.heap.size w wA := by rw [hwA]; exact newB _ _
  have HI := hide (indexPt_any l x sv wA (h.below hbA))
  have HA : Hid (decide (0 ≤ idxP (fun y => y == x) l) = l.contains x) := by
    show _ = _
    rw [idxP_any, Bool.eq_iff_iff, List.any_eq_true, List.contains_iff_mem]
    constructor
    · rintro ⟨y, hy, e⟩
      obtain rfl : y = x := by simpa using e
      exact hy
    · exact fun hx => ⟨x, hx, by simp⟩
  have HB0 := hide hbA
  have HW := hide hwA
  obtain ⟨a, cp, rfl⟩ := h.slice
  generalize idxP (fun y => y == x) l = r at *
  generalize l.contains x = y at *
  generalize l.length = n at *
  clear h hbA hwA
  unfold ptV at *
  obtain ⟨x1, x2⟩ := x
  simp only at HW HI
  go_enter Tryz.func70, Tryz.ntmps70
  go_wp2_with fail
  rw [← HW.out]
  refine HI.out.mono ?_
  rintro e w1 ⟨rfl, hb1⟩
  have HB := hide (then_ HB0.out hb1)
  clear hb1 HI
  go_wp2_with fail
  go_ret
  exact ⟨by rw [← HA.out]; rfl, HB.out⟩
set_option maxHeartbeats 4000000 in
set_option maxRecDepth 100000 in
theorem wanting_any (t : Tbl) (rv : Value) (p : Int × Bool) (w : World) (hr : Rts w rv t.rts) (hsm : SmallR t) :
    Calls Tryz.prog 39 #[.agg #[.int .i64 t.secs, .int .i64 t.pts, rv], ptV p] w fun e w' => ∃ v, e = .returned v ∧ w'.ownsRow w.heap.size 34 1 v (wanting t p).length ((wanting t p).map (bitV 108)) ∧ Below w.heap.size w w' := by
  obtain ⟨i0, hi0, hz0, hz1, hz2⟩ := info_parts Tryz.infoExpr
  obtain ⟨ra, rc, rfl⟩ := hr.slice
  obtain ⟨n, hn⟩ : ∃ n, n = t.rts.length := ⟨_, rfl⟩
  obtain ⟨p1, p2⟩ := p
  obtain ⟨wA, hwA⟩ : ∃ wA, wA = (w.alloc (.cells #[.int .i64 t.secs, .int .i64 t.pts, .slice ra n rc] 24)).alloc (.cells #[.int .i64 p1, .bool p2] 61) := ⟨_, rfl⟩
  have hbA : Below w.heap.size w wA := by rw [hwA]; exact then_ (newB _ _) (newB _ _)
  have rT : RowIs wA w.heap.size 24 [.int .i64 t.secs, .int .i64 t.pts, .slice ra n rc] := by rw [hwA]; exact (RowIs.new _ _ _).alloc _
  have rP : RowIs wA (w.heap.size + 1) 61 [.int .i64 p1, .bool p2] := by
    rw [hwA]
    have := RowIs.new (w.alloc (.cells #[.int .i64 t.secs, .int .i64 t.pts, .slice ra n rc] 24)) 61 [.int .i64 p1, .bool p2]
    rw [World.size_alloc] at this
    exact this
  have HR := hide hr
  have HN := hide hn
  have hn3 : n ≤ 3 := by rw [hn]; exact hsm.1
  rw [← hn] at HR ⊢
  have x2 := rT.cell 2 _ rfl
  have HB0 := hide hbA
  have HW := hide hwA
  have HXP : Hid (∀ W, Below wA.heap.size wA W → W.cell? ⟨w.heap.size + 1, 0, none⟩ = some (.int .i64 p1) ∧ W.cell? ⟨w.heap.size + 1, 1, none⟩ = some (.bool p2)) := fun W hW => ⟨kept hW (rP.cell 0 _ rfl), kept hW (rP.cell 1 _ rfl)⟩
  have hwl : w.heap.size + 1 < wA.heap.size := rP.lt
  clear hwA hbA rT rP hr hn hsm
  unfold ptV
  go_enter Tryz.func39, Tryz.ntmps39
  go_wp2_with fail
  rw [← HW.out]
  clear HW x2
  go_loopw [11, 5] (fun iv s wr => ∃ (k m : Nat) (a : Option Addr) (c : Nat), k ≤ n ∧ iv = .int .i64 (k : Int) ∧ s = .slice a m c ∧ Hid (m = (wantTo t (p1, p2) k).length) ∧ m ≤ k ∧ Hid (wr.ownsRow wA.heap.size 34 1 (.slice a m c) m ((wantTo t (p1, p2) k).map (bitV 108))) ∧ Hid (Below wA.heap.size wA wr)) (fun iv _ _ => n - (intOf iv).toNat)
  case atStart => exact ⟨0, 0, none, 0, Nat.zero_le _, rfl, rfl, rfl, Nat.le_refl _, World.ownsRow_nil _ _ _ _, Below.refl _ _⟩
  case round =>
    obtain ⟨k, m, a, c, hk, rfl, rfl, HM, hmk, HO, HB⟩ := hrel
    by_cases hlt : k < n
    · have hkl : k < t.rts.length := by rw [← HN.out]; exact hlt
      obtain ⟨g, o, sa, sc, pa, pc, rfl, c0, c1, hIs, hPs, _⟩ := ((HR.out.below HB0.out).below HB.out).cell k _ (rt_at t k hkl)
      have hki : (k : Int) < (n : Int) := by omega
      obtain ⟨wL, hwL⟩ : ∃ wL, wL = wr.alloc (.cells #[.slice sa (rt t k).secs.length sc, .slice pa (rt t k).pts.length pc] 54) := ⟨_, rfl⟩
      have hbL : Below wr.heap.size wr wL := by rw [hwL]; exact newB _ _
      have HBL : Hid (Below wA.heap.size wA wL) := then_ HB.out hbL
      have HOL := hide (own_below HO.out hbL)
      have HCT := hide (containsPt_any (rt t k).pts (p1, p2) _ wL (hPs.below hbL))
      have HSU := hide (wantTo_succ t (p1, p2) k)
      obtain ⟨y0, y1⟩ := HXP.out wr HB.out
      have hwr : w.heap.size + 1 < wr.heap.size := Nat.lt_of_lt_of_le hwl HB.out.size
      have HWL := hide hwL
      have HIS := hide (is_any 108 k (by omega))
      unfold ptV at HCT
      clear hIs hPs hbL hwL
      generalize (rt t k).pts.contains (p1, p2) = q at *
      generalize (rt t k).secs.length = n1 at *
      generalize (rt t k).pts.length = n2 at *
      go_wp2_with fail
      rw [← HWL.out]
      refine HCT.out.mono ?_
      rintro e w2 ⟨rfl, hb2⟩
      have HB3 := hide (then_ HBL.out hb2)
      have HO3 := hide (own_below HOL.out hb2)
      clear hb2 HCT
      cases q with
      | false =>
        have HT : Hid (wantTo t (p1, p2) (k + 1) = wantTo t (p1, p2) k) := by show _ = _; have h := HSU.out; simpa using h
        clear HSU
        go_wp2_with fail
        go_roundw
        case rel => exact ⟨k + 1, m, a, c, by omega, by go_num, rfl, by rw [HT.out]; exact HM.out, by omega, by rw [HT.out]; exact HO3.out, HB3.out⟩
        case measure => simp [intOf]; omega
      | true =>
        have HT : Hid (wantTo t (p1, p2) (k + 1) = wantTo t (p1, p2) k ++ [k]) := by show _ = _; have h := HSU.out; simpa using h
        have HTL : Hid (m + 1 = (wantTo t (p1, p2) (k + 1)).length) := by show _ = _; rw [HT.out, List.length_append, HM.out]; rfl
        have HTM : Hid ((wantTo t (p1, p2) (k + 1)).map (bitV 108) = (wantTo t (p1, p2) k).map (bitV 108) ++ [bitV 108 k]) := by show _ = _; rw [HT.out, List.map_append]; rfl
        obtain ⟨bx, hbx⟩ := bitV_iface 108 k
        have HC2 := hide (HIS.out w2)
        rw [hbx] at HTM HC2
        have HOWN : Hid (∀ o, (w2.alloc o).ownsRow wA.heap.size 34 1 (.slice a m c) m ((wantTo t (p1, p2) k).map (bitV 108))) := fun o => own_below HO3.out (newB _ _)
        have HONE : Hid (∀ u ∈ [Value.iface 102 bx], u.oneCell' = true) := fun u hu => by obtain rfl := List.mem_singleton.1 hu; rfl
        have HBN : Hid (∀ (o : Obj) (wC : World), (w2.alloc o).grownBy wC (Value.slice a m c).ownBlock → Below wA.heap.size wA wC) := fun o wC hg => below_grown (then_ HB3.out (newB _ _)) hg (ownBlock_new HO3.out)
        have hle : wA.heap.size ≤ w2.heap.size := HB3.out.size
        clear HSU hbx HIS
        go_wp2_with (first
          | (at_builtin; refine wpList_append_lies _ rfl (.tmp 20) (.tmp 23) 51 rfl wA.heap.size 34 i0 _ 1 16 Tryz.underlying51 hi0 hz0 hz1 hz2 rfl (by decide) (.slice a m c) m ((wantTo t (p1, p2) k).map (bitV 108)) rfl (HOWN.out _) ⟨w2.heap.size, 0, none⟩ 1 1 [.iface 102 bx] rfl rfl (World.news_of_block (heap_alloc_new w2 _)) HONE.out (by decide) (by unfold maxLen; omega) (by omega) (by simp; omega) (w2.heap.size + 1) (by simp) ?_; intro g2 cap2 wC hown hgrow hat hltg; have HOC := hide hown; have HBC := hide (HBN.out _ wC hgrow); clear hown hgrow hat)
          | (go_at_call 17; refine HC2.out.mono ?_; rintro e w3 ⟨rfl, hw⟩; obtain rfl := hw.symm))
        go_roundw
        case rel => exact ⟨k + 1, m + 1, some ⟨g2, 0, none⟩, cap2, by omega, by go_num, rfl, HTL.out, by omega, by rw [HTM.out]; exact HOC.out, HBC.out⟩
        case measure => simp [intOf]; omega
    · have hkn : k = n := by omega
      have HRS : Hid (wr.ownsRow w.heap.size 34 1 (.slice a m c) (wanting t (p1, p2)).length ((wanting t (p1, p2)).map (bitV 108))) := by
        have h := own_mono HO.out HB0.out.size
        unfold wanting
        rw [← HN.out, ← hkn, ← HM.out]
        exact h
      have HBX := hide (then_ HB0.out HB.out)
      subst hkn
      go_wp2_with fail
      go_ret
      exact ⟨_, rfl, HRS.out, HBX.out⟩
end Ro
end
section
namespace Ro
open Go.RowKit
theorem Tryz.infoRung : (Tryz.prog.info? 48).map (fun i => (i.zero, i.size, i.bytes)) = some (some (.agg #[.int .i64 0, .string ⟨#[]⟩, .nilIface]), 3, 40) := by kernel_rfl
theorem Tryz.infoName : (Tryz.prog.info? 98).map (fun i => (i.zero, i.size, i.bytes)) = some (some (.agg #[.string ⟨#[]⟩, .int .i64 0, .int .i64 0]), 3, 32) := by kernel_rfl
/-- an append whose run is known, at a step of a region that draws its order -/
theorem step_append_run {P : Program} (w : World) {ops : Array Oper} {o : Oper} {a : Act} {K : Act → World → Prop} {Q : Exit → Act → World → Prop} {E : Prop} (hgd : o.guard = none) (s x : Operand) (t tn : TypeId)
    (ho : o.op = .call { callee := .builtin .append, args := #[s, x], argTypes := #[t, tn] }) (vs vx : Value) (hs : a.eval s = vs) (hx : a.eval x = vx)
    (v' : Value) (w' : World) (hr : (Builtin.append_ #[t, tn] o.type #[vs, vx]).run P w = .ok v' w') (h : K (a.put o.dst v') w') : if Region.wanted o (yielded ops a.tmps) = true then Oper.wp P o a w K Q else E := by
  have hw : Region.wanted o (yielded ops a.tmps) = true := by simp [Region.wanted, hgd]
  rw [if_pos hw]
  exact Lib.wp_append_run w s x t tn ho vs vx hs hx v' w' hr h
/-- nothing is appended -/
theorem append_zero {W : World} (base : Nat) (t ty e : TypeId) (i : TypeInfo) (size : Nat) (ht : Tryz.prog.underlying t = some (.slice e)) (hi : Tryz.prog.info? e = some i) (v : Value) (n : Nat) (xs : List Value) (hown : W.ownsRow base e size v n xs) (a : Option Addr) (c : Nat) :
    (Builtin.append_ #[t, t] ty #[v, .slice a 0 c]).run Tryz.prog W = .ok v W := by
  rcases hown.2 with ⟨rfl, rfl⟩ | ⟨g, cap, cur, rfl, _, _, hnc, _⟩
  · cases a <;> simp [Builtin.append_, run_underlying ht, sizeOf, typeInfo, hi, Builtin.lenOf, Builtin.firstCells, loadCells, loadCellsFrom]
  · cases a <;> simp [Builtin.append_, run_underlying ht, sizeOf, typeInfo, hi, Builtin.lenOf, Builtin.firstCells, hnc, storeCells, loadCells, loadCellsFrom]
/-- one row of interfaces is appended to an own one -/
theorem append_own2 {W : World} (base base2 : Nat) (ty : TypeId) (v sv : Value) (xs us : List Value) (hown : W.ownsRow base 34 1 v xs.length xs) (hs : W.ownsRow base2 34 1 sv us.length us) (hone : ∀ u, u ∈ us → u.oneCell' = true) (hb : base ≤ W.heap.size) (hx : xs.length ≤ 1000) (hu : us.length ≤ 1000) :
    ∃ v' W', (Builtin.append_ #[51, 51] ty #[v, sv]).run Tryz.prog W = .ok v' W' ∧ W'.ownsRow base 34 1 v' (xs ++ us).length (xs ++ us) ∧ W.grownBy W' v.ownBlock := by
  obtain ⟨i0, hi0, hz0, hz1, hz2⟩ := info_parts Tryz.infoExpr
  rcases hs.2 with ⟨rfl, h0⟩ | ⟨g, cap, cur, rfl, _, hcur, hcap, _, _, htk⟩
  · have : us = [] := List.length_eq_zero_iff.1 h0
    subst this
    exact ⟨v, W, append_zero base _ ty _ i0 1 Tryz.underlying51 hi0 v _ _ hown none 0, by simpa using hown, ⟨rfl, rfl, rfl, Nat.le_refl _, fun _ _ _ => rfl⟩⟩
  · cases us with
    | nil => exact ⟨v, W, append_zero base _ ty _ i0 1 Tryz.underlying51 hi0 v _ _ hown _ _, by simpa using hown, ⟨rfl, rfl, rfl, Nat.le_refl _, fun _ _ _ => rfl⟩⟩
    | cons u0 ur =>
      obtain ⟨v', W', h1, h2, h3, _⟩ := run_append_own_at (P := Tryz.prog) W base 51 ty 34 i0 _ 1 16 Tryz.underlying51 hi0 hz0 hz1 hz2 rfl (by decide) v xs.length xs hown ⟨g, 0, none⟩ (u0 :: ur).length cap (u0 :: ur) (by simp) (fun j u hj => by
          have := row_cell hcur (by simpa using htk) hj
          cases j <;> simpa [Addr.add] using this) hone (by unfold maxLen; omega) (by omega) hb
      exact ⟨v', W', h1, by rw [List.length_append]; exact h2, h3⟩
/-- what a rung asks, as a value: one part alone, or a row of them -/
def CondV (ok : Nat → Prop) (W : World) (ty : TypeId) (us : List Value) (v : Value) : Prop := (∃ t x, us = [v] ∧ v = .iface t x) ∨ (2 ≤ us.length ∧ us.length ≤ 1000 ∧ ∃ g cap, v = .iface ty (.slice (some ⟨g, 0, none⟩) us.length cap) ∧ us.length ≤ cap ∧ ok g ∧ ∀ (k : Nat) u, us[k]? = some u → W.cell? ⟨g, k, none⟩ = some u)
theorem CondV.stay {ok ok' : Nat → Prop} {W W' : World} {ty : TypeId} {us : List Value} {v : Value} (h : CondV ok W ty us v) (hs : ∀ g k u, ok g → W.cell? ⟨g, k, none⟩ = some u → W'.cell? ⟨g, k, none⟩ = some u) (hk : ∀ g, ok g → ok' g) : CondV ok' W' ty us v := by
  rcases h with h | ⟨h1, h2, g, cap, h3, h4, h5, h6⟩
  · exact .inl h
  · exact .inr ⟨h1, h2, g, cap, h3, h4, hk g h5, fun k u hu => hs g k u h5 (h6 k u hu)⟩
theorem CondV.lt {ok : Nat → Prop} {W : World} {ty : TypeId} {us : List Value} {v : Value} (h : CondV ok W ty us v) : CondV (fun g => ok g ∧ g < W.heap.size) W ty us v := by
  rcases h with h | ⟨h1, h2, g, cap, h3, h4, h5, h6⟩
  · exact .inl h
  · exact .inr ⟨h1, h2, g, cap, h3, h4, ⟨h5, World.block_lt_of_cell? _ _ (h6 0 us[0] (List.getElem?_eq_getElem (by omega)))⟩, h6⟩
theorem CondV.iface {ok : Nat → Prop} {W : World} {ty : TypeId} {us : List Value} {v : Value} (h : CondV ok W ty us v) : ∃ t x, v = .iface t x := by
  rcases h with ⟨t, x, _, h⟩ | ⟨_, _, g, cap, h, _⟩
  · exact ⟨t, x, h⟩
  · exact ⟨_, _, h⟩
/-- a rung: its kind, its name's letter and number, what puts its parts together, its parts -/
structure Rg where
  kind : Int
  c : UInt8
  i : Nat
  ty : TypeId
  us : List Value
/-- three cells a rung -/
def rg3 (x : Rg × Value) : List Value := [.int .i64 x.1.kind, nmV x.1.c x.1.i, x.2]
def fl (l : List (Rg × Value)) : List Value := l.flatMap rg3
theorem fl_append (l m : List (Rg × Value)) : fl (l ++ m) = fl l ++ fl m := by unfold fl; simp
theorem fl_len : ∀ (l : List (Rg × Value)), (fl l).length = l.length * 3
  | [] => rfl
  | x :: r => by
    have h := fl_len r
    unfold fl at *
    rw [List.flatMap_cons, List.length_append, h, List.length_cons]
    show 3 + _ = _
    omega
/-- an own row of rungs -/
def RR (q : Nat) (W : World) (v : Value) (l : List (Rg × Value)) : Prop := W.ownsRow q 48 3 v l.length (fl l) ∧ ∀ x, x ∈ l → CondV (fun g => (q ≤ g ∧ g < W.heap.size) ∧ some g ≠ v.ownBlock) W x.1.ty x.1.us x.2
theorem RR.below {q : Nat} {W W' : World} {v : Value} {l : List (Rg × Value)} (h : RR q W v l) (hb : Below W.heap.size W W') : RR q W' v l :=
  ⟨own_below h.1 hb, fun x hx => (h.2 x hx).stay (fun _ _ _ _ hc => kept hb hc) fun _ hg => ⟨⟨hg.1.1, Nat.lt_of_lt_of_le hg.1.2 hb.size⟩, hg.2⟩⟩
theorem RR.nil (q : Nat) (W : World) : RR q W (.slice none 0 0) [] := ⟨World.ownsRow_nil _ _ _ _, fun x hx => by simp at hx⟩
/-- one more rung -/
theorem RR.push {q : Nat} {wr W wC : World} {v : Value} {l : List (Rg × Value)} {x : Rg × Value} {g cap : Nat} {o : Obj} (h : RR q wr v l) (hq : q ≤ wr.heap.size) (hb : Below wr.heap.size wr W) (hx : CondV (fun b => wr.heap.size ≤ b) W x.1.ty x.1.us x.2) (ho : wC.ownsRow q 48 3 (.slice (some ⟨g, 0, none⟩) (l.length + 1) cap) (l.length + 1) (fl l ++ rg3 x)) (hg : (W.alloc o).grownBy wC v.ownBlock) (hat : v.ownBlock = some g ∨ g = W.heap.size + 1) :
    RR q wC (.slice (some ⟨g, 0, none⟩) (l.length + 1) cap) (l ++ [x]) := by
  have hvb := ownBlock_new h.1
  have hgs := hg.size
  rw [World.size_alloc] at hgs
  have hbs := hb.size
  have hown : ∀ b, v.ownBlock = some b → b < wr.heap.size := fun b hb' => by
    rcases h.1.2 with ⟨e, _⟩ | ⟨g', cap', cur, e, _, hcur, _⟩
    · rw [e] at hb'; cases hb'
    · rw [e] at hb'
      have : g' = b := Option.some.inj hb'
      rw [← this]
      exact (Array.getElem?_eq_some_iff.1 hcur).1
  refine ⟨?_, fun y hy => ?_⟩
  · rw [List.length_append, fl_append]
    have : fl [x] = rg3 x := by unfold fl; simp
    rw [this]
    exact ho
  · rcases List.mem_append.1 hy with hy | hy
    · refine (h.2 y hy).stay (fun b k u hb' hc => hg.cell (cell_alloc_keep _ _ _ _ (kept hb hc)) hb'.2) fun b hb' => ⟨⟨hb'.1.1, by omega⟩, ?_⟩
      show some b ≠ some g
      intro e
      cases e
      rcases hat with h1 | h1
      · exact hb'.2 h1.symm
      · omega
    · obtain rfl := List.mem_singleton.1 hy
      refine hx.lt.stay (fun b k u hb' hc => hg.cell (cell_alloc_keep _ _ _ _ hc) ?_) fun b hb' => ⟨⟨by omega, by omega⟩, ?_⟩
      · intro e
        have := hown b e.symm
        omega
      · show some b ≠ some g
        intro e
        cases e
        rcases hat with h1 | h1
        · have := hown _ h1
          omega
        · omega
end Ro
end
section
namespace Ro
open Go.RowKit
/-- the rung that lets route i go -/
def letRg (t : Tbl) (i : Nat) : Rg := ⟨3, 108, i, 101, notV 97 i :: freeVs (rt t i)⟩
theorem freeVs_one (r : Rt) : ∀ u, u ∈ freeVs r → u.oneCell' = true := fun u hu => by
  obtain ⟨s, _, rfl⟩ := List.mem_map.1 hu
  rfl
theorem freeVs_iface (r : Rt) : ∀ u, u ∈ freeVs r → ∃ t x, u = .iface t x := fun u hu => by
  obtain ⟨s, _, rfl⟩ := List.mem_map.1 hu
  exact ⟨_, _, rfl⟩
/-- tables of which all numbers are there -/
structure Good (t : Tbl) : Prop where
  few : t.rts.length ≤ 3
  secs : ∀ r, r ∈ t.rts → ∀ s, s ∈ r.secs → 0 ≤ s ∧ s < 4
  some : ∀ r, r ∈ t.rts → r.secs ≠ []
  ls : ∀ r, r ∈ t.rts → r.secs.length ≤ 100
  lp : ∀ r, r ∈ t.rts → r.pts.length ≤ 100
theorem Good.small {t : Tbl} (h : Good t) : SmallR t := ⟨h.few, fun r hr => ⟨h.ls r hr, h.lp r hr⟩⟩
theorem rt_mem (t : Tbl) (i : Nat) (h : i < t.rts.length) : rt t i ∈ t.rts := List.mem_of_getElem? (rt_at t i h)
/-- parts in an own row, as 'all' takes them -/
theorem vs_own {W : World} {base : Nat} {v : Value} {us : List Value} (h : W.ownsRow base 34 1 v us.length us) (h0 : us ≠ []) (hl : us.length ≤ 1000) (hi : ∀ u, u ∈ us → ∃ t x, u = .iface t x) : Vs W v us ∧ ∃ g cap, v = .slice (some ⟨g, 0, none⟩) us.length cap ∧ base ≤ g ∧ us.length ≤ cap := by
  rcases h.2 with ⟨_, h1⟩ | ⟨g, cap, cur, rfl, hg, hcur, hcap, _, _, htk⟩
  · exact absurd (List.length_eq_zero_iff.1 h1) h0
  · exact ⟨⟨g, cap, rfl, hcap, hl, fun k u hu => ⟨row_cell hcur (by simpa using htk) hu, hi u (List.mem_of_getElem? hu)⟩⟩, g, cap, rfl, hg, hcap⟩
/-- what 'all' makes of them -/
theorem cond_all {W : World} {base : Nat} {v : Value} {us : List Value} (h : W.ownsRow base 34 1 v us.length us) (h0 : us ≠ []) (hl : us.length ≤ 1000) (hi : ∀ u, u ∈ us → ∃ t x, u = .iface t x) : CondV (fun g => base ≤ g) W 101 us (allV v us) := by
  obtain ⟨⟨g', c', e', hc', _, hx⟩, g, cap, rfl, hg, hcap⟩ := vs_own h h0 hl hi
  match us, h0, hi, hx, e', hcap, hl with
  | [u], _, hi, _, _, _, _ =>
    obtain ⟨t, x, e⟩ := hi u (List.mem_singleton.2 rfl)
    exact .inl ⟨t, x, rfl, e⟩
  | u :: u2 :: r, _, _, hx, e', hcap, hl =>
    simp only [Value.slice.injEq, Option.some.injEq, Addr.mk.injEq, and_true, true_and] at e'
    obtain ⟨rfl, rfl⟩ := e'
    exact .inr ⟨by simp, hl, g, cap, rfl, hcap, hg, fun k u hu => (hx k u hu).1⟩
theorem cond_some {W : World} {base : Nat} {v : Value} {us : List Value} (h : W.ownsRow base 34 1 v us.length us) (h0 : us ≠ []) (hl : us.length ≤ 1000) (hi : ∀ u, u ∈ us → ∃ t x, u = .iface t x) : CondV (fun g => base ≤ g) W 143 us (someV v us) := by
  obtain ⟨⟨g', c', e', hc', _, hx⟩, g, cap, rfl, hg, hcap⟩ := vs_own h h0 hl hi
  match us, h0, hi, hx, e', hcap, hl with
  | [u], _, hi, _, _, _, _ =>
    obtain ⟨t, x, e⟩ := hi u (List.mem_singleton.2 rfl)
    exact .inl ⟨t, x, rfl, e⟩
  | u :: u2 :: r, _, _, hx, e', hcap, hl =>
    simp only [Value.slice.injEq, Option.some.injEq, Addr.mk.injEq, and_true, true_and] at e'
    obtain ⟨rfl, rfl⟩ := e'
    exact .inr ⟨by simp, hl, g, cap, rfl, hcap, hg, fun k u hu => (hx k u hu).1⟩
theorem rg3_one {x : Rg × Value} (h : ∃ t y, x.2 = .iface t y) : ∀ u ∈ rg3 x, u.oneCell' = true := fun u hu => by
  obtain ⟨t, y, e⟩ := h
  unfold rg3 nmV at hu
  rw [e] at hu
  simp only [List.mem_cons, List.not_mem_nil, or_false] at hu
  rcases hu with rfl | rfl | rfl <;> rfl
set_option maxHeartbeats 8000000 in
set_option maxRecDepth 100000 in
theorem lettingGo_any (t : Tbl) (rv : Value) (w : World) (hr : Rts w rv t.rts) (hgd : Good t) :
    Calls Tryz.prog 11 #[.agg #[.int .i64 t.secs, .int .i64 t.pts, rv]] w fun e w' => ∃ v l, e = .returned v ∧ l.map (fun x => x.1) = (List.range t.rts.length).map (letRg t) ∧ RR w.heap.size w' v l ∧ Below w.heap.size w w' := by
  obtain ⟨i0, hi0, hz0, hz1, hz2⟩ := info_parts Tryz.infoRung
  obtain ⟨ra, rc, rfl⟩ := hr.slice
  obtain ⟨n, hn⟩ : ∃ n, n = t.rts.length := ⟨_, rfl⟩
  obtain ⟨wA, hwA⟩ : ∃ wA, wA = w.alloc (.cells #[.int .i64 t.secs, .int .i64 t.pts, .slice ra n rc] 24) := ⟨_, rfl⟩
  have hbA : Below w.heap.size w wA := by rw [hwA]; exact newB _ _
  have HR := hide hr
  have HN := hide hn
  have hn3 : n ≤ 3 := by rw [hn]; exact hgd.few
  rw [← hn] at HR ⊢
  have HB0 := hide hbA
  have HW := hide hwA
  have HGD := hide hgd
  clear hwA hbA hr hn hgd
  go_enter Tryz.func11, Tryz.ntmps11
  go_wp2_with fail
  rw [← HW.out]
  clear HW
  go_loopw [10, 3] (fun iv s wr => ∃ (k : Nat) (l : List (Rg × Value)) (a : Option Addr) (c : Nat), k ≤ n ∧ iv = .int .i64 (k : Int) ∧ s = .slice a k c ∧ Hid (l.length = k) ∧ Hid (l.map (fun x => x.1) = (List.range k).map (letRg t)) ∧ Hid (RR wA.heap.size wr (.slice a k c) l) ∧ Hid (Below wA.heap.size wA wr)) (fun iv _ _ => n - (intOf iv).toNat)
  case atStart => exact ⟨0, [], none, 0, Nat.zero_le _, rfl, rfl, rfl, rfl, RR.nil _ _, Below.refl _ _⟩
  case round =>
    obtain ⟨k, l, a, c, hk, rfl, rfl, HL, HM, HO, HB⟩ := hrel
    by_cases hlt : k < n
    · have hkl : k < t.rts.length := by rw [← HN.out]; exact hlt
      obtain ⟨g, o, sa, sc, pa, pc, rfl, c0, c1, hIs, hPs, _⟩ := ((HR.out.below HB0.out).below HB.out).cell k _ (rt_at t k hkl)
      have hki : (k : Int) < (n : Int) := by omega
      obtain ⟨wL, hwL⟩ : ∃ wL, wL = wr.alloc (.cells #[.slice sa (rt t k).secs.length sc, .slice pa (rt t k).pts.length pc] 54) := ⟨_, rfl⟩
      have hbL : Below wr.heap.size wr wL := by rw [hwL]; exact newB _ _
      have rL : RowIs wL wr.heap.size 54 [.slice sa (rt t k).secs.length sc, .slice pa (rt t k).pts.length pc] := by rw [hwL]; exact RowIs.new _ _ _
      have hmem := rt_mem t k hkl
      have hsl := HGD.out.ls _ hmem
      have HFR := hide (fun W (hW : Below wL.heap.size wL W) => free_any (rt t k) _ _ W ((hIs.below hbL).below hW) ((hPs.below hbL).below hW) (HGD.out.secs _ hmem) hsl)
      have HIN := hide (isNot_any 97 k (by omega))
      have HNM := hide (named_any 108 k (by omega))
      obtain ⟨nx, hnx⟩ := notV_iface 97 k
      obtain ⟨us, hus⟩ : ∃ us, us = notV 97 k :: freeVs (rt t k) := ⟨_, rfl⟩
      have HUL : Hid (us.length = 1 + (rt t k).secs.length) := by show _ = _; rw [hus]; unfold freeVs; simp; omega
      have HU0 : Hid (us ≠ []) := by show us ≠ []; rw [hus]; simp
      have HUI : Hid (∀ u, u ∈ us → ∃ t x, u = .iface t x) := fun u hu => by
        rw [hus] at hu
        rcases List.mem_cons.1 hu with rfl | hu
        · exact ⟨_, _, rfl⟩
        · exact freeVs_iface _ u hu
      have HBL := hide hbL
      have hfl : (freeVs (rt t k)).length = (rt t k).secs.length := by unfold freeVs; simp
      /- the append of what is free behind the first part -/
      have HAP : Hid (∀ (W : World) (b : Nat) (fv : Value), wL.heap.size ≤ b → W.ownsRow wL.heap.size 34 1 (.slice (some ⟨b, 0, none⟩) 1 1) 1 [.iface 59 nx] → W.ownsRow wL.heap.size 34 1 fv (rt t k).secs.length (freeVs (rt t k)) → Below wL.heap.size wL W → ∃ g cap W', (Builtin.append_ #[51, 51] 51 #[.slice (some ⟨b, 0, none⟩) 1 1, fv]).run Tryz.prog W = .ok (.slice (some ⟨g, 0, none⟩) us.length cap) W' ∧ W'.ownsRow wL.heap.size 34 1 (.slice (some ⟨g, 0, none⟩) us.length cap) us.length us ∧ Below wL.heap.size wL W') := fun W b fv hb1 h1 h2 hW => by
        have h2' : W.ownsRow wL.heap.size 34 1 fv (freeVs (rt t k)).length (freeVs (rt t k)) := by rw [hfl]; exact h2
        obtain ⟨v', W', r1, r2, r3⟩ := append_own2 wL.heap.size wL.heap.size 51 (.slice (some ⟨b, 0, none⟩) 1 1) fv [.iface 59 nx] (freeVs (rt t k)) h1 h2' (freeVs_one _) hW.size (by simp) (by omega)
        have e : [Value.iface 59 nx] ++ freeVs (rt t k) = us := by rw [hus, hnx]; rfl
        rw [e] at r2
        obtain ⟨_, g, cap, rfl, hg, hcap⟩ := vs_own r2 HU0.out (by rw [HUL.out]; omega) HUI.out
        refine ⟨g, cap, W', r1, r2, ?_⟩
        exact below_grown hW r3 (.inr ⟨b, rfl, hb1⟩)
      have f0 := rL.cell 0 _ rfl
      have f1 := rL.cell 1 _ rfl
      have HWL := hide hwL
      have HLE : Hid (letRg t k = ⟨3, 108, k, 101, us⟩) := by rw [hus]; rfl
      have HONEW : Hid (∀ (W : World), Below wL.heap.size wL W → (W.alloc (.cells #[.iface 59 nx] 34)).ownsRow wL.heap.size 34 1 (.slice (some ⟨W.heap.size, 0, none⟩) 1 1) 1 [.iface 59 nx]) := fun W hW => own_one W wL.heap.size 34 _ hW.size
      rw [hnx] at HIN
      clear hIs hPs hbL hwL rL hmem hfl hus hnx
      generalize freeVs (rt t k) = fus at *
      generalize (rt t k).secs.length = n1 at *
      generalize (rt t k).pts.length = n2 at *
      go_upto_region 5 with fail
      rw [← HWL.out]
      go_cut [6] from 15 to 20 (fun v wx => ∃ g cap, v = .slice (some ⟨g, 0, none⟩) us.length cap ∧ Hid (wx.ownsRow wL.heap.size 34 1 (.slice (some ⟨g, 0, none⟩) us.length cap) us.length us) ∧ Hid (Below wL.heap.size wL wx))
      case first =>
        have HD : Hid (Below wL.heap.size wL wL.drew) := drewB wL
        have HDB : Hid (∀ o, Below wL.heap.size wL (wL.drew.alloc o)) := fun o => HD.out.alloc (Nat.le_refl _) _
        have HDC : Hid (∀ o, Below wL.heap.size wL (wL.alloc o).drew) := fun o => HDB.out o
        have HKK : Hid (∀ W, Below wL.heap.size wL W → W.cell? ⟨wr.heap.size, 0, none⟩ = some (.slice sa n1 sc) ∧ W.cell? ⟨wr.heap.size, 1, none⟩ = some (.slice pa n2 pc)) := fun W hW => ⟨kept hW f0, kept hW f1⟩
        go_region_held3 (fun W => W.cell? ⟨wr.heap.size, 0, none⟩ = some (.slice sa n1 sc) ∧ W.cell? ⟨wr.heap.size, 1, none⟩ = some (.slice pa n2 pc)) ((refine HKK.out _ ?_; repeat (first | exact HB4.out | exact HB3.out | exact HD.out | exact Below.refl _ _ | refine drew_below ?_ | refine Below.alloc ?_ (by first | exact Nat.le_refl _ | exact HB3.out.size) _))) ((first
          | (refine step_append_run _ rfl (.tmp 17) (.tmp 19) 51 51 rfl _ _ rfl rfl _ _ HAPP.out ?_)
          | (go_at_call 34; refine (HIN.out _).mono ?_; rintro e w1 ⟨rfl, hw⟩; obtain rfl := hw.symm)
          | (go_at_call 35; (with_reducible refine (HFR.out _ HD.out).mono ?_); rintro e w3 ⟨fv, rfl, ho3, hb3⟩; obtain ⟨fa, fc, rfl⟩ := own_slice ho3; have hbb : Below wL.heap.size wL w3 := HD.out.trans hb3; have HB3 := hide hbb; obtain ⟨g4, cap4, w4, happ, ho4, hb4⟩ := HAP.out (w3.alloc (.cells #[.iface 59 nx] 34)) w3.heap.size _ hbb.size (HONEW.out w3 hbb) (own_below ho3 (newB _ _)) (then_ hbb (newB _ _)); have HAPP := hide happ; have HO4 := hide ho4; have HB4 := hide hb4; clear happ ho4 hb4 ho3 hb3 hbb)
          | (go_at_call 35; (with_reducible refine (HFR.out _ (HDB.out _)).mono ?_); rintro e w3 ⟨fv, rfl, ho3, hb3⟩; obtain ⟨fa, fc, rfl⟩ := own_slice ho3; have hbb : Below wL.heap.size wL w3 := (HDB.out _).trans (hb3.mono (by simp)); have HB3 := hide hbb; obtain ⟨g4, cap4, w4, happ, ho4, hb4⟩ := HAP.out w3 wL.heap.size _ (Nat.le_refl _) (own_below (HONEW.out wL.drew HD.out) hb3) (own_mono ho3 (by simp)) hbb; have HAPP := hide happ; have HO4 := hide ho4; have HB4 := hide hb4; clear happ ho4 hb4 ho3 hb3 hbb)
          | (go_at_call 35; (with_reducible refine (HFR.out _ (HDC.out _)).mono ?_); rintro e w3 ⟨fv, rfl, ho3, hb3⟩; obtain ⟨fa, fc, rfl⟩ := own_slice ho3; have hbb : Below wL.heap.size wL w3 := (HDC.out _).trans (hb3.mono (by simp)); have HB3 := hide hbb; obtain ⟨g4, cap4, w4, happ, ho4, hb4⟩ := HAP.out w3 wL.heap.size _ (Nat.le_refl _) (own_below (HONEW.out wL.drew HD.out) hb3) (own_mono ho3 (by simp)) hbb; have HAPP := hide happ; have HO4 := hide ho4; have HB4 := hide hb4; clear happ ho4 hb4 ho3 hb3 hbb)))
        all_goals
          go_wp2_with fail
          go_meet
          exact ⟨g4, cap4, rfl, HO4.out, HB4.out⟩
      case rest =>
        obtain ⟨g4, cap4, rfl, HO4, HB4⟩ := hcut
        have hul : us.length ≤ 1000 := by rw [HUL.out]; omega
        have HAL := hide (all_any us _ wc (vs_own HO4.out HU0.out hul HUI.out).1 HU0.out)
        have HCD := hide (cond_all HO4.out HU0.out hul HUI.out)
        obtain ⟨cv, hcv⟩ : ∃ cv, cv = allV (.slice (some ⟨g4, 0, none⟩) us.length cap4) us := ⟨_, rfl⟩
        rw [← hcv] at HAL HCD
        obtain ⟨ct, cx, hct⟩ := HCD.out.iface
        obtain ⟨nb, hnb⟩ : ∃ nb, nmV 108 k = .string nb := ⟨_, rfl⟩
        have HNW := hide (HNM.out wc)
        obtain ⟨x, hx⟩ : ∃ x : Rg × Value, x = (⟨3, 108, k, 101, us⟩, cv) := ⟨_, rfl⟩
        have hx3 : rg3 x = [.int .i64 3, .string nb, .iface ct cx] := by
          unfold rg3
          rw [hx]
          show [Value.int .i64 3, nmV 108 k, cv] = _
          rw [hnb, hct]
        have HX3 := hide hx3
        have HBC : Hid (Below wr.heap.size wr wc) := then_ HBL.out HB4.out
        have HCX : Hid (CondV (fun b => wr.heap.size ≤ b) wc x.1.ty x.1.us x.2) := by
          rw [hx]
          exact HCD.out.stay (fun _ _ _ _ hc => hc) fun _ hg => Nat.le_trans HBL.out.size hg
        have HX1 : Hid (x.1 = letRg t k) := by show _ = _; rw [HLE.out, hx]
        have HONE : Hid (∀ u ∈ [Value.int .i64 3, .string nb, .iface ct cx], u.oneCell' = true) := by
          have h := rg3_one (x := x) ⟨ct, cx, by rw [hx]; exact hct⟩
          rw [hx3] at h
          exact h
        have hqw : wA.heap.size ≤ wr.heap.size := HB.out.size
        have HFIN : Hid (∀ (g2 cap2 : Nat) (wC : World), wC.ownsRow wA.heap.size 48 3 (.slice (some ⟨g2, 0, none⟩) (k + 1) cap2) (k + 1) (fl l ++ [.int .i64 3, .string nb, .iface ct cx]) → (wc.alloc (.cells #[.int .i64 3, .string nb, .iface ct cx] 48)).grownBy wC (Value.slice a k c).ownBlock → ((Value.slice a k c).ownBlock = some g2 ∨ g2 = wc.heap.size + 1) → RR wA.heap.size wC (.slice (some ⟨g2, 0, none⟩) (k + 1) cap2) (l ++ [x]) ∧ Below wA.heap.size wA wC) := fun g2 cap2 wC ho hg hat => by
          have hl := HL.out
          have h := RR.push (x := x) (g := g2) (cap := cap2) (o := .cells #[.int .i64 3, .string nb, .iface ct cx] 48) HO.out hqw HBC.out HCX.out (by rw [hl, HX3.out]; exact ho) hg hat
          rw [hl] at h
          exact ⟨h, below_grown (then_ (then_ HB.out HBC.out) (newB _ _)) hg (ownBlock_new HO.out.1)⟩
        have HOWN : Hid (∀ o, (wc.alloc o).ownsRow wA.heap.size 48 3 (.slice a k c) k (fl l)) := fun o => by
          have h := own_below (own_below HO.out.1 HBC.out) (newB wc o)
          rw [HL.out] at h
          exact h
        have HLL : Hid ((l ++ [x]).length = k + 1) := by show _ = _; rw [List.length_append, HL.out]; rfl
        have HMM : Hid ((l ++ [x]).map (fun x => x.1) = (List.range (k + 1)).map (letRg t)) := by
          show _ = _
          rw [List.map_append, HM.out, List.range_succ, List.map_append]
          show _ ++ [x.1] = _ ++ [letRg t k]
          rw [HX1.out]
        have HNEW : Hid ((wc.alloc (.cells #[.int .i64 3, .string nb, .iface ct cx] 48)).heap[wc.heap.size]? = some (.cells #[.int .i64 3, .string nb, .iface ct cx] 48 (0, 0))) := heap_alloc_new _ _
        have hle : wA.heap.size ≤ wc.heap.size := Nat.le_trans hqw HBC.out.size
        rw [hnb] at HNW
        rw [hct] at HAL
        clear hx3 hx hcv hct hnb HCD HIN HFR HNM HONEW HAP
        generalize us.length = un at *
        go_wp2_with (first
          | (at_builtin; refine wpList_append_lies _ rfl (.tmp 21) (.tmp 27) 26 rfl wA.heap.size 48 i0 _ 3 40 Tryz.underlying26 hi0 hz0 hz1 hz2 rfl (by decide) (.slice a k c) k (fl l) rfl (HOWN.out _) ⟨wc.heap.size, 0, none⟩ 1 1 [.int .i64 3, .string nb, .iface ct cx] rfl rfl (World.news_of_block HNEW.out) HONE.out (by decide) (by unfold maxLen; omega) (by omega) (by simp; omega) (wc.heap.size + 1) (by simp) ?_; intro g2 cap2 wC hown hgrow hat hltg; obtain ⟨hrr, hbn⟩ := HFIN.out g2 cap2 wC hown hgrow hat; have HRR := hide hrr; have HBN := hide hbn; clear hown hgrow hat hrr hbn)
          | (go_at_call 36; refine HNW.out.mono ?_; rintro e w6 ⟨rfl, hw⟩; obtain rfl := hw.symm)
          | (go_at_call 16; refine HAL.out.mono ?_; rintro e w6 ⟨rfl, hw⟩; obtain rfl := hw.symm))
        go_roundw
        case rel => exact ⟨k + 1, l ++ [x], some ⟨g2, 0, none⟩, cap2, by omega, by go_num, rfl, HLL.out, HMM.out, HRR.out, HBN.out⟩
        case measure => simp [intOf]; omega
    · have hkn : k = n := by omega
      have HRS : Hid (RR w.heap.size wr (.slice a k c) l) := ⟨own_mono HO.out.1 HB0.out.size, fun x hx => (HO.out.2 x hx).stay (fun _ _ _ _ hc => hc) fun b hb => ⟨⟨Nat.le_trans HB0.out.size hb.1.1, hb.1.2⟩, hb.2⟩⟩
      have HBX := hide (then_ HB0.out HB.out)
      have HMX : Hid (l.map (fun x => x.1) = (List.range n).map (letRg t)) := by rw [← hkn]; exact HM.out
      subst hkn
      go_wp2_with fail
      go_ret
      exact ⟨_, l, rfl, HMX.out, HRS.out, HBX.out⟩
end Ro
end
end Go.Proofs.YtgdmohombcgjbaaGreatDoor
