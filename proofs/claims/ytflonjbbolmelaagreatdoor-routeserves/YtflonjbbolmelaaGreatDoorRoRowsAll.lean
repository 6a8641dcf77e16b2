/-
  The walks of slices.Index and Contains over points, and of package route's wanting. Rows of rungs in memory that package route builds: each rung's kind, name, and what it asks.
-/
import Derived.Test.YtflonjbbolmelaaGreatDoorRoClashing
import Derived.Maps.AppendAt
namespace Go.Proofs.YtflonjbbolmelaaGreatDoor
section
namespace Ro
open Go.RowKit
set_option maxHeartbeats 4000000 in
set_option maxRecDepth 100000 in
theorem indexPt_any (l : List (Int × Bool)) (x : Int × Bool) (sv : Value) (w : World) (h : Pts w sv l) :
    Calls Tryz.prog 71 #[sv, ptV x] w fun e w' => e = .returned (.int .i64 (idxP (fun y => y == x) l)) ∧ Below w.heap.size w w' := by
  have hlen := h.len
  unfold maxLen at hlen
  obtain ⟨x1, x2⟩ := x
  obtain ⟨wA, hwA⟩ : ∃ wA, wA = w.alloc (.cells #[.int .i64 x1, .bool x2] 85) := ⟨_, rfl⟩
  have hbA : Below w.heap.size w wA := by rw [hwA]; exact newB _ _
  have rA : RowIs wA w.heap.size 85 [.int .i64 x1, .bool x2] := by rw [hwA]; exact RowIs.new _ _ _
  have HR := hide (h.below hbA)
  obtain ⟨a, cp, rfl⟩ := h.slice
  obtain ⟨n, hn⟩ : ∃ n, n = l.length := ⟨_, rfl⟩
  have HN := hide hn
  rw [← hn] at hlen HR ⊢
  have HB0 := hide hbA
  have HW := hide hwA
  have HK : Hid (∀ W, Below wA.heap.size wA W → W.cell? ⟨w.heap.size, 0, none⟩ = some (.int .i64 x1) ∧ W.cell? ⟨w.heap.size, 1, none⟩ = some (.bool x2)) := fun W hW => ⟨kept hW (rA.cell 0 _ rfl), kept hW (rA.cell 1 _ rfl)⟩
  clear h hn hwA hbA rA
  unfold ptV
  go_enter Tryz.func71, Tryz.ntmps71
  go_wp2_with fail
  rw [← HW.out]
  clear HW
  go_loopw [8] (fun i wr => ∃ k : Nat, k ≤ n ∧ i = .int .i64 (k : Int) ∧ Hid ((l.take k).any (fun y => y == (x1, x2)) = false) ∧ Hid (Below wA.heap.size wA wr)) (fun i _ => n - (intOf i).toNat)
  case atStart => exact ⟨0, Nat.zero_le _, rfl, rfl, Below.refl _ _⟩
  case round =>
    obtain ⟨k, hk, rfl, HT, HB⟩ := hrel
    obtain ⟨u0, u1⟩ := HK.out wr HB.out
    by_cases hlt : k < n
    · have hkl : k < l.length := by rw [← HN.out]; exact hlt
      obtain ⟨g, o, rfl, c0, c1, hi⟩ := (HR.out.below HB.out).cell k _ (List.getElem?_eq_getElem hkl)
      have HSU : Hid ((l.take (k + 1)).any (fun y => y == (x1, x2)) = (l[k] == (x1, x2))) := by show _ = _; rw [List.take_succ_eq_append_getElem hkl, List.any_append, HT.out]; simp
      have HHIT := hide (idxP_hit (fun y => y == (x1, x2)) l k hkl HT.out)
      have hki : (k : Int) < (n : Int) := by omega
      clear hi
      generalize l[k] = z at *
      obtain ⟨z1, z2⟩ := z
      simp only at c0 c1
      by_cases hz : z1 = x1 ∧ z2 = x2
      · obtain ⟨rfl, rfl⟩ := hz
        have HA := hide (HHIT.out (by simp))
        clear HHIT HSU
        go_wp2_with fail
        go_quiet (fail)
        go_wp2_with fail
        go_ret
        exact ⟨by rw [HA.out]; rfl, then_ HB0.out (then_ HB.out (drewN_b _ _))⟩
      · have hzb : ((z1, z2) == (x1, x2)) = false := by rw [beq_eq_false_iff_ne]; intro e; exact hz (Prod.mk.inj e)
        rw [hzb] at HSU
        clear HHIT hzb
        by_cases h1 : z1 = x1
        · subst h1
          have h2 : (x2 == z2) = false := by
            rw [beq_eq_false_iff_ne]
            exact fun e => hz ⟨rfl, e.symm⟩
          clear hz
          go_wp2_with fail
          go_quiet (fail)
          go_wp2_with fail
          go_roundw
          case rel => exact ⟨k + 1, by omega, by go_num, HSU.out, then_ HB.out (drewN_b _ _)⟩
          case measure => simp [intOf]; omega
        · have h2 : (x1 == z1) = false := by
            rw [beq_eq_false_iff_ne]
            exact fun e => h1 e.symm
          clear hz h1
          go_wp2_with fail
          go_quiet (fail)
          go_wp2_with fail
          go_roundw
          case rel => exact ⟨k + 1, by omega, by go_num, HSU.out, then_ HB.out (drewN_b _ _)⟩
          case measure => simp [intOf]; omega
    · have hkn : k = n := by omega
      have HA : Hid (idxP (fun y => y == (x1, x2)) l = -1) := idxP_none _ l (by have := HT.out; rw [List.take_of_length_le (by rw [← HN.out]; omega)] at this; exact this)
      have HBX := hide (then_ HB0.out HB.out)
      subst hkn
      go_wp2_with fail
      go_ret
      exact ⟨by rw [HA.out]; rfl, HBX.out⟩
set_option maxHeartbeats 2000000 in
theorem containsPt_any (l : List (Int × Bool)) (x : Int × Bool) (sv : Value) (w : World) (h : Pts w sv l) :
    Calls Tryz.prog 52 #[sv, ptV x] w fun e w' => e = .returned (.bool (l.contains x)) ∧ Below w.heap.size w w' := by
  obtain ⟨wA, hwA⟩ : ∃ wA, wA = w.alloc (.cells #[.int .i64 x.1, .bool x.2] 85) := ⟨_, rfl⟩
  have hbA : Below w.heap.size w wA := by rw [hwA]; exact newB _ _
  have HI := hide (indexPt_any l x sv wA (h.below hbA))
  have HA : Hid (decide (0 ≤ idxP (fun y => y == x) l) = l.contains x) := by
    show _ = _
    rw [idxP_any, Bool.eq_iff_iff, List.any_eq_true, List.contains_iff_mem]
    constructor
    · rintro ⟨y, hy, e⟩
      obtain rfl : y = x := by simpa using e
      exact hy
    · exact fun hx => ⟨x, hx, by simp⟩
  have HB0 := hide hbA
  have HW := hide hwA
  obtain ⟨a, cp, rfl⟩ := h.slice
  generalize idxP (fun y => y == x) l = r at *
  generalize l.contains x = y at *
  generalize l.length = n at *
  clear h hbA hwA
  unfold ptV at *
  obtain ⟨x1, x2⟩ := x
  simp only at HW HI
  go_enter Tryz.func52, Tryz.ntmps52
  go_wp2_with fail
  rw [← HW.out]
  refine HI.out.mono ?_
  rintro e w1 ⟨rfl, hb1⟩
  have HB := hide (then_ HB0.out hb1)
  clear hb1 HI
  go_wp2_with fail
  go_ret
  exact ⟨by rw [← HA.out]; rfl, HB.out⟩
set_option maxHeartbeats 4000000 in
set_option maxRecDepth 100000 in
theorem wanting_any (t : Tbl) (rv : Value) (p : Int × Bool) (w : World) (hr : Rts w rv t.rts) (hsm : SmallR t) :
    Calls Tryz.prog 36 #[.agg #[.int .i64 t.secs, .int .i64 t.pts, rv], ptV p] w fun e w' => ∃ v, e = .returned v ∧ w'.ownsRow w.heap.size 50 1 v (wanting t p).length ((wanting t p).map (bitV 108)) ∧ Below w.heap.size w w' := by
  obtain ⟨i0, hi0, hz0, hz1, hz2⟩ := info_parts Tryz.infoExpr
  obtain ⟨ra, rc, rfl⟩ := hr.slice
  obtain ⟨n, hn⟩ : ∃ n, n = t.rts.length := ⟨_, rfl⟩
  obtain ⟨p1, p2⟩ := p
  obtain ⟨wA, hwA⟩ : ∃ wA, wA = (w.alloc (.cells #[.int .i64 t.secs, .int .i64 t.pts, .slice ra n rc] 24)).alloc (.cells #[.int .i64 p1, .bool p2] 85) := ⟨_, rfl⟩
  have hbA : Below w.heap.size w wA := by rw [hwA]; exact then_ (newB _ _) (newB _ _)
  have rT : RowIs wA w.heap.size 24 [.int .i64 t.secs, .int .i64 t.pts, .slice ra n rc] := by rw [hwA]; exact (RowIs.new _ _ _).alloc _
  have rP : RowIs wA (w.heap.size + 1) 85 [.int .i64 p1, .bool p2] := by
    rw [hwA]
    have := RowIs.new (w.alloc (.cells #[.int .i64 t.secs, .int .i64 t.pts, .slice ra n rc] 24)) 85 [.int .i64 p1, .bool p2]
    rw [World.size_alloc] at this
    exact this
  have HR := hide hr
  have HN := hide hn
  have hn3 : n ≤ 3 := by rw [hn]; exact hsm.1
  rw [← hn] at HR ⊢
  have x2 := rT.cell 2 _ rfl
  have HB0 := hide hbA
  have HW := hide hwA
  have HXP : Hid (∀ W, Below wA.heap.size wA W → W.cell? ⟨w.heap.size + 1, 0, none⟩ = some (.int .i64 p1) ∧ W.cell? ⟨w.heap.size + 1, 1, none⟩ = some (.bool p2)) := fun W hW => ⟨kept hW (rP.cell 0 _ rfl), kept hW (rP.cell 1 _ rfl)⟩
  have hwl : w.heap.size + 1 < wA.heap.size := rP.lt
  clear hwA hbA rT rP hr hn hsm
  unfold ptV
  go_enter Tryz.func36, Tryz.ntmps36
  go_wp2_with fail
  rw [← HW.out]
  clear HW x2
  go_loopw [11, 5] (fun iv s wr => ∃ (k m : Nat) (a : Option Addr) (c : Nat), k ≤ n ∧ iv = .int .i64 (k : Int) ∧ s = .slice a m c ∧ Hid (m = (wantTo t (p1, p2) k).length) ∧ m ≤ k ∧ Hid (wr.ownsRow wA.heap.size 50 1 (.slice a m c) m ((wantTo t (p1, p2) k).map (bitV 108))) ∧ Hid (Below wA.heap.size wA wr)) (fun iv _ _ => n - (intOf iv).toNat)
  case atStart => exact ⟨0, 0, none, 0, Nat.zero_le _, rfl, rfl, rfl, Nat.le_refl _, World.ownsRow_nil _ _ _ _, Below.refl _ _⟩
  case round =>
    obtain ⟨k, m, a, c, hk, rfl, rfl, HM, hmk, HO, HB⟩ := hrel
    by_cases hlt : k < n
    · have hkl : k < t.rts.length := by rw [← HN.out]; exact hlt
      obtain ⟨g, o, sa, sc, pa, pc, rfl, c0, c1, hIs, hPs, _⟩ := ((HR.out.below HB0.out).below HB.out).cell k _ (rt_at t k hkl)
      have hki : (k : Int) < (n : Int) := by omega
      obtain ⟨wL, hwL⟩ : ∃ wL, wL = wr.alloc (.cells #[.slice sa (rt t k).secs.length sc, .slice pa (rt t k).pts.length pc] 57) := ⟨_, rfl⟩
      have hbL : Below wr.heap.size wr wL := by rw [hwL]; exact newB _ _
      have HBL : Hid (Below wA.heap.size wA wL) := then_ HB.out hbL
      have HOL := hide (own_below HO.out hbL)
      have HCT := hide (containsPt_any (rt t k).pts (p1, p2) _ wL (hPs.below hbL))
      have HSU := hide (wantTo_succ t (p1, p2) k)
      obtain ⟨y0, y1⟩ := HXP.out wr HB.out
      have hwr : w.heap.size + 1 < wr.heap.size := Nat.lt_of_lt_of_le hwl HB.out.size
      have HWL := hide hwL
      have HIS := hide (is_any 108 k (by omega))
      unfold ptV at HCT
      clear hIs hPs hbL hwL
      generalize (rt t k).pts.contains (p1, p2) = q at *
      generalize (rt t k).secs.length = n1 at *
      generalize (rt t k).pts.length = n2 at *
      go_wp2_with fail
      rw [← HWL.out]
      refine HCT.out.mono ?_
      rintro e w2 ⟨rfl, hb2⟩
      have HB3 := hide (then_ HBL.out hb2)
      have HO3 := hide (own_below HOL.out hb2)
      clear hb2 HCT
      cases q with
      | false =>
        have HT : Hid (wantTo t (p1, p2) (k + 1) = wantTo t (p1, p2) k) := by show _ = _; have h := HSU.out; simpa using h
        clear HSU
        go_wp2_with fail
        go_roundw
        case rel => exact ⟨k + 1, m, a, c, by omega, by go_num, rfl, by rw [HT.out]; exact HM.out, by omega, by rw [HT.out]; exact HO3.out, HB3.out⟩
        case measure => simp [intOf]; omega
      | true =>
        have HT : Hid (wantTo t (p1, p2) (k + 1) = wantTo t (p1, p2) k ++ [k]) := by show _ = _; have h := HSU.out; simpa using h
        have HTL : Hid (m + 1 = (wantTo t (p1, p2) (k + 1)).length) := by show _ = _; rw [HT.out, List.length_append, HM.out]; rfl
        have HTM : Hid ((wantTo t (p1, p2) (k + 1)).map (bitV 108) = (wantTo t (p1, p2) k).map (bitV 108) ++ [bitV 108 k]) := by show _ = _; rw [HT.out, List.map_append]; rfl
        obtain ⟨bx, hbx⟩ := bitV_iface 108 k
        have HC2 := hide (HIS.out w2)
        rw [hbx] at HTM HC2
        have HOWN : Hid (∀ o, (w2.alloc o).ownsRow wA.heap.size 50 1 (.slice a m c) m ((wantTo t (p1, p2) k).map (bitV 108))) := fun o => own_below HO3.out (newB _ _)
        have HONE : Hid (∀ u ∈ [Value.iface 107 bx], u.oneCell' = true) := fun u hu => by obtain rfl := List.mem_singleton.1 hu; rfl
        have HBN : Hid (∀ (o : Obj) (wC : World), (w2.alloc o).grownBy wC (Value.slice a m c).ownBlock → Below wA.heap.size wA wC) := fun o wC hg => below_grown (then_ HB3.out (newB _ _)) hg (ownBlock_new HO3.out)
        have hle : wA.heap.size ≤ w2.heap.size := HB3.out.size
        clear HSU hbx HIS
        go_wp2_with (first
          | (at_builtin; refine wpList_append_lies _ rfl (.tmp 20) (.tmp 23) 77 rfl wA.heap.size 50 i0 _ 1 16 Tryz.underlying77 hi0 hz0 hz1 hz2 rfl (by decide) (.slice a m c) m ((wantTo t (p1, p2) k).map (bitV 108)) rfl (HOWN.out _) ⟨w2.heap.size, 0, none⟩ 1 1 [.iface 107 bx] rfl rfl (World.news_of_block (heap_alloc_new w2 _)) HONE.out (by decide) (by unfold maxLen; omega) (by omega) (by simp; omega) (w2.heap.size + 1) (by simp) ?_; intro g2 cap2 wC hown hgrow hat hltg; have HOC := hide hown; have HBC := hide (HBN.out _ wC hgrow); clear hown hgrow hat)
          | (go_at_call 32; refine HC2.out.mono ?_; rintro e w3 ⟨rfl, hw⟩; obtain rfl := hw.symm))
        go_roundw
        case rel => exact ⟨k + 1, m + 1, some ⟨g2, 0, none⟩, cap2, by omega, by go_num, rfl, HTL.out, by omega, by rw [HTM.out]; exact HOC.out, HBC.out⟩
        case measure => simp [intOf]; omega
    · have hkn : k = n := by omega
      have HRS : Hid (wr.ownsRow w.heap.size 50 1 (.slice a m c) (wanting t (p1, p2)).length ((wanting t (p1, p2)).map (bitV 108))) := by
        have h := own_mono HO.out HB0.out.size
        unfold wanting
        rw [← HN.out, ← hkn, ← HM.out]
        exact h
      have HBX := hide (then_ HB0.out HB.out)
      subst hkn
      go_wp2_with fail
      go_ret
      exact ⟨_, rfl, HRS.out, HBX.out⟩
end Ro
end
section
namespace Ro
open Go.RowKit
theorem Tryz.infoRung : (Tryz.prog.info? 52).map (fun i => (i.zero, i.size, i.bytes)) = some (some (.agg #[.int .i64 0, .string ⟨#[]⟩, .nilIface]), 3, 40) := by kernel_rfl
theorem Tryz.infoName : (Tryz.prog.info? 62).map (fun i => (i.zero, i.size, i.bytes)) = some (some (.agg #[.string ⟨#[]⟩, .int .i64 0, .int .i64 0]), 3, 32) := by kernel_rfl
/-- an append whose run is known, at a step of a region that draws its order -/
theorem step_append_run {P : Program} (w : World) {ops : Array Oper} {o : Oper} {a : Act} {K : Act → World → Prop} {Q : Exit → Act → World → Prop} {E : Prop} (hgd : o.guard = none) (s x : Operand) (t tn : TypeId)
    (ho : o.op = .call { callee := .builtin .append, args := #[s, x], argTypes := #[t, tn] }) (vs vx : Value) (hs : a.eval s = vs) (hx : a.eval x = vx)
    (v' : Value) (w' : World) (hr : (Builtin.append_ #[t, tn] o.type #[vs, vx]).run P w = .ok v' w') (h : K (a.put o.dst v') w') : if Region.wanted o (yielded ops a.tmps) = true then Oper.wp P o a w K Q else E := by
  have hw : Region.wanted o (yielded ops a.tmps) = true := by simp [Region.wanted, hgd]
  rw [if_pos hw]
  exact Lib.wp_append_run w s x t tn ho vs vx hs hx v' w' hr h
/-- nothing is appended -/
theorem append_zero {W : World} (base : Nat) (t ty e : TypeId) (i : TypeInfo) (size : Nat) (ht : Tryz.prog.underlying t = some (.slice e)) (hi : Tryz.prog.info? e = some i) (v : Value) (n : Nat) (xs : List Value) (hown : W.ownsRow base e size v n xs) (a : Option Addr) (c : Nat) :
    (Builtin.append_ #[t, t] ty #[v, .slice a 0 c]).run Tryz.prog W = .ok v W := by
  rcases hown.2 with ⟨rfl, rfl⟩ | ⟨g, cap, cur, rfl, _, _, hnc, _⟩
  · cases a <;> simp [Builtin.append_, run_underlying ht, sizeOf, typeInfo, hi, Builtin.lenOf, Builtin.firstCells, loadCells, loadCellsFrom]
  · cases a <;> simp [Builtin.append_, run_underlying ht, sizeOf, typeInfo, hi, Builtin.lenOf, Builtin.firstCells, hnc, storeCells, loadCells, loadCellsFrom]
/-- one row of interfaces is appended to an own one -/
theorem append_own2 {W : World} (base base2 : Nat) (ty : TypeId) (v sv : Value) (xs us : List Value) (hown : W.ownsRow base 50 1 v xs.length xs) (hs : W.ownsRow base2 50 1 sv us.length us) (hone : ∀ u, u ∈ us → u.oneCell' = true) (hb : base ≤ W.heap.size) (hx : xs.length ≤ 1000) (hu : us.length ≤ 1000) :
    ∃ v' W', (Builtin.append_ #[77, 77] ty #[v, sv]).run Tryz.prog W = .ok v' W' ∧ W'.ownsRow base 50 1 v' (xs ++ us).length (xs ++ us) ∧ W.grownBy W' v.ownBlock := by
  obtain ⟨i0, hi0, hz0, hz1, hz2⟩ := info_parts Tryz.infoExpr
  rcases hs.2 with ⟨rfl, h0⟩ | ⟨g, cap, cur, rfl, _, hcur, hcap, _, _, htk⟩
  · have : us = [] := List.length_eq_zero_iff.1 h0
    subst this
    exact ⟨v, W, append_zero base _ ty _ i0 1 Tryz.underlying77 hi0 v _ _ hown none 0, by simpa using hown, ⟨rfl, rfl, rfl, Nat.le_refl _, fun _ _ _ => rfl⟩⟩
  · cases us with
    | nil => exact ⟨v, W, append_zero base _ ty _ i0 1 Tryz.underlying77 hi0 v _ _ hown _ _, by simpa using hown, ⟨rfl, rfl, rfl, Nat.le_refl _, fun _ _ _ => rfl⟩⟩
    | cons u0 ur =>
      obtain ⟨v', W', h1, h2, h3, _⟩ := run_append_own_at (P := Tryz.prog) W base 77 ty 50 i0 _ 1 16 Tryz.underlying77 hi0 hz0 hz1 hz2 rfl (by decide) v xs.length xs hown ⟨g, 0, none⟩ (u0 :: ur).length cap (u0 :: ur) (by simp) (fun j u hj => by
          have := row_cell hcur (by simpa using htk) hj
          cases j <;> simpa [Addr.add] using this) hone (by unfold maxLen; omega) (by omega) hb
      exact ⟨v', W', h1, by rw [List.length_append]; exact h2, h3⟩
/-- what a rung asks, as a value: one part alone, or a row of them -/
def CondV (ok : Nat → Prop) (W : World) (ty : TypeId) (us : List Value) (v : Value) : Prop := (∃ t x, us = [v] ∧ v = .iface t x) ∨ (2 ≤ us.length ∧ us.length ≤ 1000 ∧ ∃ g cap, v = .iface ty (.slice (some ⟨g, 0, none⟩) us.length cap) ∧ us.length ≤ cap ∧ ok g ∧ ∀ (k : Nat) u, us[k]? = some u → W.cell? ⟨g, k, none⟩ = some u)
theorem CondV.stay {ok ok' : Nat → Prop} {W W' : World} {ty : TypeId} {us : List Value} {v : Value} (h : CondV ok W ty us v) (hs : ∀ g k u, ok g → W.cell? ⟨g, k, none⟩ = some u → W'.cell? ⟨g, k, none⟩ = some u) (hk : ∀ g, ok g → ok' g) : CondV ok' W' ty us v := by
  rcases h with h | ⟨h1, h2, g, cap, h3, h4, h5, h6⟩
  · exact .inl h
  · exact .inr ⟨h1, h2, g, cap, h3, h4, hk g h5, fun k u hu => hs g k u h5 (h6 k u hu)⟩
theorem CondV.lt {ok : Nat → Prop} {W : World} {ty : TypeId} {us : List Value} {v : Value} (h : CondV ok W ty us v) : CondV (fun g => ok g ∧ g < W.heap.size) W ty us v := by
  rcases h with h | ⟨h1, h2, g, cap, h3, h4, h5, h6⟩
  · exact .inl h
  · exact .inr ⟨h1, h2, g, cap, h3, h4, ⟨h5, World.block_lt_of_cell? _ _ (h6 0 us[0] (List.getElem?_eq_getElem (by omega)))⟩, h6⟩
theorem CondV.iface {ok : Nat → Prop} {W : World} {ty : TypeId} {us : List Value} {v : Value} (h : CondV ok W ty us v) : ∃ t x, v = .iface t x := by
  rcases h with ⟨t, x, _, h⟩ | ⟨_, _, g, cap, h, _⟩
  · exact ⟨t, x, h⟩
  · exact ⟨_, _, h⟩
/-- a rung: its kind, its name's letter and number, what puts its parts together, its parts -/
structure Rg where
  kind : Int
  c : UInt8
  i : Nat
  ty : TypeId
  us : List Value
/-- three cells a rung -/
def rg3 (x : Rg × Value) : List Value := [.int .i64 x.1.kind, nmV x.1.c x.1.i, x.2]
def fl (l : List (Rg × Value)) : List Value := l.flatMap rg3
theorem fl_append (l m : List (Rg × Value)) : fl (l ++ m) = fl l ++ fl m := by unfold fl; simp
theorem fl_len : ∀ (l : List (Rg × Value)), (fl l).length = l.length * 3
  | [] => rfl
  | x :: r => by
    have h := fl_len r
    unfold fl at *
    rw [List.flatMap_cons, List.length_append, h, List.length_cons]
    show 3 + _ = _
    omega
/-- an own row of rungs -/
def RR (q : Nat) (W : World) (v : Value) (l : List (Rg × Value)) : Prop := W.ownsRow q 52 3 v l.length (fl l) ∧ ∀ x, x ∈ l → CondV (fun g => (q ≤ g ∧ g < W.heap.size) ∧ some g ≠ v.ownBlock) W x.1.ty x.1.us x.2
theorem RR.below {q : Nat} {W W' : World} {v : Value} {l : List (Rg × Value)} (h : RR q W v l) (hb : Below W.heap.size W W') : RR q W' v l :=
  ⟨own_below h.1 hb, fun x hx => (h.2 x hx).stay (fun _ _ _ _ hc => kept hb hc) fun _ hg => ⟨⟨hg.1.1, Nat.lt_of_lt_of_le hg.1.2 hb.size⟩, hg.2⟩⟩
theorem RR.nil (q : Nat) (W : World) : RR q W (.slice none 0 0) [] := ⟨World.ownsRow_nil _ _ _ _, fun x hx => by simp at hx⟩
/-- one more rung -/
theorem RR.push {q : Nat} {wr W wC : World} {v : Value} {l : List (Rg × Value)} {x : Rg × Value} {g cap : Nat} {o : Obj} (h : RR q wr v l) (hq : q ≤ wr.heap.size) (hb : Below wr.heap.size wr W) (hx : CondV (fun b => wr.heap.size ≤ b) W x.1.ty x.1.us x.2) (ho : wC.ownsRow q 52 3 (.slice (some ⟨g, 0, none⟩) (l.length + 1) cap) (l.length + 1) (fl l ++ rg3 x)) (hg : (W.alloc o).grownBy wC v.ownBlock) (hat : v.ownBlock = some g ∨ g = W.heap.size + 1) :
    RR q wC (.slice (some ⟨g, 0, none⟩) (l.length + 1) cap) (l ++ [x]) := by
  have hvb := ownBlock_new h.1
  have hgs := hg.size
  rw [World.size_alloc] at hgs
  have hbs := hb.size
  have hown : ∀ b, v.ownBlock = some b → b < wr.heap.size := fun b hb' => by
    rcases h.1.2 with ⟨e, _⟩ | ⟨g', cap', cur, e, _, hcur, _⟩
    · rw [e] at hb'; cases hb'
    · rw [e] at hb'
      have : g' = b := Option.some.inj hb'
      rw [← this]
      exact (Array.getElem?_eq_some_iff.1 hcur).1
  refine ⟨?_, fun y hy => ?_⟩
  · rw [List.length_append, fl_append]
    have : fl [x] = rg3 x := by unfold fl; simp
    rw [this]
    exact ho
  · rcases List.mem_append.1 hy with hy | hy
    · refine (h.2 y hy).stay (fun b k u hb' hc => hg.cell (cell_alloc_keep _ _ _ _ (kept hb hc)) hb'.2) fun b hb' => ⟨⟨hb'.1.1, by omega⟩, ?_⟩
      show some b ≠ some g
      intro e
      cases e
      rcases hat with h1 | h1
      · exact hb'.2 h1.symm
      · omega
    · obtain rfl := List.mem_singleton.1 hy
      refine hx.lt.stay (fun b k u hb' hc => hg.cell (cell_alloc_keep _ _ _ _ hc) ?_) fun b hb' => ⟨⟨by omega, by omega⟩, ?_⟩
      · intro e
        have := hown b e.symm
        omega
      · show some b ≠ some g
        intro e
        cases e
        rcases hat with h1 | h1
        · have := hown _ h1
          omega
        · omega
end Ro
end
end Go.Proofs.YtflonjbbolmelaaGreatDoor
