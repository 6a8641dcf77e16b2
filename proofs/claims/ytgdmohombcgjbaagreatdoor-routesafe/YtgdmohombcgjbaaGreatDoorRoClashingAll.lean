/-
  The walks of strconv.Itoa, of small numbers. The walks of package route's named, is, isNot, all, some and free: names with a number behind, and lists of them. The walks of package route's free, clashing and wanting: rows that are appended one by one. The walk of package route's clashing.
-/
import Derived.Test.YtgdmohombcgjbaaGreatDoorRoCheckWAll
namespace Go.Proofs.YtgdmohombcgjbaaGreatDoor
section
namespace Ro
open Go.RowKit
set_option maxHeartbeats 2000000 in
theorem small_any (n : Nat) (hn : n < 4) (w : World) : Calls Tryz.prog 121 #[.int .i64 (n : Int)] w fun e w' => e = .returned (.string ⟨#[UInt8.ofNat (48 + n)]⟩) ∧ w' = w := by
  have h4 : n = 0 ∨ n = 1 ∨ n = 2 ∨ n = 3 := by omega
  rcases h4 with rfl | rfl | rfl | rfl
  all_goals
    go_enter Tryz.func121, Tryz.ntmps121
    go_wp2_with fail
    go_ret
    exact ⟨rfl, rfl⟩
set_option maxHeartbeats 2000000 in
theorem format_any (n : Nat) (hn : n < 4) (w : World) : Calls Tryz.prog 113 #[.int .i64 (n : Int), .int .i64 10] w fun e w' => e = .returned (.string ⟨#[UInt8.ofNat (48 + n)]⟩) ∧ w' = w := by
  have HS := hide (small_any n hn w)
  have h0 : (0 : Int) ≤ (n : Int) := by omega
  have h1 : (n : Int) < 100 := by omega
  generalize UInt8.ofNat (48 + n) = d at *
  go_enter Tryz.func113, Tryz.ntmps113
  go_wp2_with fail
  refine HS.out.mono ?_
  rintro e w1 ⟨rfl, hw⟩
  obtain rfl := hw.symm
  go_wp2_with fail
  go_ret
  exact ⟨rfl, rfl⟩
set_option maxHeartbeats 2000000 in
theorem itoa0_any (n : Nat) (hn : n < 4) (w : World) : Calls Tryz.prog 94 #[.int .i64 (n : Int)] w fun e w' => e = .returned (.string ⟨#[UInt8.ofNat (48 + n)]⟩) ∧ w' = w := by
  have HS := hide (format_any n hn w)
  generalize UInt8.ofNat (48 + n) = d at *
  go_enter Tryz.func94, Tryz.ntmps94
  go_wp2_with fail
  refine HS.out.mono ?_
  rintro e w1 ⟨rfl, hw⟩
  obtain rfl := hw.symm
  go_wp2_with fail
  go_ret
  exact ⟨rfl, rfl⟩
set_option maxHeartbeats 2000000 in
theorem itoa_any (n : Nat) (hn : n < 4) (w : World) : Calls Tryz.prog 69 #[.int .i64 (n : Int)] w fun e w' => e = .returned (.string ⟨#[UInt8.ofNat (48 + n)]⟩) ∧ w' = w := by
  have HS := hide (itoa0_any n hn w)
  generalize UInt8.ofNat (48 + n) = d at *
  go_enter Tryz.func69, Tryz.ntmps69
  go_wp2_with fail
  refine HS.out.mono ?_
  rintro e w1 ⟨rfl, hw⟩
  obtain rfl := hw.symm
  go_wp2_with fail
  go_ret
  exact ⟨rfl, rfl⟩
end Ro
end
section
namespace Ro
open Go.RowKit
theorem Tryz.infoExpr : (Tryz.prog.info? 34).map (fun i => (i.zero, i.size, i.bytes)) = some (some .nilIface, 1, 16) := by kernel_rfl
/-- a letter and a number -/
def nmB (c : UInt8) (i : Nat) : List UInt8 := [c, UInt8.ofNat (48 + i)]
theorem two_bytes (c d : UInt8) : (⟨#[c]⟩ : ByteArray) ++ ⟨#[d]⟩ = ⟨#[c, d]⟩ := by apply ByteArray.ext; simp
def nmV (c : UInt8) (i : Nat) : Value := .string ⟨(nmB c i).toArray⟩
set_option maxHeartbeats 2000000 in
theorem named_any (c : UInt8) (n : Nat) (hn : n < 4) (w : World) : Calls Tryz.prog 36 #[.string ⟨#[c]⟩, .int .i64 (n : Int)] w fun e w' => e = .returned (nmV c n) ∧ w' = w := by
  have HS := hide (itoa_any n hn w)
  have HV : Hid (nmV c n = .string ⟨#[c, UInt8.ofNat (48 + n)]⟩) := rfl
  rw [HV.out]
  generalize UInt8.ofNat (48 + n) = d at *
  clear HV
  go_enter Tryz.func36, Tryz.ntmps36
  go_wp2_with fail
  refine HS.out.mono ?_
  rintro e w1 ⟨rfl, hw⟩
  obtain rfl := hw.symm
  go_wp2_with fail
  go_ret
  exact ⟨by simp [two_bytes], rfl⟩
/-- a name, or not a name -/
structure Lf where
  neg : Bool
  c : UInt8
  i : Nat
def bitV (c : UInt8) (i : Nat) : Value := .iface 102 (nmV c i)
def notV (c : UInt8) (i : Nat) : Value := .iface 59 (.agg #[bitV c i])
def lfV : Lf → Value
  | ⟨false, c, i⟩ => bitV c i
  | ⟨true, c, i⟩ => notV c i
set_option maxHeartbeats 2000000 in
theorem is_any (c : UInt8) (n : Nat) (hn : n < 4) (w : World) : Calls Tryz.prog 17 #[.string ⟨#[c]⟩, .int .i64 (n : Int)] w fun e w' => e = .returned (bitV c n) ∧ w' = w := by
  have HS := hide (named_any c n hn w)
  unfold bitV
  unfold nmV at *
  generalize (nmB c n).toArray = d at *
  go_enter Tryz.func17, Tryz.ntmps17
  go_wp2_with fail
  refine HS.out.mono ?_
  rintro e w1 ⟨rfl, hw⟩
  obtain rfl := hw.symm
  go_wp2_with fail
  go_ret
  exact ⟨rfl, rfl⟩
set_option maxHeartbeats 2000000 in
theorem isNot_any (c : UInt8) (n : Nat) (hn : n < 4) (w : World) : Calls Tryz.prog 34 #[.string ⟨#[c]⟩, .int .i64 (n : Int)] w fun e w' => e = .returned (notV c n) ∧ w' = w := by
  have HS := hide (is_any c n hn w)
  unfold notV
  unfold bitV nmV at *
  generalize (nmB c n).toArray = d at *
  go_enter Tryz.func34, Tryz.ntmps34
  go_wp2_with fail
  refine HS.out.mono ?_
  rintro e w1 ⟨rfl, hw⟩
  obtain rfl := hw.symm
  go_wp2_with fail
  go_ret
  exact ⟨rfl, rfl⟩
/-- a row of interfaces, as a slice -/
def Vs (w : World) (sv : Value) (us : List Value) : Prop := ∃ g c, sv = .slice (some ⟨g, 0, none⟩) us.length c ∧ us.length ≤ c ∧ us.length ≤ 1000 ∧ ∀ (k : Nat) u, us[k]? = some u → w.cell? ⟨g, k, none⟩ = some u ∧ ∃ t x, u = .iface t x
/-- parts put together: one alone is that -/
def allV (sv : Value) : List Value → Value
  | [u] => u
  | _ => .iface 101 sv
def someV (sv : Value) : List Value → Value
  | [u] => u
  | _ => .iface 143 sv
set_option maxHeartbeats 2000000 in
theorem all_any (us : List Value) (sv : Value) (w : World) (h : Vs w sv us) (h0 : us ≠ []) : Calls Tryz.prog 16 #[sv] w fun e w' => e = .returned (allV sv us) ∧ w' = w := by
  obtain ⟨g, c, rfl, hc, hl, hx⟩ := h
  match us, h0, hx, hl with
  | [u], _, hx, _ =>
    obtain ⟨c0, t, x, rfl⟩ := hx 0 u rfl
    show Calls Tryz.prog 16 #[.slice (some ⟨g, 0, none⟩) 1 c] w fun e w' => e = .returned (.iface t x) ∧ w' = w
    clear hx
    go_enter Tryz.func16, Tryz.ntmps16
    go_wp2_with fail
    go_ret
    exact ⟨rfl, rfl⟩
  | u :: v :: r, _, _, hl =>
    obtain ⟨n, hn⟩ : ∃ n, n = (u :: v :: r).length := ⟨_, rfl⟩
    have h2 : 2 ≤ n := by rw [hn]; simp
    have e : allV (.slice (some ⟨g, 0, none⟩) (u :: v :: r).length c) (u :: v :: r) = .iface 101 (.slice (some ⟨g, 0, none⟩) (u :: v :: r).length c) := rfl
    rw [e]
    rw [← hn] at hl ⊢
    have h0b : ((n : Int) == 0) = false := by simp; omega
    have h1b : ((n : Int) == 1) = false := by simp; omega
    clear hn hx e hc
    go_enter Tryz.func16, Tryz.ntmps16
    go_wp2_with fail
    go_ret
    exact ⟨rfl, rfl⟩
set_option maxHeartbeats 2000000 in
theorem some_any (us : List Value) (sv : Value) (w : World) (h : Vs w sv us) (h0 : us ≠ []) : Calls Tryz.prog 38 #[sv] w fun e w' => e = .returned (someV sv us) ∧ w' = w := by
  obtain ⟨g, c, rfl, hc, hl, hx⟩ := h
  match us, h0, hx, hl with
  | [u], _, hx, _ =>
    obtain ⟨c0, t, x, rfl⟩ := hx 0 u rfl
    show Calls Tryz.prog 38 #[.slice (some ⟨g, 0, none⟩) 1 c] w fun e w' => e = .returned (.iface t x) ∧ w' = w
    clear hx
    go_enter Tryz.func38, Tryz.ntmps38
    go_wp2_with fail
    go_ret
    exact ⟨rfl, rfl⟩
  | u :: v :: r, _, _, hl =>
    obtain ⟨n, hn⟩ : ∃ n, n = (u :: v :: r).length := ⟨_, rfl⟩
    have h2 : 2 ≤ n := by rw [hn]; simp
    have e : someV (.slice (some ⟨g, 0, none⟩) (u :: v :: r).length c) (u :: v :: r) = .iface 143 (.slice (some ⟨g, 0, none⟩) (u :: v :: r).length c) := rfl
    rw [e]
    rw [← hn] at hl ⊢
    have h1b : ((n : Int) == 1) = false := by simp; omega
    clear hn hx e hc
    go_enter Tryz.func38, Tryz.ntmps38
    go_wp2_with fail
    go_ret
    exact ⟨rfl, rfl⟩
end Ro
end
section
namespace Ro
open Go.RowKit
theorem ownBlock_new {W : World} {q : Nat} {e : TypeId} {s : Nat} {v : Value} {n : Nat} {xs : List Value} (h : W.ownsRow q e s v n xs) : v.ownBlock = none ∨ ∃ g, v.ownBlock = some g ∧ q ≤ g := by
  rcases h.2 with ⟨h1, _⟩ | ⟨g, cap, cur, h1, h2, _⟩
  · exact .inl (by rw [h1]; rfl)
  · exact .inr ⟨g, by rw [h1]; rfl, h2⟩
theorem below_grown {w W W' : World} {v : Value} (hb : Below w.heap.size w W) (hg : W.grownBy W' v.ownBlock) (hv : v.ownBlock = none ∨ ∃ g, v.ownBlock = some g ∧ w.heap.size ≤ g) : Below w.heap.size w W' := by
  refine ⟨hg.os.trans hb.os, hg.tape.trans hb.tape, hg.output.trans hb.output, Nat.le_trans hb.size hg.size, fun k hk => ?_⟩
  refine (hg.block k (Nat.lt_of_lt_of_le hk hb.size) ?_).trans (hb.block k hk)
  rcases hv with h | ⟨g, h, hgl⟩
  · rw [h]; intro e; cases e
  · rw [h]; intro e; cases e; omega
def freeVs (r : Rt) : List Value := r.secs.map fun s => notV 98 s.toNat
theorem notV_iface (c : UInt8) (i : Nat) : ∃ x, notV c i = .iface 59 x := ⟨_, rfl⟩
theorem bitV_iface (c : UInt8) (i : Nat) : ∃ x, bitV c i = .iface 102 x := ⟨_, rfl⟩
theorem map_take_succ {α : Type} (f : α → Value) (l : List α) (k : Nat) (h : k < l.length) : (l.map f).take (k + 1) = (l.map f).take k ++ [f l[k]] := by
  rw [List.take_succ_eq_append_getElem (by simpa using h)]
  simp
set_option maxHeartbeats 4000000 in
set_option maxRecDepth 100000 in
theorem free_any (r : Rt) (sv pv : Value) (w : World) (hs : Ints w sv r.secs) (hp : Pts w pv r.pts) (h4 : ∀ s, s ∈ r.secs → 0 ≤ s ∧ s < 4) (hl : r.secs.length ≤ 100) :
    Calls Tryz.prog 35 #[.agg #[sv, pv]] w fun e w' => ∃ v, e = .returned v ∧ w'.ownsRow w.heap.size 34 1 v r.secs.length (freeVs r) ∧ Below w.heap.size w w' := by
  obtain ⟨i0, hi0, hz0, hz1, hz2⟩ := info_parts Tryz.infoExpr
  obtain ⟨sa, sc, rfl⟩ := hs.slice
  obtain ⟨pa, pc, rfl⟩ := hp.slice
  obtain ⟨n, hn⟩ : ∃ n, n = r.secs.length := ⟨_, rfl⟩
  have HN := hide hn
  have HS := hide hs
  rw [← hn] at hl HS ⊢
  obtain ⟨wA, hwA⟩ : ∃ wA, wA = w.alloc (.cells #[.slice sa n sc, .slice pa r.pts.length pc] 54) := ⟨_, rfl⟩
  have HBA : Hid (Below w.heap.size w wA) := by rw [hwA]; exact newB _ _
  have HW := hide hwA
  have H4 := hide h4
  have HFL : Hid ((freeVs r).length = n) := by show _ = _; rw [hn]; unfold freeVs; simp
  clear hwA hs hp hn h4
  go_enter Tryz.func35, Tryz.ntmps35
  go_wp2_with fail
  rw [← HW.out]
  clear HW
  go_loopw [9, 3] (fun iv s wr => ∃ (k : Nat) (a : Option Addr) (c : Nat), k ≤ n ∧ iv = .int .i64 (k : Int) ∧ s = .slice a k c ∧ Hid (wr.ownsRow w.heap.size 34 1 (.slice a k c) k ((freeVs r).take k)) ∧ Hid (Below w.heap.size w wr)) (fun iv _ _ => n - (intOf iv).toNat)
  case atStart => exact ⟨0, none, 0, Nat.zero_le _, rfl, rfl, World.ownsRow_nil _ _ _ _, HBA.out⟩
  case round =>
    obtain ⟨k, a, c, hk, rfl, rfl, HO, HB⟩ := hrel
    by_cases hlt : k < n
    · have hkl : k < r.secs.length := by rw [← HN.out]; exact hlt
      obtain ⟨g, o, rfl, c0, hi⟩ := (HS.out.below HB.out).cell k _ (List.getElem?_eq_getElem hkl)
      obtain ⟨hx0, hx4⟩ := H4.out r.secs[k] (List.getElem_mem hkl)
      obtain ⟨x, hx⟩ : ∃ x : Nat, r.secs[k] = (x : Int) := ⟨r.secs[k].toNat, by omega⟩
      have HTK : Hid ((freeVs r).take (k + 1) = (freeVs r).take k ++ [notV 98 x]) := by
        show _ = _
        unfold freeVs
        rw [map_take_succ _ _ _ hkl, hx]
        rfl
      have HC := hide (isNot_any 98 x (by omega) wr)
      rw [hx] at c0
      obtain ⟨nx, hnx⟩ := notV_iface 98 x
      rw [hnx] at HTK HC
      have HOWN : Hid (∀ o, (wr.alloc o).ownsRow w.heap.size 34 1 (.slice a k c) k ((freeVs r).take k)) := fun o => own_below HO.out (newB _ _)
      have HONE : Hid (∀ u ∈ [Value.iface 59 nx], u.oneCell' = true) := fun u hu => by obtain rfl := List.mem_singleton.1 hu; rfl
      have HBN : Hid (∀ (o : Obj) (wC : World), (wr.alloc o).grownBy wC (Value.slice a k c).ownBlock → Below w.heap.size w wC) := fun o wC hg => below_grown (then_ HB.out (newB _ _)) hg (ownBlock_new HO.out)
      have hle : w.heap.size ≤ wr.heap.size := HB.out.size
      clear hx0 hx4 hi hx hnx
      go_wp2_with (first
        | (at_builtin; refine wpList_append_lies _ rfl (.tmp 13) (.tmp 16) 51 rfl w.heap.size 34 i0 _ 1 16 Tryz.underlying51 hi0 hz0 hz1 hz2 rfl (by decide) (.slice a k c) k ((freeVs r).take k) rfl (HOWN.out _) ⟨wr.heap.size, 0, none⟩ 1 1 [.iface 59 nx] rfl rfl (World.news_of_block (heap_alloc_new wr _)) HONE.out (by decide) (by unfold maxLen; omega) (by omega) (by simp; omega) (wr.heap.size + 1) (by simp) ?_; intro g2 cap2 wC hown hgrow hat hltg; have HOC := hide hown; have HBC := hide (HBN.out _ wC hgrow); clear hown hgrow hat)
        | (go_at_call 34; refine HC.out.mono ?_; rintro e w1 ⟨rfl, hw⟩; obtain rfl := hw.symm))
      go_roundw
      case rel => exact ⟨k + 1, some ⟨g2, 0, none⟩, cap2, by omega, by go_num, rfl, by rw [HTK.out]; exact HOC.out, HBC.out⟩
      case measure => simp [intOf]; omega
    · have hkn : k = n := by omega
      have HR : Hid (wr.ownsRow w.heap.size 34 1 (.slice a k c) n (freeVs r)) := by
        have h := HO.out
        rw [List.take_of_length_le (by rw [HFL.out]; omega)] at h
        rw [← hkn]
        exact h
      subst hkn
      go_wp2_with fail
      go_ret
      exact ⟨_, rfl, HR.out, HB.out⟩
end Ro
end
section
namespace Ro
open Go.RowKit
theorem drewN_b (w : World) (n : Nat) : Below w.heap.size w (w.drewN n) := ⟨rfl, rfl, rfl, Nat.le_refl _, fun _ _ => rfl⟩
def natV (i : Nat) : Value := .int .i64 (i : Int)
def SmallR (t : Tbl) : Prop := t.rts.length ≤ 3 ∧ ∀ r, r ∈ t.rts → r.secs.length ≤ 100 ∧ r.pts.length ≤ 100
set_option maxHeartbeats 4000000 in
set_option maxRecDepth 100000 in
theorem clashing_any (t : Tbl) (rv : Value) (i : Nat) (w : World) (hr : Rts w rv t.rts) (hi : i < t.rts.length) (hsm : SmallR t) :
    Calls Tryz.prog 15 #[.agg #[.int .i64 t.secs, .int .i64 t.pts, rv], .int .i64 (i : Int)] w fun e w' => ∃ v, e = .returned v ∧ w'.ownsRow w.heap.size 3 1 v (clashing t i).length ((clashing t i).map natV) ∧ Below w.heap.size w w' := by
  obtain ⟨i0, hi0, hz0, hz1, hz2⟩ := info_parts Tryz.infoInt
  obtain ⟨ra, rc, rfl⟩ := hr.slice
  obtain ⟨n, hn⟩ : ∃ n, n = t.rts.length := ⟨_, rfl⟩
  obtain ⟨wA, hwA⟩ : ∃ wA, wA = w.alloc (.cells #[.int .i64 t.secs, .int .i64 t.pts, .slice ra n rc] 24) := ⟨_, rfl⟩
  have hbA : Below w.heap.size w wA := by rw [hwA]; exact newB _ _
  have rT : RowIs wA w.heap.size 24 [.int .i64 t.secs, .int .i64 t.pts, .slice ra n rc] := by rw [hwA]; exact RowIs.new _ _ _
  have HR := hide hr
  have HN := hide hn
  have hn3 : n ≤ 3 := by rw [hn]; exact hsm.1
  rw [← hn] at hi HR ⊢
  have HSM : Hid (∀ j, j < n → (rt t j).secs.length ≤ 1000 ∧ (rt t j).pts.length ≤ 1000) := fun j hj => by
    have h := hsm.2 (rt t j) (List.mem_of_getElem? (rt_at t j (by rw [← hn]; exact hj)))
    omega
  have x2 := rT.cell 2 _ rfl
  have HB0 := hide hbA
  have HW := hide hwA
  have HX2 : Hid (∀ W, Below wA.heap.size wA W → W.cell? ⟨w.heap.size, 2, none⟩ = some (.slice ra n rc)) := fun W hW => kept hW x2
  have hwl : w.heap.size < wA.heap.size := rT.lt
  clear hwA hbA rT hr hn hsm
  go_enter Tryz.func15, Tryz.ntmps15
  go_wp2_with fail
  rw [← HW.out]
  clear HW x2
  go_loopw [11, 5] (fun iv s wr => ∃ (k m : Nat) (a : Option Addr) (c : Nat), k ≤ n ∧ iv = .int .i64 (k : Int) ∧ s = .slice a m c ∧ Hid (m = (clashTo t i k).length) ∧ m ≤ k ∧ Hid (wr.ownsRow wA.heap.size 3 1 (.slice a m c) m ((clashTo t i k).map natV)) ∧ Hid (Below wA.heap.size wA wr)) (fun iv _ _ => n - (intOf iv).toNat)
  case atStart => exact ⟨0, 0, none, 0, Nat.zero_le _, rfl, rfl, rfl, Nat.le_refl _, World.ownsRow_nil _ _ _ _, Below.refl _ _⟩
  case round =>
    obtain ⟨k, m, a, c, hk, rfl, rfl, HM, hmk, HO, HB⟩ := hrel
    by_cases hlt : k < n
    · have hkl : k < t.rts.length := by rw [← HN.out]; exact hlt
      have hil : i < t.rts.length := by rw [← HN.out]; exact hi
      have HRW := hide ((HR.out.below HB0.out).below HB.out)
      obtain ⟨g, o, sa, sc, pa, pc, rfl, c0, c1, hIs, hPs, _⟩ := HRW.out.cell k _ (rt_at t k hkl)
      obtain ⟨g', o', sa', sc', pa', pc', hgo, d0, d1, hIs', hPs', _⟩ := HRW.out.cell i _ (rt_at t i hil)
      simp only [Option.some.injEq, Addr.mk.injEq, and_true] at hgo
      obtain ⟨rfl, rfl⟩ := hgo
      have hki : (k : Int) < (n : Int) := by omega
      have hii : (i : Int) < (n : Int) := by omega
      obtain ⟨wL, hwL⟩ : ∃ wL, wL = wr.alloc (.cells #[.slice sa (rt t k).secs.length sc, .slice pa (rt t k).pts.length pc] 54) := ⟨_, rfl⟩
      have hbL : Below wr.heap.size wr wL := by rw [hwL]; exact newB _ _
      have rL : RowIs wL wr.heap.size 54 [.slice sa (rt t k).secs.length sc, .slice pa (rt t k).pts.length pc] := by rw [hwL]; exact RowIs.new _ _ _
      have HBL : Hid (Below wA.heap.size wA wL) := then_ HB.out hbL
      have HOL := hide (own_below HO.out hbL)
      have HCL := hide (fun W (hW : Below wL.heap.size wL W) => Clash_any (rt t i) (rt t k) _ _ _ _ W ((hIs'.below hbL).below hW) ((hPs'.below hbL).below hW) ((hIs.below hbL).below hW) ((hPs.below hbL).below hW) (HSM.out i hi).1 (HSM.out i hi).2)
      have HSU := hide (clashTo_succ t i k)
      have y2 := HX2.out wL HBL.out
      have e0 := kept hbL d0
      have e1 := kept hbL d1
      have f0 := rL.cell 0 _ rfl
      have f1 := rL.cell 1 _ rfl
      have HWL := hide hwL
      have hwr : w.heap.size < wr.heap.size := Nat.lt_of_lt_of_le hwl HB.out.size
      have hgl : g < wr.heap.size := World.block_lt_of_cell? _ _ c0
      clear hIs hPs hIs' hPs' hbL hwL rL
      generalize clash (rt t i) (rt t k) = q at *
      generalize (rt t k).secs.length = n1 at *
      generalize (rt t k).pts.length = n2 at *
      generalize (rt t i).secs.length = n3 at *
      generalize (rt t i).pts.length = n4 at *
      by_cases hik : k = i
      · have HT : Hid (clashTo t i (k + 1) = clashTo t i k) := by show _ = _; rw [HSU.out]; simp [hik]
        have hikb : ((k : Int) != (i : Int)) = false := by simp [hik]
        clear HSU hik
        go_wp2_with fail
        rw [← HWL.out]
        go_quiet (fail)
        go_wp2_with fail
        go_roundw
        case rel => exact ⟨k + 1, m, a, c, by omega, by go_num, rfl, by rw [HT.out]; exact HM.out, by omega, by rw [HT.out]; exact own_below HOL.out (drewN_b wL nq), then_ HBL.out (drewN_b wL nq)⟩
        case measure => simp [intOf]; omega
      · have hikb : ((k : Int) != (i : Int)) = true := by simp; omega
        have HSU2 : Hid (clashTo t i (k + 1) = clashTo t i k ++ (if q = true then [k] else [])) := by show _ = _; rw [HSU.out, decide_eq_true hik, Bool.true_and]
        have hdk : Below wL.heap.size wL wL.drew := drewB wL
        have HD := hide hdk
        have HK5 : Hid (∀ W, Below wL.heap.size wL W → W.cell? ⟨w.heap.size, 2, none⟩ = some (.slice (some ⟨g, o, none⟩) n rc) ∧ W.cell? ⟨g, o + i * 2, none⟩ = some (.slice sa' n3 sc') ∧ W.cell? ⟨g, o + i * 2 + 1, none⟩ = some (.slice pa' n4 pc') ∧ W.cell? ⟨wr.heap.size, 0, none⟩ = some (.slice sa n1 sc) ∧ W.cell? ⟨wr.heap.size, 1, none⟩ = some (.slice pa n2 pc)) := fun W hW => ⟨kept hW y2, kept hW e0, kept hW e1, kept hW f0, kept hW f1⟩
        clear HSU hdk hik
        go_wp2_with fail
        rw [← HWL.out]
        go_region_held3 (fun W => W.cell? ⟨w.heap.size, 2, none⟩ = some (.slice (some ⟨g, o, none⟩) n rc) ∧ W.cell? ⟨g, o + i * 2, none⟩ = some (.slice sa' n3 sc') ∧ W.cell? ⟨g, o + i * 2 + 1, none⟩ = some (.slice pa' n4 pc') ∧ W.cell? ⟨wr.heap.size, 0, none⟩ = some (.slice sa n1 sc) ∧ W.cell? ⟨wr.heap.size, 1, none⟩ = some (.slice pa n2 pc)) ((refine HK5.out _ ?_; first | exact HD.out | exact HB2.out | exact Below.refl _ _)) ((go_at_call 20; (with_reducible refine (HCL.out _ HD.out).mono ?_); rintro e w2 ⟨rfl, hb2⟩; have HB2 : Hid (Below wL.heap.size wL w2) := then_ HD.out hb2; clear hb2))
        have HB3 := hide (then_ HBL.out HB2.out)
        have HO3 := hide (own_below HOL.out HB2.out)
        cases q with
        | false =>
          have HT : Hid (clashTo t i (k + 1) = clashTo t i k) := by show _ = _; have h := HSU2.out; simpa using h
          clear HSU2
          go_wp2_with fail
          go_roundw
          case rel => exact ⟨k + 1, m, a, c, by omega, by go_num, rfl, by rw [HT.out]; exact HM.out, by omega, by rw [HT.out]; exact HO3.out, HB3.out⟩
          case measure => simp [intOf]; omega
        | true =>
          have HT : Hid (clashTo t i (k + 1) = clashTo t i k ++ [k]) := by show _ = _; have h := HSU2.out; simpa using h
          have HTL : Hid (m + 1 = (clashTo t i (k + 1)).length) := by show _ = _; rw [HT.out, List.length_append, HM.out]; rfl
          have HTM : Hid ((clashTo t i (k + 1)).map natV = (clashTo t i k).map natV ++ [.int .i64 (k : Int)]) := by show _ = _; rw [HT.out, List.map_append]; rfl
          have HOWN : Hid (∀ o, (w2.alloc o).ownsRow wA.heap.size 3 1 (.slice a m c) m ((clashTo t i k).map natV)) := fun o => own_below HO3.out (newB _ _)
          have HONE : Hid (∀ u ∈ [Value.int .i64 (k : Int)], u.oneCell' = true) := fun u hu => by obtain rfl := List.mem_singleton.1 hu; rfl
          have HBN : Hid (∀ (o : Obj) (wC : World), (w2.alloc o).grownBy wC (Value.slice a m c).ownBlock → Below wA.heap.size wA wC) := fun o wC hg => below_grown (then_ HB3.out (newB _ _)) hg (ownBlock_new HO3.out)
          have hle : wA.heap.size ≤ w2.heap.size := HB3.out.size
          clear HSU2
          go_wp2_with (at_builtin; refine wpList_append_lies _ rfl (.tmp 28) (.tmp 30) 41 rfl wA.heap.size 3 i0 _ 1 8 Tryz.underlying41 hi0 hz0 hz1 hz2 rfl (by decide) (.slice a m c) m ((clashTo t i k).map natV) rfl (HOWN.out _) ⟨w2.heap.size, 0, none⟩ 1 1 [.int .i64 (k : Int)] rfl rfl (World.news_of_block (heap_alloc_new w2 _)) HONE.out (by decide) (by unfold maxLen; omega) (by omega) (by simp; omega) (w2.heap.size + 1) (by simp) ?_; intro g2 cap2 wC hown hgrow hat hltg; have HOC := hide hown; have HBC := hide (HBN.out _ wC hgrow); clear hown hgrow hat)
          go_roundw
          case rel => exact ⟨k + 1, m + 1, some ⟨g2, 0, none⟩, cap2, by omega, by go_num, rfl, HTL.out, by omega, by rw [HTM.out]; exact HOC.out, HBC.out⟩
          case measure => simp [intOf]; omega
    · have hkn : k = n := by omega
      have HRS : Hid (wr.ownsRow w.heap.size 3 1 (.slice a m c) (clashing t i).length ((clashing t i).map natV)) := by
        have h := own_mono HO.out HB0.out.size
        unfold clashing
        rw [← HN.out, ← hkn, ← HM.out]
        exact h
      have HBX := hide (then_ HB0.out HB.out)
      subst hkn
      go_wp2_with fail
      go_ret
      exact ⟨_, rfl, HRS.out, HBX.out⟩
end Ro
end
end Go.Proofs.YtgdmohombcgjbaaGreatDoor
