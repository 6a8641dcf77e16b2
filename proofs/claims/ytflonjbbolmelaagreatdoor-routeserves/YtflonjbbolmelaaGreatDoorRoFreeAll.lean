/-
  The walks of strconv.Itoa, of small numbers. The walks of package route's named, is, isNot, all, some and free: names with a number behind, and lists of them. The walks of package route's free, clashing and wanting: rows that are appended one by one.
-/
import Derived.Test.YtflonjbbolmelaaGreatDoorRoCheckWAll
namespace Go.Proofs.YtflonjbbolmelaaGreatDoor
section
namespace Ro
open Go.RowKit
set_option maxHeartbeats 2000000 in
theorem small_any (n : Nat) (hn : n < 4) (w : World) : Calls Tryz.prog 87 #[.int .i64 (n : Int)] w fun e w' => e = .returned (.string ⟨#[UInt8.ofNat (48 + n)]⟩) ∧ w' = w := by
  have h4 : n = 0 ∨ n = 1 ∨ n = 2 ∨ n = 3 := by omega
  rcases h4 with rfl | rfl | rfl | rfl
  all_goals
    go_enter Tryz.func87, Tryz.ntmps87
    go_wp2_with fail
    go_ret
    exact ⟨rfl, rfl⟩
set_option maxHeartbeats 2000000 in
theorem format_any (n : Nat) (hn : n < 4) (w : World) : Calls Tryz.prog 83 #[.int .i64 (n : Int), .int .i64 10] w fun e w' => e = .returned (.string ⟨#[UInt8.ofNat (48 + n)]⟩) ∧ w' = w := by
  have HS := hide (small_any n hn w)
  have h0 : (0 : Int) ≤ (n : Int) := by omega
  have h1 : (n : Int) < 100 := by omega
  generalize UInt8.ofNat (48 + n) = d at *
  go_enter Tryz.func83, Tryz.ntmps83
  go_wp2_with fail
  refine HS.out.mono ?_
  rintro e w1 ⟨rfl, hw⟩
  obtain rfl := hw.symm
  go_wp2_with fail
  go_ret
  exact ⟨rfl, rfl⟩
set_option maxHeartbeats 2000000 in
theorem itoa0_any (n : Nat) (hn : n < 4) (w : World) : Calls Tryz.prog 70 #[.int .i64 (n : Int)] w fun e w' => e = .returned (.string ⟨#[UInt8.ofNat (48 + n)]⟩) ∧ w' = w := by
  have HS := hide (format_any n hn w)
  generalize UInt8.ofNat (48 + n) = d at *
  go_enter Tryz.func70, Tryz.ntmps70
  go_wp2_with fail
  refine HS.out.mono ?_
  rintro e w1 ⟨rfl, hw⟩
  obtain rfl := hw.symm
  go_wp2_with fail
  go_ret
  exact ⟨rfl, rfl⟩
set_option maxHeartbeats 2000000 in
theorem itoa_any (n : Nat) (hn : n < 4) (w : World) : Calls Tryz.prog 51 #[.int .i64 (n : Int)] w fun e w' => e = .returned (.string ⟨#[UInt8.ofNat (48 + n)]⟩) ∧ w' = w := by
  have HS := hide (itoa0_any n hn w)
  generalize UInt8.ofNat (48 + n) = d at *
  go_enter Tryz.func51, Tryz.ntmps51
  go_wp2_with fail
  refine HS.out.mono ?_
  rintro e w1 ⟨rfl, hw⟩
  obtain rfl := hw.symm
  go_wp2_with fail
  go_ret
  exact ⟨rfl, rfl⟩
end Ro
end
section
namespace Ro
open Go.RowKit
theorem Tryz.infoExpr : (Tryz.prog.info? 50).map (fun i => (i.zero, i.size, i.bytes)) = some (some .nilIface, 1, 16) := by kernel_rfl
/-- a letter and a number -/
def nmB (c : UInt8) (i : Nat) : List UInt8 := [c, UInt8.ofNat (48 + i)]
theorem two_bytes (c d : UInt8) : (⟨#[c]⟩ : ByteArray) ++ ⟨#[d]⟩ = ⟨#[c, d]⟩ := by apply ByteArray.ext; simp
def nmV (c : UInt8) (i : Nat) : Value := .string ⟨(nmB c i).toArray⟩
set_option maxHeartbeats 2000000 in
theorem named_any (c : UInt8) (n : Nat) (hn : n < 4) (w : World) : Calls Tryz.prog 30 #[.string ⟨#[c]⟩, .int .i64 (n : Int)] w fun e w' => e = .returned (nmV c n) ∧ w' = w := by
  have HS := hide (itoa_any n hn w)
  have HV : Hid (nmV c n = .string ⟨#[c, UInt8.ofNat (48 + n)]⟩) := rfl
  rw [HV.out]
  generalize UInt8.ofNat (48 + n) = d at *
  clear HV
  go_enter Tryz.func30, Tryz.ntmps30
  go_wp2_with fail
  refine HS.out.mono ?_
  rintro e w1 ⟨rfl, hw⟩
  obtain rfl := hw.symm
  go_wp2_with fail
  go_ret
  exact ⟨by simp [two_bytes], rfl⟩
/-- a name, or not a name -/
structure Lf where
  neg : Bool
  c : UInt8
  i : Nat
def bitV (c : UInt8) (i : Nat) : Value := .iface 107 (nmV c i)
def notV (c : UInt8) (i : Nat) : Value := .iface 103 (.agg #[bitV c i])
def lfV : Lf → Value
  | ⟨false, c, i⟩ => bitV c i
  | ⟨true, c, i⟩ => notV c i
set_option maxHeartbeats 2000000 in
theorem is_any (c : UInt8) (n : Nat) (hn : n < 4) (w : World) : Calls Tryz.prog 32 #[.string ⟨#[c]⟩, .int .i64 (n : Int)] w fun e w' => e = .returned (bitV c n) ∧ w' = w := by
  have HS := hide (named_any c n hn w)
  unfold bitV
  unfold nmV at *
  generalize (nmB c n).toArray = d at *
  go_enter Tryz.func32, Tryz.ntmps32
  go_wp2_with fail
  refine HS.out.mono ?_
  rintro e w1 ⟨rfl, hw⟩
  obtain rfl := hw.symm
  go_wp2_with fail
  go_ret
  exact ⟨rfl, rfl⟩
set_option maxHeartbeats 2000000 in
theorem isNot_any (c : UInt8) (n : Nat) (hn : n < 4) (w : World) : Calls Tryz.prog 28 #[.string ⟨#[c]⟩, .int .i64 (n : Int)] w fun e w' => e = .returned (notV c n) ∧ w' = w := by
  have HS := hide (is_any c n hn w)
  unfold notV
  unfold bitV nmV at *
  generalize (nmB c n).toArray = d at *
  go_enter Tryz.func28, Tryz.ntmps28
  go_wp2_with fail
  refine HS.out.mono ?_
  rintro e w1 ⟨rfl, hw⟩
  obtain rfl := hw.symm
  go_wp2_with fail
  go_ret
  exact ⟨rfl, rfl⟩
/-- a row of interfaces, as a slice -/
def Vs (w : World) (sv : Value) (us : List Value) : Prop := ∃ g c, sv = .slice (some ⟨g, 0, none⟩) us.length c ∧ us.length ≤ c ∧ us.length ≤ 1000 ∧ ∀ (k : Nat) u, us[k]? = some u → w.cell? ⟨g, k, none⟩ = some u ∧ ∃ t x, u = .iface t x
/-- parts put together: one alone is that -/
def allV (sv : Value) : List Value → Value
  | [u] => u
  | _ => .iface 106 sv
def someV (sv : Value) : List Value → Value
  | [u] => u
  | _ => .iface 108 sv
set_option maxHeartbeats 2000000 in
theorem all_any (us : List Value) (sv : Value) (w : World) (h : Vs w sv us) (h0 : us ≠ []) : Calls Tryz.prog 31 #[sv] w fun e w' => e = .returned (allV sv us) ∧ w' = w := by
  obtain ⟨g, c, rfl, hc, hl, hx⟩ := h
  match us, h0, hx, hl with
  | [u], _, hx, _ =>
    obtain ⟨c0, t, x, rfl⟩ := hx 0 u rfl
    show Calls Tryz.prog 31 #[.slice (some ⟨g, 0, none⟩) 1 c] w fun e w' => e = .returned (.iface t x) ∧ w' = w
    clear hx
    go_enter Tryz.func31, Tryz.ntmps31
    go_wp2_with fail
    go_ret
    exact ⟨rfl, rfl⟩
  | u :: v :: r, _, _, hl =>
    obtain ⟨n, hn⟩ : ∃ n, n = (u :: v :: r).length := ⟨_, rfl⟩
    have h2 : 2 ≤ n := by rw [hn]; simp
    have e : allV (.slice (some ⟨g, 0, none⟩) (u :: v :: r).length c) (u :: v :: r) = .iface 106 (.slice (some ⟨g, 0, none⟩) (u :: v :: r).length c) := rfl
    rw [e]
    rw [← hn] at hl ⊢
    have h0b : ((n : Int) == 0) = false := by simp; omega
    have h1b : ((n : Int) == 1) = false := by simp; omega
    clear hn hx e hc
    go_enter Tryz.func31, Tryz.ntmps31
    go_wp2_with fail
    go_ret
    exact ⟨rfl, rfl⟩
set_option maxHeartbeats 2000000 in
theorem some_any (us : List Value) (sv : Value) (w : World) (h : Vs w sv us) (h0 : us ≠ []) : Calls Tryz.prog 35 #[sv] w fun e w' => e = .returned (someV sv us) ∧ w' = w := by
  obtain ⟨g, c, rfl, hc, hl, hx⟩ := h
  match us, h0, hx, hl with
  | [u], _, hx, _ =>
    obtain ⟨c0, t, x, rfl⟩ := hx 0 u rfl
    show Calls Tryz.prog 35 #[.slice (some ⟨g, 0, none⟩) 1 c] w fun e w' => e = .returned (.iface t x) ∧ w' = w
    clear hx
    go_enter Tryz.func35, Tryz.ntmps35
    go_wp2_with fail
    go_ret
    exact ⟨rfl, rfl⟩
  | u :: v :: r, _, _, hl =>
    obtain ⟨n, hn⟩ : ∃ n, n = (u :: v :: r).length := ⟨_, rfl⟩
    have h2 : 2 ≤ n := by rw [hn]; simp
    have e : someV (.slice (some ⟨g, 0, none⟩) (u :: v :: r).length c) (u :: v :: r) = .iface 108 (.slice (some ⟨g, 0, none⟩) (u :: v :: r).length c) := rfl
    rw [e]
    rw [← hn] at hl ⊢
    have h1b : ((n : Int) == 1) = false := by simp; omega
    clear hn hx e hc
    go_enter Tryz.func35, Tryz.ntmps35
    go_wp2_with fail
    go_ret
    exact ⟨rfl, rfl⟩
end Ro
end
section
namespace Ro
open Go.RowKit
theorem ownBlock_new {W : World} {q : Nat} {e : TypeId} {s : Nat} {v : Value} {n : Nat} {xs : List Value} (h : W.ownsRow q e s v n xs) : v.ownBlock = none ∨ ∃ g, v.ownBlock = some g ∧ q ≤ g := by
  rcases h.2 with ⟨h1, _⟩ | ⟨g, cap, cur, h1, h2, _⟩
  · exact .inl (by rw [h1]; rfl)
  · exact .inr ⟨g, by rw [h1]; rfl, h2⟩
theorem below_grown {w W W' : World} {v : Value} (hb : Below w.heap.size w W) (hg : W.grownBy W' v.ownBlock) (hv : v.ownBlock = none ∨ ∃ g, v.ownBlock = some g ∧ w.heap.size ≤ g) : Below w.heap.size w W' := by
  refine ⟨hg.os.trans hb.os, hg.tape.trans hb.tape, hg.output.trans hb.output, Nat.le_trans hb.size hg.size, fun k hk => ?_⟩
  refine (hg.block k (Nat.lt_of_lt_of_le hk hb.size) ?_).trans (hb.block k hk)
  rcases hv with h | ⟨g, h, hgl⟩
  · rw [h]; intro e; cases e
  · rw [h]; intro e; cases e; omega
def freeVs (r : Rt) : List Value := r.secs.map fun s => notV 98 s.toNat
theorem notV_iface (c : UInt8) (i : Nat) : ∃ x, notV c i = .iface 103 x := ⟨_, rfl⟩
theorem bitV_iface (c : UInt8) (i : Nat) : ∃ x, bitV c i = .iface 107 x := ⟨_, rfl⟩
theorem map_take_succ {α : Type} (f : α → Value) (l : List α) (k : Nat) (h : k < l.length) : (l.map f).take (k + 1) = (l.map f).take k ++ [f l[k]] := by
  rw [List.take_succ_eq_append_getElem (by simpa using h)]
  simp
set_option maxHeartbeats 4000000 in
set_option maxRecDepth 100000 in
theorem free_any (r : Rt) (sv pv : Value) (w : World) (hs : Ints w sv r.secs) (hp : Pts w pv r.pts) (h4 : ∀ s, s ∈ r.secs → 0 ≤ s ∧ s < 4) (hl : r.secs.length ≤ 100) :
    Calls Tryz.prog 29 #[.agg #[sv, pv]] w fun e w' => ∃ v, e = .returned v ∧ w'.ownsRow w.heap.size 50 1 v r.secs.length (freeVs r) ∧ Below w.heap.size w w' := by
  obtain ⟨i0, hi0, hz0, hz1, hz2⟩ := info_parts Tryz.infoExpr
  obtain ⟨sa, sc, rfl⟩ := hs.slice
  obtain ⟨pa, pc, rfl⟩ := hp.slice
  obtain ⟨n, hn⟩ : ∃ n, n = r.secs.length := ⟨_, rfl⟩
  have HN := hide hn
  have HS := hide hs
  rw [← hn] at hl HS ⊢
  obtain ⟨wA, hwA⟩ : ∃ wA, wA = w.alloc (.cells #[.slice sa n sc, .slice pa r.pts.length pc] 57) := ⟨_, rfl⟩
  have HBA : Hid (Below w.heap.size w wA) := by rw [hwA]; exact newB _ _
  have HW := hide hwA
  have H4 := hide h4
  have HFL : Hid ((freeVs r).length = n) := by show _ = _; rw [hn]; unfold freeVs; simp
  clear hwA hs hp hn h4
  go_enter Tryz.func29, Tryz.ntmps29
  go_wp2_with fail
  rw [← HW.out]
  clear HW
  go_loopw [9, 3] (fun iv s wr => ∃ (k : Nat) (a : Option Addr) (c : Nat), k ≤ n ∧ iv = .int .i64 (k : Int) ∧ s = .slice a k c ∧ Hid (wr.ownsRow w.heap.size 50 1 (.slice a k c) k ((freeVs r).take k)) ∧ Hid (Below w.heap.size w wr)) (fun iv _ _ => n - (intOf iv).toNat)
  case atStart => exact ⟨0, none, 0, Nat.zero_le _, rfl, rfl, World.ownsRow_nil _ _ _ _, HBA.out⟩
  case round =>
    obtain ⟨k, a, c, hk, rfl, rfl, HO, HB⟩ := hrel
    by_cases hlt : k < n
    · have hkl : k < r.secs.length := by rw [← HN.out]; exact hlt
      obtain ⟨g, o, rfl, c0, hi⟩ := (HS.out.below HB.out).cell k _ (List.getElem?_eq_getElem hkl)
      obtain ⟨hx0, hx4⟩ := H4.out r.secs[k] (List.getElem_mem hkl)
      obtain ⟨x, hx⟩ : ∃ x : Nat, r.secs[k] = (x : Int) := ⟨r.secs[k].toNat, by omega⟩
      have HTK : Hid ((freeVs r).take (k + 1) = (freeVs r).take k ++ [notV 98 x]) := by
        show _ = _
        unfold freeVs
        rw [map_take_succ _ _ _ hkl, hx]
        rfl
      have HC := hide (isNot_any 98 x (by omega) wr)
      rw [hx] at c0
      obtain ⟨nx, hnx⟩ := notV_iface 98 x
      rw [hnx] at HTK HC
      have HOWN : Hid (∀ o, (wr.alloc o).ownsRow w.heap.size 50 1 (.slice a k c) k ((freeVs r).take k)) := fun o => own_below HO.out (newB _ _)
      have HONE : Hid (∀ u ∈ [Value.iface 103 nx], u.oneCell' = true) := fun u hu => by obtain rfl := List.mem_singleton.1 hu; rfl
      have HBN : Hid (∀ (o : Obj) (wC : World), (wr.alloc o).grownBy wC (Value.slice a k c).ownBlock → Below w.heap.size w wC) := fun o wC hg => below_grown (then_ HB.out (newB _ _)) hg (ownBlock_new HO.out)
      have hle : w.heap.size ≤ wr.heap.size := HB.out.size
      clear hx0 hx4 hi hx hnx
      go_wp2_with (first
        | (at_builtin; refine wpList_append_lies _ rfl (.tmp 13) (.tmp 16) 77 rfl w.heap.size 50 i0 _ 1 16 Tryz.underlying77 hi0 hz0 hz1 hz2 rfl (by decide) (.slice a k c) k ((freeVs r).take k) rfl (HOWN.out _) ⟨wr.heap.size, 0, none⟩ 1 1 [.iface 103 nx] rfl rfl (World.news_of_block (heap_alloc_new wr _)) HONE.out (by decide) (by unfold maxLen; omega) (by omega) (by simp; omega) (wr.heap.size + 1) (by simp) ?_; intro g2 cap2 wC hown hgrow hat hltg; have HOC := hide hown; have HBC := hide (HBN.out _ wC hgrow); clear hown hgrow hat)
        | (go_at_call 28; refine HC.out.mono ?_; rintro e w1 ⟨rfl, hw⟩; obtain rfl := hw.symm))
      go_roundw
      case rel => exact ⟨k + 1, some ⟨g2, 0, none⟩, cap2, by omega, by go_num, rfl, by rw [HTK.out]; exact HOC.out, HBC.out⟩
      case measure => simp [intOf]; omega
    · have hkn : k = n := by omega
      have HR : Hid (wr.ownsRow w.heap.size 50 1 (.slice a k c) n (freeVs r)) := by
        have h := HO.out
        rw [List.take_of_length_le (by rw [HFL.out]; omega)] at h
        rw [← hkn]
        exact h
      subst hkn
      go_wp2_with fail
      go_ret
      exact ⟨_, rfl, HR.out, HB.out⟩
end Ro
end
end Go.Proofs.YtflonjbbolmelaaGreatDoor
