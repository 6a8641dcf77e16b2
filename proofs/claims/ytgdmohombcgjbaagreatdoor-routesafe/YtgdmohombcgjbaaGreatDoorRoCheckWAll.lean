/-
  Plain mathematics of chapter 11: tables, which may be (11.1), the program that keeps one (11.2). The walks of package route's isFrom, numbers, hasBeyond, hasTwice and wrongRoute, and of slices.Index and Contains over numbers. The walks of package route's hasBeyond and hasTwice, and of slices.Index and Contains over numbers. The walks of package route's wrongRoute and Check. The walk of package route's Check.
-/
import Derived.Test.YtgdmohombcgjbaaGreatDoorRoAmongAll
import Derived.Test.YtgdmohombcgjbaaGreatDoorRoClashWAll
namespace Go.Proofs.YtgdmohombcgjbaaGreatDoor
section
namespace Ro
/-- a table: how many sections and points, and its routes -/
structure Tbl where
  secs : Int
  pts : Int
  rts : List Rt
def fromTo (l m n : Int) : Bool := decide (l ≤ n) && decide (n ≤ m)
def beyond (l : List Int) (m : Int) : Bool := l.any fun n => !fromTo 0 (m - 1) n
def nums (r : Rt) : List Int := r.pts.map fun p => p.1
def twice (l : List Int) : Bool := !decide l.Nodup
def wrongR (s p : Int) (r : Rt) : Nat := if r.secs = [] then 8 else if beyond r.secs s || beyond (nums r) p then 2 else if twice r.secs || twice (nums r) then 9 else 0
def sized (t : Tbl) : Bool := fromTo 1 3 t.secs && (fromTo 0 2 t.pts && fromTo 1 3 (t.rts.length : Int))
/-- the first route from k on that is wrong -/
def firstBad (t : Tbl) : Option Nat := t.rts.findIdx? fun r => wrongR t.secs t.pts r != 0
def badAt (t : Tbl) : Option Nat → Option (Nat × Option Nat)
  | some i => some (wrongR t.secs t.pts (t.rts.getD i ⟨[], []⟩), some i)
  | none => none
def check (t : Tbl) : Option (Nat × Option Nat) := if sized t = false then some (4, none) else badAt t (firstBad t)
theorem take_nodup (l : List Int) (k : Nat) (h : k < l.length) : (l.take (k + 1)).Nodup ↔ (l.take k).Nodup ∧ (l.take k).contains l[k] = false := by
  rw [List.take_succ_eq_append_getElem h, List.nodup_append]
  constructor
  · rintro ⟨h1, _, h2⟩
    refine ⟨h1, ?_⟩
    rw [← Bool.not_eq_true, List.contains_iff_mem]
    exact fun hm => h2 _ hm _ (List.mem_singleton.2 rfl) rfl
  · rintro ⟨h1, h2⟩
    refine ⟨h1, by simp, ?_⟩
    intro a ha b hb
    obtain rfl := List.mem_singleton.1 hb
    rintro rfl
    rw [← Bool.not_eq_true, List.contains_iff_mem] at h2
    exact h2 ha
theorem sized_iff (t : Tbl) : sized t = true ↔ (1 ≤ t.secs ∧ t.secs ≤ 3) ∧ (0 ≤ t.pts ∧ t.pts ≤ 2) ∧ 1 ≤ t.rts.length ∧ t.rts.length ≤ 3 := by
  unfold sized fromTo
  simp only [Bool.and_eq_true, decide_eq_true_eq]
  omega
theorem firstBad_hit (t : Tbl) (k : Nat) (h : k < t.rts.length) (hk : wrongR t.secs t.pts t.rts[k] ≠ 0) (hb : ∀ (j : Nat) r, j < k → t.rts[j]? = some r → wrongR t.secs t.pts r = 0) : firstBad t = some k := by
  unfold firstBad
  rw [List.findIdx?_eq_some_iff_getElem]
  refine ⟨h, by simpa using hk, fun j hj => ?_⟩
  have := hb j t.rts[j] hj (List.getElem?_eq_getElem (by omega))
  simp [this]
theorem firstBad_none (t : Tbl) (hb : ∀ (j : Nat) r, j < t.rts.length → t.rts[j]? = some r → wrongR t.secs t.pts r = 0) : firstBad t = none := by
  unfold firstBad
  rw [List.findIdx?_eq_none_iff]
  intro x hx
  obtain ⟨i, hi, rfl⟩ := List.getElem_of_mem hx
  have := hb i t.rts[i] hi (List.getElem?_eq_getElem hi)
  simp [this]
/-- route number i -/
def rt (t : Tbl) (i : Nat) : Rt := t.rts.getD i ⟨[], []⟩
theorem rt_at (t : Tbl) (i : Nat) (h : i < t.rts.length) : t.rts[i]? = some (rt t i) := by
  rw [List.getElem?_eq_getElem h]
  unfold rt
  simp [h]
/-- the numbers below k of the other routes that clash with route i -/
def clashTo (t : Tbl) (i k : Nat) : List Nat := (List.range k).filter fun j => decide (j ≠ i) && clash (rt t i) (rt t j)
theorem clashTo_succ (t : Tbl) (i k : Nat) : clashTo t i (k + 1) = clashTo t i k ++ (if (decide (k ≠ i) && clash (rt t i) (rt t k)) = true then [k] else []) := by
  unfold clashTo
  rw [List.range_succ, List.filter_append]
  congr 1
  rw [List.filter_cons, List.filter_nil]
theorem clashTo_len (t : Tbl) (i k : Nat) : (clashTo t i k).length ≤ k := by
  unfold clashTo
  have := List.length_filter_le (fun j => decide (j ≠ i) && clash (rt t i) (rt t j)) (List.range k)
  simpa using this
def clashing (t : Tbl) (i : Nat) : List Nat := clashTo t i t.rts.length
/-- the routes below k that want a point so -/
def wantTo (t : Tbl) (p : Int × Bool) (k : Nat) : List Nat := (List.range k).filter fun j => (rt t j).pts.contains p
theorem wantTo_succ (t : Tbl) (p : Int × Bool) (k : Nat) : wantTo t p (k + 1) = wantTo t p k ++ (if (rt t k).pts.contains p = true then [k] else []) := by
  unfold wantTo
  rw [List.range_succ, List.filter_append]
  congr 1
  rw [List.filter_cons, List.filter_nil]
theorem wantTo_len (t : Tbl) (p : Int × Bool) (k : Nat) : (wantTo t p k).length ≤ k := by
  unfold wantTo
  have := List.length_filter_le (fun j => (rt t j).pts.contains p) (List.range k)
  simpa using this
def wanting (t : Tbl) (p : Int × Bool) : List Nat := wantTo t p t.rts.length
end Ro
end
section
namespace Ro
open Go.RowKit
set_option maxHeartbeats 2000000 in
theorem isFrom_any (l m n : Int) (w : World) : Calls Tryz.prog 31 #[.int .i64 l, .int .i64 m, .int .i64 n] w fun e w' => e = .returned (.bool (fromTo l m n)) ∧ w' = w := by
  by_cases h : l ≤ n
  · go_enter Tryz.func31, Tryz.ntmps31
    go_wp2_with fail
    go_ret
    exact ⟨ret_bool (by unfold fromTo; simp [h]), rfl⟩
  · go_enter Tryz.func31, Tryz.ntmps31
    go_wp2_with fail
    go_ret
    exact ⟨ret_bool (by unfold fromTo; rw [decide_eq_false (Int.not_le.2 h)]; rfl), rfl⟩
theorem makeIB (n : Nat) (hn : n ≤ 17592186044416) (w : World) : (Instr.makeSlice 41 (.int .i64 (n : Int)) (.int .i64 (n : Int))).run Tryz.prog w = .ok (.slice (some ⟨w.heap.size, 0, none⟩) n n) (w.alloc (.cells ⟨List.replicate n (.int .i64 0)⟩ 3)) := by
  obtain ⟨i0, hi0, hz0, hz1, hz2⟩ := info_parts Tryz.infoInt
  have hbb : (i0.bytes : Int) * (n : Int) ≤ 281474976710656 := by rw [hz2]; omega
  have h := run_make (P := Tryz.prog) w 41 3 i0 _ Tryz.underlying41 hi0 hz0 .i64 .i64 n n (by omega) (Int.le_refl _) hbb (by omega)
  rw [show (Value.int IntKind.i64 0).cells = #[.int .i64 0] from rfl, hz1, show ((n : Int)).toNat = n by omega, mcells_one] at h
  exact h
def zerosI (n : Nat) : List Value := List.replicate n (.int .i64 0)
set_option maxHeartbeats 4000000 in
set_option maxRecDepth 100000 in
theorem numbers_any (r : Rt) (sv pv : Value) (w : World) (hs : Ints w sv r.secs) (hp : Pts w pv r.pts) (hl : r.pts.length ≤ 17592186044416) :
    Calls Tryz.prog 66 #[.agg #[sv, pv]] w fun e w' => ∃ v, e = .returned v ∧ Ints w' v (nums r) ∧ Below w.heap.size w w' := by
  obtain ⟨sa, sc, rfl⟩ := hs.slice
  obtain ⟨pa, pc, rfl⟩ := hp.slice
  obtain ⟨n, hn⟩ : ∃ n, n = r.pts.length := ⟨_, rfl⟩
  have HP := hide hp
  have HN := hide hn
  rw [← hn] at hl HP ⊢
  obtain ⟨wA, hwA⟩ : ∃ wA, wA = w.alloc (.cells #[.slice sa r.secs.length sc, .slice pa n pc] 54) := ⟨_, rfl⟩
  have hbA : Below w.heap.size w wA := by rw [hwA]; exact newB _ _
  have hrA : RowIs wA w.heap.size 54 [.slice sa r.secs.length sc, .slice pa n pc] := by rw [hwA]; exact RowIs.new _ _ _
  have hsA : wA.heap.size = w.heap.size + 1 := by rw [hwA]; simp
  obtain ⟨wB, hwB⟩ : ∃ wB, wB = wA.alloc (.cells ⟨zerosI n⟩ 3) := ⟨_, rfl⟩
  have hbB : Below wA.heap.size wA wB := by rw [hwB]; exact newB _ _
  have hrB : RowIs wB (w.heap.size + 1) 3 (zerosI n) := by rw [hwB, ← hsA]; exact RowIs.new _ _ _
  have hrAB := hrA.below hbB
  have hmk : (Instr.makeSlice 41 (.int .i64 (n : Int)) (.int .i64 (n : Int))).run Tryz.prog wA = .ok (.slice (some ⟨w.heap.size + 1, 0, none⟩) n n) wB := by rw [hwB, ← hsA]; exact makeIB n hl wA
  have HB0 : Hid (Below w.heap.size w wB) := then_ hbA hbB
  have c1 := hrA.cell 1 _ rfl
  have d1 := hrAB.cell 1 _ rfl
  have HWA := hide hwA
  have HR0 : Hid (RowIs wB (w.heap.size + 1) 3 (((nums r).take 0).map intV ++ zerosI (n - ((nums r).take 0).length))) := hrB
  have HNL : Hid ((nums r).length = n) := by show _ = _; rw [hn]; unfold nums; simp
  clear hwB hwA hrA hrB hrAB hbA hbB hs hp hn hsA
  go_enter Tryz.func66, Tryz.ntmps66
  rw [HWA.out] at hmk c1
  go_wp2_with fail
  clear hmk
  go_loopw [13] (fun iv wr => ∃ k : Nat, k ≤ n ∧ iv = .int .i64 (k : Int) ∧ Hid (RowIs wr (w.heap.size + 1) 3 (((nums r).take k).map intV ++ zerosI (n - ((nums r).take k).length))) ∧ Hid (Below w.heap.size w wr)) (fun iv _ => n - (intOf iv).toNat)
  case atStart => exact ⟨0, Nat.zero_le _, rfl, HR0.out, HB0.out⟩
  case round =>
    obtain ⟨k, hk, rfl, HR, HB⟩ := hrel
    by_cases hlt : k < n
    · have hkl : k < r.pts.length := by rw [← HN.out]; exact hlt
      obtain ⟨g, o, rfl, x0, x1, hi⟩ := (HP.out.below HB.out).cell k _ (List.getElem?_eq_getElem hkl)
      have hkn : k < (nums r).length := by rw [HNL.out]; exact hlt
      have hnk : (nums r)[k] = r.pts[k].1 := by simp [nums]
      obtain ⟨wL, hwL⟩ : ∃ wL, wL = wr.alloc (.cells #[.int .i64 r.pts[k].1, .bool r.pts[k].2] 61) := ⟨_, rfl⟩
      have hbL : Below wr.heap.size wr wL := by rw [hwL]; exact newB _ _
      have htl : (((nums r).take k).map intV).length = k := by simp; omega
      have htl2 : ((nums r).take k).length = k := by simp; omega
      have hrL := HR.out.below hbL
      have hc : wL.cell? ⟨w.heap.size + 1, k, none⟩ = some (.int .i64 0) := by
        refine hrL.cell k _ ?_
        rw [List.getElem?_append_right (by omega), htl, htl2, Nat.sub_self]
        unfold zerosI
        rw [List.getElem?_replicate, if_pos (by omega)]
      have hf := hrL.frozen k
      have hlt2 := HR.out.lt
      have HR' : Hid (RowIs ((wr.setCell ⟨w.heap.size + 1, k, none⟩ (.int .i64 r.pts[k].1)).alloc (.cells #[.int .i64 r.pts[k].1, .bool r.pts[k].2] 61)) (w.heap.size + 1) 3 (((nums r).take (k + 1)).map intV ++ zerosI (n - ((nums r).take (k + 1)).length))) := by
        have h := (HR.out.set k (.int .i64 r.pts[k].1)).alloc (.cells #[.int .i64 r.pts[k].1, .bool r.pts[k].2] 61)
        have e : ((((nums r).take k).map intV ++ zerosI (n - ((nums r).take k).length)).set k (.int .i64 r.pts[k].1)) = ((nums r).take (k + 1)).map intV ++ zerosI (n - ((nums r).take (k + 1)).length) := by
          have h2 := fill_set (((nums r).take k).map intV) (.int .i64 0) (.int .i64 r.pts[k].1) n (by omega)
          rw [htl] at h2
          unfold zerosI
          rw [htl2, h2, List.take_succ_eq_append_getElem hkn, List.map_append, hnk]
          simp [intV]
        show RowIs _ _ _ _
        rw [← e]; exact h
      have HB' : Hid (Below w.heap.size w ((wr.setCell ⟨w.heap.size + 1, k, none⟩ (.int .i64 r.pts[k].1)).alloc (.cells #[.int .i64 r.pts[k].1, .bool r.pts[k].2] 61))) := then_ (HB.out.setCell (Nat.le_succ _) _) (newB _ _)
      have hki : (k : Int) < (n : Int) := by omega
      rw [hwL] at hc hf
      clear hi hbL hwL hrL htl htl2 hnk hkn
      generalize r.pts[k] = x at *
      obtain ⟨x1', x2'⟩ := x
      simp only at x0 x1 hc hf HR' HB'
      go_wp2_with fail
      go_roundw
      case rel => exact ⟨k + 1, by omega, by go_num, HR'.out, HB'.out⟩
      case measure => simp [intOf]; omega
    · have hkn : k = n := by omega
      have HI : Hid (Ints wr (.slice (some ⟨w.heap.size + 1, 0, none⟩) n n) (nums r)) := by
        have h := HR.out
        rw [List.take_of_length_le (by rw [HNL.out]; omega), HNL.out, Nat.sub_self] at h
        have h2 := ints_row (l := nums r) (by simpa [zerosI] using h) (by rw [HNL.out]; unfold maxLen; omega) (fun x hx => by
          obtain ⟨p, hp, rfl⟩ := List.mem_map.1 hx
          exact HP.out.i64 p hp)
        rw [HNL.out] at h2
        exact h2
      subst hkn
      go_wp2_with fail
      go_ret
      exact ⟨_, rfl, HI.out, HB.out⟩
end Ro
end
section
namespace Ro
open Go.RowKit
set_option maxHeartbeats 2000000 in
theorem hasBeyond1_any (b : Nat) (m n : Int) (w : World) (c0 : w.cell? ⟨b, 0, none⟩ = some (.int .i64 m)) (hm0 : 0 ≤ m) (hm : m ≤ 100) :
    Calls Tryz.prog 93 #[.int .i64 n, .pointer (some ⟨b, 0, none⟩)] w fun e w' => e = .returned (.bool (!fromTo 0 (m - 1) n)) ∧ w' = w := by
  have HF := hide (isFrom_any 0 (m - 1) n w)
  generalize fromTo 0 (m - 1) n = y at *
  go_enter Tryz.func93, Tryz.ntmps93
  go_wp2_with fail
  refine HF.out.mono ?_
  rintro e w1 ⟨rfl, rfl⟩
  go_wp2_with fail
  go_ret
  exact ⟨rfl, rfl⟩
set_option maxHeartbeats 2000000 in
theorem hasBeyond_any (l : List Int) (m : Int) (sv : Value) (w : World) (h : Ints w sv l) (hm0 : 0 ≤ m) (hm : m ≤ 100) :
    Calls Tryz.prog 67 #[sv, .int .i64 m] w fun e w' => e = .returned (.bool (beyond l m)) ∧ Below w.heap.size w w' := by
  obtain ⟨wA, hwA⟩ : ∃ wA, wA = w.alloc (.cells #[.int .i64 m] 3) := ⟨_, rfl⟩
  have hbA : Below w.heap.size w wA := by rw [hwA]; exact newB _ _
  have hc : wA.cell? ⟨w.heap.size, 0, none⟩ = some (.int .i64 m) := by rw [hwA]; exact (RowIs.new w 3 [.int .i64 m]).cell 0 _ rfl
  have hS : SPred wA (.func (.func 93) #[] #[.pointer (some ⟨w.heap.size, 0, none⟩)]) (fun _ => True) (fun n => !fromTo 0 (m - 1) n) :=
    ⟨_, _, rfl, .inl ⟨_, rfl⟩, fun args w => by kernel_rfl, fun x W hW _ => (hasBeyond1_any w.heap.size m x W (kept hW hc) hm0 hm).mono fun e w' ⟨h1, h2⟩ => ⟨h1, by rw [h2]; exact Below.refl _ _⟩⟩
  have HC := hide (containsF_any l sv _ (fun _ => True) _ wA (h.below hbA) (fun _ _ => trivial) hS)
  have HB := hide hbA
  have HW := hide hwA
  obtain ⟨a, c, rfl⟩ := h.slice
  have HBY : Hid ((l.any fun n => !fromTo 0 (m - 1) n) = beyond l m) := rfl
  rw [HBY.out] at HC
  generalize beyond l m = y at *
  clear hS hc hbA hwA h
  go_enter Tryz.func67, Tryz.ntmps67
  go_wp2_with fail
  rw [← HW.out]
  refine HC.out.mono ?_
  rintro e w1 ⟨rfl, hb1⟩
  have HB1 := hide (then_ HB.out hb1)
  clear hb1
  go_wp2_with fail
  go_ret
  exact ⟨rfl, HB1.out⟩
set_option maxHeartbeats 2000000 in
set_option maxRecDepth 100000 in
theorem indexI_any (l : List Int) (x : Int) (sv : Value) (w : World) (h : Ints w sv l) :
    Calls Tryz.prog 83 #[sv, .int .i64 x] w fun e w' => e = .returned (.int .i64 (idx (fun y => y == x) l)) ∧ Below w.heap.size w w' := by
  have hlen := h.len
  unfold maxLen at hlen
  have HR := hide h
  obtain ⟨a, cp, rfl⟩ := h.slice
  obtain ⟨n, hn⟩ : ∃ n, n = l.length := ⟨_, rfl⟩
  have HN := hide hn
  rw [← hn] at hlen HR ⊢
  clear h hn
  go_enter Tryz.func83, Tryz.ntmps83
  go_wp2_with fail
  go_loopw [8] (fun i wr => ∃ k : Nat, k ≤ n ∧ i = .int .i64 (k : Int) ∧ Hid ((l.take k).any (fun y => y == x) = false) ∧ Hid (Below w.heap.size w wr)) (fun i _ => n - (intOf i).toNat)
  case atStart => exact ⟨0, Nat.zero_le _, rfl, rfl, Below.refl _ _⟩
  case round =>
    obtain ⟨k, hk, rfl, HT, HB⟩ := hrel
    by_cases hlt : k < n
    · have hkl : k < l.length := by rw [← HN.out]; exact hlt
      obtain ⟨g, o, rfl, c0, hi⟩ := (HR.out.below HB.out).cell k _ (List.getElem?_eq_getElem hkl)
      have HSU : Hid ((l.take (k + 1)).any (fun y => y == x) = (l[k] == x)) := by show _ = _; rw [List.take_succ_eq_append_getElem hkl, List.any_append, HT.out]; simp
      have HHIT := hide (idx_hit (fun y => y == x) l k hkl HT.out)
      clear hi
      generalize l[k] = z at *
      by_cases hz : z = x
      · subst hz
        have HA := hide (HHIT.out (by simp))
        clear HHIT HSU
        go_wp2_with fail
        go_ret
        exact ⟨by rw [HA.out]; rfl, HB.out⟩
      · have hzb : (z == x) = false := by simpa using hz
        have hzc : (x == z) = false := by simpa using fun e : x = z => hz e.symm
        rw [hzb] at HSU
        clear HHIT
        go_wp2_with fail
        go_roundw
        case rel => exact ⟨k + 1, by omega, by go_num, HSU.out, HB.out⟩
        case measure => simp [intOf]; omega
    · have hkn : k = n := by omega
      have HA : Hid (idx (fun y => y == x) l = -1) := idx_none _ l (by have := HT.out; rw [List.take_of_length_le (by rw [← HN.out]; omega)] at this; exact this)
      subst hkn
      go_wp2_with fail
      go_ret
      exact ⟨by rw [HA.out]; rfl, HB.out⟩
set_option maxHeartbeats 2000000 in
theorem containsI_any (l : List Int) (x : Int) (sv : Value) (w : World) (h : Ints w sv l) :
    Calls Tryz.prog 51 #[sv, .int .i64 x] w fun e w' => e = .returned (.bool (l.contains x)) ∧ Below w.heap.size w w' := by
  have HI := hide (indexI_any l x sv w h)
  have HA : Hid (decide (0 ≤ idx (fun y => y == x) l) = l.contains x) := by
    show _ = _
    rw [idx_any, Bool.eq_iff_iff, List.any_eq_true, List.contains_iff_mem]
    constructor
    · rintro ⟨y, hy, e⟩
      obtain rfl : y = x := by simpa using e
      exact hy
    · exact fun hx => ⟨x, hx, by simp⟩
  obtain ⟨a, cp, rfl⟩ := h.slice
  generalize idx (fun y => y == x) l = r at *
  generalize l.contains x = y at *
  generalize l.length = n at *
  clear h
  go_enter Tryz.func51, Tryz.ntmps51
  go_wp2_with fail
  refine HI.out.mono ?_
  rintro e w1 ⟨rfl, hb1⟩
  have HB := hide hb1
  clear hb1 HI
  go_wp2_with fail
  go_ret
  exact ⟨by rw [← HA.out]; rfl, HB.out⟩
theorem Ints.take {w : World} {g o n c : Nat} {l : List Int} (h : Ints w (.slice (some ⟨g, o, none⟩) n c) l) (k : Nat) (hk : k ≤ l.length) : Ints w (.slice (some ⟨g, o, none⟩) k c) (l.take k) := by
  obtain ⟨a', c', h1, h2, h3⟩ := h
  simp only [Value.slice.injEq] at h1
  obtain ⟨rfl, rfl, rfl⟩ := h1
  have hl : (l.take k).length = k := by rw [List.length_take]; omega
  refine ⟨_, _, by rw [hl], by omega, fun j x hx => ?_⟩
  have hj : j < k := by have := (List.getElem?_eq_some_iff.1 hx).1; omega
  rw [List.getElem?_take_of_lt hj] at hx
  obtain ⟨g', o', e1, e2, e3⟩ := h3 j x hx
  exact ⟨g', o', e1, by omega, e3⟩
set_option maxHeartbeats 4000000 in
set_option maxRecDepth 100000 in
theorem hasTwice_any (l : List Int) (sv : Value) (w : World) (h : Ints w sv l) :
    Calls Tryz.prog 68 #[sv] w fun e w' => e = .returned (.bool (twice l)) ∧ Below w.heap.size w w' := by
  have hlen := h.len
  unfold maxLen at hlen
  have HR := hide h
  obtain ⟨a, cp, rfl⟩ := h.slice
  obtain ⟨n, hn⟩ : ∃ n, n = l.length := ⟨_, rfl⟩
  have HN := hide hn
  rw [← hn] at hlen HR ⊢
  have hcap : 0 < n → n ≤ cp := fun h0 => by
    obtain ⟨a', c', h1, h2, h3⟩ := h
    simp only [Value.slice.injEq] at h1
    obtain ⟨g', o', e1, e2, e3⟩ := h3 0 _ (List.getElem?_eq_getElem (by omega))
    omega
  have HCAP := hide hcap
  clear h hn hcap
  go_enter Tryz.func68, Tryz.ntmps68
  go_wp2_with fail
  go_loopw [7] (fun i wr => ∃ k : Nat, k ≤ n ∧ i = .int .i64 (k : Int) ∧ Hid ((l.take k).Nodup) ∧ Hid (Below w.heap.size w wr)) (fun i _ => n - (intOf i).toNat)
  case atStart => exact ⟨0, Nat.zero_le _, rfl, by simp [Hid], Below.refl _ _⟩
  case round =>
    obtain ⟨k, hk, rfl, HT, HB⟩ := hrel
    by_cases hlt : k < n
    · have hkl : k < l.length := by rw [← HN.out]; exact hlt
      obtain ⟨g, o, rfl, c0, hi⟩ := (HR.out.below HB.out).cell k _ (List.getElem?_eq_getElem hkl)
      have HCT := hide (containsI_any (l.take k) l[k] _ wr ((HR.out.below HB.out).take k (by omega)))
      have HST := hide (take_nodup l k hkl)
      have hcp := HCAP.out (by omega)
      have hkc : k ≤ cp := by omega
      have hki : (k : Int) < (n : Int) := by omega
      have HNO : Hid ((l.take k).contains l[k] = true → twice l = true) := fun hc => by
        unfold twice
        rw [Bool.not_eq_true', decide_eq_false_iff_not]
        intro hd
        have h1 : (l.take (k + 1)).Nodup := hd.sublist (List.take_sublist _ _)
        rw [HST.out, hc] at h1
        cases h1.2
      clear hi
      generalize l[k] = x at *
      cases hc : (l.take k).contains x with
      | true =>
        have HTW := hide (HNO.out hc)
        rw [hc] at HCT
        clear hc HNO HST
        go_wp2_with fail
        refine HCT.out.mono ?_
        rintro e w1 ⟨rfl, hb1⟩
        have HB1 := hide (then_ HB.out hb1)
        clear hb1
        go_wp2_with fail
        go_ret
        exact ⟨by rw [HTW.out]; rfl, HB1.out⟩
      | false =>
        have HTK := hide (HST.out.2 ⟨HT.out, hc⟩)
        rw [hc] at HCT
        clear hc HNO HST
        go_wp2_with fail
        refine HCT.out.mono ?_
        rintro e w1 ⟨rfl, hb1⟩
        have HB1 := hide (then_ HB.out hb1)
        clear hb1
        go_wp2_with fail
        go_roundw
        case rel => exact ⟨k + 1, by omega, by go_num, HTK.out, HB1.out⟩
        case measure => simp [intOf]; omega
    · have hkn : k = n := by omega
      have HTW : Hid (twice l = false) := by
        have h := HT.out
        rw [List.take_of_length_le (by rw [← HN.out]; omega)] at h
        show _ = _
        unfold twice
        rw [decide_eq_true h]; rfl
      subst hkn
      go_wp2_with fail
      go_ret
      exact ⟨by rw [HTW.out]; rfl, HB.out⟩
end Ro
end
section
namespace Ro
open Go.RowKit
def mxP : Nat := 17592186044416
/-- routes, as a slice -/
def Rts (w : World) (sv : Value) (l : List Rt) : Prop := ∃ a c, sv = .slice a l.length c ∧ l.length ≤ maxLen ∧ ∀ (k : Nat) r, l[k]? = some r → ∃ g o u v, a = some ⟨g, o, none⟩ ∧ l.length ≤ c ∧ w.cell? ⟨g, o + k * 2, none⟩ = some u ∧ w.cell? ⟨g, o + k * 2 + 1, none⟩ = some v ∧ Ints w u r.secs ∧ Pts w v r.pts ∧ r.pts.length ≤ mxP
theorem Rts.below {w w' : World} {sv : Value} {l : List Rt} (h : Rts w sv l) (hb : Below w.heap.size w w') : Rts w' sv l := by
  obtain ⟨a, c, h1, h2, h3⟩ := h
  refine ⟨a, c, h1, h2, fun k x hx => ?_⟩
  obtain ⟨g, o, u, v, e1, e2, e3, e4, e5, e6, e7⟩ := h3 k x hx
  exact ⟨g, o, u, v, e1, e2, kept hb e3, kept hb e4, e5.below hb, e6.below hb, e7⟩
theorem Rts.slice {w : World} {sv : Value} {l : List Rt} (h : Rts w sv l) : ∃ a c, sv = .slice a l.length c := by obtain ⟨a, c, h, _⟩ := h; exact ⟨a, c, h⟩
theorem Rts.len {w : World} {sv : Value} {l : List Rt} (h : Rts w sv l) : l.length ≤ maxLen := by obtain ⟨a, c, _, h, _⟩ := h; exact h
theorem Rts.cell {w : World} {a : Option Addr} {n c : Nat} {l : List Rt} (h : Rts w (.slice a n c) l) (k : Nat) (r : Rt) (hx : l[k]? = some r) : ∃ g o sa sc pa pc, a = some ⟨g, o, none⟩ ∧ w.cell? ⟨g, o + k * 2, none⟩ = some (.slice sa r.secs.length sc) ∧ w.cell? ⟨g, o + k * 2 + 1, none⟩ = some (.slice pa r.pts.length pc) ∧ Ints w (.slice sa r.secs.length sc) r.secs ∧ Pts w (.slice pa r.pts.length pc) r.pts ∧ r.pts.length ≤ mxP := by
  obtain ⟨a', c', h1, h2, h3⟩ := h
  obtain ⟨g, o, u, v, e1, e2, e3, e4, e5, e6, e7⟩ := h3 k r hx
  simp only [Value.slice.injEq] at h1
  obtain ⟨sa, sc, rfl⟩ := e5.slice
  obtain ⟨pa, pc, rfl⟩ := e6.slice
  exact ⟨g, o, sa, sc, pa, pc, by rw [h1.1]; exact e1, e3, e4, e5, e6, e7⟩
theorem wrongR_le (s p : Int) (r : Rt) : wrongR s p r ≤ 9 := by
  unfold wrongR
  split
  · omega
  · split
    · omega
    · split <;> omega
set_option maxHeartbeats 4000000 in
set_option maxRecDepth 100000 in
theorem wrongRoute_any (s p : Int) (ra : Option Addr) (rn rc : Nat) (r : Rt) (sv pv : Value) (w : World) (hs : Ints w sv r.secs) (hp : Pts w pv r.pts) (hl : r.pts.length ≤ mxP) (hs0 : 0 ≤ s) (hs3 : s ≤ 100) (hp0 : 0 ≤ p) (hp3 : p ≤ 100) :
    Calls Tryz.prog 32 #[.agg #[.int .i64 s, .int .i64 p, .slice ra rn rc], .agg #[sv, pv]] w fun e w' => e = .returned (.int .i64 (wrongR s p r : Int)) ∧ Below w.heap.size w w' := by
  obtain ⟨sa, sc, rfl⟩ := hs.slice
  obtain ⟨pa, pc, rfl⟩ := hp.slice
  obtain ⟨wA, hwA⟩ : ∃ wA, wA = (w.alloc (.cells #[.int .i64 s, .int .i64 p, .slice ra rn rc] 24)).alloc (.cells #[.slice sa r.secs.length sc, .slice pa r.pts.length pc] 54) := ⟨_, rfl⟩
  have hbA : Below w.heap.size w wA := by rw [hwA]; exact then_ (newB _ _) (newB _ _)
  have rT : RowIs wA w.heap.size 24 [.int .i64 s, .int .i64 p, .slice ra rn rc] := by rw [hwA]; exact (RowIs.new _ _ _).alloc _
  have rR : RowIs wA (w.heap.size + 1) 54 [.slice sa r.secs.length sc, .slice pa r.pts.length pc] := by
    rw [hwA]
    have := RowIs.new (w.alloc (.cells #[.int .i64 s, .int .i64 p, .slice ra rn rc] 24)) 54 [.slice sa r.secs.length sc, .slice pa r.pts.length pc]
    rw [World.size_alloc] at this
    exact this
  have HNU := hide (numbers_any r _ _ wA (hs.below hbA) (hp.below hbA) hl)
  have HSS := hide (fun W (hW : Below wA.heap.size wA W) => (hs.below hbA).below hW)
  have HKT : Hid (∀ W, Below wA.heap.size wA W → W.cell? ⟨w.heap.size, 0, none⟩ = some (.int .i64 s) ∧ W.cell? ⟨w.heap.size, 1, none⟩ = some (.int .i64 p) ∧ W.cell? ⟨w.heap.size + 1, 0, none⟩ = some (.slice sa r.secs.length sc)) := fun W hW => ⟨kept hW (rT.cell 0 _ rfl), kept hW (rT.cell 1 _ rfl), kept hW (rR.cell 0 _ rfl)⟩
  have HW := hide hwA
  have HB := hide hbA
  have hlen := hs.len
  unfold maxLen at hlen
  clear hwA hbA rT rR hs hp
  have HWR : Hid (wrongR s p r = if r.secs = [] then 8 else if beyond r.secs s || beyond (nums r) p then 2 else if twice r.secs || twice (nums r) then 9 else 0) := rfl
  have HE : Hid (r.secs = [] ↔ r.secs.length = 0) := ⟨fun h => by rw [h]; rfl, List.length_eq_zero_iff.1⟩
  generalize wrongR s p r = y at *
  go_enter Tryz.func32, Tryz.ntmps32
  go_wp2_with fail
  rw [← HW.out]
  clear HW
  refine HNU.out.mono ?_
  rintro e w1 ⟨nv, rfl, hI, hb1⟩
  have HI1 := hide hI
  have HB1 := hide hb1
  obtain ⟨na, nc, rfl⟩ := hI.slice
  obtain ⟨x0, x1, x2⟩ := HKT.out w1 hb1
  have HBY1 := hide (hasBeyond_any r.secs s _ w1 (HSS.out w1 hb1) hs0 hs3)
  clear hI hb1 HNU
  generalize r.secs.length = sn at *
  generalize (nums r).length = nn at *
  by_cases h0 : sn = 0
  · have HY : Hid (y = 8) := by show _ = _; rw [HWR.out, if_pos (HE.out.2 h0)]
    have h0i : ((sn : Int) == 0) = true := by simp [h0]
    have HB1' := hide (then_ HB.out HB1.out)
    clear h0
    go_wp2_with fail
    go_ret
    exact ⟨by rw [HY.out]; rfl, HB1'.out⟩
  have HWR2 : Hid (y = if beyond r.secs s || beyond (nums r) p then 2 else if twice r.secs || twice (nums r) then 9 else 0) := by show _ = _; rw [HWR.out, if_neg (fun h => h0 (HE.out.1 h))]
  have h0i : ((sn : Int) == 0) = false := by simp [h0]
  clear HWR HE h0
  go_wp2_with fail
  refine HBY1.out.mono ?_
  rintro e w2 ⟨rfl, hb2⟩
  have HB2 := hide (then_ HB1.out hb2)
  have HI2 := hide (HI1.out.below hb2)
  obtain ⟨y0, y1, y2⟩ := HKT.out w2 HB2.out
  have HBY2 := hide (hasBeyond_any (nums r) p _ w2 HI2.out hp0 hp3)
  have HTW2 := hide (hasTwice_any r.secs _ w2 (HSS.out w2 HB2.out))
  clear hb2 HBY1 x0 x1 x2
  generalize beyond r.secs s = q1 at *
  cases q1 with
  | true =>
    have HY : Hid (y = 2) := HWR2.out
    have HB2' := hide (then_ HB.out HB2.out)
    go_wp2_with fail
    go_ret
    exact ⟨by rw [HY.out]; rfl, HB2'.out⟩
  | false =>
    have HWR3 : Hid (y = if beyond (nums r) p then 2 else if twice r.secs || twice (nums r) then 9 else 0) := HWR2.out
    go_wp2_with fail
    refine HBY2.out.mono ?_
    rintro e w3 ⟨rfl, hb3⟩
    have HB3 := hide (then_ HB2.out hb3)
    have HI3 := hide (HI2.out.below hb3)
    obtain ⟨z0, z1, z2⟩ := HKT.out w3 HB3.out
    have HTW3 := hide (hasTwice_any r.secs _ w3 (HSS.out w3 HB3.out))
    clear hb3 HBY2 y0 y1 y2 HTW2 HWR2
    generalize beyond (nums r) p = q2 at *
    cases q2 with
    | true =>
      have HY : Hid (y = 2) := HWR3.out
      have HB3' := hide (then_ HB.out HB3.out)
      go_wp2_with fail
      go_ret
      exact ⟨by rw [HY.out]; rfl, HB3'.out⟩
    | false =>
      have HWR4 : Hid (y = if twice r.secs || twice (nums r) then 9 else 0) := HWR3.out
      go_wp2_with fail
      refine HTW3.out.mono ?_
      rintro e w4 ⟨rfl, hb4⟩
      have HB4 := hide (then_ HB3.out hb4)
      have HTW4 := hide (hasTwice_any (nums r) _ w4 (HI3.out.below hb4))
      clear hb4 HTW3 HWR3 z0 z1 z2
      generalize twice r.secs = q3 at *
      cases q3 with
      | true =>
        have HY : Hid (y = 9) := HWR4.out
        have HB4' := hide (then_ HB.out HB4.out)
        go_wp2_with fail
        go_ret
        exact ⟨by rw [HY.out]; rfl, HB4'.out⟩
      | false =>
        have HWR5 : Hid (y = if twice (nums r) then 9 else 0) := HWR4.out
        go_wp2_with fail
        refine HTW4.out.mono ?_
        rintro e w5 ⟨rfl, hb5⟩
        have HB5 := hide (then_ HB.out (then_ HB4.out hb5))
        clear hb5 HTW4 HWR4
        generalize twice (nums r) = q4 at *
        cases q4 with
        | true =>
          have HY : Hid (y = 9) := HWR5.out
          go_wp2_with fail
          go_ret
          exact ⟨by rw [HY.out]; rfl, HB5.out⟩
        | false =>
          have HY : Hid (y = 0) := HWR5.out
          go_wp2_with fail
          go_ret
          exact ⟨by rw [HY.out]; rfl, HB5.out⟩
end Ro
end
section
namespace Ro
open Go.RowKit
set_option maxHeartbeats 4000000 in
set_option maxRecDepth 100000 in
theorem Check_any (t : Tbl) (rv : Value) (w : World) (hr : Rts w rv t.rts) :
    Calls Tryz.prog 9 #[.agg #[.int .i64 t.secs, .int .i64 t.pts, rv]] w fun e w' => ∃ v, e = .returned v ∧ ErrIs w' v (check t) ∧ Below w.heap.size w w' := by
  obtain ⟨ra, rc, rfl⟩ := hr.slice
  have hlen := hr.len
  unfold maxLen at hlen
  obtain ⟨n, hn⟩ : ∃ n, n = t.rts.length := ⟨_, rfl⟩
  obtain ⟨wA, hwA⟩ : ∃ wA, wA = w.alloc (.cells #[.int .i64 t.secs, .int .i64 t.pts, .slice ra t.rts.length rc] 24) := ⟨_, rfl⟩
  have hbA : Below w.heap.size w wA := by rw [hwA]; exact newB _ _
  have rT : RowIs wA w.heap.size 24 [.int .i64 t.secs, .int .i64 t.pts, .slice ra t.rts.length rc] := by rw [hwA]; exact RowIs.new _ _ _
  have HRA := hide (hr.below hbA)
  have HB := hide hbA
  have HW := hide hwA
  have HI1 := hide (isFrom_any 1 3 t.secs wA)
  have HI2 := hide (isFrom_any 0 2 t.pts wA)
  have HI3 := hide (isFrom_any 1 3 (t.rts.length : Int) wA)
  have HSZ : Hid (sized t = (fromTo 1 3 t.secs && (fromTo 0 2 t.pts && fromTo 1 3 (t.rts.length : Int)))) := rfl
  have HCK : Hid (sized t = false → check t = some (4, none)) := fun h => by unfold check; rw [if_pos h]
  have x0 := rT.cell 0 _ rfl
  have x1 := rT.cell 1 _ rfl
  have x2 := rT.cell 2 _ rfl
  have HN := hide hn
  rw [← hn] at HRA HW HI3 x2 hlen HSZ ⊢
  have HKT : Hid (∀ W, Below wA.heap.size wA W → W.cell? ⟨w.heap.size, 0, none⟩ = some (.int .i64 t.secs) ∧ W.cell? ⟨w.heap.size, 1, none⟩ = some (.int .i64 t.pts) ∧ W.cell? ⟨w.heap.size, 2, none⟩ = some (.slice ra n rc)) := fun W hW => ⟨kept hW x0, kept hW x1, kept hW x2⟩
  have hwl : w.heap.size < wA.heap.size := rT.lt
  clear hwA hbA rT hr hn
  go_enter Tryz.func9, Tryz.ntmps9
  go_wp2_with fail
  rw [← HW.out]
  clear HW
  refine HI1.out.mono ?_
  rintro e w1 ⟨rfl, hw1⟩
  obtain rfl := hw1.symm
  clear HI1
  cases hq1 : fromTo 1 3 t.secs with
  | false =>
    have HX : Hid (check t = some (4, none)) := HCK.out (by rw [HSZ.out, hq1]; rfl)
    clear hq1
    go_wp2_with fail
    go_ret
    exact ⟨_, rfl, by rw [HX.out]; exact rfl, HB.out⟩
  | true =>
    have HQ1 := hide hq1
    clear hq1
    go_wp2_with fail
    refine HI2.out.mono ?_
    rintro e w1 ⟨rfl, hw1⟩
    obtain rfl := hw1.symm
    clear HI2
    cases hq2 : fromTo 0 2 t.pts with
    | false =>
      have HX : Hid (check t = some (4, none)) := HCK.out (by rw [HSZ.out, HQ1.out, hq2]; rfl)
      clear hq2
      go_wp2_with fail
      go_ret
      exact ⟨_, rfl, by rw [HX.out]; exact rfl, HB.out⟩
    | true =>
      have HQ2 := hide hq2
      clear hq2
      go_wp2_with fail
      refine HI3.out.mono ?_
      rintro e w1 ⟨rfl, hw1⟩
      obtain rfl := hw1.symm
      clear HI3
      cases hq3 : fromTo 1 3 (n : Int) with
      | false =>
        have HX : Hid (check t = some (4, none)) := HCK.out (by rw [HSZ.out, HQ1.out, HQ2.out, hq3]; rfl)
        clear hq3
        go_wp2_with fail
        go_ret
        exact ⟨_, rfl, by rw [HX.out]; exact rfl, HB.out⟩
      | true =>
        have HSD : Hid (sized t = true) := by show _ = _; rw [HSZ.out, HQ1.out, HQ2.out, hq3]; rfl
        have hsd := (sized_iff t).1 HSD.out
        rw [← HN.out] at hsd
        obtain ⟨⟨hs1, hs3⟩, ⟨hp0, hp2⟩, hn1, hn3⟩ := hsd
        have HCK2 : Hid (check t = badAt t (firstBad t)) := by show _ = _; unfold check; rw [if_neg (by rw [HSD.out]; decide)]
        clear hq3 HCK HSZ HQ1 HQ2
        have HS1 := hide hs1
        have HS3 := hide hs3
        have HP0 := hide hp0
        have HP2 := hide hp2
        clear hs1 hs3 hp0 hp2 hn1
        go_wp2_with fail
        clear x0 x1 x2
        go_loopw [27] (fun iv wr => ∃ k : Nat, k ≤ n ∧ iv = .int .i64 (k : Int) ∧ Hid (∀ (j : Nat) r, j < k → t.rts[j]? = some r → wrongR t.secs t.pts r = 0) ∧ Hid (Below wA.heap.size wA wr)) (fun iv _ => n - (intOf iv).toNat)
        case atStart => exact ⟨0, Nat.zero_le _, rfl, fun j r hj => by omega, Below.refl _ _⟩
        case round =>
          obtain ⟨k, hk, rfl, HZ, HBR⟩ := hrel
          by_cases hlt : k < n
          · have hkl : k < t.rts.length := by rw [← HN.out]; exact hlt
            obtain ⟨g, o, sa, sc, pa, pc, rfl, c0, c1, hIs, hPs, hmx⟩ := (HRA.out.below HBR.out).cell k _ (List.getElem?_eq_getElem hkl)
            have hki : (k : Int) < (n : Int) := by omega
            obtain ⟨y0, y1, y2⟩ := HKT.out wr HBR.out
            obtain ⟨wL, hwL⟩ : ∃ wL, wL = wr.alloc (.cells #[.slice sa t.rts[k].secs.length sc, .slice pa t.rts[k].pts.length pc] 54) := ⟨_, rfl⟩
            have hbL : Below wr.heap.size wr wL := by rw [hwL]; exact newB _ _
            have HBL : Hid (Below wA.heap.size wA wL) := then_ HBR.out hbL
            have hwlr : w.heap.size < wr.heap.size := World.block_lt_of_cell? _ _ y0
            have HWC := hide (wrongRoute_any t.secs t.pts (some ⟨g, o, none⟩) n rc t.rts[k] _ _ wL (hIs.below hbL) (hPs.below hbL) hmx (by have := HS1.out; omega) (by have := HS3.out; omega) HP0.out (by have := HP2.out; omega))
            have HLE := hide (wrongR_le t.secs t.pts t.rts[k])
            have HZ1 : Hid (wrongR t.secs t.pts t.rts[k] = 0 → ∀ (j : Nat) r, j < k + 1 → t.rts[j]? = some r → wrongR t.secs t.pts r = 0) := fun h0 j r hj hr => by
              by_cases hjk : j = k
              · subst hjk
                rw [List.getElem?_eq_getElem hkl] at hr
                cases hr
                exact h0
              · exact HZ.out j r (by omega) hr
            have HBAD : Hid (wrongR t.secs t.pts t.rts[k] ≠ 0 → check t = some (wrongR t.secs t.pts t.rts[k], some k)) := fun h0 => by
              rw [HCK2.out, firstBad_hit t k hkl h0 HZ.out]
              simp [badAt, hkl]
            have HWL := hide hwL
            clear hIs hPs hmx hbL hwL
            generalize wrongR t.secs t.pts t.rts[k] = y at *
            generalize t.rts[k] = r at *
            by_cases h0 : y = 0
            · have HZ2 := hide (HZ1.out h0)
              subst h0
              clear HBAD HZ1 HLE
              go_wp2_with fail
              rw [← HWL.out]
              refine HWC.out.mono ?_
              rintro e w2 ⟨rfl, hb2⟩
              have HB2 := hide (then_ HBL.out hb2)
              clear hb2 HWC
              go_wp2_with fail
              go_roundw
              case rel => exact ⟨k + 1, by omega, by go_num, HZ2.out, HB2.out⟩
              case measure => simp [intOf]; omega
            · have HX := hide (HBAD.out h0)
              have h0i : ((y : Int) != 0) = true := by simp; omega
              have hyl := HLE.out
              clear HBAD HZ1 HLE h0
              go_wp2_with fail
              rw [← HWL.out]
              refine HWC.out.mono ?_
              rintro e w2 ⟨rfl, hb2⟩
              have HB2 := hide (then_ (then_ HB.out (then_ HBL.out hb2)) (newB w2 (.cells #[.int .i64 (y : Int), .int .i64 (k : Int)] 90)))
              clear hb2 HWC
              go_wp2_with fail
              go_ret
              refine ⟨_, rfl, ?_, HB2.out⟩
              rw [HX.out]
              have hr := RowIs.new w2 90 [.int .i64 (y : Int), .int .i64 (k : Int)]
              exact ⟨w2.heap.size, rfl, hr.cell 0 _ rfl, hr.cell 1 _ rfl⟩
          · have hkn : k = n := by omega
            have HX : Hid (check t = none) := by
              show _ = _
              rw [HCK2.out, firstBad_none t (fun j r hj hr => HZ.out j r (by rw [hkn, HN.out]; exact hj) hr)]
              rfl
            have HBX := hide (then_ HB.out HBR.out)
            subst hkn
            go_wp2_with fail
            go_ret
            exact ⟨_, rfl, by rw [HX.out]; exact rfl, HBX.out⟩
end Ro
end
end Go.Proofs.YtgdmohombcgjbaaGreatDoor
