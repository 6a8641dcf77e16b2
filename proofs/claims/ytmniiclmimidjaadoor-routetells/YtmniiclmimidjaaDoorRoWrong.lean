/-
  The walks of package route's isFrom, numbers, hasBeyond, hasTwice and wrongRoute, and of slices.Index and Contains over numbers.
-/
import Derived.Test.YtmniiclmimidjaaDoorRoClashW
import Derived.Test.YtmniiclmimidjaaDoorRoMath
namespace Go.Proofs.YtmniiclmimidjaaDoor
namespace Ro
open Go.RowKit
set_option maxHeartbeats 2000000 in
theorem isFrom_any (l m n : Int) (w : World) : Calls Tryd.prog 16 #[.int .i64 l, .int .i64 m, .int .i64 n] w fun e w' => e = .returned (.bool (fromTo l m n)) ∧ w' = w := by
  by_cases h : l ≤ n
  · go_enter Tryd.func16, Tryd.ntmps16
    go_wp2_with fail
    go_ret
    exact ⟨ret_bool (by unfold fromTo; simp [h]), rfl⟩
  · go_enter Tryd.func16, Tryd.ntmps16
    go_wp2_with fail
    go_ret
    exact ⟨ret_bool (by unfold fromTo; rw [decide_eq_false (Int.not_le.2 h)]; rfl), rfl⟩
theorem makeIB (n : Nat) (hn : n ≤ 17592186044416) (w : World) : (Instr.makeSlice 39 (.int .i64 (n : Int)) (.int .i64 (n : Int))).run Tryd.prog w = .ok (.slice (some ⟨w.heap.size, 0, none⟩) n n) (w.alloc (.cells ⟨List.replicate n (.int .i64 0)⟩ 3)) := by
  obtain ⟨i0, hi0, hz0, hz1, hz2⟩ := info_parts Tryd.infoInt
  have hbb : (i0.bytes : Int) * (n : Int) ≤ 281474976710656 := by rw [hz2]; omega
  have h := run_make (P := Tryd.prog) w 39 3 i0 _ Tryd.underlying39 hi0 hz0 .i64 .i64 n n (by omega) (Int.le_refl _) hbb (by omega)
  rw [show (Value.int IntKind.i64 0).cells = #[.int .i64 0] from rfl, hz1, show ((n : Int)).toNat = n by omega, mcells_one] at h
  exact h
def zerosI (n : Nat) : List Value := List.replicate n (.int .i64 0)
set_option maxHeartbeats 4000000 in
set_option maxRecDepth 100000 in
theorem numbers_any (r : Rt) (sv pv : Value) (w : World) (hs : Ints w sv r.secs) (hp : Pts w pv r.pts) (hl : r.pts.length ≤ 17592186044416) :
    Calls Tryd.prog 29 #[.agg #[sv, pv]] w fun e w' => ∃ v, e = .returned v ∧ Ints w' v (nums r) ∧ Below w.heap.size w w' := by
  obtain ⟨sa, sc, rfl⟩ := hs.slice
  obtain ⟨pa, pc, rfl⟩ := hp.slice
  obtain ⟨n, hn⟩ : ∃ n, n = r.pts.length := ⟨_, rfl⟩
  have HP := hide hp
  have HN := hide hn
  rw [← hn] at hl HP ⊢
  obtain ⟨wA, hwA⟩ : ∃ wA, wA = w.alloc (.cells #[.slice sa r.secs.length sc, .slice pa n pc] 42) := ⟨_, rfl⟩
  have hbA : Below w.heap.size w wA := by rw [hwA]; exact newB _ _
  have hrA : RowIs wA w.heap.size 42 [.slice sa r.secs.length sc, .slice pa n pc] := by rw [hwA]; exact RowIs.new _ _ _
  have hsA : wA.heap.size = w.heap.size + 1 := by rw [hwA]; simp
  obtain ⟨wB, hwB⟩ : ∃ wB, wB = wA.alloc (.cells ⟨zerosI n⟩ 3) := ⟨_, rfl⟩
  have hbB : Below wA.heap.size wA wB := by rw [hwB]; exact newB _ _
  have hrB : RowIs wB (w.heap.size + 1) 3 (zerosI n) := by rw [hwB, ← hsA]; exact RowIs.new _ _ _
  have hrAB := hrA.below hbB
  have hmk : (Instr.makeSlice 39 (.int .i64 (n : Int)) (.int .i64 (n : Int))).run Tryd.prog wA = .ok (.slice (some ⟨w.heap.size + 1, 0, none⟩) n n) wB := by rw [hwB, ← hsA]; exact makeIB n hl wA
  have HB0 : Hid (Below w.heap.size w wB) := then_ hbA hbB
  have c1 := hrA.cell 1 _ rfl
  have d1 := hrAB.cell 1 _ rfl
  have HWA := hide hwA
  have HR0 : Hid (RowIs wB (w.heap.size + 1) 3 (((nums r).take 0).map intV ++ zerosI (n - ((nums r).take 0).length))) := hrB
  have HNL : Hid ((nums r).length = n) := by show _ = _; rw [hn]; unfold nums; simp
  clear hwB hwA hrA hrB hrAB hbA hbB hs hp hn hsA
  go_enter Tryd.func29, Tryd.ntmps29
  rw [HWA.out] at hmk c1
  go_wp2_with fail
  clear hmk
  go_loopw [13] (fun iv wr => ∃ k : Nat, k ≤ n ∧ iv = .int .i64 (k : Int) ∧ Hid (RowIs wr (w.heap.size + 1) 3 (((nums r).take k).map intV ++ zerosI (n - ((nums r).take k).length))) ∧ Hid (Below w.heap.size w wr)) (fun iv _ => n - (intOf iv).toNat)
  case atStart => exact ⟨0, Nat.zero_le _, rfl, HR0.out, HB0.out⟩
  case round =>
    obtain ⟨k, hk, rfl, HR, HB⟩ := hrel
    by_cases hlt : k < n
    · have hkl : k < r.pts.length := by rw [← HN.out]; exact hlt
      obtain ⟨g, o, rfl, x0, x1, hi⟩ := (HP.out.below HB.out).cell k _ (List.getElem?_eq_getElem hkl)
      have hkn : k < (nums r).length := by rw [HNL.out]; exact hlt
      have hnk : (nums r)[k] = r.pts[k].1 := by simp [nums]
      obtain ⟨wL, hwL⟩ : ∃ wL, wL = wr.alloc (.cells #[.int .i64 r.pts[k].1, .bool r.pts[k].2] 50) := ⟨_, rfl⟩
      have hbL : Below wr.heap.size wr wL := by rw [hwL]; exact newB _ _
      have htl : (((nums r).take k).map intV).length = k := by simp; omega
      have htl2 : ((nums r).take k).length = k := by simp; omega
      have hrL := HR.out.below hbL
      have hc : wL.cell? ⟨w.heap.size + 1, k, none⟩ = some (.int .i64 0) := by
        refine hrL.cell k _ ?_
        rw [List.getElem?_append_right (by omega), htl, htl2, Nat.sub_self]
        unfold zerosI
        rw [List.getElem?_replicate, if_pos (by omega)]
      have hf := hrL.frozen k
      have hlt2 := HR.out.lt
      have HR' : Hid (RowIs ((wr.setCell ⟨w.heap.size + 1, k, none⟩ (.int .i64 r.pts[k].1)).alloc (.cells #[.int .i64 r.pts[k].1, .bool r.pts[k].2] 50)) (w.heap.size + 1) 3 (((nums r).take (k + 1)).map intV ++ zerosI (n - ((nums r).take (k + 1)).length))) := by
        have h := (HR.out.set k (.int .i64 r.pts[k].1)).alloc (.cells #[.int .i64 r.pts[k].1, .bool r.pts[k].2] 50)
        have e : ((((nums r).take k).map intV ++ zerosI (n - ((nums r).take k).length)).set k (.int .i64 r.pts[k].1)) = ((nums r).take (k + 1)).map intV ++ zerosI (n - ((nums r).take (k + 1)).length) := by
          have h2 := fill_set (((nums r).take k).map intV) (.int .i64 0) (.int .i64 r.pts[k].1) n (by omega)
          rw [htl] at h2
          unfold zerosI
          rw [htl2, h2, List.take_succ_eq_append_getElem hkn, List.map_append, hnk]
          simp [intV]
        show RowIs _ _ _ _
        rw [← e]; exact h
      have HB' : Hid (Below w.heap.size w ((wr.setCell ⟨w.heap.size + 1, k, none⟩ (.int .i64 r.pts[k].1)).alloc (.cells #[.int .i64 r.pts[k].1, .bool r.pts[k].2] 50))) := then_ (HB.out.setCell (Nat.le_succ _) _) (newB _ _)
      have hki : (k : Int) < (n : Int) := by omega
      rw [hwL] at hc hf
      clear hi hbL hwL hrL htl htl2 hnk hkn
      generalize r.pts[k] = x at *
      obtain ⟨x1', x2'⟩ := x
      simp only at x0 x1 hc hf HR' HB'
      go_wp2_with fail
      go_roundw
      case rel => exact ⟨k + 1, by omega, by go_num, HR'.out, HB'.out⟩
      case measure => simp [intOf]; omega
    · have hkn : k = n := by omega
      have HI : Hid (Ints wr (.slice (some ⟨w.heap.size + 1, 0, none⟩) n n) (nums r)) := by
        have h := HR.out
        rw [List.take_of_length_le (by rw [HNL.out]; omega), HNL.out, Nat.sub_self] at h
        have h2 := ints_row (l := nums r) (by simpa [zerosI] using h) (by rw [HNL.out]; unfold maxLen; omega) (fun x hx => by
          obtain ⟨p, hp, rfl⟩ := List.mem_map.1 hx
          exact HP.out.i64 p hp)
        rw [HNL.out] at h2
        exact h2
      subst hkn
      go_wp2_with fail
      go_ret
      exact ⟨_, rfl, HI.out, HB.out⟩
end Ro
end Go.Proofs.YtmniiclmimidjaaDoor
