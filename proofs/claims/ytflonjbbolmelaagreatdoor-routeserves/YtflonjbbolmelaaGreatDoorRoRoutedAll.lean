/-
  What the walk of RouteServes wants besides: pick, rows that are made, rows that are put in together. The walk of the statements' own routed: package route is there.
-/
import Derived.Test.YtflonjbbolmelaaGreatDoorKeInputsAll
import Derived.Test.YtflonjbbolmelaaGreatDoorRoLadderEAll
import Derived.Test.YtflonjbbolmelaaGreatDoorRoServe
import Derived.Test.YtflonjbbolmelaaGreatDoorRoLadder
namespace Go.Proofs.YtflonjbbolmelaaGreatDoor
section
open Go.RowKit
set_option maxHeartbeats 2000000 in
set_option maxRecDepth 100000 in
theorem pickR_any (x : Int) (n : Nat) (w : World) (h1 : 1 ≤ n) (h2 : n ≤ 100000) :
    Calls Tryz.prog 6 #[.int .i64 x, .int .i64 (n : Int)] w fun e w' => e = .returned (.int .i64 (((x % 18446744073709551616 % (n : Int)).toNat : Nat) : Int)) ∧ w' = w := by
  go_enter Tryz.func6, Tryz.ntmps6
  go_wp2_with fail
  refine bodyPost_ret (results_tmp rfl _ _ _) rfl ⟨?_, rfl⟩
  have e1 : IntKind.u64.wrap x = x % 18446744073709551616 := IntKind.wrap_u64 x
  have h3 : 0 ≤ x % 18446744073709551616 := Int.emod_nonneg _ (by decide)
  have h4 : 0 ≤ x % 18446744073709551616 % (n : Int) := Int.emod_nonneg _ (by omega)
  have h5 : x % 18446744073709551616 % (n : Int) < (n : Int) := Int.emod_lt_of_pos _ (by omega)
  have e2 : wrap64 (x % 18446744073709551616 % (n : Int)) = (((x % 18446744073709551616 % (n : Int)).toNat : Nat) : Int) := by unfold wrap64; omega
  rw [e1, Int.tmod_eq_emod_of_nonneg h3, e2]
  rfl
theorem pick_lt (x : Int) (n : Nat) (h : 1 ≤ n) : (x % 18446744073709551616 % (n : Int)).toNat < n := by
  have h4 : 0 ≤ x % 18446744073709551616 % (n : Int) := Int.emod_nonneg _ (by omega)
  have h5 : x % 18446744073709551616 % (n : Int) < (n : Int) := Int.emod_lt_of_pos _ (by omega)
  omega
/-- a row that was made -/
theorem own_made (W : World) (q : Nat) (e : TypeId) (xs : List Value) (hq : q ≤ W.heap.size) (hl : xs.length ≤ maxLen) : (W.alloc (.cells ⟨xs⟩ e)).ownsRow q e 1 (.slice (some ⟨W.heap.size, 0, none⟩) xs.length xs.length) xs.length xs :=
  ⟨by simp, .inr ⟨W.heap.size, xs.length, ⟨xs⟩, rfl, hq, heap_alloc_new _ _, Nat.le_refl _, hl, by simp, by simp⟩⟩
/-- rows of bools, put in together -/
theorem InsR.puts {q : Nat} {W W' : World} {o o' : Value} {us vs : List Value} {bs cs : List (List Bool)} (h : InsR q W o us bs) (hl : vs.length = cs.length) (hu : ∀ (j : Nat) (u : Value) (b : List Bool), vs[j]? = some u → cs[j]? = some b → W.ownsRow q 4 1 u b.length (b.map boolV)) (ob : Obj) (hown : W'.ownsRow q 39 1 o' (bs.length + cs.length) (us ++ vs)) (hg : (W.alloc ob).grownBy W' o.ownBlock) :
    InsR q W' o' (us ++ vs) (bs ++ cs) := by
  have hk : ∀ (u : Value) (b : List Bool), W.ownsRow q 4 1 u b.length (b.map boolV) → W'.ownsRow q 4 1 u b.length (b.map boolV) := fun u b hu =>
    (hu.alloc ob).kept hg (own_apart hu h.own (by decide))
  refine ⟨by simp [h.len, hl], by simpa using hown, ?_⟩
  intro j x y hj hy
  by_cases hjl : j < bs.length
  · rw [List.getElem?_append_left (by rw [h.len]; exact hjl)] at hj
    rw [List.getElem?_append_left hjl] at hy
    exact hk _ _ (h.at_ j x y hj hy)
  · rw [List.getElem?_append_right (by rw [h.len]; omega), h.len] at hj
    rw [List.getElem?_append_right (by omega)] at hy
    exact hk _ _ (hu _ x y hj hy)
/-- the names of routes -/
theorem l_name (i : Nat) (h : i < 3) : ∃ d : UInt8, Ro.pnm 108 i = [108, d] ∧ d.toNat = 48 + i := by
  match i, h with
  | 0, _ => exact ⟨48, rfl, rfl⟩
  | 1, _ => exact ⟨49, rfl, rfl⟩
  | 2, _ => exact ⟨50, rfl, rfl⟩
end
section
namespace Ro
open Go.RowKit
def r0 : Rt := ⟨[0], []⟩
def t0 : Tbl := ⟨1, 0, [r0, r0]⟩
theorem check_t0 : check t0 = none := by decide
theorem good_t0 : Good t0 := by
  have h : ∀ r, r ∈ t0.rts → r = r0 := fun r hr => by simpa [t0] using hr
  refine ⟨by decide, fun r hr s hs => ?_, fun r hr => ?_, fun r hr => ?_, fun r hr => ?_⟩
  · rw [h r hr] at hs
    have : s = 0 := by simpa [r0] using hs
    subst this
    decide
  · rw [h r hr]; decide
  · rw [h r hr]; decide
  · rw [h r hr]; decide
theorem clash_r0 : clash r0 r0 = true := by decide
theorem rungs_t0 : (ladderRg t0 0).length = 4 := by
  unfold ladderRg
  simp [t0, layTo]
set_option maxHeartbeats 8000000 in
set_option maxRecDepth 100000 in
theorem routed_any (w : World) : Calls Tryz.prog 5 #[] w fun e w' => e = .returned (.bool true) ∧ Below w.heap.size w w' := by
  have q1 : ∀ w : World, (binOp BinOp.eql 31 .nilIface .nilIface).run Tryz.prog w = .ok (.bool true) w := fun w => by kernel_rfl
  obtain ⟨w1, hw1⟩ : ∃ w1, w1 = w.alloc (.cells #[.int .i64 0] 3) := ⟨_, rfl⟩
  have b1 : Below w.heap.size w w1 := by rw [hw1]; exact newB _ _
  have s1 : w1.heap.size = w.heap.size + 1 := by rw [hw1]; simp
  have r1 : RowIs w1 w.heap.size 3 [.int .i64 0] := by rw [hw1]; exact RowIs.new _ _ _
  obtain ⟨w2, hw2⟩ : ∃ w2, w2 = w1.alloc (.cells #[.slice (some ⟨w.heap.size, 0, none⟩) 1 1, .slice none 0 0] 57) := ⟨_, rfl⟩
  have b2 : Below w1.heap.size w1 w2 := by rw [hw2]; exact newB _ _
  have s2 : w2.heap.size = w.heap.size + 1 + 1 := by rw [hw2]; simp [s1]
  have r2 : RowIs w2 (w.heap.size + 1) 57 [.slice (some ⟨w.heap.size, 0, none⟩) 1 1, .slice none 0 0] := by rw [hw2, ← s1]; exact RowIs.new _ _ _
  obtain ⟨w3, hw3⟩ : ∃ w3, w3 = w2.alloc (.cells #[.slice (some ⟨w.heap.size, 0, none⟩) 1 1, .slice none 0 0, .slice (some ⟨w.heap.size, 0, none⟩) 1 1, .slice none 0 0] 57) := ⟨_, rfl⟩
  have b3 : Below w2.heap.size w2 w3 := by rw [hw3]; exact newB _ _
  have s3 : w3.heap.size = w.heap.size + 1 + 1 + 1 := by rw [hw3]; simp [s2]
  have r3 : RowIs w3 (w.heap.size + 1 + 1) 57 [.slice (some ⟨w.heap.size, 0, none⟩) 1 1, .slice none 0 0, .slice (some ⟨w.heap.size, 0, none⟩) 1 1, .slice none 0 0] := by rw [hw3, ← s2]; exact RowIs.new _ _ _
  obtain ⟨w4, hw4⟩ : ∃ w4, w4 = w3.alloc (.cells #[.int .i64 1, .int .i64 0, .slice (some ⟨w.heap.size + 1 + 1, 0, none⟩) 2 2] 24) := ⟨_, rfl⟩
  have b4 : Below w3.heap.size w3 w4 := by rw [hw4]; exact newB _ _
  have hI : Ints w4 (.slice (some ⟨w.heap.size, 0, none⟩) 1 1) r0.secs := by
    have hr := ((r1.below b2).below b3).below b4
    exact ⟨_, _, rfl, by decide, fun k x hx => by
      have hk : k = 0 := by have := (List.getElem?_eq_some_iff.1 hx).1; simp [r0] at this; exact this
      subst hk
      cases hx
      exact ⟨_, _, rfl, by decide, hr.cell 0 _ rfl, by unfold I64; omega⟩⟩
  have hP : Pts w4 (.slice none 0 0) r0.pts := ⟨none, 0, rfl, by decide, fun k x hx => by simp [r0] at hx⟩
  have hR : Rts w4 (.slice (some ⟨w.heap.size + 1 + 1, 0, none⟩) 2 2) t0.rts := by
    have hr := r3.below b4
    refine ⟨_, _, rfl, by decide, fun k x hx => ?_⟩
    have hk : k = 0 ∨ k = 1 := by have := (List.getElem?_eq_some_iff.1 hx).1; simp [t0] at this; omega
    rcases hk with rfl | rfl
    · cases hx
      exact ⟨_, _, _, _, rfl, by decide, hr.cell 0 _ rfl, hr.cell 1 _ rfl, hI, hP, by decide⟩
    · cases hx
      exact ⟨_, _, _, _, rfl, by decide, hr.cell 2 _ rfl, hr.cell 3 _ rfl, hI, hP, by decide⟩
  have HLD := hide (Ladder_any t0 _ 1 0 w4 hR good_t0 check_t0 (by decide) rfl (by decide) rfl (by decide))
  have HCL := hide (fun W (hW : Below w4.heap.size w4 W) => Clash_any r0 r0 _ _ _ _ W (hI.below hW) (hP.below hW) (hI.below hW) (hP.below hW) (by decide) (by decide))
  have HR2 : Hid (RowIs w4 (w.heap.size + 1) 57 [.slice (some ⟨w.heap.size, 0, none⟩) 1 1, .slice none 0 0]) := (r2.below b3).below b4
  have HB : Hid (Below w.heap.size w w4) := then_ (then_ (then_ b1 b2) b3) b4
  have hw : w4 = (((w.alloc (.cells #[.int .i64 0] 3)).alloc (.cells #[.slice (some ⟨w.heap.size, 0, none⟩) 1 1, .slice none 0 0] 57)).alloc (.cells #[.slice (some ⟨w.heap.size, 0, none⟩) 1 1, .slice none 0 0, .slice (some ⟨w.heap.size, 0, none⟩) 1 1, .slice none 0 0] 57)).alloc (.cells #[.int .i64 1, .int .i64 0, .slice (some ⟨w.heap.size + 1 + 1, 0, none⟩) 2 2] 24) := by rw [hw4, hw3, hw2, hw1]
  have HW := hide hw
  rw [show t0.secs = 1 from rfl, show t0.pts = 0 from rfl] at HLD
  rw [clash_r0] at HCL
  clear hw hw4 hw3 hw2 hw1 hI hP hR r1 r2 r3 s1 s2 s3 b1 b2 b3 b4
  go_enter Tryz.func5, Tryz.ntmps5
  go_wp2_with fail
  rw [← HW.out]
  refine HLD.out.mono ?_
  rintro e w5 ⟨nv, pv, rfl, hp5, hb5⟩
  obtain ⟨hn5, l, hl5, hr5, -⟩ := hp5
  have hll : l.length = 4 := by
    have h := congrArg List.length hl5
    rw [List.length_map, rungs_t0] at h
    exact h
  rw [hll] at hr5
  rw [show t0.rts.length + 1 + t0.rts.length + 0 = 5 from rfl] at hn5
  obtain ⟨na, nc, rfl⟩ := own_slice hn5
  obtain ⟨pa, pc, rfl⟩ := own_slice hr5
  obtain ⟨w6, hw6⟩ : ∃ w6, w6 = w5.alloc (.cells #[.slice na 5 nc, .slice pa 4 pc] 29) := ⟨_, rfl⟩
  have hb6 : Below w5.heap.size w5 w6 := by rw [hw6]; exact newB _ _
  have r6 : RowIs w6 w5.heap.size 29 [.slice na 5 nc, .slice pa 4 pc] := by rw [hw6]; exact RowIs.new _ _ _
  have HB6 := hide (then_ hb5 hb6)
  have rr := HR2.out.below HB6.out
  have x0 := rr.cell 0 _ rfl
  have x1 := rr.cell 1 _ rfl
  have HC6 := hide (HCL.out w6 HB6.out)
  have HK6 : Hid (∀ W, Below w6.heap.size w6 W → W.cell? ⟨w5.heap.size, 0, none⟩ = some (.slice na 5 nc) ∧ W.cell? ⟨w5.heap.size, 1, none⟩ = some (.slice pa 4 pc)) := fun W hW => ⟨kept hW (r6.cell 0 _ rfl), kept hW (r6.cell 1 _ rfl)⟩
  have HW6 := hide hw6
  rw [hw6] at x0 x1
  clear hn5 hl5 hr5 hll hb5 hw6 hb6 r6 rr HLD HW
  go_wp2_with fail
  rw [← HW6.out]
  refine HC6.out.mono ?_
  rintro e w7 ⟨rfl, hb7⟩
  obtain ⟨y0, y1⟩ := HK6.out w7 hb7
  have HB7 := hide (then_ HB.out (then_ HB6.out hb7))
  clear hb7 HC6 x0 x1
  go_wp2_with fail
  go_ret
  exact ⟨rfl, HB7.out⟩
end Ro
end
end Go.Proofs.YtflonjbbolmelaaGreatDoor
