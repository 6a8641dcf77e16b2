/-
  The walks of slices.Grow and slices.Concat over rungs.
-/
import Derived.Test.YtjnmeacblefkgaaDoorRoNames
import Derived.Lib.AppendZeros
namespace Go.Proofs.YtjnmeacblefkgaaDoor
namespace Ro
open Go.RowKit
theorem append_rungs {W : World} (base base2 : Nat) (ty : TypeId) (v : Value) (n : Nat) (xs : List Value) (a : Option Addr) (m c : Nat) (us : List Value) (hown : W.ownsRow base 52 3 v n xs) (hs : W.ownsRow base2 52 3 (.slice a m c) m us) (hone : ∀ u, u ∈ us → u.oneCell' = true) (hb : base ≤ W.heap.size) (hx : n ≤ 1000) (hu : m ≤ 1000) :
    ∃ v' W', (Builtin.append_ #[32, 32] ty #[v, .slice a m c]).run Tryd.prog W = .ok v' W' ∧ W'.ownsRow base 52 3 v' (n + m) (xs ++ us) ∧ W.grownBy W' v.ownBlock := by
  obtain ⟨i0, hi0, hz0, hz1, hz2⟩ := info_parts Tryd.infoRung
  rcases hs.2 with ⟨e1, h0⟩ | ⟨g, cap, cur, e1, _, hcur, hcap, _, _, htk⟩
  · have h3 := hs.1
    rw [h0, Nat.zero_mul] at h3
    have : us = [] := List.length_eq_zero_iff.1 h3
    subst this
    subst h0
    exact ⟨v, W, append_zero base _ ty _ i0 3 Tryd.underlying32 hi0 v _ _ hown _ _, by simpa using hown, ⟨rfl, rfl, rfl, Nat.le_refl _, fun _ _ _ => rfl⟩⟩
  · simp only [Value.slice.injEq] at e1
    obtain ⟨rfl, _, rfl⟩ := e1
    obtain ⟨v', W', h1, h2, h3, _⟩ := run_append_own_at (P := Tryd.prog) W base 32 ty 52 i0 _ 3 40 Tryd.underlying32 hi0 hz0 hz1 hz2 rfl (by decide) v n xs hown ⟨g, 0, none⟩ m c us hs.1 (fun j u hj => by
        have := row_cell hcur htk hj
        cases j <;> simpa [Addr.add] using this) hone (by unfold maxLen; omega) (by omega) hb
    exact ⟨v', W', h1, h2, h3⟩
set_option maxHeartbeats 2000000 in
set_option maxRecDepth 100000 in
theorem growR_any (t : Nat) (h0 : 0 < t) (h60 : t ≤ 1000) (w : World) :
    Calls Tryd.prog 24 #[.slice none 0 0, .int .i64 (t : Int)] w fun e w' => ∃ v, e = .returned v ∧ w'.ownsRow w.heap.size 52 3 v 0 [] ∧ Below w.heap.size w w' := by
  obtain ⟨i0, hi0, hz0, hz1, hz2⟩ := info_parts Tryd.infoRung
  have HA := hide (fun (W : World) (ty : TypeId) => Lib.run_append_nil_zeros (P := Tryd.prog) W 32 3 ty 52 i0 _ .i64 .i64 Tryd.underlying32 Tryd.underlying3 hi0 hz0 t h0 (by omega) (by omega) (by rw [hz2]; omega))
  have hti : (0 : Int) < (t : Int) := by omega
  have HCG := hide (grownCap_ge w t 0 52)
  have HCM := hide (grownCap_le_maxLen w t 0 52 (by unfold maxLen; omega))
  clear hi0 hz0 hz1 hz2
  go_enter Tryd.func24, Tryd.ntmps24
  go_wp2_with (at_builtin; refine Lib.wpList_append_run _ rfl _ _ _ _ rfl _ _ rfl rfl _ _ (HA.out _ _) ?_)
  go_ret
  refine ⟨_, rfl, ⟨by simp, .inr ⟨w.heap.size, grownCap w t 0 52, _, rfl, Nat.le_refl _, heap_alloc_new w _, Nat.zero_le _, HCM.out, ?_, by simp⟩⟩, ?_⟩
  · have := HCG.out
    simp [Builtin.zeroCells]
    omega
  · exact ((Below.refl _ w).alloc (Nat.le_refl _) _).trans ⟨rfl, rfl, rfl, Nat.le_refl _, fun _ _ => rfl⟩
def sumN (f : Nat → Nat) : Nat → Nat
  | 0 => 0
  | k + 1 => sumN f k + f k
def catN (f : Nat → List Value) : Nat → List Value
  | 0 => []
  | k + 1 => catN f k ++ f k
/-- three rows of rungs that lie in a row -/
def Src (w : World) (g : Nat) (nN : Nat → Nat) (aN : Nat → Option Addr) (cN : Nat → Nat) (usN : Nat → List Value) : Prop := ∀ k, k < 3 → w.cell? ⟨g, k, none⟩ = some (.slice (aN k) (nN k) (cN k)) ∧ w.ownsRow 0 52 3 (.slice (aN k) (nN k) (cN k)) (nN k) (usN k) ∧ (∀ u, u ∈ usN k → u.oneCell' = true) ∧ nN k ≤ 100
theorem Src.below {w w' : World} {g : Nat} {nN : Nat → Nat} {aN : Nat → Option Addr} {cN : Nat → Nat} {usN : Nat → List Value} (h : Src w g nN aN cN usN) (hb : Below w.heap.size w w') : Src w' g nN aN cN usN := fun k hk => ⟨kept hb (h k hk).1, own_below (h k hk).2.1 hb, (h k hk).2.2⟩
set_option maxHeartbeats 4000000 in
set_option maxRecDepth 100000 in
theorem concatR_any (g : Nat) (nN : Nat → Nat) (aN : Nat → Option Addr) (cN : Nat → Nat) (usN : Nat → List Value) (w : World) (h : Src w g nN aN cN usN) (h0 : 0 < nN 0) :
    Calls Tryd.prog 13 #[.slice (some ⟨g, 0, none⟩) 3 3] w fun e w' => ∃ v, e = .returned v ∧ w'.ownsRow w.heap.size 52 3 v (sumN nN 3) (catN usN 3) ∧ Below w.heap.size w w' := by
  have HS := hide h
  have n0 := (h 0 (by omega)).2.2.2
  have n1 := (h 1 (by omega)).2.2.2
  have n2 := (h 2 (by omega)).2.2.2
  have hsum : 0 < sumN nN 3 ∧ sumN nN 3 ≤ 300 := by simp only [sumN]; omega
  have HG := hide (fun W => growR_any (sumN nN 3) hsum.1 (by omega) W)
  have HSB : Hid (∀ k, k ≤ 3 → sumN nN k ≤ 300) := fun k hk => by
    have : k = 0 ∨ k = 1 ∨ k = 2 ∨ k = 3 := by omega
    rcases this with rfl | rfl | rfl | rfl <;> simp only [sumN] <;> omega
  have HSUC : Hid (∀ k, sumN nN (k + 1) = sumN nN k + nN k) := fun k => rfl
  have HCUC : Hid (∀ k, catN usN (k + 1) = catN usN k ++ usN k) := fun k => rfl
  clear h h0 n0 n1 n2
  generalize hS3 : sumN nN 3 = S3 at *
  have HS3 := hide hS3
  clear hS3
  go_enter Tryd.func13, Tryd.ntmps13
  go_wp2_with fail
  go_loop [11, 3] (fun i s => ∃ (k q : Nat), k ≤ 3 ∧ i = .int .i64 (k : Int) ∧ s = .int .i64 (q : Int) ∧ q ≤ 300 ∧ Hid (q = sumN nN k)) (fun i _ => 3 - (intOf i).toNat)
  case atStart => exact ⟨0, 0, by omega, rfl, rfl, by omega, rfl⟩
  case round =>
    obtain ⟨k, q, hk, rfl, rfl, hq, HQ⟩ := hrel
    by_cases hlt : k < 3
    · obtain ⟨c0, _, _, hn⟩ := HS.out k hlt
      have hki : (k : Int) < 3 := by omega
      have hsb := HSB.out (k + 1) (by omega)
      have HQ2 : Hid (q + nN k = sumN nN (k + 1)) := by show _ = _; rw [HSUC.out, HQ.out]
      have hqn : q + nN k ≤ 300 := by rw [HQ2.out]; exact hsb
      have hni : ¬ ((q : Int) + (nN k : Int) < 0) := by omega
      clear hsb
      generalize nN k = m at *
      generalize aN k = a at *
      generalize cN k = c at *
      go_wp2_with fail
      go_round
      case rel => exact ⟨k + 1, q + m, by omega, by go_num, by go_num, by omega, HQ2.out⟩
      case measure => simp [intOf]; omega
    · have hk3 : k = 3 := by omega
      subst hk3
      have hq3 : q = S3 := HQ.out.trans HS3.out
      subst hq3
      have hki : ¬ ((3 : Int) < 3) := by omega
      have HGW := hide (HG.out w)
      clear hk HQ HG
      go_wp2_with fail
      refine HGW.out.mono ?_
      rintro e w1 ⟨v1, rfl, hown1, hb1⟩
      have HO1 := hide hown1
      have HB1 := hide hb1
      obtain ⟨a1, cp1, rfl⟩ := own_slice hown1
      clear hown1 hb1 HGW
      go_wp2_with fail
      go_loopw [27, 6] (fun i s wr => ∃ (k q : Nat) (a : Option Addr) (c : Nat), k ≤ 3 ∧ i = .int .i64 (k : Int) ∧ s = .slice a q c ∧ q ≤ 300 ∧ Hid (q = sumN nN k) ∧ Hid (wr.ownsRow w.heap.size 52 3 (.slice a q c) q (catN usN k)) ∧ Hid (Below w.heap.size w wr)) (fun i _ _ => 3 - (intOf i).toNat)
      case atStart => exact ⟨0, 0, a1, cp1, by omega, rfl, rfl, by omega, rfl, HO1.out, HB1.out⟩
      case round =>
        obtain ⟨k, r, a2, c2, hk, rfl, rfl, hr, HQ, HO, HB⟩ := hrel
        by_cases hlt : k < 3
        · obtain ⟨c0, hs, hone, hn⟩ := (HS.out.below HB.out) k hlt
          have hki : (k : Int) < 3 := by omega
          have hsb := HSB.out (k + 1) (by omega)
          have HQ2 : Hid (r + nN k = sumN nN (k + 1)) := by show _ = _; rw [HSUC.out, HQ.out]
          have hqn : r + nN k ≤ 300 := by rw [HQ2.out]; exact hsb
          obtain ⟨v', W', r1, r2, r3⟩ := append_rungs w.heap.size 0 32 (.slice a2 r c2) r (catN usN k) (aN k) (nN k) (cN k) (usN k) HO.out hs hone HB.out.size (by omega) (by omega)
          have HR1 := hide r1
          have HO2 : Hid (W'.ownsRow w.heap.size 52 3 v' (r + nN k) (catN usN (k + 1))) := by rw [HCUC.out]; exact r2
          have HB2 := hide (below_grown HB.out r3 (ownBlock_new HO.out))
          obtain ⟨a3, c3, rfl⟩ := own_slice r2
          clear r1 r2 r3 hs hone hsb hn
          generalize nN k = m at *
          generalize aN k = a at *
          generalize cN k = c at *
          go_wp2_with (at_builtin; refine Lib.wpList_append_run _ rfl _ _ _ _ rfl _ _ rfl rfl _ _ HR1.out ?_)
          go_roundw
          case rel => exact ⟨k + 1, r + m, a3, c3, by omega, by go_num, rfl, by omega, HQ2.out, HO2.out, HB2.out⟩
          case measure => simp [intOf]; omega
        · have hk3 : k = 3 := by omega
          subst hk3
          have hq3 : r = q := HQ.out.trans HS3.out
          subst hq3
          clear hk HQ
          go_wp2_with fail
          go_ret
          exact ⟨_, rfl, HO.out, HB.out⟩
end Ro
end Go.Proofs.YtjnmeacblefkgaaDoor
