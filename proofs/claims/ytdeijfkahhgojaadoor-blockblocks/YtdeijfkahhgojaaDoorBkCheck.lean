/-
  The walk of package block's Check.
-/
import Derived.Test.YtdeijfkahhgojaaDoorBkIdx
namespace Go.Proofs.YtdeijfkahhgojaaDoor
namespace Bk
open Go.RowKit
set_option maxHeartbeats 2000000 in
set_option maxRecDepth 100000 in
theorem check1_any (x : Int) (b n : Nat) (a : Option Addr) (c : Nat) (tv : Value) (w : World) (ht : ∃ a n c, tv = .slice a n c) (hb : Tab w b (.slice a n c) tv) :
    Calls Tryd.prog 24 #[.int .i64 x, .pointer (some ⟨b, 0, none⟩)] w fun e w' => e = .returned (.bool (!hasB n x)) ∧ Below w.heap.size w w' := by
  have HC := hide (hasState_any x n a c tv w ht)
  obtain ⟨ta, tn, tc, rfl⟩ := ht
  obtain ⟨c0, c1⟩ := hb
  generalize hasB n x = y at *
  go_enter Tryd.func24, Tryd.ntmps24
  go_wp2_with fail
  refine HC.out.mono ?_
  rintro e w1 ⟨rfl, hb1⟩
  have HB := hide hb1
  clear hb1 HC
  cases y
  all_goals
    go_wp2_with fail
    go_ret
    exact ⟨rfl, HB.out⟩
/-- the function that tells which states are not there -/
theorem check1_pred (b n : Nat) (a : Option Addr) (c : Nat) (tv : Value) (w : World) (ht : ∃ a n c, tv = .slice a n c) (hb : Tab w b (.slice a n c) tv) :
    SPred w (.func (.func 24) #[] #[.pointer (some ⟨b, 0, none⟩)]) (fun _ => True) (fun x => !hasB n x) :=
  ⟨_, _, rfl, .inl ⟨_, rfl⟩, fun _ _ => by kernel_rfl, fun x W hW _ => check1_any x b n a c tv W ht (hb.below hW)⟩
/-- what Check comes to -/
def ChkDone (w : World) (N T : List (List Int)) (e : Ending) (w' : World) : Prop := ∃ v, e = .returned v ∧ ErrIs w' v (check N T) ∧ Below w.heap.size w w'
set_option maxHeartbeats 8000000 in
set_option maxRecDepth 100000 in
theorem Check_any (N T : List (List Int)) (nv tv : Value) (w : World) (hN : Rows w nv N) (hT : Rows w tv T) :
    Calls Tryd.prog 9 #[.agg #[nv, tv]] w (ChkDone w N T) := by
  have hmf : ∀ (fn : Fn) (first cap : Array Value) (w : World), (Instr.makeFunc fn first cap).run Tryd.prog w = .ok (.func fn first cap) w := fun _ _ _ _ => rfl
  have HN := hide hN
  have HT := hide hT
  have hlN := hN.len
  have hlT := hT.len
  unfold maxLen at hlN hlT
  obtain ⟨na, nc, rfl⟩ := hN.slice
  obtain ⟨ta, tc, rfl⟩ := hT.slice
  obtain ⟨n, hn⟩ : ∃ n, n = N.length := ⟨_, rfl⟩
  obtain ⟨m, hm⟩ : ∃ m, m = T.length := ⟨_, rfl⟩
  have HNn := hide hn
  have HMm := hide hm
  rw [← hn] at HN hlN ⊢
  rw [← hm] at HT hlT ⊢
  have HDA : Hid (Below w.heap.size w (w.alloc (.cells #[.slice na n nc, .slice ta m tc] 24))) := (Below.refl _ _).alloc (Nat.le_refl _) _
  by_cases h1 : n < 1
  · have HC : Hid (check N T = some (4, none)) := check_limit (.inl (by rw [← hn]; exact h1))
    have h1i : (n : Int) < 1 := by omega
    clear hn hm hN hT
    go_enter Tryd.func9, Tryd.ntmps9
    go_wp2_with fail
    go_ret
    exact ⟨_, rfl, by rw [HC.out]; rfl, HDA.out⟩
  · have h1i : ¬ (n : Int) < 1 := by omega
    by_cases h2 : 500 < n
    · have HC : Hid (check N T = some (4, none)) := check_limit (.inr (.inl (by rw [← hn]; exact h2)))
      have h2i : (500 : Int) < n := by omega
      clear hn hm hN hT
      go_enter Tryd.func9, Tryd.ntmps9
      go_wp2_with fail
      go_ret
      exact ⟨_, rfl, by rw [HC.out]; rfl, HDA.out⟩
    · have h2i : ¬ (500 : Int) < n := by omega
      have hp0 : 0 < N.length := by omega
      have h0 := List.getElem?_eq_getElem hp0
      have hz : N.getD 0 [] = N[0] := getD_in _ _ _ hp0
      obtain ⟨gN, oN, rfl, ur, dr, cr, _⟩ := HN.out.cell 0 _ h0
      simp only [Nat.add_zero] at cr
      have hgl := World.block_lt_of_cell? _ _ cr
      have HIN := hide (fun W (hW : Below w.heap.size w W) => inputs_any N N[0] _ (.slice ta m tc) W (HN.out.below hW) h0 ⟨_, _, _, rfl⟩)
      obtain ⟨k, hk⟩ : ∃ k, k = N[0].length := ⟨_, rfl⟩
      have HK : Hid (k = (N.getD 0 []).length) := by rw [hz]; exact hk
      rw [← hk] at HIN cr
      have hpi : (0 : Int) < (n : Int) := by omega
      clear hz h0
      by_cases h3 : 64 < k
      · have HC : Hid (check N T = some (4, none)) := check_limit (.inr (.inr (by rw [← HK.out]; exact h3)))
        have h3i : (64 : Int) < k := by omega
        clear hn hm hN hT hk
        go_enter Tryd.func9, Tryd.ntmps9
        go_wp2_with fail
        go_ret
        exact ⟨_, rfl, by rw [HC.out]; rfl, HDA.out⟩
      · have h3i : ¬ (64 : Int) < k := by omega
        have hlim : ¬ (N.length < 1 ∨ 500 < N.length ∨ 64 < (N.getD 0 []).length) := by rw [← hn, ← HK.out]; omega
        by_cases h4 : m = n
        · have HL := hide hlim
          have HMN : Hid (T.length = N.length) := by rw [← hm, ← hn]; exact h4
          subst h4
          clear hn hm hN hT hk hlim hlT
          obtain ⟨wA, hwA⟩ : ∃ wA, wA = w.alloc (.cells #[.slice (some ⟨gN, oN, none⟩) m nc, .slice ta m tc] 24) := ⟨_, rfl⟩
          have HWA := hide hwA
          have HTA : Hid (Tab wA w.heap.size (.slice (some ⟨gN, oN, none⟩) m nc) (.slice ta m tc)) := by rw [hwA]; exact Tab.new _ _ _
          rw [← hwA] at HDA
          go_enter Tryd.func9, Tryd.ntmps9
          go_wp2_with fail
          rw [← hwA]
          clear hwA
          go_loopw [35] (fun i wr => ∃ s : Nat, s ≤ m ∧ i = .int .i64 (s : Int) ∧ Hid (∀ r, r < s → badAt N T r = none) ∧ Hid (Below wA.heap.size wA wr)) (fun i _ => m - (intOf i).toNat)
          case atStart => exact ⟨0, Nat.zero_le _, rfl, fun r hr => by omega, Below.refl _ _⟩
          case round =>
            obtain ⟨s, hs, rfl, HBF, HB⟩ := hrel
            have HBW := hide (HDA.out.trans (HB.out.mono HDA.out.size))
            obtain ⟨t0, t1⟩ := HTA.out.below HB.out
            by_cases hlt : s < m
            · have hsN : s < N.length := by rw [← HNn.out]; exact hlt
              have hsT : s < T.length := by rw [HMN.out]; exact hsN
              obtain ⟨g1, o1, e1, u1, d1, c1, hi1⟩ := (HN.out.below HBW.out).cell s _ (List.getElem?_eq_getElem hsN)
              simp only [Option.some.injEq, Addr.mk.injEq, and_true] at e1
              obtain ⟨rfl, rfl⟩ := e1
              obtain ⟨g2, o2, rfl, u2, d2, c2, hi2⟩ := (HT.out.below HBW.out).cell s _ (List.getElem?_eq_getElem hsT)
              have eN : N.getD s [] = N[s] := getD_in _ _ _ hsN
              have eT : T.getD s [] = T[s] := getD_in _ _ _ hsT
              have HBAD : Hid (badAt N T s = rowBad m k N[s] T[s]) := by show badAt N T s = _; unfold badAt; rw [eN, eT, ← HNn.out, ← HK.out]
              have HCB : Hid (∀ e, rowBad m k N[s] T[s] = some e → check N T = some (e, some s)) := fun e he => check_bad HL.out HMN.out s e hsN HBF.out (HBAD.out.trans he)
              have HI1 := hide hi1
              have HI2 := hide hi2
              clear eN eT hi1 hi2
              generalize N[s] = r at *
              generalize T[s] = tr at *
              have hsi : (s : Int) < (m : Int) := by omega
              have HKS : Hid (∀ W, Below wr.heap.size wr W → W.cell? ⟨w.heap.size, 0, none⟩ = some (.slice (some ⟨gN, oN, none⟩) m nc) ∧ W.cell? ⟨w.heap.size, 1, none⟩ = some (.slice (some ⟨g2, o2, none⟩) m tc) ∧ W.cell? ⟨g2, o2 + s, none⟩ = some (.slice u2 tr.length d2)) := fun W hW => ⟨kept hW t0, kept hW t1, kept hW c2⟩
              have HD := hide (drewB wr)
              have HCF := hide (fun W (hW : Below wr.heap.size wr W) => containsF_any r _ _ _ _ W (HI1.out.below hW) (fun _ _ => trivial) (check1_pred w.heap.size m (some ⟨gN, oN, none⟩) nc (.slice (some ⟨g2, o2, none⟩) m tc) W ⟨_, _, _, rfl⟩ ⟨kept hW t0, kept hW t1⟩))
              obtain ⟨q, hq⟩ : ∃ q, q = tr.length := ⟨_, rfl⟩
              obtain ⟨z, hz⟩ : ∃ z, z = r.length := ⟨_, rfl⟩
              have HQ := hide hq
              have HZ := hide hz
              rw [← hq] at HKS c2 HI2
              rw [← hz] at c1 HI1 HCF
              clear hq hz
              by_cases hz1 : z = k
              · by_cases hq1 : q = k
                · subst hz1
                  subst hq1
                  go_wp2_with fail
                  go_region_held3 (fun W => W.cell? ⟨w.heap.size, 0, none⟩ = some (.slice (some ⟨gN, oN, none⟩) m nc) ∧ W.cell? ⟨w.heap.size, 1, none⟩ = some (.slice (some ⟨g2, o2, none⟩) m tc) ∧ W.cell? ⟨g2, o2 + s, none⟩ = some (.slice u2 q d2)) ((refine HKS.out _ ?_; first | exact HD.out | exact HB2.out | exact HB3.out | exact Below.refl _ _)) ((first
                    | (go_at_call 22; (with_reducible refine (HIN.out _ (HBW.out.trans (HD.out.mono HBW.out.size))).mono ?_); rintro e w2 ⟨rfl, hb2⟩; have HB2 : Hid (Below wr.heap.size wr w2) := then_ HD.out hb2; clear hb2)
                    | (go_at_call 22; (with_reducible refine (HIN.out _ (HBW.out.trans (HB2.out.mono HBW.out.size))).mono ?_); rintro e w3 ⟨rfl, hb3⟩; have HB3 : Hid (Below wr.heap.size wr w3) := then_ HB2.out hb3; clear hb3)))
                  cases hy : r.any (fun x => !hasB m x) with
                  | true =>
                    have HCK : Hid (check N T = some (2, some s)) := HCB.out 2 (by unfold rowBad; rw [if_pos ⟨HZ.out.symm, HQ.out.symm⟩, if_pos hy])
                    rw [hy] at HCF
                    clear hy
                    go_wp2_with (go_at_call 23; (with_reducible refine (HCF.out _ HB3.out).mono ?_); rintro e w4 ⟨rfl, hb4⟩; have HB4 := hide (HBW.out.trans ((then_ HB3.out hb4).mono HBW.out.size)); clear hb4)
                    go_ret
                    refine ⟨_, rfl, ?_, HB4.out.alloc HB4.out.size _⟩
                    rw [HCK.out]
                    exact ⟨_, rfl, by rw [Lib.cell_of_heap (heap_alloc_new _ _)]; rfl, by rw [Lib.cell_of_heap (heap_alloc_new _ _)]; rfl⟩
                  | false =>
                    have HNX : Hid (∀ x, x < s + 1 → badAt N T x = none) := fun x hx => by
                      by_cases hxs : x = s
                      · rw [hxs, HBAD.out]; unfold rowBad; rw [if_pos ⟨HZ.out.symm, HQ.out.symm⟩, if_neg (by rw [hy]; decide)]
                      · exact HBF.out x (by omega)
                    rw [hy] at HCF
                    clear hy
                    go_wp2_with (go_at_call 23; (with_reducible refine (HCF.out _ HB3.out).mono ?_); rintro e w4 ⟨rfl, hb4⟩; have HB4 := hide (HB.out.trans ((then_ HB3.out hb4).mono HB.out.size)); clear hb4)
                    go_roundw
                    case rel => exact ⟨s + 1, by omega, by go_num, HNX.out, HB4.out⟩
                    case measure => simp [intOf]; omega
                · have HCK : Hid (check N T = some (3, some s)) := HCB.out 3 (by unfold rowBad; rw [if_neg (fun h => hq1 (HQ.out.trans h.2))])
                  have hqi : ¬ (q : Int) = (k : Int) := by omega
                  subst hz1
                  go_wp2_with fail
                  go_region_held3 (fun W => W.cell? ⟨w.heap.size, 0, none⟩ = some (.slice (some ⟨gN, oN, none⟩) m nc) ∧ W.cell? ⟨w.heap.size, 1, none⟩ = some (.slice (some ⟨g2, o2, none⟩) m tc) ∧ W.cell? ⟨g2, o2 + s, none⟩ = some (.slice u2 q d2)) ((refine HKS.out _ ?_; first | exact HD.out | exact HB2.out | exact HB3.out | exact Below.refl _ _)) ((first
                    | (go_at_call 22; (with_reducible refine (HIN.out _ (HBW.out.trans (HD.out.mono HBW.out.size))).mono ?_); rintro e w2 ⟨rfl, hb2⟩; have HB2 : Hid (Below wr.heap.size wr w2) := then_ HD.out hb2; clear hb2)
                    | (go_at_call 22; (with_reducible refine (HIN.out _ (HBW.out.trans (HB2.out.mono HBW.out.size))).mono ?_); rintro e w3 ⟨rfl, hb3⟩; have HB3 : Hid (Below wr.heap.size wr w3) := then_ HB2.out hb3; clear hb3)))
                  have HB4 := hide (HBW.out.trans (HB3.out.mono HBW.out.size))
                  go_wp2_with fail
                  go_ret
                  refine ⟨_, rfl, ?_, HB4.out.alloc HB4.out.size _⟩
                  rw [HCK.out]
                  exact ⟨_, rfl, by rw [Lib.cell_of_heap (heap_alloc_new _ _)]; rfl, by rw [Lib.cell_of_heap (heap_alloc_new _ _)]; rfl⟩
              · have HCK : Hid (check N T = some (3, some s)) := HCB.out 3 (by unfold rowBad; rw [if_neg (fun h => hz1 (HZ.out.trans h.1))])
                have hzi : ¬ (z : Int) = (k : Int) := by omega
                have hze : ((z : Int) == (k : Int)) = false := by simpa using hzi
                have hzd : Decidable.decide ((z : Int) = (k : Int)) = false := by simpa using hzi
                go_wp2_with fail
                refine wp_region_noPanic ?_
                refine wp_region_held_drew (S := fun W => W.cell? ⟨w.heap.size, 0, none⟩ = some (.slice (some ⟨gN, oN, none⟩) m nc) ∧ W.cell? ⟨w.heap.size, 1, none⟩ = some (.slice (some ⟨g2, o2, none⟩) m tc) ∧ W.cell? ⟨g2, o2 + s, none⟩ = some (.slice u2 q d2)) (by kernel_rfl) (HKS.out _ HD.out) (fun hHeld => ?_)
                refine take_at 0 40 (.slice u1 z d1) rfl rfl (by kernel_rfl) (by kernel_rfl) (by kernel_rfl) (fun _ _ _ h => h) hHeld (Or.inl ⟨by rfl, ?_⟩) ?_
                · rintro Z ⟨z0, z1, z2⟩
                  go_simp
                simp only [List.setIfInBounds_toArray, List.set_cons_zero, List.set_cons_succ]
                refine take_at 1 41 (.int .i64 (z : Int)) rfl rfl (by kernel_rfl) (by kernel_rfl) (by kernel_rfl) (fun _ _ _ h => h) hHeld (Or.inl ⟨by rfl, ?_⟩) ?_
                · rintro Z ⟨z0, z1, z2⟩
                  go_simp
                simp only [List.setIfInBounds_toArray, List.set_cons_zero, List.set_cons_succ]
                refine take_at 2 42 (.agg #[.slice (some ⟨gN, oN, none⟩) m nc, .slice (some ⟨g2, o2, none⟩) m tc]) rfl rfl (by kernel_rfl) (by kernel_rfl) (by kernel_rfl) (fun _ _ _ h => h) hHeld (Or.inl ⟨by rfl, ?_⟩) ?_
                · rintro Z ⟨z0, z1, z2⟩
                  go_simp
                simp only [List.setIfInBounds_toArray, List.set_cons_zero, List.set_cons_succ]
                refine wpAnyH_ready (rs := [3]) (by kernel_rfl) (by simp) ?_
                intro i hmem
                obtain rfl := List.mem_singleton.1 hmem
                refine wpOp_k rfl (by rfl) (fun K' hK => ?_)
                go_simp
                refine (HIN.out _ (HBW.out.trans (HD.out.mono HBW.out.size))).mono ?_
                rintro e w2 ⟨rfl, hb2⟩
                have HB2 : Hid (Below wr.heap.size wr w2) := then_ HD.out hb2
                have h3 := HKS.out _ HB2.out
                clear hb2 hHeld
                refine hK _ _ ⟨h3, ?_⟩
                clear hK K'
                refine take_at 4 44 (.bool true) rfl rfl (by kernel_rfl) (by kernel_rfl) (by kernel_rfl) (fun _ _ _ h => h) h3 (Or.inl ⟨by rfl, ?_⟩) ?_
                · rintro Z ⟨z0, z1, z2⟩
                  go_simp
                simp only [List.setIfInBounds_toArray, List.set_cons_zero, List.set_cons_succ]
                refine take_at 5 45 (.bool true) rfl rfl (by kernel_rfl) (by kernel_rfl) (by kernel_rfl) (fun _ _ _ h => h) h3 (Or.inl ⟨by rfl, ?_⟩) ?_
                · rintro Z ⟨z0, z1, z2⟩
                  go_simp
                simp only [List.setIfInBounds_toArray, List.set_cons_zero, List.set_cons_succ]
                refine skip_at 6 46 5 false rfl rfl rfl rfl (by kernel_rfl) (by kernel_rfl) (by kernel_rfl) (fun _ _ _ h => h) h3 ?_
                simp only [List.setIfInBounds_toArray, List.set_cons_zero, List.set_cons_succ]
                refine skip_at 7 47 5 false rfl rfl rfl rfl (by kernel_rfl) (by kernel_rfl) (by kernel_rfl) (fun _ _ _ h => h) h3 ?_
                simp only [List.setIfInBounds_toArray, List.set_cons_zero, List.set_cons_succ]
                refine skip_at 8 48 5 false rfl rfl rfl rfl (by kernel_rfl) (by kernel_rfl) (by kernel_rfl) (fun _ _ _ h => h) h3 ?_
                simp only [List.setIfInBounds_toArray, List.set_cons_zero, List.set_cons_succ]
                refine skip_at 9 49 5 false rfl rfl rfl rfl (by kernel_rfl) (by kernel_rfl) (by kernel_rfl) (fun _ _ _ h => h) h3 ?_
                simp only [List.setIfInBounds_toArray, List.set_cons_zero, List.set_cons_succ]
                refine skip_at 10 50 5 false rfl rfl rfl rfl (by kernel_rfl) (by kernel_rfl) (by kernel_rfl) (fun _ _ _ h => h) h3 ?_
                simp only [List.setIfInBounds_toArray, List.set_cons_zero, List.set_cons_succ]
                refine skip_at 11 51 5 false rfl rfl rfl rfl (by kernel_rfl) (by kernel_rfl) (by kernel_rfl) (fun _ _ _ h => h) h3 ?_
                simp only [List.setIfInBounds_toArray, List.set_cons_zero, List.set_cons_succ]
                refine skip_at 12 52 5 false rfl rfl rfl rfl (by kernel_rfl) (by kernel_rfl) (by kernel_rfl) (fun _ _ _ h => h) h3 ?_
                simp only [List.setIfInBounds_toArray, List.set_cons_zero, List.set_cons_succ]
                refine wpAnyH_ready (rs := [13]) (by kernel_rfl) (by simp) ?_
                intro i hmem
                obtain rfl := List.mem_singleton.1 hmem
                refine wpOp_skip 13 53 5 false rfl rfl rfl rfl ⟨h3, ?_⟩
                simp only [List.setIfInBounds_toArray, List.set_cons_zero, List.set_cons_succ]
                refine skip_at 14 54 5 false rfl rfl rfl rfl (by kernel_rfl) (by kernel_rfl) (by kernel_rfl) (fun _ _ _ h => h) h3 ?_
                simp only [List.setIfInBounds_toArray, List.set_cons_zero, List.set_cons_succ]
                refine take_at 15 55 (.bool true) rfl rfl (by kernel_rfl) (by kernel_rfl) (by kernel_rfl) (fun _ _ _ h => h) h3 (Or.inl ⟨by rfl, ?_⟩) ?_
                · rintro Z ⟨z0, z1, z2⟩
                  go_simp
                simp only [List.setIfInBounds_toArray, List.set_cons_zero, List.set_cons_succ]
                refine wpAnyH_done (by kernel_rfl) ?_ _
                refine NoPanic.normal ?_
                have HB4 := hide (HBW.out.trans (HB2.out.mono HBW.out.size))
                go_wp2_with fail
                go_ret
                refine ⟨_, rfl, ?_, HB4.out.alloc HB4.out.size _⟩
                rw [HCK.out]
                exact ⟨_, rfl, by rw [Lib.cell_of_heap (heap_alloc_new _ _)]; rfl, by rw [Lib.cell_of_heap (heap_alloc_new _ _)]; rfl⟩
            · have hsm : s = m := by omega
              have HC : Hid (check N T = none) := check_fine HL.out HMN.out (fun r hr => HBF.out r (by rw [hsm, HNn.out]; exact hr))
              subst hsm
              go_wp2_with fail
              go_ret
              exact ⟨_, rfl, by rw [HC.out]; rfl, HBW.out⟩
        · have HC : Hid (check N T = some (3, none)) := check_form hlim (by rw [← hm, ← hn]; exact h4)
          have h4i : ¬ (m : Int) = (n : Int) := by omega
          clear hn hm hN hT hk hlim
          go_enter Tryd.func9, Tryd.ntmps9
          go_wp2_with fail
          go_ret
          exact ⟨_, rfl, by rw [HC.out]; rfl, HDA.out⟩
end Bk
end Go.Proofs.YtdeijfkahhgojaaDoor
