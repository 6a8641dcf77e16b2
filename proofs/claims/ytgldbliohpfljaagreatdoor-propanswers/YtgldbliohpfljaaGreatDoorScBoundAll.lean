/-
  The walk of the statements' own both: a text is read by the document's package and by package ladder. Plain mathematics of chapter 3: programs on their way. Nothing of the program is named here. Plain mathematics: along a play counts stay within their bounds, timers and counters are true just where they are there, and inputs are what came.
-/
import Derived.Test.YtgldbliohpfljaaGreatDoorRlStayAll
import Derived.Test.YtgldbliohpfljaaGreatDoorLdRepAll
import Derived.Test.YtgldbliohpfljaaGreatDoorLdWordsAll
namespace Go.Proofs.YtgldbliohpfljaaGreatDoor
section
open Go.RowKit
namespace Sl
/-- what reading both ways comes to: nothing, or one program -/
def Both (s : ByteArray) (w : World) (e : Ending) (w' : World) : Prop :=
  Below w.heap.size w w' ∧ (e = .returned (.tuple #[.agg #[.slice none 0 0, .slice none 0 0], .agg #[.slice none 0 0, .slice none 0 0], .bool false]) ∨
    ∃ p v u, e = .returned (.tuple #[v, u, .bool true]) ∧ Ld.parse s.data.toList = .inr p ∧ IsPrg w' p v ∧ IsRPrg w' p u ∧ Ld.check p = none)
/-- blocks that do not begin with a slice stand -/
def NStay (w w' : World) : Prop := ∀ g i u x, w.cell? ⟨g, 0, none⟩ = some x → (∀ a n c, x ≠ .slice a n c) → w.cell? ⟨g, i, none⟩ = some u → w'.cell? ⟨g, i, none⟩ = some u
theorem NStay.plainR {w w' : World} (h : NStay w w') : RStay w w' := fun g i u hp hc => by
  rcases hp with (⟨s, h1⟩ | ⟨t, y, h1⟩) | ⟨a, h1⟩
  · exact h g i u _ h1 (fun a n c e => by cases e) hc
  · exact h g i u _ h1 (fun a n c e => by cases e) hc
  · exact h g i u _ h1 (fun a n c e => by cases e) hc
theorem prg_keep {w w' : World} {p : Ld.Prg} {v : Value} (hs : NStay w w') (h : IsPrg w p v) : IsPrg w' p v := by
  obtain ⟨nv, rv, h1, h2, h3⟩ := h
  refine ⟨nv, rv, h1, names_stay hs.plainR.names h2, ?_⟩
  rcases h3 with h3 | ⟨g, cap, e1, e2, e3, e4⟩
  · exact .inl h3
  · refine .inr ⟨g, cap, e1, e2, e3, fun i r hi => ?_⟩
    have hil := (List.getElem?_eq_some_iff.1 hi).1
    obtain ⟨u0, c0, _⟩ := e4 0 (p.rungs[0]'(by omega)) (List.getElem?_eq_getElem _)
    have key : ∀ i u, w.cell? ⟨g, i, none⟩ = some u → w'.cell? ⟨g, i, none⟩ = some u := fun i u hc => hs g i u _ (by simpa using c0) (fun a n c e => by cases e) hc
    obtain ⟨u, d0, d1, d2, d3, d4, d5⟩ := e4 i r hi
    exact ⟨u, key _ _ d0, key _ _ d1, key _ _ d2, d3, d4, cond_stay hs.plainR.names d5⟩
theorem rprg_keep {w w' : World} {p : Ld.Prg} {v : Value} (hs : NStay w w') (h : IsRPrg w p v) : IsRPrg w' p v := by
  obtain ⟨nv, rv, h1, h2, h3⟩ := h
  refine ⟨nv, rv, h1, names_stay hs.plainR.names h2, ?_⟩
  rcases h3 with h3 | ⟨g, cap, e1, e2, e3, e4⟩
  · exact .inl h3
  · refine .inr ⟨g, cap, e1, e2, e3, fun i r hi => ?_⟩
    have hil := (List.getElem?_eq_some_iff.1 hi).1
    obtain ⟨u0, c0, _⟩ := e4 0 (p.rungs[0]'(by omega)) (List.getElem?_eq_getElem _)
    have key : ∀ i u, w.cell? ⟨g, i, none⟩ = some u → w'.cell? ⟨g, i, none⟩ = some u := fun i u hc => hs g i u _ (by simpa using c0) (fun a n c e => by cases e) hc
    obtain ⟨u, d0, d1, d2, d3, d4, d5⟩ := e4 i r hi
    exact ⟨u, key _ _ d0, key _ _ d1, key _ _ d2, d3, d4, rcond_stay hs.plainR d5⟩
/-- the two results' cells are stored: all else stands -/
theorem stored4 {W F : World} {N : Nat} {x0 x1 y0 y1 a0 a1 b0 b1 : Value} {T U : TypeId} (g0 : W.heap[N]? = some (.cells #[x0, x1] T (0, 0))) (g1 : W.heap[N + 1]? = some (.cells #[y0, y1] U (0, 0))) (hx : ∃ a n c, x0 = .slice a n c) (hy : ∃ a n c, y0 = .slice a n c)
    (hF : F.heap = ((((W.setCell ⟨N, 0, none⟩ a0).setCell ⟨N, 1, none⟩ a1).setCell ⟨N + 1, 0, none⟩ b0).setCell ⟨N + 1, 1, none⟩ b1).heap) :
    (F.cell? ⟨N, 0, none⟩ = some a0 ∧ F.cell? ⟨N, 1, none⟩ = some a1 ∧ F.cell? ⟨N + 1, 0, none⟩ = some b0 ∧ F.cell? ⟨N + 1, 1, none⟩ = some b1) ∧ NStay W F ∧ ∀ k, k ≠ N → k ≠ N + 1 → F.heap[k]? = W.heap[k]? := by
  have h0 : F.heap[N]? = some (.cells #[a0, a1] T (0, 0)) := by rw [hF]; simp [World.setCell, Array.getElem?_modify, g0]
  have h1 : F.heap[N + 1]? = some (.cells #[b0, b1] U (0, 0)) := by rw [hF]; simp [World.setCell, Array.getElem?_modify, g1]
  have hk : ∀ k, k ≠ N → k ≠ N + 1 → F.heap[k]? = W.heap[k]? := fun k n1 n2 => by
    rw [hF]
    simp [World.setCell, Array.getElem?_modify, Ne.symm n1, Ne.symm n2]
  refine ⟨⟨by rw [Lib.cell_of_heap h0]; rfl, by rw [Lib.cell_of_heap h0]; rfl, by rw [Lib.cell_of_heap h1]; rfl, by rw [Lib.cell_of_heap h1]; rfl⟩, fun g i u x hx0 hns hc => ?_, hk⟩
  have n1 : g ≠ N := fun e => by
    obtain ⟨a, n, c, rfl⟩ := hx
    subst e
    rw [Lib.cell_of_heap g0] at hx0
    simp at hx0
    exact hns _ _ _ hx0.symm
  have n2 : g ≠ N + 1 := fun e => by
    obtain ⟨a, n, c, rfl⟩ := hy
    subst e
    rw [Lib.cell_of_heap g1] at hx0
    simp at hx0
    exact hns _ _ _ hx0.symm
  rw [World.cell?_of_block (hk g n1 n2)]
  exact hc
set_option maxHeartbeats 8000000 in
set_option maxRecDepth 100000 in
theorem both_of (hrp : ∀ (s : ByteArray) (w : World), PLaid w → Calls Tryz.prog 69 #[.string s] w (RParsed w (Ld.parse s.data.toList))) (s : ByteArray) (w : World) (hs : s.size ≤ maxLen) (hL : Laid w) (hP : PLaid w) : Calls Tryz.prog 28 #[.string s] w (Both s w) := by
  have hs' := hs
  unfold maxLen at hs'
  obtain ⟨wA, hwA⟩ : ∃ wA, wA = (w.alloc (.cells #[.slice none 0 0, .slice none 0 0] 83)).alloc (.cells #[.slice none 0 0, .slice none 0 0] 45) := ⟨_, rfl⟩
  have hbA : Below w.heap.size w wA := by rw [hwA]; exact ((Below.refl _ _).alloc (Nat.le_refl _) _).alloc (by simp) _
  have hsA : wA.heap.size = w.heap.size + 1 + 1 := by rw [hwA]; simp
  have hA0 : wA.heap[w.heap.size]? = some (.cells #[.slice none 0 0, .slice none 0 0] 83 (0, 0)) := by rw [hwA]; exact (Below.heap_alloc _ _ _ (by simp)).trans (heap_alloc_new _ _)
  have hA1 : wA.heap[w.heap.size + 1]? = some (.cells #[.slice none 0 0, .slice none 0 0] 45 (0, 0)) := by
    rw [hwA]
    have := heap_alloc_new (w.alloc (.cells #[.slice none 0 0, .slice none 0 0] 83)) (.cells #[.slice none 0 0, .slice none 0 0] 45)
    rw [World.size_alloc] at this
    exact this
  have HRP := hide (hrp s wA (hP.below hbA))
  have HLP : Hid (∀ W, Below w.heap.size w W → Calls Tryz.prog 70 #[.string s] W (LParsed W (Ld.parse s.data.toList))) := fun W hW => LParse_any s.data.toList W hs (hL.below hW)
  have HCKP := hide (fun p (h : Ld.parse s.data.toList = .inr p) => Ld.parse_check _ p h)
  obtain ⟨res, hres⟩ : ∃ res, res = Ld.parse s.data.toList := ⟨_, rfl⟩
  have HRES := hide hres
  rw [← hres] at HRP HLP
  rw [hwA] at HRP
  have HWA := hide hwA
  have HBA := hide hbA
  have HA0 := hide hA0
  have HA1 := hide hA1
  clear hres hwA hbA hA0 hA1 hL hP
  by_cases q1 : 1500 < s.size
  · have q1' : (1500 : Int) < (s.size : Int) := by omega
    have y0 : wA.cell? ⟨w.heap.size, 0, none⟩ = some (.slice none 0 0) := by rw [Lib.cell_of_heap HA0.out]; rfl
    have y1 : wA.cell? ⟨w.heap.size, 1, none⟩ = some (.slice none 0 0) := by rw [Lib.cell_of_heap HA0.out]; rfl
    have y2 : wA.cell? ⟨w.heap.size + 1, 0, none⟩ = some (.slice none 0 0) := by rw [Lib.cell_of_heap HA1.out]; rfl
    have y3 : wA.cell? ⟨w.heap.size + 1, 1, none⟩ = some (.slice none 0 0) := by rw [Lib.cell_of_heap HA1.out]; rfl
    go_enter Tryz.func28, Tryz.ntmps28
    go_wp2_with fail
    rw [← HWA.out]
    refine bodyPost_ret_by (v := .tuple #[.agg #[.slice none 0 0, .slice none 0 0], .agg #[.slice none 0 0, .slice none 0 0], .bool false]) ?_ rfl ?_
    · simp [results, Tryz.results28, go_sem, y0, y1, y2, y3]
    · exact ⟨HBA.out, .inl rfl⟩
  have q1' : ¬ (1500 : Int) < (s.size : Int) := by omega
  clear q1
  go_enter Tryz.func28, Tryz.ntmps28
  go_wp2_with fail
  refine HRP.out.mono ?_
  intro e w1 hq
  obtain ⟨hb1, hq⟩ := hq
  rw [← HWA.out] at hb1
  have HB1 := hide hb1
  have hz1 := hb1.size
  clear HRP
  match res, hq, HLP, HRES with
  | .inl (er, pl), hq, _, _ =>
    have her := hq.2
    obtain ⟨plv, rfl⟩ : ∃ plv : Int, e = .returned (.tuple #[.agg #[.slice none 0 0, .slice none 0 0], faultV (er : Int) plv]) := ⟨_, hq.1⟩
    have hne : ((er : Int) != 0) = true := by simp; omega
    have z0 := (hb1.block w.heap.size (by omega)).trans HA0.out
    have z1 := (hb1.block (w.heap.size + 1) (by omega)).trans HA1.out
    have y0 : w1.cell? ⟨w.heap.size, 0, none⟩ = some (.slice none 0 0) := by rw [Lib.cell_of_heap z0]; rfl
    have y1 : w1.cell? ⟨w.heap.size, 1, none⟩ = some (.slice none 0 0) := by rw [Lib.cell_of_heap z0]; rfl
    have y2 : w1.cell? ⟨w.heap.size + 1, 0, none⟩ = some (.slice none 0 0) := by rw [Lib.cell_of_heap z1]; rfl
    have y3 : w1.cell? ⟨w.heap.size + 1, 1, none⟩ = some (.slice none 0 0) := by rw [Lib.cell_of_heap z1]; rfl
    have u0 : w1.frozen? ⟨w.heap.size, 0, none⟩ = false := Lib.frozen_of_heap z0 0
    have u1 : w1.frozen? ⟨w.heap.size, 1, none⟩ = false := Lib.frozen_of_heap z0 1
    have u2 : w1.frozen? ⟨w.heap.size + 1, 0, none⟩ = false := Lib.frozen_of_heap z1 0
    have u3 : w1.frozen? ⟨w.heap.size + 1, 1, none⟩ = false := Lib.frozen_of_heap z1 1
    have hlt0 : w.heap.size < w1.heap.size := by omega
    have hlt1 : w.heap.size + 1 < w1.heap.size := by omega
    unfold faultV
    obtain ⟨wF, hwF⟩ : ∃ wF, wF = (((w1.setCell ⟨w.heap.size, 0, none⟩ (.slice none 0 0)).setCell ⟨w.heap.size, 1, none⟩ (.slice none 0 0)).setCell ⟨w.heap.size + 1, 0, none⟩ (.slice none 0 0)).setCell ⟨w.heap.size + 1, 1, none⟩ (.slice none 0 0) := ⟨_, rfl⟩
    obtain ⟨⟨k0, k1, k2, k3⟩, _, hko⟩ := stored4 (N := w.heap.size) (F := wF) z0 z1 ⟨_, _, _, rfl⟩ ⟨_, _, _, rfl⟩ (by rw [hwF])
    have hzF : wF.heap.size = w1.heap.size := by rw [hwF]; simp [World.setCell]
    have hbF : Below w.heap.size w wF := by
      refine ⟨?_, ?_, ?_, by rw [hzF]; omega, fun k hk => (hko k (by omega) (by omega)).trans ((hb1.block k (by omega)).trans (HBA.out.block k hk))⟩
      · rw [hwF]; exact hb1.os.trans HBA.out.os
      · rw [hwF]; exact hb1.tape.trans HBA.out.tape
      · rw [hwF]; exact hb1.output.trans HBA.out.output
    obtain ⟨wG, hwG⟩ : ∃ wG, wG = (wF.alloc (.cells #[.slice none 0 0, .slice none 0 0] 45)).alloc (.cells #[.int .i64 (er : Int), .int .i64 plv] 93) := ⟨_, rfl⟩
    have hbG : Below wF.heap.size wF wG := by rw [hwG]; exact ((Below.refl _ _).alloc (Nat.le_refl _) _).alloc (by simp) _
    have hFG : ∀ b i u, wF.cell? ⟨b, i, none⟩ = some u → wG.cell? ⟨b, i, none⟩ = some u := fun b i u hu => (hbG.cell (World.block_lt_of_cell? _ _ hu)).trans hu
    have j0 := hFG _ _ _ k0
    have j1 := hFG _ _ _ k1
    have j2 := hFG _ _ _ k2
    have j3 := hFG _ _ _ k3
    have HBG := hide (hbF.trans (hbG.mono hbF.size))
    clear hb1 hq z0 z1 her hko hbF hbG hFG k0 k1 k2 k3
    go_wp2_with fail
    rw [← hwF, ← hwG]
    refine bodyPost_ret_by (v := .tuple #[.agg #[.slice none 0 0, .slice none 0 0], .agg #[.slice none 0 0, .slice none 0 0], .bool false]) ?_ rfl ?_
    · simp [results, Tryz.results28, go_sem, j0, j1, j2, j3]
    · exact ⟨HBG.out, .inl rfl⟩
  | .inr p, hq, HLP, HRES =>
    obtain ⟨nu, ru, rfl, hu, hck⟩ := hq
    have HU := hide hu
    have HCK := hide hck
    obtain ⟨nu', ru', e0, hnu, hru⟩ := hu
    simp only [Value.agg.injEq, Array.mk.injEq, List.cons.injEq, and_true] at e0
    obtain ⟨rfl, rfl⟩ := e0
    obtain ⟨ua, uc, rfl, _⟩ := hnu.slice
    obtain ⟨ta, tc, rfl, _⟩ := hru.slice
    obtain ⟨n, hnn⟩ : ∃ n, n = p.names.length := ⟨_, rfl⟩
    obtain ⟨m, hmm⟩ : ∃ m, m = p.rungs.length := ⟨_, rfl⟩
    rw [← hnn] at HU ⊢
    rw [← hmm] at HU ⊢
    have HNN := hide hnn
    have HMM := hide hmm
    clear hnn hmm
    obtain ⟨wB, hwB⟩ : ∃ wB, wB = (w1.alloc (.cells #[.slice ua n uc, .slice ta m tc] 45)).alloc (.cells #[.int .i64 0, .int .i64 (-1)] 93) := ⟨_, rfl⟩
    have hbB : Below w1.heap.size w1 wB := by rw [hwB]; exact ((Below.refl _ _).alloc (Nat.le_refl _) _).alloc (by simp) _
    have hsB : wB.heap.size = w1.heap.size + 1 + 1 := by rw [hwB]; simp
    have hB0 : wB.heap[w1.heap.size]? = some (.cells #[.slice ua n uc, .slice ta m tc] 45 (0, 0)) := by rw [hwB]; exact (Below.heap_alloc _ _ _ (by simp)).trans (heap_alloc_new _ _)
    have hbAB : Below wA.heap.size wA wB := hb1.trans (hbB.mono hb1.size)
    have hbwB : Below w.heap.size w wB := HBA.out.trans (hbAB.mono HBA.out.size)
    have HPC := hide (HLP.out wB hbwB)
    rw [hwB] at HPC
    have HWB := hide hwB
    have HBB := hide hbB
    have HB0 := hide hB0
    have HBAB := hide hbAB
    unfold faultV
    clear hnu hru hbB hB0 hbAB hbwB hwB hck HLP hb1
    go_wp2_with fail
    refine HPC.out.mono ?_
    rintro e w2 ⟨hb2, v, rfl, hv, _⟩
    rw [← HWB.out] at hb2
    have HV := hide hv
    obtain ⟨nv, rv, rfl, hn, hr⟩ := hv
    obtain ⟨na, nc, rfl, _⟩ := hn.slice
    obtain ⟨ra, rc, rfl, _⟩ := hr.slice
    rw [← HNN.out, ← HMM.out] at HV ⊢
    have hz2 := hb2.size
    have hbA2 : Below wA.heap.size wA w2 := HBAB.out.trans (hb2.mono HBAB.out.size)
    have z0 := (hbA2.block w.heap.size (by omega)).trans HA0.out
    have z1 := (hbA2.block (w.heap.size + 1) (by omega)).trans HA1.out
    have z2 := (hb2.block w1.heap.size (by omega)).trans HB0.out
    have y0 : w2.cell? ⟨w.heap.size, 0, none⟩ = some (.slice none 0 0) := by rw [Lib.cell_of_heap z0]; rfl
    have y1 : w2.cell? ⟨w.heap.size, 1, none⟩ = some (.slice none 0 0) := by rw [Lib.cell_of_heap z0]; rfl
    have y2 : w2.cell? ⟨w.heap.size + 1, 0, none⟩ = some (.slice none 0 0) := by rw [Lib.cell_of_heap z1]; rfl
    have y3 : w2.cell? ⟨w.heap.size + 1, 1, none⟩ = some (.slice none 0 0) := by rw [Lib.cell_of_heap z1]; rfl
    have y4 : w2.cell? ⟨w1.heap.size, 0, none⟩ = some (.slice ua n uc) := by rw [Lib.cell_of_heap z2]; rfl
    have y5 : w2.cell? ⟨w1.heap.size, 1, none⟩ = some (.slice ta m tc) := by rw [Lib.cell_of_heap z2]; rfl
    have u0 : w2.frozen? ⟨w.heap.size, 0, none⟩ = false := Lib.frozen_of_heap z0 0
    have u1 : w2.frozen? ⟨w.heap.size, 1, none⟩ = false := Lib.frozen_of_heap z0 1
    have u2 : w2.frozen? ⟨w.heap.size + 1, 0, none⟩ = false := Lib.frozen_of_heap z1 0
    have u3 : w2.frozen? ⟨w.heap.size + 1, 1, none⟩ = false := Lib.frozen_of_heap z1 1
    have hlt0 : w.heap.size < w2.heap.size := by omega
    have hlt1 : w.heap.size + 1 < w2.heap.size := by omega
    have hlt2 : w1.heap.size < w2.heap.size := by omega
    have hne0 : w.heap.size ≠ w1.heap.size := by omega
    have hne1 : w.heap.size + 1 ≠ w1.heap.size := by omega
    obtain ⟨wF, hwF⟩ : ∃ wF, wF = (((w2.setCell ⟨w.heap.size, 0, none⟩ (.slice na n nc)).setCell ⟨w.heap.size, 1, none⟩ (.slice ra m rc)).setCell ⟨w.heap.size + 1, 0, none⟩ (.slice ua n uc)).setCell ⟨w.heap.size + 1, 1, none⟩ (.slice ta m tc) := ⟨_, rfl⟩
    obtain ⟨⟨k0, k1, k2, k3⟩, hst, hko⟩ := stored4 (N := w.heap.size) (F := wF) z0 z1 ⟨_, _, _, rfl⟩ ⟨_, _, _, rfl⟩ (by rw [hwF])
    have hzF : wF.heap.size = w2.heap.size := by rw [hwF]; simp [World.setCell]
    have hbF : Below w.heap.size w wF := by
      refine ⟨?_, ?_, ?_, by rw [hzF]; omega, fun k hk => (hko k (by omega) (by omega)).trans ((hbA2.block k (by omega)).trans (HBA.out.block k hk))⟩
      · rw [hwF]; exact hbA2.os.trans HBA.out.os
      · rw [hwF]; exact hbA2.tape.trans HBA.out.tape
      · rw [hwF]; exact hbA2.output.trans HBA.out.output
    obtain ⟨wG, hwG⟩ : ∃ wG, wG = (wF.alloc (.cells #[.slice na n nc, .slice ra m rc] 83)).drew := ⟨_, rfl⟩
    have hbG : Below wF.heap.size wF wG := by rw [hwG]; exact ((Below.refl _ _).alloc (Nat.le_refl _) _).drew
    have hFG : ∀ b i u, wF.cell? ⟨b, i, none⟩ = some u → wG.cell? ⟨b, i, none⟩ = some u := fun b i u hu => (hbG.cell (World.block_lt_of_cell? _ _ hu)).trans hu
    have j0 := hFG _ _ _ k0
    have j1 := hFG _ _ _ k1
    have j2 := hFG _ _ _ k2
    have j3 := hFG _ _ _ k3
    have HBG := hide (hbF.trans (hbG.mono hbF.size))
    have HVF := hide ((prg_keep hst HV.out).below hbG)
    have HUF := hide ((rprg_keep hst ((HU.out.below HBB.out).below hb2)).below hbG)
    clear hn hr hb2 hbA2 z0 z1 z2 hst hko hbF hbG hFG k0 k1 k2 k3 HPC
    go_wp2_with fail
    go_region
    all_goals go_wp2_with fail
    all_goals rw [← hwF, ← hwG]
    all_goals refine bodyPost_ret_by (v := .tuple #[.agg #[.slice na n nc, .slice ra m rc], .agg #[.slice ua n uc, .slice ta m tc], .bool true]) ?_ rfl ?_
    · simp [results, Tryz.results28, go_sem, j0, j1, j2, j3]
    · exact ⟨HBG.out, .inr ⟨p, _, _, rfl, HRES.out.symm, HVF.out, HUF.out, HCK.out⟩⟩
end Sl
end
section
namespace Sc
structure St where
  is : List Bool
  ct : List Int
def further (a most : Int) : Int := if a < most then a + 1 else most
def run (n : Nat) (most : Int) (says : Bool) (s : St) : St :=
  let c := if says then further (s.ct.getD n 0) most else 0
  ⟨s.is.set n (c == most), s.ct.set n c⟩
def count (n : Nat) (most : Int) (says : Bool) (s : St) : St :=
  let c := if says then further (s.ct.getD n 0) most else s.ct.getD n 0
  ⟨s.is.set n (c == most), s.ct.set n c⟩
def zero (n : Nat) (says : Bool) (s : St) : St := if says then ⟨s.is.set n false, s.ct.set n 0⟩ else s
/-- a rung of kind k does this to name n, whose count is most -/
def rung (k : Int) (n : Nat) (most : Int) (says : Bool) (s : St) : St :=
  if k = 1 then ⟨s.is.set n says, s.ct⟩
  else if k = 2 then ⟨s.is.set n (s.is.getD n false || says), s.ct⟩
  else if k = 3 then ⟨s.is.set n (s.is.getD n false && !says), s.ct⟩
  else if k = 4 then run n most says s
  else if k = 5 then count n most says s
  else if k = 6 then zero n says s
  else s
theorem rung_len (k : Int) (n : Nat) (most : Int) (says : Bool) (s : St) : (rung k n most says s).is.length = s.is.length ∧ (rung k n most says s).ct.length = s.ct.length := by
  unfold rung run count zero
  repeat' split
  all_goals simp
/-- what names are, told -/
def told (ns : List Ld.Nme) (l : List Bool) (s : List UInt8) : Bool := decide (0 ≤ Ld.number ns s) && l.getD (Ld.number ns s).toNat false
def doRung (ns : List Ld.Nme) (was : List Bool) (s : St) (r : Ld.Rng) : St :=
  match r.cond with
  | some x => if 0 ≤ Ld.number ns r.name then rung r.kind (Ld.number ns r.name).toNat ((ns.getD (Ld.number ns r.name).toNat ⟨[], 0, 0⟩).count) (x.eval (told ns s.is) (told ns was)) s else s
  | none => s
/-- inputs are read -/
def reads (l : List Nat) (inp : List Bool) (is : List Bool) : List Bool := (l.zip inp).foldl (fun acc p => acc.set p.1 p.2) is
def step (p : Ld.Prg) (s : St) (inp : List Bool) : St := p.rungs.foldl (doRung p.names s.is) ⟨reads (Ld.kindL p.names 1) inp s.is, s.ct⟩
def start (p : Ld.Prg) : St := ⟨List.replicate p.names.length false, List.replicate p.names.length 0⟩
end Sc
end
section
namespace Ld
theorem check_rungs (p : Prg) (h : check p = none) : ∀ r, r ∈ p.rungs → 1 ≤ r.kind ∧ r.kind ≤ 6 ∧ 0 ≤ number p.names r.name ∧ kindAt p.names (number p.names r.name) = kindOf r.kind ∧ ∃ x, r.cond = some x ∧ known p.names x = true := by
  unfold check at h
  by_cases hl : 12 < p.names.length ∨ 40 < p.rungs.length
  · rw [if_pos hl] at h; cases h
  rw [if_neg hl] at h
  cases hn : bad (nameAt p.names) p.names.length with
  | some r => rw [hn] at h; cases h
  | none =>
    rw [hn] at h
    simp only at h
    cases hr : bad (rungAt p) p.rungs.length with
    | some r => rw [hr] at h; cases h
    | none =>
      intro r hm
      obtain ⟨i, hi, rfl⟩ := List.getElem_of_mem hm
      have := bad_none _ _ hr i hi
      rw [rungAt_at _ _ hi, wrongR] at this
      by_cases h1 : p.rungs[i].kind < 1 ∨ 6 < p.rungs[i].kind
      · rw [if_pos h1] at this; cases this
      rw [if_neg h1] at this
      cases hc : p.rungs[i].cond with
      | none => rw [hc] at this; cases this
      | some x =>
        rw [hc] at this
        simp only at this
        by_cases h2 : number p.names p.rungs[i].name < 0
        · rw [if_pos h2] at this; cases this
        rw [if_neg h2] at this
        by_cases h3 : kindAt p.names (number p.names p.rungs[i].name) ≠ kindOf p.rungs[i].kind
        · rw [if_pos h3] at this; cases this
        rw [if_neg h3] at this
        by_cases h4 : known p.names x = true
        · exact ⟨by omega, by omega, by omega, Classical.not_not.1 h3, x, rfl, h4⟩
        · rw [if_neg h4] at this; cases this
theorem kindL_at (ns : List Nme) (k : Int) (i : Nat) (h : i ∈ kindL ns k) : ∃ hi : i < ns.length, ns[i].kind = k := by
  unfold kindL placesTo at h
  obtain ⟨h1, h2⟩ := List.mem_filter.1 h
  have hi := List.mem_range.1 h1
  rw [List.getElem?_eq_getElem hi] at h2
  exact ⟨hi, by simpa using h2⟩
theorem kindL_nodup (ns : List Nme) (k : Int) : (kindL ns k).Nodup := by
  unfold kindL placesTo
  exact List.nodup_range.filter _
end Ld
namespace Sc
theorem getD_set {α : Type} (l : List α) (n : Nat) (v d : α) (j : Nat) : (l.set n v).getD j d = if j = n ∧ n < l.length then v else l.getD j d := by
  rw [List.getD_eq_getElem?_getD, List.getD_eq_getElem?_getD, List.getElem?_set]
  by_cases h : n = j
  · subst h
    by_cases h2 : n < l.length
    · simp [h2]
    · simp [h2]
  · rw [if_neg h, if_neg (fun e => h e.1.symm)]
/-- a state of a program is within its bounds -/
structure Bd (p : Ld.Prg) (s : St) : Prop where
  li : s.is.length = p.names.length
  lc : s.ct.length = p.names.length
  at_ : ∀ k (h : k < p.names.length), 0 ≤ s.ct.getD k 0 ∧ s.ct.getD k 0 ≤ p.names[k].count ∧ (3 ≤ p.names[k].kind → s.is.getD k false = (s.ct.getD k 0 == p.names[k].count))
theorem may (p : Ld.Prg) (h : Ld.check p = none) (k : Nat) (hk : k < p.names.length) : 1 ≤ p.names[k].kind ∧ p.names[k].kind ≤ 4 ∧ (3 ≤ p.names[k].kind → 1 ≤ p.names[k].count ∧ p.names[k].count ≤ 7) ∧ (p.names[k].kind < 3 → p.names[k].count = 0) := by
  obtain ⟨_, h1, h2, h3⟩ := (Ld.check_names p h).2.2.1 _ (List.getElem_mem hk)
  refine ⟨h1, h2, ?_, ?_⟩
  · intro h4
    have hc : Ld.counted p.names[k].kind = true := by unfold Ld.counted; simp; omega
    unfold Ld.mayCount at h3
    rw [if_pos hc] at h3
    simpa using h3
  · intro h4
    have hc : ¬ Ld.counted p.names[k].kind = true := by unfold Ld.counted; simp; omega
    unfold Ld.mayCount at h3
    rw [if_neg hc] at h3
    simpa using h3
theorem Bd.small {p : Ld.Prg} {s : St} (hb : Bd p s) (h : Ld.check p = none) : ∀ c, c ∈ s.ct → 0 ≤ c ∧ c ≤ 7 := by
  intro c hc
  obtain ⟨i, hi, rfl⟩ := List.getElem_of_mem hc
  have hi' : i < p.names.length := by rw [← hb.lc]; exact hi
  have h1 := hb.at_ i hi'
  obtain ⟨_, _, h3, h4⟩ := may p h i hi'
  have e : s.ct.getD i 0 = s.ct[i] := by simp [hi]
  rw [e] at h1
  refine ⟨h1.1, ?_⟩
  by_cases hk : 3 ≤ p.names[i].kind
  · have := (h3 hk).2; omega
  · have := h4 (by omega); omega
theorem start_bd (p : Ld.Prg) (h : Ld.check p = none) : Bd p (start p) := by
  refine ⟨by simp [start], by simp [start], fun k hk => ?_⟩
  obtain ⟨_, _, h3, h4⟩ := may p h k hk
  have e : (start p).ct.getD k 0 = 0 := by simp [start, hk]
  have e2 : (start p).is.getD k false = false := by simp [start, hk]
  rw [e, e2]
  refine ⟨by omega, ?_, ?_⟩
  · by_cases h5 : 3 ≤ p.names[k].kind
    · have := (h3 h5).1; omega
    · have := h4 (by omega); omega
  · intro h5
    have := (h3 h5).1
    have hne : ¬ (0 : Int) = p.names[k].count := by omega
    simpa using hne
theorem rung_other (k : Int) (hk : 1 ≤ k ∧ k ≤ 6) (n : Nat) (most : Int) (says : Bool) (s : St) (j : Nat) (e : ¬ j = n) : (rung k n most says s).is.getD j false = s.is.getD j false ∧ (rung k n most says s).ct.getD j 0 = s.ct.getD j 0 := by
  have h1 : ∀ v, (s.is.set n v).getD j false = s.is.getD j false := fun v => by rw [getD_set, if_neg (fun h => e h.1)]
  have h2 : ∀ v, (s.ct.set n v).getD j 0 = s.ct.getD j 0 := fun v => by rw [getD_set, if_neg (fun h => e h.1)]
  rcases (show k = 1 ∨ k = 2 ∨ k = 3 ∨ k = 4 ∨ k = 5 ∨ k = 6 by omega) with rfl | rfl | rfl | rfl | rfl | rfl
  · exact ⟨h1 _, rfl⟩
  · exact ⟨h1 _, rfl⟩
  · exact ⟨h1 _, rfl⟩
  · exact ⟨h1 _, h2 _⟩
  · exact ⟨h1 _, h2 _⟩
  · cases says with
    | false => exact ⟨rfl, rfl⟩
    | true => exact ⟨h1 _, h2 _⟩
/-- what a rung leaves: bounds, and the inputs as they were -/
theorem rung_bd (p : Ld.Prg) (h : Ld.check p = none) (k : Int) (hk : 1 ≤ k ∧ k ≤ 6) (n : Nat) (hn : n < p.names.length) (hkn : p.names[n].kind = Ld.kindOf k) (says : Bool) (s : St) (hb : Bd p s) :
    Bd p (rung k n p.names[n].count says s) ∧ ∀ j (hj : j < p.names.length), p.names[j].kind = 1 → (rung k n p.names[n].count says s).is.getD j false = s.is.getD j false := by
  obtain ⟨l1, l2⟩ := rung_len k n p.names[n].count says s
  have hli := hb.li
  have hlc := hb.lc
  obtain ⟨_, _, h3, h4⟩ := may p h n hn
  have hcn := hb.at_ n hn
  have key : ∀ j (hj : j < p.names.length), (0 ≤ (rung k n p.names[n].count says s).ct.getD j 0 ∧ (rung k n p.names[n].count says s).ct.getD j 0 ≤ p.names[j].count ∧ (3 ≤ p.names[j].kind → (rung k n p.names[n].count says s).is.getD j false = ((rung k n p.names[n].count says s).ct.getD j 0 == p.names[j].count))) ∧ (p.names[j].kind = 1 → (rung k n p.names[n].count says s).is.getD j false = s.is.getD j false) := by
    intro j hj
    by_cases e : j = n
    · subst e
      have hni : j < s.is.length := by omega
      have hnc : j < s.ct.length := by omega
      have hf : 0 ≤ further (s.ct.getD j 0) p.names[j].count ∧ further (s.ct.getD j 0) p.names[j].count ≤ p.names[j].count := by unfold further; split <;> omega
      rcases (show k = 1 ∨ k = 2 ∨ k = 3 ∨ k = 4 ∨ k = 5 ∨ k = 6 by omega) with rfl | rfl | rfl | rfl | rfl | rfl
      · have hk2 : p.names[j].kind = 2 := hkn
        exact ⟨⟨hcn.1, hcn.2.1, fun h5 => absurd h5 (by omega)⟩, fun h5 => absurd h5 (by omega)⟩
      · have hk2 : p.names[j].kind = 2 := hkn
        exact ⟨⟨hcn.1, hcn.2.1, fun h5 => absurd h5 (by omega)⟩, fun h5 => absurd h5 (by omega)⟩
      · have hk2 : p.names[j].kind = 2 := hkn
        exact ⟨⟨hcn.1, hcn.2.1, fun h5 => absurd h5 (by omega)⟩, fun h5 => absurd h5 (by omega)⟩
      · have hk2 : p.names[j].kind = 3 := hkn
        have h6 := (h3 (by omega)).1
        refine ⟨?_, fun h5 => absurd h5 (by omega)⟩
        show 0 ≤ (run j p.names[j].count says s).ct.getD j 0 ∧ (run j p.names[j].count says s).ct.getD j 0 ≤ p.names[j].count ∧ (3 ≤ p.names[j].kind → (run j p.names[j].count says s).is.getD j false = ((run j p.names[j].count says s).ct.getD j 0 == p.names[j].count))
        unfold run
        simp only [getD_set, hni, hnc, and_self, if_true]
        refine ⟨?_, ?_, fun _ => trivial⟩
        · split <;> omega
        · split <;> omega
      · have hk2 : p.names[j].kind = 4 := hkn
        refine ⟨?_, fun h5 => absurd h5 (by omega)⟩
        show 0 ≤ (count j p.names[j].count says s).ct.getD j 0 ∧ (count j p.names[j].count says s).ct.getD j 0 ≤ p.names[j].count ∧ (3 ≤ p.names[j].kind → (count j p.names[j].count says s).is.getD j false = ((count j p.names[j].count says s).ct.getD j 0 == p.names[j].count))
        unfold count
        simp only [getD_set, hni, hnc, and_self, if_true]
        refine ⟨?_, ?_, fun _ => trivial⟩
        · split <;> omega
        · split <;> omega
      · have hk2 : p.names[j].kind = 4 := hkn
        have h6 := (h3 (by omega)).1
        refine ⟨?_, fun h5 => absurd h5 (by omega)⟩
        show 0 ≤ (zero j says s).ct.getD j 0 ∧ (zero j says s).ct.getD j 0 ≤ p.names[j].count ∧ (3 ≤ p.names[j].kind → (zero j says s).is.getD j false = ((zero j says s).ct.getD j 0 == p.names[j].count))
        unfold zero
        cases says with
        | false => exact hcn
        | true =>
          simp only [getD_set, hni, hnc, and_self, if_true]
          refine ⟨by omega, by omega, fun _ => ?_⟩
          have hne : ¬ (0 : Int) = p.names[j].count := by omega
          simpa using hne
    · obtain ⟨e1, e2⟩ := rung_other k hk n p.names[n].count says s j e
      rw [e1, e2]
      exact ⟨hb.at_ j hj, fun _ => rfl⟩
  exact ⟨⟨by omega, by omega, fun j hj => (key j hj).1⟩, fun j hj => (key j hj).2⟩
theorem doRung_bd (p : Ld.Prg) (h : Ld.check p = none) (was : List Bool) (r : Ld.Rng) (hr : r ∈ p.rungs) (s : St) (hb : Bd p s) :
    Bd p (doRung p.names was s r) ∧ ∀ j (hj : j < p.names.length), p.names[j].kind = 1 → (doRung p.names was s r).is.getD j false = s.is.getD j false := by
  obtain ⟨h1, h2, h3, h4, x, h5, _⟩ := Ld.check_rungs p h r hr
  unfold doRung
  rw [h5]
  simp only
  rw [if_pos h3]
  rcases Ld.number_cases p.names r.name with ⟨h6, _⟩ | ⟨n, hn, h6, _⟩
  · omega
  · rw [h6] at h4 ⊢
    have e1 : ((n : Int)).toNat = n := by omega
    have hk : p.names[n].kind = Ld.kindOf r.kind := by
      rw [← h4, Ld.kindAt, e1, List.getElem?_eq_getElem hn]
    have e2 : (p.names.getD n ⟨[], 0, 0⟩).count = p.names[n].count := by simp [hn]
    rw [e1, e2]
    exact rung_bd p h r.kind ⟨h1, h2⟩ n hn hk _ s hb
theorem fold_bd (p : Ld.Prg) (h : Ld.check p = none) (was : List Bool) : ∀ (rs : List Ld.Rng), (∀ r, r ∈ rs → r ∈ p.rungs) → ∀ s, Bd p s →
    Bd p (rs.foldl (doRung p.names was) s) ∧ ∀ j (hj : j < p.names.length), p.names[j].kind = 1 → (rs.foldl (doRung p.names was) s).is.getD j false = s.is.getD j false
  | [], _, s, hb => ⟨hb, fun _ _ _ => rfl⟩
  | r :: rs, hrs, s, hb => by
    obtain ⟨h1, h2⟩ := doRung_bd p h was r (hrs r (by simp)) s hb
    obtain ⟨h3, h4⟩ := fold_bd p h was rs (fun r hr => hrs r (by simp [hr])) _ h1
    exact ⟨h3, fun j hj hk => (h4 j hj hk).trans (h2 j hj hk)⟩
theorem reads_len (l : List Nat) (inp is : List Bool) : (reads l inp is).length = is.length := by
  have key : ∀ (ps : List (Nat × Bool)) (is : List Bool), (ps.foldl (fun acc p => acc.set p.1 p.2) is).length = is.length := by
    intro ps
    induction ps with
    | nil => intro is; rfl
    | cons a r ih => intro is; rw [List.foldl_cons, ih]; simp
  exact key _ _
theorem reads_other (l : List Nat) (inp is : List Bool) (j : Nat) (hj : j ∉ l) : (reads l inp is).getD j false = is.getD j false := by
  have key : ∀ (ps : List (Nat × Bool)) (is : List Bool), (∀ q, q ∈ ps → q.1 ≠ j) → (ps.foldl (fun acc p => acc.set p.1 p.2) is).getD j false = is.getD j false := by
    intro ps
    induction ps with
    | nil => intro is _; rfl
    | cons a r ih =>
      intro is hq
      rw [List.foldl_cons, ih _ (fun q hq2 => hq q (by simp [hq2])), getD_set, if_neg]
      intro e
      exact hq a (by simp) e.1.symm
  exact key _ _ (fun q hq e => hj (by rw [← e]; exact (List.of_mem_zip hq).1))
theorem reads_at : ∀ (l : List Nat) (inp is : List Bool), l.Nodup → inp.length = l.length → (∀ j, j ∈ l → j < is.length) → ∀ k (hk : k < l.length), (reads l inp is).getD l[k] false = inp.getD k false
  | [], _, _, _, _, _, k, hk => by simp at hk
  | a :: l, [], _, _, hl, _, _, _ => by simp at hl
  | a :: l, b :: inp, is, hnd, hl, hlt, k, hk => by
    have e : reads (a :: l) (b :: inp) is = reads l inp (is.set a b) := rfl
    rw [e]
    have hnd' := List.nodup_cons.1 hnd
    cases k with
    | zero =>
      show (reads l inp (is.set a b)).getD a false = b
      rw [reads_other l inp _ a hnd'.1, getD_set, if_pos ⟨rfl, hlt a (by simp)⟩]
    | succ k =>
      have := reads_at l inp (is.set a b) hnd'.2 (by simpa using hl) (fun j hj => by rw [List.length_set]; exact hlt j (by simp [hj])) k (by simpa using hk)
      simpa using this
theorem step_bd (p : Ld.Prg) (h : Ld.check p = none) (s : St) (inp : List Bool) (hb : Bd p s) (hl : inp.length = (Ld.kindL p.names 1).length) :
    Bd p (step p s inp) ∧ ∀ k (hk : k < (Ld.kindL p.names 1).length), (step p s inp).is.getD (Ld.kindL p.names 1)[k] false = inp.getD k false := by
  have hb0 : Bd p ⟨reads (Ld.kindL p.names 1) inp s.is, s.ct⟩ := by
    refine ⟨by simp only [reads_len]; exact hb.li, hb.lc, fun k hk => ?_⟩
    obtain ⟨h1, h2, h3⟩ := hb.at_ k hk
    refine ⟨h1, h2, fun h4 => ?_⟩
    simp only
    rw [reads_other _ _ _ _ (fun hm => by obtain ⟨hi, he⟩ := Ld.kindL_at _ _ _ hm; omega)]
    exact h3 h4
  obtain ⟨h1, h2⟩ := fold_bd p h s.is p.rungs (fun _ hr => hr) _ hb0
  refine ⟨h1, fun k hk => ?_⟩
  obtain ⟨hi, he⟩ := Ld.kindL_at _ _ _ (List.getElem_mem hk)
  refine (h2 _ hi he).trans ?_
  exact reads_at _ _ _ (Ld.kindL_nodup _ _) hl (fun j hj => by obtain ⟨hi, _⟩ := Ld.kindL_at _ _ _ hj; rw [hb.li]; exact hi) k hk
/-- the state behind some scans -/
def after (p : Ld.Prg) (ins : List (List Bool)) : St := ins.foldl (step p) (start p)
theorem after_bd (p : Ld.Prg) (h : Ld.check p = none) (ins : List (List Bool)) (hl : ∀ i, i ∈ ins → i.length = (Ld.kindL p.names 1).length) : Bd p (after p ins) := by
  have key : ∀ (ins : List (List Bool)) (s : St), Bd p s → (∀ i, i ∈ ins → i.length = (Ld.kindL p.names 1).length) → Bd p (ins.foldl (step p) s) := by
    intro ins
    induction ins with
    | nil => intro s hb _; exact hb
    | cons a r ih => intro s hb hl; exact ih _ (step_bd p h s a hb (hl a (by simp))).1 (fun i hi => hl i (by simp [hi]))
  exact key ins _ (start_bd p h) hl
theorem after_snoc (p : Ld.Prg) (ins : List (List Bool)) (a : List Bool) : after p (ins ++ [a]) = step p (after p ins) a := by
  unfold after; rw [List.foldl_append]; rfl
/-- the states behind each of the first k scans -/
def plays (p : Ld.Prg) (ins : List (List Bool)) (k : Nat) : List St := (List.range k).map fun j => after p (ins.take (j + 1))
theorem plays_succ (p : Ld.Prg) (ins : List (List Bool)) (k : Nat) (hk : k < ins.length) : plays p ins (k + 1) = plays p ins k ++ [step p (after p (ins.take k)) ins[k]] := by
  unfold plays
  rw [List.range_succ, List.map_append, List.map_singleton, List.take_succ_eq_append_getElem hk, after_snoc]
theorem plays_len (p : Ld.Prg) (ins : List (List Bool)) (k : Nat) : (plays p ins k).length = k := by simp [plays]
end Sc
end
end Go.Proofs.YtgldbliohpfljaaGreatDoor
