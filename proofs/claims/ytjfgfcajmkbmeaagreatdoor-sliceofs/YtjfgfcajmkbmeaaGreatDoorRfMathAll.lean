/-
  The walk of the statements' own both: a text is read by the document's package and by package ladder. The walks of Place, and of the law's own at. The walk of the statements' own at: is an error this fault? Slices of numbers in memory. The walk of the law's own sameInts, at two like lists. The document's states by names, in plain words: what its Step does is what package scan's does.
-/
import Derived.Test.YtjfgfcajmkbmeaaGreatDoorSlBuildAll
import Derived.Test.YtjfgfcajmkbmeaaGreatDoorLdParseWAll
import Derived.Test.YtjfgfcajmkbmeaaGreatDoorRlTidyW
import Derived.Test.YtjfgfcajmkbmeaaGreatDoorLdTakeAll
import Derived.WalkMore
import Derived.Test.YtjfgfcajmkbmeaaGreatDoorNdWalkAll
import Derived.Test.YtjfgfcajmkbmeaaGreatDoorLdKindAll
import Derived.Test.YtjfgfcajmkbmeaaGreatDoorRtMathAll
namespace Go.Proofs.YtjfgfcajmkbmeaaGreatDoor
section
open Go.RowKit
namespace Sl
/-- what reading both ways comes to: nothing, or one program -/
def Both (s : ByteArray) (w : World) (e : Ending) (w' : World) : Prop :=
  Below w.heap.size w w' ∧ (e = .returned (.tuple #[.agg #[.slice none 0 0, .slice none 0 0], .agg #[.slice none 0 0, .slice none 0 0], .bool false]) ∨
    ∃ p v u, e = .returned (.tuple #[v, u, .bool true]) ∧ Ld.parse s.data.toList = .inr p ∧ IsPrg w' p v ∧ IsRPrg w' p u ∧ Ld.check p = none)
/-- blocks that do not begin with a slice stand -/
def NStay (w w' : World) : Prop := ∀ g i u x, w.cell? ⟨g, 0, none⟩ = some x → (∀ a n c, x ≠ .slice a n c) → w.cell? ⟨g, i, none⟩ = some u → w'.cell? ⟨g, i, none⟩ = some u
theorem NStay.plainR {w w' : World} (h : NStay w w') : RStay w w' := fun g i u hp hc => by
  rcases hp with (⟨s, h1⟩ | ⟨t, y, h1⟩) | ⟨a, h1⟩
  · exact h g i u _ h1 (fun a n c e => by cases e) hc
  · exact h g i u _ h1 (fun a n c e => by cases e) hc
  · exact h g i u _ h1 (fun a n c e => by cases e) hc
theorem prg_keep {w w' : World} {p : Ld.Prg} {v : Value} (hs : NStay w w') (h : IsPrg w p v) : IsPrg w' p v := by
  obtain ⟨nv, rv, h1, h2, h3⟩ := h
  refine ⟨nv, rv, h1, names_stay hs.plainR.names h2, ?_⟩
  rcases h3 with h3 | ⟨g, cap, e1, e2, e3, e4⟩
  · exact .inl h3
  · refine .inr ⟨g, cap, e1, e2, e3, fun i r hi => ?_⟩
    have hil := (List.getElem?_eq_some_iff.1 hi).1
    obtain ⟨u0, c0, _⟩ := e4 0 (p.rungs[0]'(by omega)) (List.getElem?_eq_getElem _)
    have key : ∀ i u, w.cell? ⟨g, i, none⟩ = some u → w'.cell? ⟨g, i, none⟩ = some u := fun i u hc => hs g i u _ (by simpa using c0) (fun a n c e => by cases e) hc
    obtain ⟨u, d0, d1, d2, d3, d4, d5⟩ := e4 i r hi
    exact ⟨u, key _ _ d0, key _ _ d1, key _ _ d2, d3, d4, cond_stay hs.plainR.names d5⟩
theorem rprg_keep {w w' : World} {p : Ld.Prg} {v : Value} (hs : NStay w w') (h : IsRPrg w p v) : IsRPrg w' p v := by
  obtain ⟨nv, rv, h1, h2, h3⟩ := h
  refine ⟨nv, rv, h1, names_stay hs.plainR.names h2, ?_⟩
  rcases h3 with h3 | ⟨g, cap, e1, e2, e3, e4⟩
  · exact .inl h3
  · refine .inr ⟨g, cap, e1, e2, e3, fun i r hi => ?_⟩
    have hil := (List.getElem?_eq_some_iff.1 hi).1
    obtain ⟨u0, c0, _⟩ := e4 0 (p.rungs[0]'(by omega)) (List.getElem?_eq_getElem _)
    have key : ∀ i u, w.cell? ⟨g, i, none⟩ = some u → w'.cell? ⟨g, i, none⟩ = some u := fun i u hc => hs g i u _ (by simpa using c0) (fun a n c e => by cases e) hc
    obtain ⟨u, d0, d1, d2, d3, d4, d5⟩ := e4 i r hi
    exact ⟨u, key _ _ d0, key _ _ d1, key _ _ d2, d3, d4, rcond_stay hs.plainR d5⟩
/-- the two results' cells are stored: all else stands -/
theorem stored4 {W F : World} {N : Nat} {x0 x1 y0 y1 a0 a1 b0 b1 : Value} {T U : TypeId} (g0 : W.heap[N]? = some (.cells #[x0, x1] T (0, 0))) (g1 : W.heap[N + 1]? = some (.cells #[y0, y1] U (0, 0))) (hx : ∃ a n c, x0 = .slice a n c) (hy : ∃ a n c, y0 = .slice a n c)
    (hF : F.heap = ((((W.setCell ⟨N, 0, none⟩ a0).setCell ⟨N, 1, none⟩ a1).setCell ⟨N + 1, 0, none⟩ b0).setCell ⟨N + 1, 1, none⟩ b1).heap) :
    (F.cell? ⟨N, 0, none⟩ = some a0 ∧ F.cell? ⟨N, 1, none⟩ = some a1 ∧ F.cell? ⟨N + 1, 0, none⟩ = some b0 ∧ F.cell? ⟨N + 1, 1, none⟩ = some b1) ∧ NStay W F ∧ ∀ k, k ≠ N → k ≠ N + 1 → F.heap[k]? = W.heap[k]? := by
  have h0 : F.heap[N]? = some (.cells #[a0, a1] T (0, 0)) := by rw [hF]; simp [World.setCell, Array.getElem?_modify, g0]
  have h1 : F.heap[N + 1]? = some (.cells #[b0, b1] U (0, 0)) := by rw [hF]; simp [World.setCell, Array.getElem?_modify, g1]
  have hk : ∀ k, k ≠ N → k ≠ N + 1 → F.heap[k]? = W.heap[k]? := fun k n1 n2 => by
    rw [hF]
    simp [World.setCell, Array.getElem?_modify, Ne.symm n1, Ne.symm n2]
  refine ⟨⟨by rw [Lib.cell_of_heap h0]; rfl, by rw [Lib.cell_of_heap h0]; rfl, by rw [Lib.cell_of_heap h1]; rfl, by rw [Lib.cell_of_heap h1]; rfl⟩, fun g i u x hx0 hns hc => ?_, hk⟩
  have n1 : g ≠ N := fun e => by
    obtain ⟨a, n, c, rfl⟩ := hx
    subst e
    rw [Lib.cell_of_heap g0] at hx0
    simp at hx0
    exact hns _ _ _ hx0.symm
  have n2 : g ≠ N + 1 := fun e => by
    obtain ⟨a, n, c, rfl⟩ := hy
    subst e
    rw [Lib.cell_of_heap g1] at hx0
    simp at hx0
    exact hns _ _ _ hx0.symm
  rw [World.cell?_of_block (hk g n1 n2)]
  exact hc
set_option maxHeartbeats 8000000 in
set_option maxRecDepth 100000 in
theorem both_of (hrp : ∀ (s : ByteArray) (w : World), PLaid w → Calls Tryz.prog 17 #[.string s] w (RParsed w (Ld.parse s.data.toList))) (s : ByteArray) (w : World) (hs : s.size ≤ maxLen) (hL : Laid w) (hP : PLaid w) : Calls Tryz.prog 5 #[.string s] w (Both s w) := by
  have hs' := hs
  unfold maxLen at hs'
  obtain ⟨wA, hwA⟩ : ∃ wA, wA = (w.alloc (.cells #[.slice none 0 0, .slice none 0 0] 26)).alloc (.cells #[.slice none 0 0, .slice none 0 0] 30) := ⟨_, rfl⟩
  have hbA : Below w.heap.size w wA := by rw [hwA]; exact ((Below.refl _ _).alloc (Nat.le_refl _) _).alloc (by simp) _
  have hsA : wA.heap.size = w.heap.size + 1 + 1 := by rw [hwA]; simp
  have hA0 : wA.heap[w.heap.size]? = some (.cells #[.slice none 0 0, .slice none 0 0] 26 (0, 0)) := by rw [hwA]; exact (Below.heap_alloc _ _ _ (by simp)).trans (heap_alloc_new _ _)
  have hA1 : wA.heap[w.heap.size + 1]? = some (.cells #[.slice none 0 0, .slice none 0 0] 30 (0, 0)) := by
    rw [hwA]
    have := heap_alloc_new (w.alloc (.cells #[.slice none 0 0, .slice none 0 0] 26)) (.cells #[.slice none 0 0, .slice none 0 0] 30)
    rw [World.size_alloc] at this
    exact this
  have HRP := hide (hrp s wA (hP.below hbA))
  have HLP : Hid (∀ W, Below w.heap.size w W → Calls Tryz.prog 18 #[.string s] W (LParsed W (Ld.parse s.data.toList))) := fun W hW => LParse_any s.data.toList W hs (hL.below hW)
  have HCKP := hide (fun p (h : Ld.parse s.data.toList = .inr p) => Ld.parse_check _ p h)
  obtain ⟨res, hres⟩ : ∃ res, res = Ld.parse s.data.toList := ⟨_, rfl⟩
  have HRES := hide hres
  rw [← hres] at HRP HLP
  rw [hwA] at HRP
  have HWA := hide hwA
  have HBA := hide hbA
  have HA0 := hide hA0
  have HA1 := hide hA1
  clear hres hwA hbA hA0 hA1 hL hP
  by_cases q1 : 1500 < s.size
  · have q1' : (1500 : Int) < (s.size : Int) := by omega
    have y0 : wA.cell? ⟨w.heap.size, 0, none⟩ = some (.slice none 0 0) := by rw [Lib.cell_of_heap HA0.out]; rfl
    have y1 : wA.cell? ⟨w.heap.size, 1, none⟩ = some (.slice none 0 0) := by rw [Lib.cell_of_heap HA0.out]; rfl
    have y2 : wA.cell? ⟨w.heap.size + 1, 0, none⟩ = some (.slice none 0 0) := by rw [Lib.cell_of_heap HA1.out]; rfl
    have y3 : wA.cell? ⟨w.heap.size + 1, 1, none⟩ = some (.slice none 0 0) := by rw [Lib.cell_of_heap HA1.out]; rfl
    go_enter Tryz.func5, Tryz.ntmps5
    go_wp2_with fail
    rw [← HWA.out]
    refine bodyPost_ret_by (v := .tuple #[.agg #[.slice none 0 0, .slice none 0 0], .agg #[.slice none 0 0, .slice none 0 0], .bool false]) ?_ rfl ?_
    · simp [results, Tryz.results5, go_sem, y0, y1, y2, y3]
    · exact ⟨HBA.out, .inl rfl⟩
  have q1' : ¬ (1500 : Int) < (s.size : Int) := by omega
  clear q1
  go_enter Tryz.func5, Tryz.ntmps5
  go_wp2_with fail
  refine HRP.out.mono ?_
  intro e w1 hq
  obtain ⟨hb1, hq⟩ := hq
  rw [← HWA.out] at hb1
  have HB1 := hide hb1
  have hz1 := hb1.size
  clear HRP
  match res, hq, HLP, HRES with
  | .inl (er, pl), hq, _, _ =>
    have her := hq.2
    obtain ⟨plv, rfl⟩ : ∃ plv : Int, e = .returned (.tuple #[.agg #[.slice none 0 0, .slice none 0 0], faultV (er : Int) plv]) := ⟨_, hq.1⟩
    have hne : ((er : Int) != 0) = true := by simp; omega
    have z0 := (hb1.block w.heap.size (by omega)).trans HA0.out
    have z1 := (hb1.block (w.heap.size + 1) (by omega)).trans HA1.out
    have y0 : w1.cell? ⟨w.heap.size, 0, none⟩ = some (.slice none 0 0) := by rw [Lib.cell_of_heap z0]; rfl
    have y1 : w1.cell? ⟨w.heap.size, 1, none⟩ = some (.slice none 0 0) := by rw [Lib.cell_of_heap z0]; rfl
    have y2 : w1.cell? ⟨w.heap.size + 1, 0, none⟩ = some (.slice none 0 0) := by rw [Lib.cell_of_heap z1]; rfl
    have y3 : w1.cell? ⟨w.heap.size + 1, 1, none⟩ = some (.slice none 0 0) := by rw [Lib.cell_of_heap z1]; rfl
    have u0 : w1.frozen? ⟨w.heap.size, 0, none⟩ = false := Lib.frozen_of_heap z0 0
    have u1 : w1.frozen? ⟨w.heap.size, 1, none⟩ = false := Lib.frozen_of_heap z0 1
    have u2 : w1.frozen? ⟨w.heap.size + 1, 0, none⟩ = false := Lib.frozen_of_heap z1 0
    have u3 : w1.frozen? ⟨w.heap.size + 1, 1, none⟩ = false := Lib.frozen_of_heap z1 1
    have hlt0 : w.heap.size < w1.heap.size := by omega
    have hlt1 : w.heap.size + 1 < w1.heap.size := by omega
    unfold faultV
    obtain ⟨wF, hwF⟩ : ∃ wF, wF = (((w1.setCell ⟨w.heap.size, 0, none⟩ (.slice none 0 0)).setCell ⟨w.heap.size, 1, none⟩ (.slice none 0 0)).setCell ⟨w.heap.size + 1, 0, none⟩ (.slice none 0 0)).setCell ⟨w.heap.size + 1, 1, none⟩ (.slice none 0 0) := ⟨_, rfl⟩
    obtain ⟨⟨k0, k1, k2, k3⟩, _, hko⟩ := stored4 (N := w.heap.size) (F := wF) z0 z1 ⟨_, _, _, rfl⟩ ⟨_, _, _, rfl⟩ (by rw [hwF])
    have hzF : wF.heap.size = w1.heap.size := by rw [hwF]; simp [World.setCell]
    have hbF : Below w.heap.size w wF := by
      refine ⟨?_, ?_, ?_, by rw [hzF]; omega, fun k hk => (hko k (by omega) (by omega)).trans ((hb1.block k (by omega)).trans (HBA.out.block k hk))⟩
      · rw [hwF]; exact hb1.os.trans HBA.out.os
      · rw [hwF]; exact hb1.tape.trans HBA.out.tape
      · rw [hwF]; exact hb1.output.trans HBA.out.output
    obtain ⟨wG, hwG⟩ : ∃ wG, wG = (wF.alloc (.cells #[.slice none 0 0, .slice none 0 0] 30)).alloc (.cells #[.int .i64 (er : Int), .int .i64 plv] 53) := ⟨_, rfl⟩
    have hbG : Below wF.heap.size wF wG := by rw [hwG]; exact ((Below.refl _ _).alloc (Nat.le_refl _) _).alloc (by simp) _
    have hFG : ∀ b i u, wF.cell? ⟨b, i, none⟩ = some u → wG.cell? ⟨b, i, none⟩ = some u := fun b i u hu => (hbG.cell (World.block_lt_of_cell? _ _ hu)).trans hu
    have j0 := hFG _ _ _ k0
    have j1 := hFG _ _ _ k1
    have j2 := hFG _ _ _ k2
    have j3 := hFG _ _ _ k3
    have HBG := hide (hbF.trans (hbG.mono hbF.size))
    clear hb1 hq z0 z1 her hko hbF hbG hFG k0 k1 k2 k3
    go_wp2_with fail
    rw [← hwF, ← hwG]
    refine bodyPost_ret_by (v := .tuple #[.agg #[.slice none 0 0, .slice none 0 0], .agg #[.slice none 0 0, .slice none 0 0], .bool false]) ?_ rfl ?_
    · simp [results, Tryz.results5, go_sem, j0, j1, j2, j3]
    · exact ⟨HBG.out, .inl rfl⟩
  | .inr p, hq, HLP, HRES =>
    obtain ⟨nu, ru, rfl, hu, hck⟩ := hq
    have HU := hide hu
    have HCK := hide hck
    obtain ⟨nu', ru', e0, hnu, hru⟩ := hu
    simp only [Value.agg.injEq, Array.mk.injEq, List.cons.injEq, and_true] at e0
    obtain ⟨rfl, rfl⟩ := e0
    obtain ⟨ua, uc, rfl, _⟩ := hnu.slice
    obtain ⟨ta, tc, rfl, _⟩ := hru.slice
    obtain ⟨n, hnn⟩ : ∃ n, n = p.names.length := ⟨_, rfl⟩
    obtain ⟨m, hmm⟩ : ∃ m, m = p.rungs.length := ⟨_, rfl⟩
    rw [← hnn] at HU ⊢
    rw [← hmm] at HU ⊢
    have HNN := hide hnn
    have HMM := hide hmm
    clear hnn hmm
    obtain ⟨wB, hwB⟩ : ∃ wB, wB = (w1.alloc (.cells #[.slice ua n uc, .slice ta m tc] 30)).alloc (.cells #[.int .i64 0, .int .i64 (-1)] 53) := ⟨_, rfl⟩
    have hbB : Below w1.heap.size w1 wB := by rw [hwB]; exact ((Below.refl _ _).alloc (Nat.le_refl _) _).alloc (by simp) _
    have hsB : wB.heap.size = w1.heap.size + 1 + 1 := by rw [hwB]; simp
    have hB0 : wB.heap[w1.heap.size]? = some (.cells #[.slice ua n uc, .slice ta m tc] 30 (0, 0)) := by rw [hwB]; exact (Below.heap_alloc _ _ _ (by simp)).trans (heap_alloc_new _ _)
    have hbAB : Below wA.heap.size wA wB := hb1.trans (hbB.mono hb1.size)
    have hbwB : Below w.heap.size w wB := HBA.out.trans (hbAB.mono HBA.out.size)
    have HPC := hide (HLP.out wB hbwB)
    rw [hwB] at HPC
    have HWB := hide hwB
    have HBB := hide hbB
    have HB0 := hide hB0
    have HBAB := hide hbAB
    unfold faultV
    clear hnu hru hbB hB0 hbAB hbwB hwB hck HLP hb1
    go_wp2_with fail
    refine HPC.out.mono ?_
    rintro e w2 ⟨hb2, v, rfl, hv, _⟩
    rw [← HWB.out] at hb2
    have HV := hide hv
    obtain ⟨nv, rv, rfl, hn, hr⟩ := hv
    obtain ⟨na, nc, rfl, _⟩ := hn.slice
    obtain ⟨ra, rc, rfl, _⟩ := hr.slice
    rw [← HNN.out, ← HMM.out] at HV ⊢
    have hz2 := hb2.size
    have hbA2 : Below wA.heap.size wA w2 := HBAB.out.trans (hb2.mono HBAB.out.size)
    have z0 := (hbA2.block w.heap.size (by omega)).trans HA0.out
    have z1 := (hbA2.block (w.heap.size + 1) (by omega)).trans HA1.out
    have z2 := (hb2.block w1.heap.size (by omega)).trans HB0.out
    have y0 : w2.cell? ⟨w.heap.size, 0, none⟩ = some (.slice none 0 0) := by rw [Lib.cell_of_heap z0]; rfl
    have y1 : w2.cell? ⟨w.heap.size, 1, none⟩ = some (.slice none 0 0) := by rw [Lib.cell_of_heap z0]; rfl
    have y2 : w2.cell? ⟨w.heap.size + 1, 0, none⟩ = some (.slice none 0 0) := by rw [Lib.cell_of_heap z1]; rfl
    have y3 : w2.cell? ⟨w.heap.size + 1, 1, none⟩ = some (.slice none 0 0) := by rw [Lib.cell_of_heap z1]; rfl
    have y4 : w2.cell? ⟨w1.heap.size, 0, none⟩ = some (.slice ua n uc) := by rw [Lib.cell_of_heap z2]; rfl
    have y5 : w2.cell? ⟨w1.heap.size, 1, none⟩ = some (.slice ta m tc) := by rw [Lib.cell_of_heap z2]; rfl
    have u0 : w2.frozen? ⟨w.heap.size, 0, none⟩ = false := Lib.frozen_of_heap z0 0
    have u1 : w2.frozen? ⟨w.heap.size, 1, none⟩ = false := Lib.frozen_of_heap z0 1
    have u2 : w2.frozen? ⟨w.heap.size + 1, 0, none⟩ = false := Lib.frozen_of_heap z1 0
    have u3 : w2.frozen? ⟨w.heap.size + 1, 1, none⟩ = false := Lib.frozen_of_heap z1 1
    have hlt0 : w.heap.size < w2.heap.size := by omega
    have hlt1 : w.heap.size + 1 < w2.heap.size := by omega
    have hlt2 : w1.heap.size < w2.heap.size := by omega
    have hne0 : w.heap.size ≠ w1.heap.size := by omega
    have hne1 : w.heap.size + 1 ≠ w1.heap.size := by omega
    obtain ⟨wF, hwF⟩ : ∃ wF, wF = (((w2.setCell ⟨w.heap.size, 0, none⟩ (.slice na n nc)).setCell ⟨w.heap.size, 1, none⟩ (.slice ra m rc)).setCell ⟨w.heap.size + 1, 0, none⟩ (.slice ua n uc)).setCell ⟨w.heap.size + 1, 1, none⟩ (.slice ta m tc) := ⟨_, rfl⟩
    obtain ⟨⟨k0, k1, k2, k3⟩, hst, hko⟩ := stored4 (N := w.heap.size) (F := wF) z0 z1 ⟨_, _, _, rfl⟩ ⟨_, _, _, rfl⟩ (by rw [hwF])
    have hzF : wF.heap.size = w2.heap.size := by rw [hwF]; simp [World.setCell]
    have hbF : Below w.heap.size w wF := by
      refine ⟨?_, ?_, ?_, by rw [hzF]; omega, fun k hk => (hko k (by omega) (by omega)).trans ((hbA2.block k (by omega)).trans (HBA.out.block k hk))⟩
      · rw [hwF]; exact hbA2.os.trans HBA.out.os
      · rw [hwF]; exact hbA2.tape.trans HBA.out.tape
      · rw [hwF]; exact hbA2.output.trans HBA.out.output
    obtain ⟨wG, hwG⟩ : ∃ wG, wG = (wF.alloc (.cells #[.slice na n nc, .slice ra m rc] 26)).drew := ⟨_, rfl⟩
    have hbG : Below wF.heap.size wF wG := by rw [hwG]; exact ((Below.refl _ _).alloc (Nat.le_refl _) _).drew
    have hFG : ∀ b i u, wF.cell? ⟨b, i, none⟩ = some u → wG.cell? ⟨b, i, none⟩ = some u := fun b i u hu => (hbG.cell (World.block_lt_of_cell? _ _ hu)).trans hu
    have j0 := hFG _ _ _ k0
    have j1 := hFG _ _ _ k1
    have j2 := hFG _ _ _ k2
    have j3 := hFG _ _ _ k3
    have HBG := hide (hbF.trans (hbG.mono hbF.size))
    have HVF := hide ((prg_keep hst HV.out).below hbG)
    have HUF := hide ((rprg_keep hst ((HU.out.below HBB.out).below hb2)).below hbG)
    clear hn hr hb2 hbA2 z0 z1 z2 hst hko hbF hbG hFG k0 k1 k2 k3 HPC
    go_wp2_with fail
    go_region
    all_goals go_wp2_with fail
    all_goals rw [← hwF, ← hwG]
    all_goals refine bodyPost_ret_by (v := .tuple #[.agg #[.slice na n nc, .slice ra m rc], .agg #[.slice ua n uc, .slice ta m tc], .bool true]) ?_ rfl ?_
    · simp [results, Tryz.results5, go_sem, j0, j1, j2, j3]
    · exact ⟨HBG.out, .inr ⟨p, _, _, rfl, HRES.out.symm, HVF.out, HUF.out, HCK.out⟩⟩
end Sl
end
section
namespace ErAs
open Go.RowKit
/-- an error that the program hands back, its Errno and its place -/
def ErrAt (er : Value) (n pl : Int) (w : World) : Prop := (er = .iface 42 (.int .i64 n) ∧ pl = -1) ∨ ∃ a, er = .iface 113 (.pointer (some ⟨a, 0, none⟩)) ∧ w.cell? ⟨a, 0, none⟩ = some (.int .i64 n) ∧ w.cell? ⟨a, 1, none⟩ = some (.int .i64 pl)
theorem ErrAt.finds {er : Value} {n pl : Int} {w : World} (h : ErrAt er n pl w) : Finds er n w := by
  rcases h with ⟨h, _⟩ | ⟨a, h, h1, _⟩
  · exact .inl h
  · exact .inr ⟨_, h, h1⟩
set_option maxHeartbeats 2000000 in
set_option maxRecDepth 100000 in
theorem Place_any (er : Value) (n pl : Int) (w : World) (hg : Door w) (hf : ErrAt er n pl w) :
    Calls Tryz.prog 48 #[er] w fun e w' => e = .returned (.tuple #[.int .i64 n, .int .i64 pl]) ∧ Below w.heap.size w w' := by
  have HC := hide (Tell_any er n w hg hf.finds)
  clear hg
  rcases hf with ⟨rfl, rfl⟩ | ⟨a, rfl, h0, h1⟩
  · have sE := atE
    have sU := unE
    go_enter Tryz.func48, Tryz.ntmps48
    go_wp2_with fail
    refine HC.out.mono ?_
    rintro e w1 ⟨rfl, hb⟩
    have HB := hide hb
    clear hb HC
    go_wp2_with fail
    refine wp_loop_rounds 1 ?_
    rw [rounds_succ]
    go_wp2_with fail
    refine bodyPost_ret_by (v := .tuple #[.int .i64 n, .int .i64 (-1)]) ?_ rfl ⟨rfl, HB.out⟩
    simp [results, Tryz.results48, go_sem]
  · have sA := atA
    go_enter Tryz.func48, Tryz.ntmps48
    go_wp2_with fail
    refine HC.out.mono ?_
    rintro e w1 ⟨rfl, hb⟩
    have HB := hide hb
    have h1' := (hb.cell (World.block_lt_of_cell? _ _ h1)).trans h1
    clear hb HC h0 h1
    go_wp2_with fail
    refine wp_loop_rounds 1 ?_
    rw [rounds_succ]
    go_wp2_with fail
    go_quiet (fail)
    go_wp2_with fail
    refine bodyPost_ret_by (v := .tuple #[.int .i64 n, .int .i64 pl]) ?_ rfl ⟨rfl, ⟨HB.out.os, HB.out.tape, HB.out.output, HB.out.size, HB.out.block⟩⟩
    simp [results, Tryz.results48, go_sem]
end ErAs
end
section
open Go.RowKit ErAs
set_option maxHeartbeats 2000000 in
set_option maxRecDepth 100000 in
theorem at_any (er : Value) (n pl : Int) (w : World) (hg : Door w) (hf : ErrAt er n pl w) :
    Calls Tryz.prog 21 #[er, faultV n pl] w fun e w' => e = .returned (.bool true) ∧ Below w.heap.size w w' := by
  obtain ⟨w1, hw1⟩ : ∃ w1, w1 = w.alloc (.cells #[.int .i64 n, .int .i64 pl] 53) := ⟨_, rfl⟩
  have hb1 : Below w.heap.size w w1 := by rw [hw1]; exact (Below.refl _ _).alloc (Nat.le_refl _) _
  have hg1 : Door w1 := (hb1.cell (World.block_lt_of_cell? _ _ hg)).trans hg
  have hf1 : ErrAt er n pl w1 := by
    rcases hf with h | ⟨a, h, h1, h2⟩
    · exact .inl h
    · exact .inr ⟨a, h, (hb1.cell (World.block_lt_of_cell? _ _ h1)).trans h1, (hb1.cell (World.block_lt_of_cell? _ _ h2)).trans h2⟩
  have HC := hide (Place_any er n pl w1 hg1 hf1)
  have hh : w1.heap[w.heap.size]? = some (.cells #[.int .i64 n, .int .i64 pl] 53 (0, 0)) := by rw [hw1]; exact heap_alloc_new _ _
  have HH := hide hh
  have HS1 : Hid (w1.heap.size = w.heap.size + 1) := by show _ = _; rw [hw1]; simp
  obtain ⟨te, ve, hte⟩ : ∃ te ve, er = .iface te ve := by
    rcases hf with ⟨rfl, _⟩ | ⟨q, rfl, _⟩
    · exact ⟨_, _, rfl⟩
    · exact ⟨_, _, rfl⟩
  subst hte
  have HB1 := hide hb1
  have HW1 := hide hw1
  rw [hw1] at HC
  unfold faultV
  clear hg hf hg1 hf1 hb1 hw1 hh
  go_enter Tryz.func21, Tryz.ntmps21
  go_wp2_with fail
  refine HC.out.mono ?_
  rintro e w2 ⟨rfl, hb⟩
  rw [← HW1.out] at hb
  have c0 : w2.cell? ⟨w.heap.size, 0, none⟩ = some (.int .i64 n) := by rw [hb.cell (p := ⟨w.heap.size, 0, none⟩) (by rw [HS1.out]; simp), Lib.cell_of_heap HH.out]; rfl
  have c1 : w2.cell? ⟨w.heap.size, 1, none⟩ = some (.int .i64 pl) := by rw [hb.cell (p := ⟨w.heap.size, 1, none⟩) (by rw [HS1.out]; simp), Lib.cell_of_heap HH.out]; rfl
  have HB := hide hb
  clear hb HC
  go_wp2_with fail
  go_ret
  exact ⟨ret_bool (by simp), HB1.out.trans (HB.out.mono HB1.out.size)⟩
end
section
open Go.RowKit
/-- a slice of numbers that came in -/
def Ints (w : World) (sv : Value) (l : List Int) : Prop :=
  (l = [] ∧ ∃ a cap, sv = .slice a 0 cap) ∨ ∃ g o cap, sv = .slice (some ⟨g, o, none⟩) l.length cap ∧ l.length ≤ cap ∧ ∀ (k : Nat) x, l[k]? = some x → w.cell? ⟨g, o + k, none⟩ = some (.int .i64 x) ∧ I64 x
theorem Ints.below {w w' : World} {sv : Value} {l : List Int} (h : Ints w sv l) (hb : Below w.heap.size w w') : Ints w' sv l := by
  rcases h with h | ⟨g, o, cap, h1, h2, h3⟩
  · exact .inl h
  · exact .inr ⟨g, o, cap, h1, h2, fun k x hk => ⟨(hb.cell (World.block_lt_of_cell? _ _ (h3 k x hk).1)).trans (h3 k x hk).1, (h3 k x hk).2⟩⟩
theorem Ints.slice {w : World} {sv : Value} {l : List Int} (h : Ints w sv l) : ∃ a c, sv = .slice a l.length c := by
  rcases h with ⟨rfl, a, c, rfl⟩ | ⟨g, o, cap, rfl, _⟩
  · exact ⟨a, c, rfl⟩
  · exact ⟨_, _, rfl⟩
theorem Ints.cell {w : World} {a : Option Addr} {n c : Nat} {l : List Int} (h : Ints w (.slice a n c) l) (k : Nat) (x : Int) (hx : l[k]? = some x) : ∃ g o, a = some ⟨g, o, none⟩ ∧ w.cell? ⟨g, o + k, none⟩ = some (.int .i64 x) := by
  rcases h with ⟨h0, _⟩ | ⟨g, o, cap, h1, h2, h3⟩
  · rw [h0] at hx; simp at hx
  · simp only [Value.slice.injEq] at h1
    exact ⟨g, o, h1.1, (h3 k x hx).1⟩
end
section
open Go.RowKit
set_option maxHeartbeats 2000000 in
set_option maxRecDepth 100000 in
theorem lsameI_any (l : List Int) (u v : Value) (w : World) (hu : Ints w u l) (hv : Ints w v l) (hl : l.length ≤ 1000000) :
    Calls Tryz.prog 10 #[u, v] w fun e w' => e = .returned (.bool true) ∧ Below w.heap.size w w' := by
  have HU := hide hu
  have HV := hide hv
  obtain ⟨n, hn⟩ : ∃ n, n = l.length := ⟨_, rfl⟩
  have HN := hide hn
  obtain ⟨ua, uc, rfl⟩ := hu.slice
  obtain ⟨va, vc, rfl⟩ := hv.slice
  rw [← hn] at HU HV hl ⊢
  clear hu hv hn
  go_enter Tryz.func10, Tryz.ntmps10
  go_wp2_with fail
  go_loopw [5] (fun i wr => ∃ k : Nat, k ≤ n ∧ i = .int .i64 (k : Int) ∧ Hid (Below w.heap.size w wr)) (fun i _ => n - (intOf i).toNat)
  case atStart => exact ⟨0, Nat.zero_le _, rfl, Below.refl _ _⟩
  case round =>
    obtain ⟨k, hk, rfl, HB⟩ := hrel
    by_cases hlt : k < n
    · have hkl : k < l.length := by rw [← HN.out]; exact hlt
      have hx := List.getElem?_eq_getElem hkl
      obtain ⟨g1, o1, e1, d1⟩ := (HU.out.below HB.out).cell k _ hx
      obtain ⟨g2, o2, e2, d2⟩ := (HV.out.below HB.out).cell k _ hx
      subst e1
      subst e2
      generalize l[k] = x at *
      clear hx
      go_wp2_with fail
      go_quiet (fail)
      go_wp2_with fail
      go_roundw
      case rel => exact ⟨k + 1, by omega, by go_num, HB.out.trans ⟨rfl, rfl, rfl, Nat.le_refl _, fun _ _ => rfl⟩⟩
      case measure => simp [intOf]; omega
    · have hkn : k = n := by omega
      subst hkn
      go_wp2_with fail
      go_ret
      exact ⟨rfl, HB.out⟩
end
section
namespace Rf
/-- a state: of each name by its own -/
structure St where
  is : List UInt8 → Bool
  ct : List UInt8 → Int
def upd {β : Type} (f : List UInt8 → β) (n : List UInt8) (v : β) : List UInt8 → β := fun m => if m = n then v else f m
/-- a name's count -/
def top (ns : List Ld.Nme) (nm : List UInt8) : Int := (ns.getD (Ld.number ns nm).toNat ⟨[], 0, 0⟩).count
def goes (e : Bool) (k c top : Int) : Int := if !e && k == 4 then 0 else if e && decide (c < top) then c + 1 else c
def rung (ns : List Ld.Nme) (was : List UInt8 → Bool) (t : St) (r : Ld.Rng) : St := match r.cond with
  | none => t
  | some x =>
    if r.kind = 1 then ⟨upd t.is r.name (x.eval t.is was), t.ct⟩
    else if r.kind = 2 then (if x.eval t.is was then ⟨upd t.is r.name true, t.ct⟩ else t)
    else if r.kind = 3 then (if x.eval t.is was then ⟨upd t.is r.name false, t.ct⟩ else t)
    else if r.kind = 4 ∨ r.kind = 5 then ⟨upd t.is r.name (goes (x.eval t.is was) r.kind (t.ct r.name) (top ns r.name) == top ns r.name), upd t.ct r.name (goes (x.eval t.is was) r.kind (t.ct r.name) (top ns r.name))⟩
    else if r.kind = 6 then (if x.eval t.is was then ⟨upd t.is r.name false, upd t.ct r.name 0⟩ else t)
    else t
def reads (ns : List Ld.Nme) (l : List Nat) (inp : List Bool) (f : List UInt8 → Bool) : List UInt8 → Bool := (l.zip inp).foldl (fun acc p => upd acc (ns.getD p.1 ⟨[], 0, 0⟩).name p.2) f
def step (p : Ld.Prg) (s : St) (inp : List Bool) : St := p.rungs.foldl (rung p.names s.is) ⟨reads p.names (Ld.kindL p.names 1) inp s.is, s.ct⟩
def start : St := ⟨fun _ => false, fun _ => 0⟩
/-- counts, told -/
def toldC (ns : List Ld.Nme) (l : List Int) (s : List UInt8) : Int := if 0 ≤ Ld.number ns s then l.getD (Ld.number ns s).toNat 0 else 0
/-- the document's state of a program's own -/
def of (ns : List Ld.Nme) (s : Sc.St) : St := ⟨Sc.told ns s.is, toldC ns s.ct⟩
theorem number_inj (ns : List Ld.Nme) (a b : List UInt8) (h : 0 ≤ Ld.number ns b) (e : Ld.number ns a = Ld.number ns b) : a = b := by
  rcases Ld.number_cases ns a with ⟨h1, _⟩ | ⟨k, hk, h1, h2, _⟩
  · omega
  · rcases Ld.number_cases ns b with ⟨h3, _⟩ | ⟨j, hj, h3, h4, _⟩
    · omega
    · have : k = j := by omega
      subst this
      exact h2.symm.trans h4
theorem told_set (ns : List Ld.Nme) (l : List Bool) (nm : List UInt8) (v : Bool) (h : 0 ≤ Ld.number ns nm) (hl : l.length = ns.length) : Sc.told ns (l.set (Ld.number ns nm).toNat v) = upd (Sc.told ns l) nm v := by
  funext m
  have hlt := Ld.number_lt ns nm
  unfold upd
  by_cases e : m = nm
  · subst e
    rw [if_pos rfl]
    unfold Sc.told
    rw [Sc.getD_set, if_pos ⟨rfl, by omega⟩]
    simp [h]
  · rw [if_neg e]
    unfold Sc.told
    by_cases h0 : 0 ≤ Ld.number ns m
    · rw [Sc.getD_set, if_neg (fun h1 => e (number_inj ns m nm h (by have := h1.1; omega)))]
    · simp [h0]
theorem toldC_set (ns : List Ld.Nme) (l : List Int) (nm : List UInt8) (v : Int) (h : 0 ≤ Ld.number ns nm) (hl : l.length = ns.length) : toldC ns (l.set (Ld.number ns nm).toNat v) = upd (toldC ns l) nm v := by
  funext m
  have hlt := Ld.number_lt ns nm
  unfold upd
  by_cases e : m = nm
  · subst e
    rw [if_pos rfl]
    unfold toldC
    rw [if_pos h, Sc.getD_set, if_pos ⟨rfl, by omega⟩]
  · rw [if_neg e]
    unfold toldC
    by_cases h0 : 0 ≤ Ld.number ns m
    · rw [if_pos h0, if_pos h0, Sc.getD_set, if_neg (fun h1 => e (number_inj ns m nm h (by have := h1.1; omega)))]
    · rw [if_neg h0, if_neg h0]
theorem upd_same {β : Type} (f : List UInt8 → β) (n : List UInt8) : upd f n (f n) = f := by
  funext m
  unfold upd
  by_cases e : m = n
  · rw [if_pos e, e]
  · rw [if_neg e]
theorem of_start (p : Ld.Prg) : of p.names (Sc.start p) = start := by
  have h1 : ∀ k, (List.replicate p.names.length false).getD k false = false := fun k => by
    rw [List.getD_eq_getElem?_getD, List.getElem?_replicate]
    split <;> rfl
  have h2 : ∀ k, (List.replicate p.names.length (0 : Int)).getD k 0 = 0 := fun k => by
    rw [List.getD_eq_getElem?_getD, List.getElem?_replicate]
    split <;> rfl
  unfold of Sc.start start Sc.told toldC
  congr 1
  · funext m
    rw [h1]
    simp
  · funext m
    rw [h2]
    simp
/-- inputs are read -/
theorem of_reads (ns : List Ld.Nme) : ∀ (l : List Nat) (inp : List Bool) (is : List Bool), is.length = ns.length → (∀ i, i ∈ l → ∃ hi : i < ns.length, Ld.number ns ns[i].name = (i : Int)) → Sc.told ns (Sc.reads l inp is) = reads ns l inp (Sc.told ns is)
  | [], _, _, _, _ => rfl
  | _ :: _, [], _, _, _ => rfl
  | i :: l, b :: inp, is, hl, hn => by
    obtain ⟨hi, h1⟩ := hn i (by simp)
    have h2 := told_set ns is ns[i].name b (by omega) hl
    rw [h1, Int.toNat_natCast] at h2
    have h3 := of_reads ns l inp (is.set i b) (by simpa using hl) (fun j hj => hn j (by simp [hj]))
    unfold Sc.reads reads at h3 ⊢
    simp only [List.zip_cons_cons, List.foldl_cons]
    rw [h3, h2]
    have e : (ns.getD i ⟨[], 0, 0⟩).name = ns[i].name := by simp [hi]
    rw [e]
theorem told_at (ns : List Ld.Nme) (l : List Bool) (nm : List UInt8) (h : 0 ≤ Ld.number ns nm) : Sc.told ns l nm = l.getD (Ld.number ns nm).toNat false := by
  unfold Sc.told
  simp [h]
theorem toldC_at (ns : List Ld.Nme) (l : List Int) (nm : List UInt8) (h : 0 ≤ Ld.number ns nm) : toldC ns l nm = l.getD (Ld.number ns nm).toNat 0 := by
  unfold toldC
  rw [if_pos h]
/-- a rung does what the document says -/
theorem of_rung (p : Ld.Prg) (hck : Ld.check p = none) (was : List Bool) (r : Ld.Rng) (hr : r ∈ p.rungs) (s : Sc.St) (hb : Sc.Bd p s) : of p.names (Sc.doRung p.names was s r) = rung p.names (Sc.told p.names was) (of p.names s) r := by
  obtain ⟨h1, h2, h3, h4, x, h5, _⟩ := Ld.check_rungs p hck r hr
  obtain ⟨k, hk, h6, h7, _⟩ : ∃ (k : Nat) (h : k < p.names.length), Ld.number p.names r.name = (k : Int) ∧ p.names[k].name = r.name ∧ True := by
    rcases Ld.number_cases p.names r.name with ⟨h6, _⟩ | ⟨k, hk, h6, h7, _⟩
    · omega
    · exact ⟨k, hk, h6, h7, trivial⟩
  have hbk := hb.at_ k hk
  have hs1 : ∀ v, Sc.told p.names (s.is.set k v) = upd (Sc.told p.names s.is) r.name v := fun v => by
    have := told_set p.names s.is r.name v h3 hb.li
    rw [h6, Int.toNat_natCast] at this
    exact this
  have hs2 : ∀ v, toldC p.names (s.ct.set k v) = upd (toldC p.names s.ct) r.name v := fun v => by
    have := toldC_set p.names s.ct r.name v h3 hb.lc
    rw [h6, Int.toNat_natCast] at this
    exact this
  have ha1 : Sc.told p.names s.is r.name = s.is.getD k false := by
    have := told_at p.names s.is r.name h3
    rw [h6, Int.toNat_natCast] at this
    exact this
  have ha2 : toldC p.names s.ct r.name = s.ct.getD k 0 := by
    have := toldC_at p.names s.ct r.name h3
    rw [h6, Int.toNat_natCast] at this
    exact this
  have hcnt : (p.names.getD k ⟨[], 0, 0⟩).count = p.names[k].count := by simp [hk]
  have htop : top p.names r.name = p.names[k].count := by unfold top; rw [h6, Int.toNat_natCast]; exact hcnt
  unfold Sc.doRung rung
  rw [h5]
  simp only
  rw [if_pos h3, h6, Int.toNat_natCast, hcnt]
  have eq0 : (of p.names s).is = Sc.told p.names s.is := rfl
  have eq1 : (of p.names s).ct = toldC p.names s.ct := rfl
  rw [eq0, eq1, htop, ha2]
  generalize x.eval (Sc.told p.names s.is) (Sc.told p.names was) = e
  rcases (show r.kind = 1 ∨ r.kind = 2 ∨ r.kind = 3 ∨ r.kind = 4 ∨ r.kind = 5 ∨ r.kind = 6 by omega) with hk1 | hk1 | hk1 | hk1 | hk1 | hk1
  · rw [hk1]
    simp only [Sc.rung, if_true, of, hs1]
  · rw [hk1]
    cases e with
    | true => simp [Sc.rung, of, hs1]
    | false =>
      simp only [Sc.rung, Bool.or_false]
      simp only [show ¬ (2 : Int) = 1 by decide, if_false, if_true, of, hs1]
      rw [← ha1, upd_same]
      simp
  · rw [hk1]
    cases e with
    | true => simp [Sc.rung, of, hs1]
    | false =>
      simp only [Sc.rung, Bool.not_false, Bool.and_true]
      simp only [show ¬ (3 : Int) = 1 by decide, show ¬ (3 : Int) = 2 by decide, if_false, if_true, of, hs1]
      rw [← ha1, upd_same]
      simp
  · rw [hk1]
    have hg : goes e 4 (s.ct.getD k 0) p.names[k].count = if e then Sc.further (s.ct.getD k 0) p.names[k].count else 0 := by
      unfold goes Sc.further
      cases e with
      | false => simp
      | true =>
        simp only [Bool.not_true, Bool.false_and, Bool.false_eq_true, if_false, Bool.true_and, if_true, decide_eq_true_eq]
        split
        · rfl
        · omega
    simp only [Sc.rung, show ¬ (4 : Int) = 1 by decide, show ¬ (4 : Int) = 2 by decide, show ¬ (4 : Int) = 3 by decide, if_false, if_true, true_or, Sc.run, of, hs1, hs2, hg]
  · rw [hk1]
    have hg : goes e 5 (s.ct.getD k 0) p.names[k].count = if e then Sc.further (s.ct.getD k 0) p.names[k].count else s.ct.getD k 0 := by
      unfold goes Sc.further
      cases e with
      | false => simp
      | true =>
        simp only [Bool.not_true, Bool.false_and, Bool.false_eq_true, if_false, Bool.true_and, if_true, decide_eq_true_eq]
        split
        · rfl
        · omega
    simp only [Sc.rung, show ¬ (5 : Int) = 1 by decide, show ¬ (5 : Int) = 2 by decide, show ¬ (5 : Int) = 3 by decide, show ¬ (5 : Int) = 4 by decide, if_false, if_true, or_true, Sc.count, of, hs1, hs2, hg]
  · rw [hk1]
    cases e with
    | true => simp [Sc.rung, Sc.zero, of, hs1, hs2]
    | false => simp [Sc.rung, Sc.zero, of]
theorem of_fold (p : Ld.Prg) (hck : Ld.check p = none) (was : List Bool) : ∀ (rs : List Ld.Rng), (∀ r, r ∈ rs → r ∈ p.rungs) → ∀ s, Sc.Bd p s → of p.names (rs.foldl (Sc.doRung p.names was) s) = rs.foldl (rung p.names (Sc.told p.names was)) (of p.names s)
  | [], _, _, _ => rfl
  | r :: rs, hrs, s, hb => by
    rw [List.foldl_cons, List.foldl_cons, of_fold p hck was rs (fun r' hr' => hrs r' (by simp [hr'])) _ (Sc.doRung_bd p hck was r (hrs r (by simp)) s hb).1, of_rung p hck was r (hrs r (by simp)) s hb]
/-- each name's number is its own -/
theorem number_self (p : Ld.Prg) (h : Ld.check p = none) (k : Nat) (hk : k < p.names.length) : Ld.number p.names p.names[k].name = (k : Int) := by
  unfold Ld.check at h
  by_cases hl : 12 < p.names.length ∨ 40 < p.rungs.length
  · rw [if_pos hl] at h; cases h
  rw [if_neg hl] at h
  cases hn : Ld.bad (Ld.nameAt p.names) p.names.length with
  | some r => rw [hn] at h; cases h
  | none =>
    have h1 := Ld.bad_none _ _ hn k hk
    rw [Ld.nameAt_at _ _ hk, Ld.wrongN] at h1
    have h2 : ¬ Ld.number p.names p.names[k].name < (k : Int) := by
      intro hlt
      rw [if_pos hlt] at h1
      repeat' split at h1
      all_goals omega
    rcases Ld.number_cases p.names p.names[k].name with ⟨_, h4⟩ | ⟨j, hj, h3, h4, h5⟩
    · exact absurd rfl (h4 _ (List.getElem_mem hk))
    · rw [h3] at h2 ⊢
      by_cases e : j = k
      · rw [e]
      · exact absurd rfl (h5 k (by omega))
/-- a scan does what the document says -/
theorem of_step (p : Ld.Prg) (hck : Ld.check p = none) (s : Sc.St) (inp : List Bool) (hb : Sc.Bd p s) : of p.names (Sc.step p s inp) = step p (of p.names s) inp := by
  have hb0 : Sc.Bd p ⟨Sc.reads (Ld.kindL p.names 1) inp s.is, s.ct⟩ := by
    refine ⟨by simp only [Sc.reads_len]; exact hb.li, hb.lc, fun k hk => ?_⟩
    obtain ⟨h1, h2, h3⟩ := hb.at_ k hk
    refine ⟨h1, h2, fun h4 => ?_⟩
    simp only
    rw [Sc.reads_other _ _ _ _ (fun hm => by obtain ⟨hi, he⟩ := Ld.kindL_at _ _ _ hm; omega)]
    exact h3 h4
  have h1 := of_fold p hck s.is p.rungs (fun _ h => h) _ hb0
  have h2 := of_reads p.names (Ld.kindL p.names 1) inp s.is hb.li (fun i hi => by
    obtain ⟨hi2, _⟩ := Ld.kindL_at _ _ _ hi
    exact ⟨hi2, number_self p hck i hi2⟩)
  have h3 : of p.names ⟨Sc.reads (Ld.kindL p.names 1) inp s.is, s.ct⟩ = ⟨reads p.names (Ld.kindL p.names 1) inp (of p.names s).is, (of p.names s).ct⟩ := by
    unfold of
    rw [h2]
  rw [h3] at h1
  exact h1
end Rf
end
end Go.Proofs.YtjfgfcajmkbmeaaGreatDoor
