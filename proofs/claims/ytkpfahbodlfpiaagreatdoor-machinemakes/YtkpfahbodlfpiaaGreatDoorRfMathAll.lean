/-
  The walk of the statements' own both: a text is read by the document's package and by package ladder. The walks of Place, and of the law's own at. The walk of the statements' own at: is an error this fault? Slices of numbers in memory. The walk of the statements' own bare; own rows of numbers as slices. The walk of the law's own sameInts, at two like lists. Plain mathematics of chapter 3: programs on their way. Nothing of the program is named here. Plain mathematics: along a play counts stay within their bounds, timers and counters are true just where they are there, and inputs are what came. The document's states by names, in plain words: what its Step does is what package scan's does.
-/
import Derived.Test.YtkpfahbodlfpiaaGreatDoorRlStayAll
import Derived.Test.YtkpfahbodlfpiaaGreatDoorLdParseWAll
import Derived.Test.YtkpfahbodlfpiaaGreatDoorExErrAll
import Derived.WalkMore
import Derived.Test.YtkpfahbodlfpiaaGreatDoorNdWalkAll
import Derived.Test.YtkpfahbodlfpiaaGreatDoorLdKindAll
import Derived.Test.YtkpfahbodlfpiaaGreatDoorRdListAll
import Derived.Test.YtkpfahbodlfpiaaGreatDoorLdRepAll
import Derived.Test.YtkpfahbodlfpiaaGreatDoorSpSeqAll
namespace Go.Proofs.YtkpfahbodlfpiaaGreatDoor
section
open Go.RowKit
namespace Sl
/-- what reading both ways comes to: nothing, or one program -/
def Both (s : ByteArray) (w : World) (e : Ending) (w' : World) : Prop :=
  Below w.heap.size w w' ∧ (e = .returned (.tuple #[.agg #[.slice none 0 0, .slice none 0 0], .agg #[.slice none 0 0, .slice none 0 0], .bool false]) ∨
    ∃ p v u, e = .returned (.tuple #[v, u, .bool true]) ∧ Ld.parse s.data.toList = .inr p ∧ IsPrg w' p v ∧ IsRPrg w' p u ∧ Ld.check p = none)
/-- blocks that do not begin with a slice stand -/
def NStay (w w' : World) : Prop := ∀ g i u x, w.cell? ⟨g, 0, none⟩ = some x → (∀ a n c, x ≠ .slice a n c) → w.cell? ⟨g, i, none⟩ = some u → w'.cell? ⟨g, i, none⟩ = some u
theorem NStay.plainR {w w' : World} (h : NStay w w') : RStay w w' := fun g i u hp hc => by
  rcases hp with (⟨s, h1⟩ | ⟨t, y, h1⟩) | ⟨a, h1⟩
  · exact h g i u _ h1 (fun a n c e => by cases e) hc
  · exact h g i u _ h1 (fun a n c e => by cases e) hc
  · exact h g i u _ h1 (fun a n c e => by cases e) hc
theorem prg_keep {w w' : World} {p : Ld.Prg} {v : Value} (hs : NStay w w') (h : IsPrg w p v) : IsPrg w' p v := by
  obtain ⟨nv, rv, h1, h2, h3⟩ := h
  refine ⟨nv, rv, h1, names_stay hs.plainR.names h2, ?_⟩
  rcases h3 with h3 | ⟨g, cap, e1, e2, e3, e4⟩
  · exact .inl h3
  · refine .inr ⟨g, cap, e1, e2, e3, fun i r hi => ?_⟩
    have hil := (List.getElem?_eq_some_iff.1 hi).1
    obtain ⟨u0, c0, _⟩ := e4 0 (p.rungs[0]'(by omega)) (List.getElem?_eq_getElem _)
    have key : ∀ i u, w.cell? ⟨g, i, none⟩ = some u → w'.cell? ⟨g, i, none⟩ = some u := fun i u hc => hs g i u _ (by simpa using c0) (fun a n c e => by cases e) hc
    obtain ⟨u, d0, d1, d2, d3, d4, d5⟩ := e4 i r hi
    exact ⟨u, key _ _ d0, key _ _ d1, key _ _ d2, d3, d4, cond_stay hs.plainR.names d5⟩
theorem rprg_keep {w w' : World} {p : Ld.Prg} {v : Value} (hs : NStay w w') (h : IsRPrg w p v) : IsRPrg w' p v := by
  obtain ⟨nv, rv, h1, h2, h3⟩ := h
  refine ⟨nv, rv, h1, names_stay hs.plainR.names h2, ?_⟩
  rcases h3 with h3 | ⟨g, cap, e1, e2, e3, e4⟩
  · exact .inl h3
  · refine .inr ⟨g, cap, e1, e2, e3, fun i r hi => ?_⟩
    have hil := (List.getElem?_eq_some_iff.1 hi).1
    obtain ⟨u0, c0, _⟩ := e4 0 (p.rungs[0]'(by omega)) (List.getElem?_eq_getElem _)
    have key : ∀ i u, w.cell? ⟨g, i, none⟩ = some u → w'.cell? ⟨g, i, none⟩ = some u := fun i u hc => hs g i u _ (by simpa using c0) (fun a n c e => by cases e) hc
    obtain ⟨u, d0, d1, d2, d3, d4, d5⟩ := e4 i r hi
    exact ⟨u, key _ _ d0, key _ _ d1, key _ _ d2, d3, d4, rcond_stay hs.plainR d5⟩
/-- the two results' cells are stored: all else stands -/
theorem stored4 {W F : World} {N : Nat} {x0 x1 y0 y1 a0 a1 b0 b1 : Value} {T U : TypeId} (g0 : W.heap[N]? = some (.cells #[x0, x1] T (0, 0))) (g1 : W.heap[N + 1]? = some (.cells #[y0, y1] U (0, 0))) (hx : ∃ a n c, x0 = .slice a n c) (hy : ∃ a n c, y0 = .slice a n c)
    (hF : F.heap = ((((W.setCell ⟨N, 0, none⟩ a0).setCell ⟨N, 1, none⟩ a1).setCell ⟨N + 1, 0, none⟩ b0).setCell ⟨N + 1, 1, none⟩ b1).heap) :
    (F.cell? ⟨N, 0, none⟩ = some a0 ∧ F.cell? ⟨N, 1, none⟩ = some a1 ∧ F.cell? ⟨N + 1, 0, none⟩ = some b0 ∧ F.cell? ⟨N + 1, 1, none⟩ = some b1) ∧ NStay W F ∧ ∀ k, k ≠ N → k ≠ N + 1 → F.heap[k]? = W.heap[k]? := by
  have h0 : F.heap[N]? = some (.cells #[a0, a1] T (0, 0)) := by rw [hF]; simp [World.setCell, Array.getElem?_modify, g0]
  have h1 : F.heap[N + 1]? = some (.cells #[b0, b1] U (0, 0)) := by rw [hF]; simp [World.setCell, Array.getElem?_modify, g1]
  have hk : ∀ k, k ≠ N → k ≠ N + 1 → F.heap[k]? = W.heap[k]? := fun k n1 n2 => by
    rw [hF]
    simp [World.setCell, Array.getElem?_modify, Ne.symm n1, Ne.symm n2]
  refine ⟨⟨by rw [Lib.cell_of_heap h0]; rfl, by rw [Lib.cell_of_heap h0]; rfl, by rw [Lib.cell_of_heap h1]; rfl, by rw [Lib.cell_of_heap h1]; rfl⟩, fun g i u x hx0 hns hc => ?_, hk⟩
  have n1 : g ≠ N := fun e => by
    obtain ⟨a, n, c, rfl⟩ := hx
    subst e
    rw [Lib.cell_of_heap g0] at hx0
    simp at hx0
    exact hns _ _ _ hx0.symm
  have n2 : g ≠ N + 1 := fun e => by
    obtain ⟨a, n, c, rfl⟩ := hy
    subst e
    rw [Lib.cell_of_heap g1] at hx0
    simp at hx0
    exact hns _ _ _ hx0.symm
  rw [World.cell?_of_block (hk g n1 n2)]
  exact hc
set_option maxHeartbeats 8000000 in
set_option maxRecDepth 100000 in
theorem both_of (hrp : ∀ (s : ByteArray) (w : World), PLaid w → Calls Tryz.prog 29 #[.string s] w (RParsed w (Ld.parse s.data.toList))) (s : ByteArray) (w : World) (hs : s.size ≤ maxLen) (hL : Laid w) (hP : PLaid w) : Calls Tryz.prog 6 #[.string s] w (Both s w) := by
  have hs' := hs
  unfold maxLen at hs'
  obtain ⟨wA, hwA⟩ : ∃ wA, wA = (w.alloc (.cells #[.slice none 0 0, .slice none 0 0] 26)).alloc (.cells #[.slice none 0 0, .slice none 0 0] 30) := ⟨_, rfl⟩
  have hbA : Below w.heap.size w wA := by rw [hwA]; exact ((Below.refl _ _).alloc (Nat.le_refl _) _).alloc (by simp) _
  have hsA : wA.heap.size = w.heap.size + 1 + 1 := by rw [hwA]; simp
  have hA0 : wA.heap[w.heap.size]? = some (.cells #[.slice none 0 0, .slice none 0 0] 26 (0, 0)) := by rw [hwA]; exact (Below.heap_alloc _ _ _ (by simp)).trans (heap_alloc_new _ _)
  have hA1 : wA.heap[w.heap.size + 1]? = some (.cells #[.slice none 0 0, .slice none 0 0] 30 (0, 0)) := by
    rw [hwA]
    have := heap_alloc_new (w.alloc (.cells #[.slice none 0 0, .slice none 0 0] 26)) (.cells #[.slice none 0 0, .slice none 0 0] 30)
    rw [World.size_alloc] at this
    exact this
  have HRP := hide (hrp s wA (hP.below hbA))
  have HLP : Hid (∀ W, Below w.heap.size w W → Calls Tryz.prog 30 #[.string s] W (LParsed W (Ld.parse s.data.toList))) := fun W hW => LParse_any s.data.toList W hs (hL.below hW)
  have HCKP := hide (fun p (h : Ld.parse s.data.toList = .inr p) => Ld.parse_check _ p h)
  obtain ⟨res, hres⟩ : ∃ res, res = Ld.parse s.data.toList := ⟨_, rfl⟩
  have HRES := hide hres
  rw [← hres] at HRP HLP
  rw [hwA] at HRP
  have HWA := hide hwA
  have HBA := hide hbA
  have HA0 := hide hA0
  have HA1 := hide hA1
  clear hres hwA hbA hA0 hA1 hL hP
  by_cases q1 : 1500 < s.size
  · have q1' : (1500 : Int) < (s.size : Int) := by omega
    have y0 : wA.cell? ⟨w.heap.size, 0, none⟩ = some (.slice none 0 0) := by rw [Lib.cell_of_heap HA0.out]; rfl
    have y1 : wA.cell? ⟨w.heap.size, 1, none⟩ = some (.slice none 0 0) := by rw [Lib.cell_of_heap HA0.out]; rfl
    have y2 : wA.cell? ⟨w.heap.size + 1, 0, none⟩ = some (.slice none 0 0) := by rw [Lib.cell_of_heap HA1.out]; rfl
    have y3 : wA.cell? ⟨w.heap.size + 1, 1, none⟩ = some (.slice none 0 0) := by rw [Lib.cell_of_heap HA1.out]; rfl
    go_enter Tryz.func6, Tryz.ntmps6
    go_wp2_with fail
    rw [← HWA.out]
    refine bodyPost_ret_by (v := .tuple #[.agg #[.slice none 0 0, .slice none 0 0], .agg #[.slice none 0 0, .slice none 0 0], .bool false]) ?_ rfl ?_
    · simp [results, Tryz.results6, go_sem, y0, y1, y2, y3]
    · exact ⟨HBA.out, .inl rfl⟩
  have q1' : ¬ (1500 : Int) < (s.size : Int) := by omega
  clear q1
  go_enter Tryz.func6, Tryz.ntmps6
  go_wp2_with fail
  refine HRP.out.mono ?_
  intro e w1 hq
  obtain ⟨hb1, hq⟩ := hq
  rw [← HWA.out] at hb1
  have HB1 := hide hb1
  have hz1 := hb1.size
  clear HRP
  match res, hq, HLP, HRES with
  | .inl (er, pl), hq, _, _ =>
    have her := hq.2
    obtain ⟨plv, rfl⟩ : ∃ plv : Int, e = .returned (.tuple #[.agg #[.slice none 0 0, .slice none 0 0], faultV (er : Int) plv]) := ⟨_, hq.1⟩
    have hne : ((er : Int) != 0) = true := by simp; omega
    have z0 := (hb1.block w.heap.size (by omega)).trans HA0.out
    have z1 := (hb1.block (w.heap.size + 1) (by omega)).trans HA1.out
    have y0 : w1.cell? ⟨w.heap.size, 0, none⟩ = some (.slice none 0 0) := by rw [Lib.cell_of_heap z0]; rfl
    have y1 : w1.cell? ⟨w.heap.size, 1, none⟩ = some (.slice none 0 0) := by rw [Lib.cell_of_heap z0]; rfl
    have y2 : w1.cell? ⟨w.heap.size + 1, 0, none⟩ = some (.slice none 0 0) := by rw [Lib.cell_of_heap z1]; rfl
    have y3 : w1.cell? ⟨w.heap.size + 1, 1, none⟩ = some (.slice none 0 0) := by rw [Lib.cell_of_heap z1]; rfl
    have u0 : w1.frozen? ⟨w.heap.size, 0, none⟩ = false := Lib.frozen_of_heap z0 0
    have u1 : w1.frozen? ⟨w.heap.size, 1, none⟩ = false := Lib.frozen_of_heap z0 1
    have u2 : w1.frozen? ⟨w.heap.size + 1, 0, none⟩ = false := Lib.frozen_of_heap z1 0
    have u3 : w1.frozen? ⟨w.heap.size + 1, 1, none⟩ = false := Lib.frozen_of_heap z1 1
    have hlt0 : w.heap.size < w1.heap.size := by omega
    have hlt1 : w.heap.size + 1 < w1.heap.size := by omega
    unfold faultV
    obtain ⟨wF, hwF⟩ : ∃ wF, wF = (((w1.setCell ⟨w.heap.size, 0, none⟩ (.slice none 0 0)).setCell ⟨w.heap.size, 1, none⟩ (.slice none 0 0)).setCell ⟨w.heap.size + 1, 0, none⟩ (.slice none 0 0)).setCell ⟨w.heap.size + 1, 1, none⟩ (.slice none 0 0) := ⟨_, rfl⟩
    obtain ⟨⟨k0, k1, k2, k3⟩, _, hko⟩ := stored4 (N := w.heap.size) (F := wF) z0 z1 ⟨_, _, _, rfl⟩ ⟨_, _, _, rfl⟩ (by rw [hwF])
    have hzF : wF.heap.size = w1.heap.size := by rw [hwF]; simp [World.setCell]
    have hbF : Below w.heap.size w wF := by
      refine ⟨?_, ?_, ?_, by rw [hzF]; omega, fun k hk => (hko k (by omega) (by omega)).trans ((hb1.block k (by omega)).trans (HBA.out.block k hk))⟩
      · rw [hwF]; exact hb1.os.trans HBA.out.os
      · rw [hwF]; exact hb1.tape.trans HBA.out.tape
      · rw [hwF]; exact hb1.output.trans HBA.out.output
    obtain ⟨wG, hwG⟩ : ∃ wG, wG = (wF.alloc (.cells #[.slice none 0 0, .slice none 0 0] 30)).alloc (.cells #[.int .i64 (er : Int), .int .i64 plv] 87) := ⟨_, rfl⟩
    have hbG : Below wF.heap.size wF wG := by rw [hwG]; exact ((Below.refl _ _).alloc (Nat.le_refl _) _).alloc (by simp) _
    have hFG : ∀ b i u, wF.cell? ⟨b, i, none⟩ = some u → wG.cell? ⟨b, i, none⟩ = some u := fun b i u hu => (hbG.cell (World.block_lt_of_cell? _ _ hu)).trans hu
    have j0 := hFG _ _ _ k0
    have j1 := hFG _ _ _ k1
    have j2 := hFG _ _ _ k2
    have j3 := hFG _ _ _ k3
    have HBG := hide (hbF.trans (hbG.mono hbF.size))
    clear hb1 hq z0 z1 her hko hbF hbG hFG k0 k1 k2 k3
    go_wp2_with fail
    rw [← hwF, ← hwG]
    refine bodyPost_ret_by (v := .tuple #[.agg #[.slice none 0 0, .slice none 0 0], .agg #[.slice none 0 0, .slice none 0 0], .bool false]) ?_ rfl ?_
    · simp [results, Tryz.results6, go_sem, j0, j1, j2, j3]
    · exact ⟨HBG.out, .inl rfl⟩
  | .inr p, hq, HLP, HRES =>
    obtain ⟨nu, ru, rfl, hu, hck⟩ := hq
    have HU := hide hu
    have HCK := hide hck
    obtain ⟨nu', ru', e0, hnu, hru⟩ := hu
    simp only [Value.agg.injEq, Array.mk.injEq, List.cons.injEq, and_true] at e0
    obtain ⟨rfl, rfl⟩ := e0
    obtain ⟨ua, uc, rfl, _⟩ := hnu.slice
    obtain ⟨ta, tc, rfl, _⟩ := hru.slice
    obtain ⟨n, hnn⟩ : ∃ n, n = p.names.length := ⟨_, rfl⟩
    obtain ⟨m, hmm⟩ : ∃ m, m = p.rungs.length := ⟨_, rfl⟩
    rw [← hnn] at HU ⊢
    rw [← hmm] at HU ⊢
    have HNN := hide hnn
    have HMM := hide hmm
    clear hnn hmm
    obtain ⟨wB, hwB⟩ : ∃ wB, wB = (w1.alloc (.cells #[.slice ua n uc, .slice ta m tc] 30)).alloc (.cells #[.int .i64 0, .int .i64 (-1)] 87) := ⟨_, rfl⟩
    have hbB : Below w1.heap.size w1 wB := by rw [hwB]; exact ((Below.refl _ _).alloc (Nat.le_refl _) _).alloc (by simp) _
    have hsB : wB.heap.size = w1.heap.size + 1 + 1 := by rw [hwB]; simp
    have hB0 : wB.heap[w1.heap.size]? = some (.cells #[.slice ua n uc, .slice ta m tc] 30 (0, 0)) := by rw [hwB]; exact (Below.heap_alloc _ _ _ (by simp)).trans (heap_alloc_new _ _)
    have hbAB : Below wA.heap.size wA wB := hb1.trans (hbB.mono hb1.size)
    have hbwB : Below w.heap.size w wB := HBA.out.trans (hbAB.mono HBA.out.size)
    have HPC := hide (HLP.out wB hbwB)
    rw [hwB] at HPC
    have HWB := hide hwB
    have HBB := hide hbB
    have HB0 := hide hB0
    have HBAB := hide hbAB
    unfold faultV
    clear hnu hru hbB hB0 hbAB hbwB hwB hck HLP hb1
    go_wp2_with fail
    refine HPC.out.mono ?_
    rintro e w2 ⟨hb2, v, rfl, hv, _⟩
    rw [← HWB.out] at hb2
    have HV := hide hv
    obtain ⟨nv, rv, rfl, hn, hr⟩ := hv
    obtain ⟨na, nc, rfl, _⟩ := hn.slice
    obtain ⟨ra, rc, rfl, _⟩ := hr.slice
    rw [← HNN.out, ← HMM.out] at HV ⊢
    have hz2 := hb2.size
    have hbA2 : Below wA.heap.size wA w2 := HBAB.out.trans (hb2.mono HBAB.out.size)
    have z0 := (hbA2.block w.heap.size (by omega)).trans HA0.out
    have z1 := (hbA2.block (w.heap.size + 1) (by omega)).trans HA1.out
    have z2 := (hb2.block w1.heap.size (by omega)).trans HB0.out
    have y0 : w2.cell? ⟨w.heap.size, 0, none⟩ = some (.slice none 0 0) := by rw [Lib.cell_of_heap z0]; rfl
    have y1 : w2.cell? ⟨w.heap.size, 1, none⟩ = some (.slice none 0 0) := by rw [Lib.cell_of_heap z0]; rfl
    have y2 : w2.cell? ⟨w.heap.size + 1, 0, none⟩ = some (.slice none 0 0) := by rw [Lib.cell_of_heap z1]; rfl
    have y3 : w2.cell? ⟨w.heap.size + 1, 1, none⟩ = some (.slice none 0 0) := by rw [Lib.cell_of_heap z1]; rfl
    have y4 : w2.cell? ⟨w1.heap.size, 0, none⟩ = some (.slice ua n uc) := by rw [Lib.cell_of_heap z2]; rfl
    have y5 : w2.cell? ⟨w1.heap.size, 1, none⟩ = some (.slice ta m tc) := by rw [Lib.cell_of_heap z2]; rfl
    have u0 : w2.frozen? ⟨w.heap.size, 0, none⟩ = false := Lib.frozen_of_heap z0 0
    have u1 : w2.frozen? ⟨w.heap.size, 1, none⟩ = false := Lib.frozen_of_heap z0 1
    have u2 : w2.frozen? ⟨w.heap.size + 1, 0, none⟩ = false := Lib.frozen_of_heap z1 0
    have u3 : w2.frozen? ⟨w.heap.size + 1, 1, none⟩ = false := Lib.frozen_of_heap z1 1
    have hlt0 : w.heap.size < w2.heap.size := by omega
    have hlt1 : w.heap.size + 1 < w2.heap.size := by omega
    have hlt2 : w1.heap.size < w2.heap.size := by omega
    have hne0 : w.heap.size ≠ w1.heap.size := by omega
    have hne1 : w.heap.size + 1 ≠ w1.heap.size := by omega
    obtain ⟨wF, hwF⟩ : ∃ wF, wF = (((w2.setCell ⟨w.heap.size, 0, none⟩ (.slice na n nc)).setCell ⟨w.heap.size, 1, none⟩ (.slice ra m rc)).setCell ⟨w.heap.size + 1, 0, none⟩ (.slice ua n uc)).setCell ⟨w.heap.size + 1, 1, none⟩ (.slice ta m tc) := ⟨_, rfl⟩
    obtain ⟨⟨k0, k1, k2, k3⟩, hst, hko⟩ := stored4 (N := w.heap.size) (F := wF) z0 z1 ⟨_, _, _, rfl⟩ ⟨_, _, _, rfl⟩ (by rw [hwF])
    have hzF : wF.heap.size = w2.heap.size := by rw [hwF]; simp [World.setCell]
    have hbF : Below w.heap.size w wF := by
      refine ⟨?_, ?_, ?_, by rw [hzF]; omega, fun k hk => (hko k (by omega) (by omega)).trans ((hbA2.block k (by omega)).trans (HBA.out.block k hk))⟩
      · rw [hwF]; exact hbA2.os.trans HBA.out.os
      · rw [hwF]; exact hbA2.tape.trans HBA.out.tape
      · rw [hwF]; exact hbA2.output.trans HBA.out.output
    obtain ⟨wG, hwG⟩ : ∃ wG, wG = (wF.alloc (.cells #[.slice na n nc, .slice ra m rc] 26)).drew := ⟨_, rfl⟩
    have hbG : Below wF.heap.size wF wG := by rw [hwG]; exact ((Below.refl _ _).alloc (Nat.le_refl _) _).drew
    have hFG : ∀ b i u, wF.cell? ⟨b, i, none⟩ = some u → wG.cell? ⟨b, i, none⟩ = some u := fun b i u hu => (hbG.cell (World.block_lt_of_cell? _ _ hu)).trans hu
    have j0 := hFG _ _ _ k0
    have j1 := hFG _ _ _ k1
    have j2 := hFG _ _ _ k2
    have j3 := hFG _ _ _ k3
    have HBG := hide (hbF.trans (hbG.mono hbF.size))
    have HVF := hide ((prg_keep hst HV.out).below hbG)
    have HUF := hide ((rprg_keep hst ((HU.out.below HBB.out).below hb2)).below hbG)
    clear hn hr hb2 hbA2 z0 z1 z2 hst hko hbF hbG hFG k0 k1 k2 k3 HPC
    go_wp2_with fail
    go_region
    all_goals go_wp2_with fail
    all_goals rw [← hwF, ← hwG]
    all_goals refine bodyPost_ret_by (v := .tuple #[.agg #[.slice na n nc, .slice ra m rc], .agg #[.slice ua n uc, .slice ta m tc], .bool true]) ?_ rfl ?_
    · simp [results, Tryz.results6, go_sem, j0, j1, j2, j3]
    · exact ⟨HBG.out, .inr ⟨p, _, _, rfl, HRES.out.symm, HVF.out, HUF.out, HCK.out⟩⟩
end Sl
end
section
namespace ErAs
open Go.RowKit
/-- an error that the program hands back, its Errno and its place -/
def ErrAt (er : Value) (n pl : Int) (w : World) : Prop := (er = .iface 58 (.int .i64 n) ∧ pl = -1) ∨ ∃ a, er = .iface 126 (.pointer (some ⟨a, 0, none⟩)) ∧ w.cell? ⟨a, 0, none⟩ = some (.int .i64 n) ∧ w.cell? ⟨a, 1, none⟩ = some (.int .i64 pl)
theorem ErrAt.finds {er : Value} {n pl : Int} {w : World} (h : ErrAt er n pl w) : Finds er n w := by
  rcases h with ⟨h, _⟩ | ⟨a, h, h1, _⟩
  · exact .inl h
  · exact .inr ⟨_, h, h1⟩
set_option maxHeartbeats 2000000 in
set_option maxRecDepth 100000 in
theorem Place_any (er : Value) (n pl : Int) (w : World) (hg : Door w) (hf : ErrAt er n pl w) :
    Calls Tryz.prog 65 #[er] w fun e w' => e = .returned (.tuple #[.int .i64 n, .int .i64 pl]) ∧ Below w.heap.size w w' := by
  have HC := hide (Tell_any er n w hg hf.finds)
  clear hg
  rcases hf with ⟨rfl, rfl⟩ | ⟨a, rfl, h0, h1⟩
  · have sE := atE
    have sU := unE
    go_enter Tryz.func65, Tryz.ntmps65
    go_wp2_with fail
    refine HC.out.mono ?_
    rintro e w1 ⟨rfl, hb⟩
    have HB := hide hb
    clear hb HC
    go_wp2_with fail
    refine wp_loop_rounds 1 ?_
    rw [rounds_succ]
    go_wp2_with fail
    refine bodyPost_ret_by (v := .tuple #[.int .i64 n, .int .i64 (-1)]) ?_ rfl ⟨rfl, HB.out⟩
    simp [results, Tryz.results65, go_sem]
  · have sA := atA
    go_enter Tryz.func65, Tryz.ntmps65
    go_wp2_with fail
    refine HC.out.mono ?_
    rintro e w1 ⟨rfl, hb⟩
    have HB := hide hb
    have h1' := (hb.cell (World.block_lt_of_cell? _ _ h1)).trans h1
    clear hb HC h0 h1
    go_wp2_with fail
    refine wp_loop_rounds 1 ?_
    rw [rounds_succ]
    go_wp2_with fail
    go_quiet (fail)
    go_wp2_with fail
    refine bodyPost_ret_by (v := .tuple #[.int .i64 n, .int .i64 pl]) ?_ rfl ⟨rfl, ⟨HB.out.os, HB.out.tape, HB.out.output, HB.out.size, HB.out.block⟩⟩
    simp [results, Tryz.results65, go_sem]
end ErAs
end
section
open Go.RowKit ErAs
set_option maxHeartbeats 2000000 in
set_option maxRecDepth 100000 in
theorem at_any (er : Value) (n pl : Int) (w : World) (hg : Door w) (hf : ErrAt er n pl w) :
    Calls Tryz.prog 37 #[er, faultV n pl] w fun e w' => e = .returned (.bool true) ∧ Below w.heap.size w w' := by
  obtain ⟨w1, hw1⟩ : ∃ w1, w1 = w.alloc (.cells #[.int .i64 n, .int .i64 pl] 87) := ⟨_, rfl⟩
  have hb1 : Below w.heap.size w w1 := by rw [hw1]; exact (Below.refl _ _).alloc (Nat.le_refl _) _
  have hg1 : Door w1 := (hb1.cell (World.block_lt_of_cell? _ _ hg)).trans hg
  have hf1 : ErrAt er n pl w1 := by
    rcases hf with h | ⟨a, h, h1, h2⟩
    · exact .inl h
    · exact .inr ⟨a, h, (hb1.cell (World.block_lt_of_cell? _ _ h1)).trans h1, (hb1.cell (World.block_lt_of_cell? _ _ h2)).trans h2⟩
  have HC := hide (Place_any er n pl w1 hg1 hf1)
  have hh : w1.heap[w.heap.size]? = some (.cells #[.int .i64 n, .int .i64 pl] 87 (0, 0)) := by rw [hw1]; exact heap_alloc_new _ _
  have HH := hide hh
  have HS1 : Hid (w1.heap.size = w.heap.size + 1) := by show _ = _; rw [hw1]; simp
  obtain ⟨te, ve, hte⟩ : ∃ te ve, er = .iface te ve := by
    rcases hf with ⟨rfl, _⟩ | ⟨q, rfl, _⟩
    · exact ⟨_, _, rfl⟩
    · exact ⟨_, _, rfl⟩
  subst hte
  have HB1 := hide hb1
  have HW1 := hide hw1
  rw [hw1] at HC
  unfold faultV
  clear hg hf hg1 hf1 hb1 hw1 hh
  go_enter Tryz.func37, Tryz.ntmps37
  go_wp2_with fail
  refine HC.out.mono ?_
  rintro e w2 ⟨rfl, hb⟩
  rw [← HW1.out] at hb
  have c0 : w2.cell? ⟨w.heap.size, 0, none⟩ = some (.int .i64 n) := by rw [hb.cell (p := ⟨w.heap.size, 0, none⟩) (by rw [HS1.out]; simp), Lib.cell_of_heap HH.out]; rfl
  have c1 : w2.cell? ⟨w.heap.size, 1, none⟩ = some (.int .i64 pl) := by rw [hb.cell (p := ⟨w.heap.size, 1, none⟩) (by rw [HS1.out]; simp), Lib.cell_of_heap HH.out]; rfl
  have HB := hide hb
  clear hb HC
  go_wp2_with fail
  go_ret
  exact ⟨ret_bool (by simp), HB1.out.trans (HB.out.mono HB1.out.size)⟩
end
section
open Go.RowKit
/-- a slice of numbers that came in -/
def Ints (w : World) (sv : Value) (l : List Int) : Prop :=
  (l = [] ∧ ∃ a cap, sv = .slice a 0 cap) ∨ ∃ g o cap, sv = .slice (some ⟨g, o, none⟩) l.length cap ∧ l.length ≤ cap ∧ ∀ (k : Nat) x, l[k]? = some x → w.cell? ⟨g, o + k, none⟩ = some (.int .i64 x) ∧ I64 x
theorem Ints.below {w w' : World} {sv : Value} {l : List Int} (h : Ints w sv l) (hb : Below w.heap.size w w') : Ints w' sv l := by
  rcases h with h | ⟨g, o, cap, h1, h2, h3⟩
  · exact .inl h
  · exact .inr ⟨g, o, cap, h1, h2, fun k x hk => ⟨(hb.cell (World.block_lt_of_cell? _ _ (h3 k x hk).1)).trans (h3 k x hk).1, (h3 k x hk).2⟩⟩
theorem Ints.slice {w : World} {sv : Value} {l : List Int} (h : Ints w sv l) : ∃ a c, sv = .slice a l.length c := by
  rcases h with ⟨rfl, a, c, rfl⟩ | ⟨g, o, cap, rfl, _⟩
  · exact ⟨a, c, rfl⟩
  · exact ⟨_, _, rfl⟩
theorem Ints.cell {w : World} {a : Option Addr} {n c : Nat} {l : List Int} (h : Ints w (.slice a n c) l) (k : Nat) (x : Int) (hx : l[k]? = some x) : ∃ g o, a = some ⟨g, o, none⟩ ∧ w.cell? ⟨g, o + k, none⟩ = some (.int .i64 x) := by
  rcases h with ⟨h0, _⟩ | ⟨g, o, cap, h1, h2, h3⟩
  · rw [h0] at hx; simp at hx
  · simp only [Value.slice.injEq] at h1
    exact ⟨g, o, h1.1, (h3 k x hx).1⟩
end
section
open Go.RowKit
namespace Sl
set_option maxHeartbeats 2000000 in
theorem lbare_any (n : Int) (w : World) (hg : ErAs.Door w) : Calls Tryz.prog 17 #[.iface 58 (.int .i64 n), .int .i64 n] w fun e w' => e = .returned (.bool true) ∧ Below w.heap.size w w' := by
  have HBA := hide (rbare_any n w)
  have HG := hide hg
  clear hg
  go_enter Tryz.func17, Tryz.ntmps17
  go_wp2_with fail
  refine HBA.out.mono ?_
  rintro e w1 ⟨rfl, hb1⟩
  have HAT := hide (at_any (.iface 58 (.int .i64 n)) n (-1) w1 ((hb1.cell (World.block_lt_of_cell? _ _ HG.out)).trans HG.out) (.inl ⟨rfl, rfl⟩))
  have HB1 := hide hb1
  unfold faultV at HAT ⊢
  clear hb1 HBA
  go_wp2_with fail
  refine HAT.out.mono ?_
  rintro e w2 ⟨rfl, hb2⟩
  have HB2 := hide (HB1.out.trans (hb2.mono HB1.out.size))
  clear hb2 HAT
  go_wp2_with fail
  go_ret
  exact ⟨rfl, HB2.out⟩
theorem own_ints {W : World} {q : Nat} {v : Value} {l : List Nat} (h : W.ownsRow q 3 1 v l.length (l.map intV)) (hl : ∀ i, i ∈ l → i ≤ 1000) : Ints W v (l.map fun i : Nat => (i : Int)) := by
  rcases h.2 with ⟨rfl, h0⟩ | ⟨g, cap, cur, rfl, _, hcur, hcap, _, _, htk⟩
  · exact .inl ⟨by rw [List.length_eq_zero_iff.1 h0]; rfl, _, _, rfl⟩
  · refine .inr ⟨g, 0, cap, by simp, by simpa using hcap, fun k x hx => ?_⟩
    rw [List.getElem?_map] at hx
    cases hk : l[k]? with
    | none => rw [hk] at hx; cases hx
    | some i =>
      rw [hk] at hx
      simp only [Option.map_some, Option.some.injEq] at hx
      subst hx
      have := hl i (List.mem_of_getElem? hk)
      exact ⟨by rw [Nat.zero_add]; exact row_cell hcur htk (by rw [List.getElem?_map, hk]; rfl), by unfold I64; omega⟩
end Sl
end
section
open Go.RowKit
set_option maxHeartbeats 2000000 in
set_option maxRecDepth 100000 in
theorem lsameI_any (l : List Int) (u v : Value) (w : World) (hu : Ints w u l) (hv : Ints w v l) (hl : l.length ≤ 1000000) :
    Calls Tryz.prog 14 #[u, v] w fun e w' => e = .returned (.bool true) ∧ Below w.heap.size w w' := by
  have HU := hide hu
  have HV := hide hv
  obtain ⟨n, hn⟩ : ∃ n, n = l.length := ⟨_, rfl⟩
  have HN := hide hn
  obtain ⟨ua, uc, rfl⟩ := hu.slice
  obtain ⟨va, vc, rfl⟩ := hv.slice
  rw [← hn] at HU HV hl ⊢
  clear hu hv hn
  go_enter Tryz.func14, Tryz.ntmps14
  go_wp2_with fail
  go_loopw [5] (fun i wr => ∃ k : Nat, k ≤ n ∧ i = .int .i64 (k : Int) ∧ Hid (Below w.heap.size w wr)) (fun i _ => n - (intOf i).toNat)
  case atStart => exact ⟨0, Nat.zero_le _, rfl, Below.refl _ _⟩
  case round =>
    obtain ⟨k, hk, rfl, HB⟩ := hrel
    by_cases hlt : k < n
    · have hkl : k < l.length := by rw [← HN.out]; exact hlt
      have hx := List.getElem?_eq_getElem hkl
      obtain ⟨g1, o1, e1, d1⟩ := (HU.out.below HB.out).cell k _ hx
      obtain ⟨g2, o2, e2, d2⟩ := (HV.out.below HB.out).cell k _ hx
      subst e1
      subst e2
      generalize l[k] = x at *
      clear hx
      go_wp2_with fail
      go_quiet (fail)
      go_wp2_with fail
      go_roundw
      case rel => exact ⟨k + 1, by omega, by go_num, HB.out.trans ⟨rfl, rfl, rfl, Nat.le_refl _, fun _ _ => rfl⟩⟩
      case measure => simp [intOf]; omega
    · have hkn : k = n := by omega
      subst hkn
      go_wp2_with fail
      go_ret
      exact ⟨rfl, HB.out⟩
end
section
namespace Sc
structure St where
  is : List Bool
  ct : List Int
def further (a most : Int) : Int := if a < most then a + 1 else most
def run (n : Nat) (most : Int) (says : Bool) (s : St) : St :=
  let c := if says then further (s.ct.getD n 0) most else 0
  ⟨s.is.set n (c == most), s.ct.set n c⟩
def count (n : Nat) (most : Int) (says : Bool) (s : St) : St :=
  let c := if says then further (s.ct.getD n 0) most else s.ct.getD n 0
  ⟨s.is.set n (c == most), s.ct.set n c⟩
def zero (n : Nat) (says : Bool) (s : St) : St := if says then ⟨s.is.set n false, s.ct.set n 0⟩ else s
/-- a rung of kind k does this to name n, whose count is most -/
def rung (k : Int) (n : Nat) (most : Int) (says : Bool) (s : St) : St :=
  if k = 1 then ⟨s.is.set n says, s.ct⟩
  else if k = 2 then ⟨s.is.set n (s.is.getD n false || says), s.ct⟩
  else if k = 3 then ⟨s.is.set n (s.is.getD n false && !says), s.ct⟩
  else if k = 4 then run n most says s
  else if k = 5 then count n most says s
  else if k = 6 then zero n says s
  else s
theorem rung_len (k : Int) (n : Nat) (most : Int) (says : Bool) (s : St) : (rung k n most says s).is.length = s.is.length ∧ (rung k n most says s).ct.length = s.ct.length := by
  unfold rung run count zero
  repeat' split
  all_goals simp
/-- what names are, told -/
def told (ns : List Ld.Nme) (l : List Bool) (s : List UInt8) : Bool := decide (0 ≤ Ld.number ns s) && l.getD (Ld.number ns s).toNat false
def doRung (ns : List Ld.Nme) (was : List Bool) (s : St) (r : Ld.Rng) : St :=
  match r.cond with
  | some x => if 0 ≤ Ld.number ns r.name then rung r.kind (Ld.number ns r.name).toNat ((ns.getD (Ld.number ns r.name).toNat ⟨[], 0, 0⟩).count) (x.eval (told ns s.is) (told ns was)) s else s
  | none => s
/-- inputs are read -/
def reads (l : List Nat) (inp : List Bool) (is : List Bool) : List Bool := (l.zip inp).foldl (fun acc p => acc.set p.1 p.2) is
def step (p : Ld.Prg) (s : St) (inp : List Bool) : St := p.rungs.foldl (doRung p.names s.is) ⟨reads (Ld.kindL p.names 1) inp s.is, s.ct⟩
def start (p : Ld.Prg) : St := ⟨List.replicate p.names.length false, List.replicate p.names.length 0⟩
end Sc
end
section
namespace Ld
theorem check_rungs (p : Prg) (h : check p = none) : ∀ r, r ∈ p.rungs → 1 ≤ r.kind ∧ r.kind ≤ 6 ∧ 0 ≤ number p.names r.name ∧ kindAt p.names (number p.names r.name) = kindOf r.kind ∧ ∃ x, r.cond = some x ∧ known p.names x = true := by
  unfold check at h
  by_cases hl : 12 < p.names.length ∨ 40 < p.rungs.length
  · rw [if_pos hl] at h; cases h
  rw [if_neg hl] at h
  cases hn : bad (nameAt p.names) p.names.length with
  | some r => rw [hn] at h; cases h
  | none =>
    rw [hn] at h
    simp only at h
    cases hr : bad (rungAt p) p.rungs.length with
    | some r => rw [hr] at h; cases h
    | none =>
      intro r hm
      obtain ⟨i, hi, rfl⟩ := List.getElem_of_mem hm
      have := bad_none _ _ hr i hi
      rw [rungAt_at _ _ hi, wrongR] at this
      by_cases h1 : p.rungs[i].kind < 1 ∨ 6 < p.rungs[i].kind
      · rw [if_pos h1] at this; cases this
      rw [if_neg h1] at this
      cases hc : p.rungs[i].cond with
      | none => rw [hc] at this; cases this
      | some x =>
        rw [hc] at this
        simp only at this
        by_cases h2 : number p.names p.rungs[i].name < 0
        · rw [if_pos h2] at this; cases this
        rw [if_neg h2] at this
        by_cases h3 : kindAt p.names (number p.names p.rungs[i].name) ≠ kindOf p.rungs[i].kind
        · rw [if_pos h3] at this; cases this
        rw [if_neg h3] at this
        by_cases h4 : known p.names x = true
        · exact ⟨by omega, by omega, by omega, Classical.not_not.1 h3, x, rfl, h4⟩
        · rw [if_neg h4] at this; cases this
theorem kindL_at (ns : List Nme) (k : Int) (i : Nat) (h : i ∈ kindL ns k) : ∃ hi : i < ns.length, ns[i].kind = k := by
  unfold kindL placesTo at h
  obtain ⟨h1, h2⟩ := List.mem_filter.1 h
  have hi := List.mem_range.1 h1
  rw [List.getElem?_eq_getElem hi] at h2
  exact ⟨hi, by simpa using h2⟩
theorem kindL_nodup (ns : List Nme) (k : Int) : (kindL ns k).Nodup := by
  unfold kindL placesTo
  exact List.nodup_range.filter _
end Ld
namespace Sc
theorem getD_set {α : Type} (l : List α) (n : Nat) (v d : α) (j : Nat) : (l.set n v).getD j d = if j = n ∧ n < l.length then v else l.getD j d := by
  rw [List.getD_eq_getElem?_getD, List.getD_eq_getElem?_getD, List.getElem?_set]
  by_cases h : n = j
  · subst h
    by_cases h2 : n < l.length
    · simp [h2]
    · simp [h2]
  · rw [if_neg h, if_neg (fun e => h e.1.symm)]
/-- a state of a program is within its bounds -/
structure Bd (p : Ld.Prg) (s : St) : Prop where
  li : s.is.length = p.names.length
  lc : s.ct.length = p.names.length
  at_ : ∀ k (h : k < p.names.length), 0 ≤ s.ct.getD k 0 ∧ s.ct.getD k 0 ≤ p.names[k].count ∧ (3 ≤ p.names[k].kind → s.is.getD k false = (s.ct.getD k 0 == p.names[k].count))
theorem may (p : Ld.Prg) (h : Ld.check p = none) (k : Nat) (hk : k < p.names.length) : 1 ≤ p.names[k].kind ∧ p.names[k].kind ≤ 4 ∧ (3 ≤ p.names[k].kind → 1 ≤ p.names[k].count ∧ p.names[k].count ≤ 7) ∧ (p.names[k].kind < 3 → p.names[k].count = 0) := by
  obtain ⟨_, h1, h2, h3⟩ := (Ld.check_names p h).2.2.1 _ (List.getElem_mem hk)
  refine ⟨h1, h2, ?_, ?_⟩
  · intro h4
    have hc : Ld.counted p.names[k].kind = true := by unfold Ld.counted; simp; omega
    unfold Ld.mayCount at h3
    rw [if_pos hc] at h3
    simpa using h3
  · intro h4
    have hc : ¬ Ld.counted p.names[k].kind = true := by unfold Ld.counted; simp; omega
    unfold Ld.mayCount at h3
    rw [if_neg hc] at h3
    simpa using h3
theorem Bd.small {p : Ld.Prg} {s : St} (hb : Bd p s) (h : Ld.check p = none) : ∀ c, c ∈ s.ct → 0 ≤ c ∧ c ≤ 7 := by
  intro c hc
  obtain ⟨i, hi, rfl⟩ := List.getElem_of_mem hc
  have hi' : i < p.names.length := by rw [← hb.lc]; exact hi
  have h1 := hb.at_ i hi'
  obtain ⟨_, _, h3, h4⟩ := may p h i hi'
  have e : s.ct.getD i 0 = s.ct[i] := by simp [hi]
  rw [e] at h1
  refine ⟨h1.1, ?_⟩
  by_cases hk : 3 ≤ p.names[i].kind
  · have := (h3 hk).2; omega
  · have := h4 (by omega); omega
theorem start_bd (p : Ld.Prg) (h : Ld.check p = none) : Bd p (start p) := by
  refine ⟨by simp [start], by simp [start], fun k hk => ?_⟩
  obtain ⟨_, _, h3, h4⟩ := may p h k hk
  have e : (start p).ct.getD k 0 = 0 := by simp [start, hk]
  have e2 : (start p).is.getD k false = false := by simp [start, hk]
  rw [e, e2]
  refine ⟨by omega, ?_, ?_⟩
  · by_cases h5 : 3 ≤ p.names[k].kind
    · have := (h3 h5).1; omega
    · have := h4 (by omega); omega
  · intro h5
    have := (h3 h5).1
    have hne : ¬ (0 : Int) = p.names[k].count := by omega
    simpa using hne
theorem rung_other (k : Int) (hk : 1 ≤ k ∧ k ≤ 6) (n : Nat) (most : Int) (says : Bool) (s : St) (j : Nat) (e : ¬ j = n) : (rung k n most says s).is.getD j false = s.is.getD j false ∧ (rung k n most says s).ct.getD j 0 = s.ct.getD j 0 := by
  have h1 : ∀ v, (s.is.set n v).getD j false = s.is.getD j false := fun v => by rw [getD_set, if_neg (fun h => e h.1)]
  have h2 : ∀ v, (s.ct.set n v).getD j 0 = s.ct.getD j 0 := fun v => by rw [getD_set, if_neg (fun h => e h.1)]
  rcases (show k = 1 ∨ k = 2 ∨ k = 3 ∨ k = 4 ∨ k = 5 ∨ k = 6 by omega) with rfl | rfl | rfl | rfl | rfl | rfl
  · exact ⟨h1 _, rfl⟩
  · exact ⟨h1 _, rfl⟩
  · exact ⟨h1 _, rfl⟩
  · exact ⟨h1 _, h2 _⟩
  · exact ⟨h1 _, h2 _⟩
  · cases says with
    | false => exact ⟨rfl, rfl⟩
    | true => exact ⟨h1 _, h2 _⟩
/-- what a rung leaves: bounds, and the inputs as they were -/
theorem rung_bd (p : Ld.Prg) (h : Ld.check p = none) (k : Int) (hk : 1 ≤ k ∧ k ≤ 6) (n : Nat) (hn : n < p.names.length) (hkn : p.names[n].kind = Ld.kindOf k) (says : Bool) (s : St) (hb : Bd p s) :
    Bd p (rung k n p.names[n].count says s) ∧ ∀ j (hj : j < p.names.length), p.names[j].kind = 1 → (rung k n p.names[n].count says s).is.getD j false = s.is.getD j false := by
  obtain ⟨l1, l2⟩ := rung_len k n p.names[n].count says s
  have hli := hb.li
  have hlc := hb.lc
  obtain ⟨_, _, h3, h4⟩ := may p h n hn
  have hcn := hb.at_ n hn
  have key : ∀ j (hj : j < p.names.length), (0 ≤ (rung k n p.names[n].count says s).ct.getD j 0 ∧ (rung k n p.names[n].count says s).ct.getD j 0 ≤ p.names[j].count ∧ (3 ≤ p.names[j].kind → (rung k n p.names[n].count says s).is.getD j false = ((rung k n p.names[n].count says s).ct.getD j 0 == p.names[j].count))) ∧ (p.names[j].kind = 1 → (rung k n p.names[n].count says s).is.getD j false = s.is.getD j false) := by
    intro j hj
    by_cases e : j = n
    · subst e
      have hni : j < s.is.length := by omega
      have hnc : j < s.ct.length := by omega
      have hf : 0 ≤ further (s.ct.getD j 0) p.names[j].count ∧ further (s.ct.getD j 0) p.names[j].count ≤ p.names[j].count := by unfold further; split <;> omega
      rcases (show k = 1 ∨ k = 2 ∨ k = 3 ∨ k = 4 ∨ k = 5 ∨ k = 6 by omega) with rfl | rfl | rfl | rfl | rfl | rfl
      · have hk2 : p.names[j].kind = 2 := hkn
        exact ⟨⟨hcn.1, hcn.2.1, fun h5 => absurd h5 (by omega)⟩, fun h5 => absurd h5 (by omega)⟩
      · have hk2 : p.names[j].kind = 2 := hkn
        exact ⟨⟨hcn.1, hcn.2.1, fun h5 => absurd h5 (by omega)⟩, fun h5 => absurd h5 (by omega)⟩
      · have hk2 : p.names[j].kind = 2 := hkn
        exact ⟨⟨hcn.1, hcn.2.1, fun h5 => absurd h5 (by omega)⟩, fun h5 => absurd h5 (by omega)⟩
      · have hk2 : p.names[j].kind = 3 := hkn
        have h6 := (h3 (by omega)).1
        refine ⟨?_, fun h5 => absurd h5 (by omega)⟩
        show 0 ≤ (run j p.names[j].count says s).ct.getD j 0 ∧ (run j p.names[j].count says s).ct.getD j 0 ≤ p.names[j].count ∧ (3 ≤ p.names[j].kind → (run j p.names[j].count says s).is.getD j false = ((run j p.names[j].count says s).ct.getD j 0 == p.names[j].count))
        unfold run
        simp only [getD_set, hni, hnc, and_self, if_true]
        refine ⟨?_, ?_, fun _ => trivial⟩
        · split <;> omega
        · split <;> omega
      · have hk2 : p.names[j].kind = 4 := hkn
        refine ⟨?_, fun h5 => absurd h5 (by omega)⟩
        show 0 ≤ (count j p.names[j].count says s).ct.getD j 0 ∧ (count j p.names[j].count says s).ct.getD j 0 ≤ p.names[j].count ∧ (3 ≤ p.names[j].kind → (count j p.names[j].count says s).is.getD j false = ((count j p.names[j].count says s).ct.getD j 0 == p.names[j].count))
        unfold count
        simp only [getD_set, hni, hnc, and_self, if_true]
        refine ⟨?_, ?_, fun _ => trivial⟩
        · split <;> omega
        · split <;> omega
      · have hk2 : p.names[j].kind = 4 := hkn
        have h6 := (h3 (by omega)).1
        refine ⟨?_, fun h5 => absurd h5 (by omega)⟩
        show 0 ≤ (zero j says s).ct.getD j 0 ∧ (zero j says s).ct.getD j 0 ≤ p.names[j].count ∧ (3 ≤ p.names[j].kind → (zero j says s).is.getD j false = ((zero j says s).ct.getD j 0 == p.names[j].count))
        unfold zero
        cases says with
        | false => exact hcn
        | true =>
          simp only [getD_set, hni, hnc, and_self, if_true]
          refine ⟨by omega, by omega, fun _ => ?_⟩
          have hne : ¬ (0 : Int) = p.names[j].count := by omega
          simpa using hne
    · obtain ⟨e1, e2⟩ := rung_other k hk n p.names[n].count says s j e
      rw [e1, e2]
      exact ⟨hb.at_ j hj, fun _ => rfl⟩
  exact ⟨⟨by omega, by omega, fun j hj => (key j hj).1⟩, fun j hj => (key j hj).2⟩
theorem doRung_bd (p : Ld.Prg) (h : Ld.check p = none) (was : List Bool) (r : Ld.Rng) (hr : r ∈ p.rungs) (s : St) (hb : Bd p s) :
    Bd p (doRung p.names was s r) ∧ ∀ j (hj : j < p.names.length), p.names[j].kind = 1 → (doRung p.names was s r).is.getD j false = s.is.getD j false := by
  obtain ⟨h1, h2, h3, h4, x, h5, _⟩ := Ld.check_rungs p h r hr
  unfold doRung
  rw [h5]
  simp only
  rw [if_pos h3]
  rcases Ld.number_cases p.names r.name with ⟨h6, _⟩ | ⟨n, hn, h6, _⟩
  · omega
  · rw [h6] at h4 ⊢
    have e1 : ((n : Int)).toNat = n := by omega
    have hk : p.names[n].kind = Ld.kindOf r.kind := by
      rw [← h4, Ld.kindAt, e1, List.getElem?_eq_getElem hn]
    have e2 : (p.names.getD n ⟨[], 0, 0⟩).count = p.names[n].count := by simp [hn]
    rw [e1, e2]
    exact rung_bd p h r.kind ⟨h1, h2⟩ n hn hk _ s hb
theorem fold_bd (p : Ld.Prg) (h : Ld.check p = none) (was : List Bool) : ∀ (rs : List Ld.Rng), (∀ r, r ∈ rs → r ∈ p.rungs) → ∀ s, Bd p s →
    Bd p (rs.foldl (doRung p.names was) s) ∧ ∀ j (hj : j < p.names.length), p.names[j].kind = 1 → (rs.foldl (doRung p.names was) s).is.getD j false = s.is.getD j false
  | [], _, s, hb => ⟨hb, fun _ _ _ => rfl⟩
  | r :: rs, hrs, s, hb => by
    obtain ⟨h1, h2⟩ := doRung_bd p h was r (hrs r (by simp)) s hb
    obtain ⟨h3, h4⟩ := fold_bd p h was rs (fun r hr => hrs r (by simp [hr])) _ h1
    exact ⟨h3, fun j hj hk => (h4 j hj hk).trans (h2 j hj hk)⟩
theorem reads_len (l : List Nat) (inp is : List Bool) : (reads l inp is).length = is.length := by
  have key : ∀ (ps : List (Nat × Bool)) (is : List Bool), (ps.foldl (fun acc p => acc.set p.1 p.2) is).length = is.length := by
    intro ps
    induction ps with
    | nil => intro is; rfl
    | cons a r ih => intro is; rw [List.foldl_cons, ih]; simp
  exact key _ _
theorem reads_other (l : List Nat) (inp is : List Bool) (j : Nat) (hj : j ∉ l) : (reads l inp is).getD j false = is.getD j false := by
  have key : ∀ (ps : List (Nat × Bool)) (is : List Bool), (∀ q, q ∈ ps → q.1 ≠ j) → (ps.foldl (fun acc p => acc.set p.1 p.2) is).getD j false = is.getD j false := by
    intro ps
    induction ps with
    | nil => intro is _; rfl
    | cons a r ih =>
      intro is hq
      rw [List.foldl_cons, ih _ (fun q hq2 => hq q (by simp [hq2])), getD_set, if_neg]
      intro e
      exact hq a (by simp) e.1.symm
  exact key _ _ (fun q hq e => hj (by rw [← e]; exact (List.of_mem_zip hq).1))
theorem reads_at : ∀ (l : List Nat) (inp is : List Bool), l.Nodup → inp.length = l.length → (∀ j, j ∈ l → j < is.length) → ∀ k (hk : k < l.length), (reads l inp is).getD l[k] false = inp.getD k false
  | [], _, _, _, _, _, k, hk => by simp at hk
  | a :: l, [], _, _, hl, _, _, _ => by simp at hl
  | a :: l, b :: inp, is, hnd, hl, hlt, k, hk => by
    have e : reads (a :: l) (b :: inp) is = reads l inp (is.set a b) := rfl
    rw [e]
    have hnd' := List.nodup_cons.1 hnd
    cases k with
    | zero =>
      show (reads l inp (is.set a b)).getD a false = b
      rw [reads_other l inp _ a hnd'.1, getD_set, if_pos ⟨rfl, hlt a (by simp)⟩]
    | succ k =>
      have := reads_at l inp (is.set a b) hnd'.2 (by simpa using hl) (fun j hj => by rw [List.length_set]; exact hlt j (by simp [hj])) k (by simpa using hk)
      simpa using this
theorem step_bd (p : Ld.Prg) (h : Ld.check p = none) (s : St) (inp : List Bool) (hb : Bd p s) (hl : inp.length = (Ld.kindL p.names 1).length) :
    Bd p (step p s inp) ∧ ∀ k (hk : k < (Ld.kindL p.names 1).length), (step p s inp).is.getD (Ld.kindL p.names 1)[k] false = inp.getD k false := by
  have hb0 : Bd p ⟨reads (Ld.kindL p.names 1) inp s.is, s.ct⟩ := by
    refine ⟨by simp only [reads_len]; exact hb.li, hb.lc, fun k hk => ?_⟩
    obtain ⟨h1, h2, h3⟩ := hb.at_ k hk
    refine ⟨h1, h2, fun h4 => ?_⟩
    simp only
    rw [reads_other _ _ _ _ (fun hm => by obtain ⟨hi, he⟩ := Ld.kindL_at _ _ _ hm; omega)]
    exact h3 h4
  obtain ⟨h1, h2⟩ := fold_bd p h s.is p.rungs (fun _ hr => hr) _ hb0
  refine ⟨h1, fun k hk => ?_⟩
  obtain ⟨hi, he⟩ := Ld.kindL_at _ _ _ (List.getElem_mem hk)
  refine (h2 _ hi he).trans ?_
  exact reads_at _ _ _ (Ld.kindL_nodup _ _) hl (fun j hj => by obtain ⟨hi, _⟩ := Ld.kindL_at _ _ _ hj; rw [hb.li]; exact hi) k hk
/-- the state behind some scans -/
def after (p : Ld.Prg) (ins : List (List Bool)) : St := ins.foldl (step p) (start p)
theorem after_bd (p : Ld.Prg) (h : Ld.check p = none) (ins : List (List Bool)) (hl : ∀ i, i ∈ ins → i.length = (Ld.kindL p.names 1).length) : Bd p (after p ins) := by
  have key : ∀ (ins : List (List Bool)) (s : St), Bd p s → (∀ i, i ∈ ins → i.length = (Ld.kindL p.names 1).length) → Bd p (ins.foldl (step p) s) := by
    intro ins
    induction ins with
    | nil => intro s hb _; exact hb
    | cons a r ih => intro s hb hl; exact ih _ (step_bd p h s a hb (hl a (by simp))).1 (fun i hi => hl i (by simp [hi]))
  exact key ins _ (start_bd p h) hl
theorem after_snoc (p : Ld.Prg) (ins : List (List Bool)) (a : List Bool) : after p (ins ++ [a]) = step p (after p ins) a := by
  unfold after; rw [List.foldl_append]; rfl
/-- the states behind each of the first k scans -/
def plays (p : Ld.Prg) (ins : List (List Bool)) (k : Nat) : List St := (List.range k).map fun j => after p (ins.take (j + 1))
theorem plays_succ (p : Ld.Prg) (ins : List (List Bool)) (k : Nat) (hk : k < ins.length) : plays p ins (k + 1) = plays p ins k ++ [step p (after p (ins.take k)) ins[k]] := by
  unfold plays
  rw [List.range_succ, List.map_append, List.map_singleton, List.take_succ_eq_append_getElem hk, after_snoc]
theorem plays_len (p : Ld.Prg) (ins : List (List Bool)) (k : Nat) : (plays p ins k).length = k := by simp [plays]
end Sc
end
section
namespace Rf
/-- a state: of each name by its own -/
structure St where
  is : List UInt8 → Bool
  ct : List UInt8 → Int
def upd {β : Type} (f : List UInt8 → β) (n : List UInt8) (v : β) : List UInt8 → β := fun m => if m = n then v else f m
/-- a name's count -/
def top (ns : List Ld.Nme) (nm : List UInt8) : Int := (ns.getD (Ld.number ns nm).toNat ⟨[], 0, 0⟩).count
def goes (e : Bool) (k c top : Int) : Int := if !e && k == 4 then 0 else if e && decide (c < top) then c + 1 else c
def rung (ns : List Ld.Nme) (was : List UInt8 → Bool) (t : St) (r : Ld.Rng) : St := match r.cond with
  | none => t
  | some x =>
    if r.kind = 1 then ⟨upd t.is r.name (x.eval t.is was), t.ct⟩
    else if r.kind = 2 then (if x.eval t.is was then ⟨upd t.is r.name true, t.ct⟩ else t)
    else if r.kind = 3 then (if x.eval t.is was then ⟨upd t.is r.name false, t.ct⟩ else t)
    else if r.kind = 4 ∨ r.kind = 5 then ⟨upd t.is r.name (goes (x.eval t.is was) r.kind (t.ct r.name) (top ns r.name) == top ns r.name), upd t.ct r.name (goes (x.eval t.is was) r.kind (t.ct r.name) (top ns r.name))⟩
    else if r.kind = 6 then (if x.eval t.is was then ⟨upd t.is r.name false, upd t.ct r.name 0⟩ else t)
    else t
def reads (ns : List Ld.Nme) (l : List Nat) (inp : List Bool) (f : List UInt8 → Bool) : List UInt8 → Bool := (l.zip inp).foldl (fun acc p => upd acc (ns.getD p.1 ⟨[], 0, 0⟩).name p.2) f
def step (p : Ld.Prg) (s : St) (inp : List Bool) : St := p.rungs.foldl (rung p.names s.is) ⟨reads p.names (Ld.kindL p.names 1) inp s.is, s.ct⟩
def start : St := ⟨fun _ => false, fun _ => 0⟩
/-- counts, told -/
def toldC (ns : List Ld.Nme) (l : List Int) (s : List UInt8) : Int := if 0 ≤ Ld.number ns s then l.getD (Ld.number ns s).toNat 0 else 0
/-- the document's state of a program's own -/
def of (ns : List Ld.Nme) (s : Sc.St) : St := ⟨Sc.told ns s.is, toldC ns s.ct⟩
theorem number_inj (ns : List Ld.Nme) (a b : List UInt8) (h : 0 ≤ Ld.number ns b) (e : Ld.number ns a = Ld.number ns b) : a = b := by
  rcases Ld.number_cases ns a with ⟨h1, _⟩ | ⟨k, hk, h1, h2, _⟩
  · omega
  · rcases Ld.number_cases ns b with ⟨h3, _⟩ | ⟨j, hj, h3, h4, _⟩
    · omega
    · have : k = j := by omega
      subst this
      exact h2.symm.trans h4
theorem told_set (ns : List Ld.Nme) (l : List Bool) (nm : List UInt8) (v : Bool) (h : 0 ≤ Ld.number ns nm) (hl : l.length = ns.length) : Sc.told ns (l.set (Ld.number ns nm).toNat v) = upd (Sc.told ns l) nm v := by
  funext m
  have hlt := Ld.number_lt ns nm
  unfold upd
  by_cases e : m = nm
  · subst e
    rw [if_pos rfl]
    unfold Sc.told
    rw [Sc.getD_set, if_pos ⟨rfl, by omega⟩]
    simp [h]
  · rw [if_neg e]
    unfold Sc.told
    by_cases h0 : 0 ≤ Ld.number ns m
    · rw [Sc.getD_set, if_neg (fun h1 => e (number_inj ns m nm h (by have := h1.1; omega)))]
    · simp [h0]
theorem toldC_set (ns : List Ld.Nme) (l : List Int) (nm : List UInt8) (v : Int) (h : 0 ≤ Ld.number ns nm) (hl : l.length = ns.length) : toldC ns (l.set (Ld.number ns nm).toNat v) = upd (toldC ns l) nm v := by
  funext m
  have hlt := Ld.number_lt ns nm
  unfold upd
  by_cases e : m = nm
  · subst e
    rw [if_pos rfl]
    unfold toldC
    rw [if_pos h, Sc.getD_set, if_pos ⟨rfl, by omega⟩]
  · rw [if_neg e]
    unfold toldC
    by_cases h0 : 0 ≤ Ld.number ns m
    · rw [if_pos h0, if_pos h0, Sc.getD_set, if_neg (fun h1 => e (number_inj ns m nm h (by have := h1.1; omega)))]
    · rw [if_neg h0, if_neg h0]
theorem upd_same {β : Type} (f : List UInt8 → β) (n : List UInt8) : upd f n (f n) = f := by
  funext m
  unfold upd
  by_cases e : m = n
  · rw [if_pos e, e]
  · rw [if_neg e]
theorem of_start (p : Ld.Prg) : of p.names (Sc.start p) = start := by
  have h1 : ∀ k, (List.replicate p.names.length false).getD k false = false := fun k => by
    rw [List.getD_eq_getElem?_getD, List.getElem?_replicate]
    split <;> rfl
  have h2 : ∀ k, (List.replicate p.names.length (0 : Int)).getD k 0 = 0 := fun k => by
    rw [List.getD_eq_getElem?_getD, List.getElem?_replicate]
    split <;> rfl
  unfold of Sc.start start Sc.told toldC
  congr 1
  · funext m
    rw [h1]
    simp
  · funext m
    rw [h2]
    simp
/-- inputs are read -/
theorem of_reads (ns : List Ld.Nme) : ∀ (l : List Nat) (inp : List Bool) (is : List Bool), is.length = ns.length → (∀ i, i ∈ l → ∃ hi : i < ns.length, Ld.number ns ns[i].name = (i : Int)) → Sc.told ns (Sc.reads l inp is) = reads ns l inp (Sc.told ns is)
  | [], _, _, _, _ => rfl
  | _ :: _, [], _, _, _ => rfl
  | i :: l, b :: inp, is, hl, hn => by
    obtain ⟨hi, h1⟩ := hn i (by simp)
    have h2 := told_set ns is ns[i].name b (by omega) hl
    rw [h1, Int.toNat_natCast] at h2
    have h3 := of_reads ns l inp (is.set i b) (by simpa using hl) (fun j hj => hn j (by simp [hj]))
    unfold Sc.reads reads at h3 ⊢
    simp only [List.zip_cons_cons, List.foldl_cons]
    rw [h3, h2]
    have e : (ns.getD i ⟨[], 0, 0⟩).name = ns[i].name := by simp [hi]
    rw [e]
theorem told_at (ns : List Ld.Nme) (l : List Bool) (nm : List UInt8) (h : 0 ≤ Ld.number ns nm) : Sc.told ns l nm = l.getD (Ld.number ns nm).toNat false := by
  unfold Sc.told
  simp [h]
theorem toldC_at (ns : List Ld.Nme) (l : List Int) (nm : List UInt8) (h : 0 ≤ Ld.number ns nm) : toldC ns l nm = l.getD (Ld.number ns nm).toNat 0 := by
  unfold toldC
  rw [if_pos h]
/-- a rung does what the document says -/
theorem of_rung (p : Ld.Prg) (hck : Ld.check p = none) (was : List Bool) (r : Ld.Rng) (hr : r ∈ p.rungs) (s : Sc.St) (hb : Sc.Bd p s) : of p.names (Sc.doRung p.names was s r) = rung p.names (Sc.told p.names was) (of p.names s) r := by
  obtain ⟨h1, h2, h3, h4, x, h5, _⟩ := Ld.check_rungs p hck r hr
  obtain ⟨k, hk, h6, h7, _⟩ : ∃ (k : Nat) (h : k < p.names.length), Ld.number p.names r.name = (k : Int) ∧ p.names[k].name = r.name ∧ True := by
    rcases Ld.number_cases p.names r.name with ⟨h6, _⟩ | ⟨k, hk, h6, h7, _⟩
    · omega
    · exact ⟨k, hk, h6, h7, trivial⟩
  have hbk := hb.at_ k hk
  have hs1 : ∀ v, Sc.told p.names (s.is.set k v) = upd (Sc.told p.names s.is) r.name v := fun v => by
    have := told_set p.names s.is r.name v h3 hb.li
    rw [h6, Int.toNat_natCast] at this
    exact this
  have hs2 : ∀ v, toldC p.names (s.ct.set k v) = upd (toldC p.names s.ct) r.name v := fun v => by
    have := toldC_set p.names s.ct r.name v h3 hb.lc
    rw [h6, Int.toNat_natCast] at this
    exact this
  have ha1 : Sc.told p.names s.is r.name = s.is.getD k false := by
    have := told_at p.names s.is r.name h3
    rw [h6, Int.toNat_natCast] at this
    exact this
  have ha2 : toldC p.names s.ct r.name = s.ct.getD k 0 := by
    have := toldC_at p.names s.ct r.name h3
    rw [h6, Int.toNat_natCast] at this
    exact this
  have hcnt : (p.names.getD k ⟨[], 0, 0⟩).count = p.names[k].count := by simp [hk]
  have htop : top p.names r.name = p.names[k].count := by unfold top; rw [h6, Int.toNat_natCast]; exact hcnt
  unfold Sc.doRung rung
  rw [h5]
  simp only
  rw [if_pos h3, h6, Int.toNat_natCast, hcnt]
  have eq0 : (of p.names s).is = Sc.told p.names s.is := rfl
  have eq1 : (of p.names s).ct = toldC p.names s.ct := rfl
  rw [eq0, eq1, htop, ha2]
  generalize x.eval (Sc.told p.names s.is) (Sc.told p.names was) = e
  rcases (show r.kind = 1 ∨ r.kind = 2 ∨ r.kind = 3 ∨ r.kind = 4 ∨ r.kind = 5 ∨ r.kind = 6 by omega) with hk1 | hk1 | hk1 | hk1 | hk1 | hk1
  · rw [hk1]
    simp only [Sc.rung, if_true, of, hs1]
  · rw [hk1]
    cases e with
    | true => simp [Sc.rung, of, hs1]
    | false =>
      simp only [Sc.rung, Bool.or_false]
      simp only [show ¬ (2 : Int) = 1 by decide, if_false, if_true, of, hs1]
      rw [← ha1, upd_same]
      simp
  · rw [hk1]
    cases e with
    | true => simp [Sc.rung, of, hs1]
    | false =>
      simp only [Sc.rung, Bool.not_false, Bool.and_true]
      simp only [show ¬ (3 : Int) = 1 by decide, show ¬ (3 : Int) = 2 by decide, if_false, if_true, of, hs1]
      rw [← ha1, upd_same]
      simp
  · rw [hk1]
    have hg : goes e 4 (s.ct.getD k 0) p.names[k].count = if e then Sc.further (s.ct.getD k 0) p.names[k].count else 0 := by
      unfold goes Sc.further
      cases e with
      | false => simp
      | true =>
        simp only [Bool.not_true, Bool.false_and, Bool.false_eq_true, if_false, Bool.true_and, if_true, decide_eq_true_eq]
        split
        · rfl
        · omega
    simp only [Sc.rung, show ¬ (4 : Int) = 1 by decide, show ¬ (4 : Int) = 2 by decide, show ¬ (4 : Int) = 3 by decide, if_false, if_true, true_or, Sc.run, of, hs1, hs2, hg]
  · rw [hk1]
    have hg : goes e 5 (s.ct.getD k 0) p.names[k].count = if e then Sc.further (s.ct.getD k 0) p.names[k].count else s.ct.getD k 0 := by
      unfold goes Sc.further
      cases e with
      | false => simp
      | true =>
        simp only [Bool.not_true, Bool.false_and, Bool.false_eq_true, if_false, Bool.true_and, if_true, decide_eq_true_eq]
        split
        · rfl
        · omega
    simp only [Sc.rung, show ¬ (5 : Int) = 1 by decide, show ¬ (5 : Int) = 2 by decide, show ¬ (5 : Int) = 3 by decide, show ¬ (5 : Int) = 4 by decide, if_false, if_true, or_true, Sc.count, of, hs1, hs2, hg]
  · rw [hk1]
    cases e with
    | true => simp [Sc.rung, Sc.zero, of, hs1, hs2]
    | false => simp [Sc.rung, Sc.zero, of]
theorem of_fold (p : Ld.Prg) (hck : Ld.check p = none) (was : List Bool) : ∀ (rs : List Ld.Rng), (∀ r, r ∈ rs → r ∈ p.rungs) → ∀ s, Sc.Bd p s → of p.names (rs.foldl (Sc.doRung p.names was) s) = rs.foldl (rung p.names (Sc.told p.names was)) (of p.names s)
  | [], _, _, _ => rfl
  | r :: rs, hrs, s, hb => by
    rw [List.foldl_cons, List.foldl_cons, of_fold p hck was rs (fun r' hr' => hrs r' (by simp [hr'])) _ (Sc.doRung_bd p hck was r (hrs r (by simp)) s hb).1, of_rung p hck was r (hrs r (by simp)) s hb]
/-- each name's number is its own -/
theorem number_self (p : Ld.Prg) (h : Ld.check p = none) (k : Nat) (hk : k < p.names.length) : Ld.number p.names p.names[k].name = (k : Int) := by
  unfold Ld.check at h
  by_cases hl : 12 < p.names.length ∨ 40 < p.rungs.length
  · rw [if_pos hl] at h; cases h
  rw [if_neg hl] at h
  cases hn : Ld.bad (Ld.nameAt p.names) p.names.length with
  | some r => rw [hn] at h; cases h
  | none =>
    have h1 := Ld.bad_none _ _ hn k hk
    rw [Ld.nameAt_at _ _ hk, Ld.wrongN] at h1
    have h2 : ¬ Ld.number p.names p.names[k].name < (k : Int) := by
      intro hlt
      rw [if_pos hlt] at h1
      repeat' split at h1
      all_goals omega
    rcases Ld.number_cases p.names p.names[k].name with ⟨_, h4⟩ | ⟨j, hj, h3, h4, h5⟩
    · exact absurd rfl (h4 _ (List.getElem_mem hk))
    · rw [h3] at h2 ⊢
      by_cases e : j = k
      · rw [e]
      · exact absurd rfl (h5 k (by omega))
/-- a scan does what the document says -/
theorem of_step (p : Ld.Prg) (hck : Ld.check p = none) (s : Sc.St) (inp : List Bool) (hb : Sc.Bd p s) : of p.names (Sc.step p s inp) = step p (of p.names s) inp := by
  have hb0 : Sc.Bd p ⟨Sc.reads (Ld.kindL p.names 1) inp s.is, s.ct⟩ := by
    refine ⟨by simp only [Sc.reads_len]; exact hb.li, hb.lc, fun k hk => ?_⟩
    obtain ⟨h1, h2, h3⟩ := hb.at_ k hk
    refine ⟨h1, h2, fun h4 => ?_⟩
    simp only
    rw [Sc.reads_other _ _ _ _ (fun hm => by obtain ⟨hi, he⟩ := Ld.kindL_at _ _ _ hm; omega)]
    exact h3 h4
  have h1 := of_fold p hck s.is p.rungs (fun _ h => h) _ hb0
  have h2 := of_reads p.names (Ld.kindL p.names 1) inp s.is hb.li (fun i hi => by
    obtain ⟨hi2, _⟩ := Ld.kindL_at _ _ _ hi
    exact ⟨hi2, number_self p hck i hi2⟩)
  have h3 : of p.names ⟨Sc.reads (Ld.kindL p.names 1) inp s.is, s.ct⟩ = ⟨reads p.names (Ld.kindL p.names 1) inp (of p.names s).is, (of p.names s).ct⟩ := by
    unfold of
    rw [h2]
  rw [h3] at h1
  exact h1
end Rf
end
end Go.Proofs.YtkpfahbodlfpiaaGreatDoor
