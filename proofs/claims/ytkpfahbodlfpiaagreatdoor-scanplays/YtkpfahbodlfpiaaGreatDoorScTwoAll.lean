/-
  The walk of the statements' own both: a text is read by the document's package and by package ladder. The walks of Place, and of the law's own at. The walk of the statements' own at: is an error this fault? Slices of numbers in memory. The walk of the statements' own bare; own rows of numbers as slices. The walk of the law's own sameInts, at two like lists. Plain mathematics of chapter 3: programs on their way. Nothing of the program is named here. Rows of bools; all that is old stands, but for two rows. (Out of ScRung and ScStart: for seats without package scan.)
-/
import Derived.Test.YtkpfahbodlfpiaaGreatDoorRlStayAll
import Derived.Test.YtkpfahbodlfpiaaGreatDoorLdParseWAll
import Derived.Test.YtkpfahbodlfpiaaGreatDoorExErrAll
import Derived.WalkMore
import Derived.Test.YtkpfahbodlfpiaaGreatDoorNdWalkAll
import Derived.Test.YtkpfahbodlfpiaaGreatDoorLdKindAll
import Derived.Test.YtkpfahbodlfpiaaGreatDoorRdListAll
import Derived.Test.YtkpfahbodlfpiaaGreatDoorNmWalkAll
import Derived.Test.YtkpfahbodlfpiaaGreatDoorLdRepAll
namespace Go.Proofs.YtkpfahbodlfpiaaGreatDoor
section
open Go.RowKit
namespace Sl
/-- what reading both ways comes to: nothing, or one program -/
def Both (s : ByteArray) (w : World) (e : Ending) (w' : World) : Prop :=
  Below w.heap.size w w' ∧ (e = .returned (.tuple #[.agg #[.slice none 0 0, .slice none 0 0], .agg #[.slice none 0 0, .slice none 0 0], .bool false]) ∨
    ∃ p v u, e = .returned (.tuple #[v, u, .bool true]) ∧ Ld.parse s.data.toList = .inr p ∧ IsPrg w' p v ∧ IsRPrg w' p u ∧ Ld.check p = none)
/-- blocks that do not begin with a slice stand -/
def NStay (w w' : World) : Prop := ∀ g i u x, w.cell? ⟨g, 0, none⟩ = some x → (∀ a n c, x ≠ .slice a n c) → w.cell? ⟨g, i, none⟩ = some u → w'.cell? ⟨g, i, none⟩ = some u
theorem NStay.plainR {w w' : World} (h : NStay w w') : RStay w w' := fun g i u hp hc => by
  rcases hp with (⟨s, h1⟩ | ⟨t, y, h1⟩) | ⟨a, h1⟩
  · exact h g i u _ h1 (fun a n c e => by cases e) hc
  · exact h g i u _ h1 (fun a n c e => by cases e) hc
  · exact h g i u _ h1 (fun a n c e => by cases e) hc
theorem prg_keep {w w' : World} {p : Ld.Prg} {v : Value} (hs : NStay w w') (h : IsPrg w p v) : IsPrg w' p v := by
  obtain ⟨nv, rv, h1, h2, h3⟩ := h
  refine ⟨nv, rv, h1, names_stay hs.plainR.names h2, ?_⟩
  rcases h3 with h3 | ⟨g, cap, e1, e2, e3, e4⟩
  · exact .inl h3
  · refine .inr ⟨g, cap, e1, e2, e3, fun i r hi => ?_⟩
    have hil := (List.getElem?_eq_some_iff.1 hi).1
    obtain ⟨u0, c0, _⟩ := e4 0 (p.rungs[0]'(by omega)) (List.getElem?_eq_getElem _)
    have key : ∀ i u, w.cell? ⟨g, i, none⟩ = some u → w'.cell? ⟨g, i, none⟩ = some u := fun i u hc => hs g i u _ (by simpa using c0) (fun a n c e => by cases e) hc
    obtain ⟨u, d0, d1, d2, d3, d4, d5⟩ := e4 i r hi
    exact ⟨u, key _ _ d0, key _ _ d1, key _ _ d2, d3, d4, cond_stay hs.plainR.names d5⟩
theorem rprg_keep {w w' : World} {p : Ld.Prg} {v : Value} (hs : NStay w w') (h : IsRPrg w p v) : IsRPrg w' p v := by
  obtain ⟨nv, rv, h1, h2, h3⟩ := h
  refine ⟨nv, rv, h1, names_stay hs.plainR.names h2, ?_⟩
  rcases h3 with h3 | ⟨g, cap, e1, e2, e3, e4⟩
  · exact .inl h3
  · refine .inr ⟨g, cap, e1, e2, e3, fun i r hi => ?_⟩
    have hil := (List.getElem?_eq_some_iff.1 hi).1
    obtain ⟨u0, c0, _⟩ := e4 0 (p.rungs[0]'(by omega)) (List.getElem?_eq_getElem _)
    have key : ∀ i u, w.cell? ⟨g, i, none⟩ = some u → w'.cell? ⟨g, i, none⟩ = some u := fun i u hc => hs g i u _ (by simpa using c0) (fun a n c e => by cases e) hc
    obtain ⟨u, d0, d1, d2, d3, d4, d5⟩ := e4 i r hi
    exact ⟨u, key _ _ d0, key _ _ d1, key _ _ d2, d3, d4, rcond_stay hs.plainR d5⟩
/-- the two results' cells are stored: all else stands -/
theorem stored4 {W F : World} {N : Nat} {x0 x1 y0 y1 a0 a1 b0 b1 : Value} {T U : TypeId} (g0 : W.heap[N]? = some (.cells #[x0, x1] T (0, 0))) (g1 : W.heap[N + 1]? = some (.cells #[y0, y1] U (0, 0))) (hx : ∃ a n c, x0 = .slice a n c) (hy : ∃ a n c, y0 = .slice a n c)
    (hF : F.heap = ((((W.setCell ⟨N, 0, none⟩ a0).setCell ⟨N, 1, none⟩ a1).setCell ⟨N + 1, 0, none⟩ b0).setCell ⟨N + 1, 1, none⟩ b1).heap) :
    (F.cell? ⟨N, 0, none⟩ = some a0 ∧ F.cell? ⟨N, 1, none⟩ = some a1 ∧ F.cell? ⟨N + 1, 0, none⟩ = some b0 ∧ F.cell? ⟨N + 1, 1, none⟩ = some b1) ∧ NStay W F ∧ ∀ k, k ≠ N → k ≠ N + 1 → F.heap[k]? = W.heap[k]? := by
  have h0 : F.heap[N]? = some (.cells #[a0, a1] T (0, 0)) := by rw [hF]; simp [World.setCell, Array.getElem?_modify, g0]
  have h1 : F.heap[N + 1]? = some (.cells #[b0, b1] U (0, 0)) := by rw [hF]; simp [World.setCell, Array.getElem?_modify, g1]
  have hk : ∀ k, k ≠ N → k ≠ N + 1 → F.heap[k]? = W.heap[k]? := fun k n1 n2 => by
    rw [hF]
    simp [World.setCell, Array.getElem?_modify, Ne.symm n1, Ne.symm n2]
  refine ⟨⟨by rw [Lib.cell_of_heap h0]; rfl, by rw [Lib.cell_of_heap h0]; rfl, by rw [Lib.cell_of_heap h1]; rfl, by rw [Lib.cell_of_heap h1]; rfl⟩, fun g i u x hx0 hns hc => ?_, hk⟩
  have n1 : g ≠ N := fun e => by
    obtain ⟨a, n, c, rfl⟩ := hx
    subst e
    rw [Lib.cell_of_heap g0] at hx0
    simp at hx0
    exact hns _ _ _ hx0.symm
  have n2 : g ≠ N + 1 := fun e => by
    obtain ⟨a, n, c, rfl⟩ := hy
    subst e
    rw [Lib.cell_of_heap g1] at hx0
    simp at hx0
    exact hns _ _ _ hx0.symm
  rw [World.cell?_of_block (hk g n1 n2)]
  exact hc
set_option maxHeartbeats 8000000 in
set_option maxRecDepth 100000 in
theorem both_of (hrp : ∀ (s : ByteArray) (w : World), PLaid w → Calls Tryz.prog 29 #[.string s] w (RParsed w (Ld.parse s.data.toList))) (s : ByteArray) (w : World) (hs : s.size ≤ maxLen) (hL : Laid w) (hP : PLaid w) : Calls Tryz.prog 6 #[.string s] w (Both s w) := by
  have hs' := hs
  unfold maxLen at hs'
  obtain ⟨wA, hwA⟩ : ∃ wA, wA = (w.alloc (.cells #[.slice none 0 0, .slice none 0 0] 26)).alloc (.cells #[.slice none 0 0, .slice none 0 0] 30) := ⟨_, rfl⟩
  have hbA : Below w.heap.size w wA := by rw [hwA]; exact ((Below.refl _ _).alloc (Nat.le_refl _) _).alloc (by simp) _
  have hsA : wA.heap.size = w.heap.size + 1 + 1 := by rw [hwA]; simp
  have hA0 : wA.heap[w.heap.size]? = some (.cells #[.slice none 0 0, .slice none 0 0] 26 (0, 0)) := by rw [hwA]; exact (Below.heap_alloc _ _ _ (by simp)).trans (heap_alloc_new _ _)
  have hA1 : wA.heap[w.heap.size + 1]? = some (.cells #[.slice none 0 0, .slice none 0 0] 30 (0, 0)) := by
    rw [hwA]
    have := heap_alloc_new (w.alloc (.cells #[.slice none 0 0, .slice none 0 0] 26)) (.cells #[.slice none 0 0, .slice none 0 0] 30)
    rw [World.size_alloc] at this
    exact this
  have HRP := hide (hrp s wA (hP.below hbA))
  have HLP : Hid (∀ W, Below w.heap.size w W → Calls Tryz.prog 30 #[.string s] W (LParsed W (Ld.parse s.data.toList))) := fun W hW => LParse_any s.data.toList W hs (hL.below hW)
  have HCKP := hide (fun p (h : Ld.parse s.data.toList = .inr p) => Ld.parse_check _ p h)
  obtain ⟨res, hres⟩ : ∃ res, res = Ld.parse s.data.toList := ⟨_, rfl⟩
  have HRES := hide hres
  rw [← hres] at HRP HLP
  rw [hwA] at HRP
  have HWA := hide hwA
  have HBA := hide hbA
  have HA0 := hide hA0
  have HA1 := hide hA1
  clear hres hwA hbA hA0 hA1 hL hP
  by_cases q1 : 1500 < s.size
  · have q1' : (1500 : Int) < (s.size : Int) := by omega
    have y0 : wA.cell? ⟨w.heap.size, 0, none⟩ = some (.slice none 0 0) := by rw [Lib.cell_of_heap HA0.out]; rfl
    have y1 : wA.cell? ⟨w.heap.size, 1, none⟩ = some (.slice none 0 0) := by rw [Lib.cell_of_heap HA0.out]; rfl
    have y2 : wA.cell? ⟨w.heap.size + 1, 0, none⟩ = some (.slice none 0 0) := by rw [Lib.cell_of_heap HA1.out]; rfl
    have y3 : wA.cell? ⟨w.heap.size + 1, 1, none⟩ = some (.slice none 0 0) := by rw [Lib.cell_of_heap HA1.out]; rfl
    go_enter Tryz.func6, Tryz.ntmps6
    go_wp2_with fail
    rw [← HWA.out]
    refine bodyPost_ret_by (v := .tuple #[.agg #[.slice none 0 0, .slice none 0 0], .agg #[.slice none 0 0, .slice none 0 0], .bool false]) ?_ rfl ?_
    · simp [results, Tryz.results6, go_sem, y0, y1, y2, y3]
    · exact ⟨HBA.out, .inl rfl⟩
  have q1' : ¬ (1500 : Int) < (s.size : Int) := by omega
  clear q1
  go_enter Tryz.func6, Tryz.ntmps6
  go_wp2_with fail
  refine HRP.out.mono ?_
  intro e w1 hq
  obtain ⟨hb1, hq⟩ := hq
  rw [← HWA.out] at hb1
  have HB1 := hide hb1
  have hz1 := hb1.size
  clear HRP
  match res, hq, HLP, HRES with
  | .inl (er, pl), hq, _, _ =>
    have her := hq.2
    obtain ⟨plv, rfl⟩ : ∃ plv : Int, e = .returned (.tuple #[.agg #[.slice none 0 0, .slice none 0 0], faultV (er : Int) plv]) := ⟨_, hq.1⟩
    have hne : ((er : Int) != 0) = true := by simp; omega
    have z0 := (hb1.block w.heap.size (by omega)).trans HA0.out
    have z1 := (hb1.block (w.heap.size + 1) (by omega)).trans HA1.out
    have y0 : w1.cell? ⟨w.heap.size, 0, none⟩ = some (.slice none 0 0) := by rw [Lib.cell_of_heap z0]; rfl
    have y1 : w1.cell? ⟨w.heap.size, 1, none⟩ = some (.slice none 0 0) := by rw [Lib.cell_of_heap z0]; rfl
    have y2 : w1.cell? ⟨w.heap.size + 1, 0, none⟩ = some (.slice none 0 0) := by rw [Lib.cell_of_heap z1]; rfl
    have y3 : w1.cell? ⟨w.heap.size + 1, 1, none⟩ = some (.slice none 0 0) := by rw [Lib.cell_of_heap z1]; rfl
    have u0 : w1.frozen? ⟨w.heap.size, 0, none⟩ = false := Lib.frozen_of_heap z0 0
    have u1 : w1.frozen? ⟨w.heap.size, 1, none⟩ = false := Lib.frozen_of_heap z0 1
    have u2 : w1.frozen? ⟨w.heap.size + 1, 0, none⟩ = false := Lib.frozen_of_heap z1 0
    have u3 : w1.frozen? ⟨w.heap.size + 1, 1, none⟩ = false := Lib.frozen_of_heap z1 1
    have hlt0 : w.heap.size < w1.heap.size := by omega
    have hlt1 : w.heap.size + 1 < w1.heap.size := by omega
    unfold faultV
    obtain ⟨wF, hwF⟩ : ∃ wF, wF = (((w1.setCell ⟨w.heap.size, 0, none⟩ (.slice none 0 0)).setCell ⟨w.heap.size, 1, none⟩ (.slice none 0 0)).setCell ⟨w.heap.size + 1, 0, none⟩ (.slice none 0 0)).setCell ⟨w.heap.size + 1, 1, none⟩ (.slice none 0 0) := ⟨_, rfl⟩
    obtain ⟨⟨k0, k1, k2, k3⟩, _, hko⟩ := stored4 (N := w.heap.size) (F := wF) z0 z1 ⟨_, _, _, rfl⟩ ⟨_, _, _, rfl⟩ (by rw [hwF])
    have hzF : wF.heap.size = w1.heap.size := by rw [hwF]; simp [World.setCell]
    have hbF : Below w.heap.size w wF := by
      refine ⟨?_, ?_, ?_, by rw [hzF]; omega, fun k hk => (hko k (by omega) (by omega)).trans ((hb1.block k (by omega)).trans (HBA.out.block k hk))⟩
      · rw [hwF]; exact hb1.os.trans HBA.out.os
      · rw [hwF]; exact hb1.tape.trans HBA.out.tape
      · rw [hwF]; exact hb1.output.trans HBA.out.output
    obtain ⟨wG, hwG⟩ : ∃ wG, wG = (wF.alloc (.cells #[.slice none 0 0, .slice none 0 0] 30)).alloc (.cells #[.int .i64 (er : Int), .int .i64 plv] 87) := ⟨_, rfl⟩
    have hbG : Below wF.heap.size wF wG := by rw [hwG]; exact ((Below.refl _ _).alloc (Nat.le_refl _) _).alloc (by simp) _
    have hFG : ∀ b i u, wF.cell? ⟨b, i, none⟩ = some u → wG.cell? ⟨b, i, none⟩ = some u := fun b i u hu => (hbG.cell (World.block_lt_of_cell? _ _ hu)).trans hu
    have j0 := hFG _ _ _ k0
    have j1 := hFG _ _ _ k1
    have j2 := hFG _ _ _ k2
    have j3 := hFG _ _ _ k3
    have HBG := hide (hbF.trans (hbG.mono hbF.size))
    clear hb1 hq z0 z1 her hko hbF hbG hFG k0 k1 k2 k3
    go_wp2_with fail
    rw [← hwF, ← hwG]
    refine bodyPost_ret_by (v := .tuple #[.agg #[.slice none 0 0, .slice none 0 0], .agg #[.slice none 0 0, .slice none 0 0], .bool false]) ?_ rfl ?_
    · simp [results, Tryz.results6, go_sem, j0, j1, j2, j3]
    · exact ⟨HBG.out, .inl rfl⟩
  | .inr p, hq, HLP, HRES =>
    obtain ⟨nu, ru, rfl, hu, hck⟩ := hq
    have HU := hide hu
    have HCK := hide hck
    obtain ⟨nu', ru', e0, hnu, hru⟩ := hu
    simp only [Value.agg.injEq, Array.mk.injEq, List.cons.injEq, and_true] at e0
    obtain ⟨rfl, rfl⟩ := e0
    obtain ⟨ua, uc, rfl, _⟩ := hnu.slice
    obtain ⟨ta, tc, rfl, _⟩ := hru.slice
    obtain ⟨n, hnn⟩ : ∃ n, n = p.names.length := ⟨_, rfl⟩
    obtain ⟨m, hmm⟩ : ∃ m, m = p.rungs.length := ⟨_, rfl⟩
    rw [← hnn] at HU ⊢
    rw [← hmm] at HU ⊢
    have HNN := hide hnn
    have HMM := hide hmm
    clear hnn hmm
    obtain ⟨wB, hwB⟩ : ∃ wB, wB = (w1.alloc (.cells #[.slice ua n uc, .slice ta m tc] 30)).alloc (.cells #[.int .i64 0, .int .i64 (-1)] 87) := ⟨_, rfl⟩
    have hbB : Below w1.heap.size w1 wB := by rw [hwB]; exact ((Below.refl _ _).alloc (Nat.le_refl _) _).alloc (by simp) _
    have hsB : wB.heap.size = w1.heap.size + 1 + 1 := by rw [hwB]; simp
    have hB0 : wB.heap[w1.heap.size]? = some (.cells #[.slice ua n uc, .slice ta m tc] 30 (0, 0)) := by rw [hwB]; exact (Below.heap_alloc _ _ _ (by simp)).trans (heap_alloc_new _ _)
    have hbAB : Below wA.heap.size wA wB := hb1.trans (hbB.mono hb1.size)
    have hbwB : Below w.heap.size w wB := HBA.out.trans (hbAB.mono HBA.out.size)
    have HPC := hide (HLP.out wB hbwB)
    rw [hwB] at HPC
    have HWB := hide hwB
    have HBB := hide hbB
    have HB0 := hide hB0
    have HBAB := hide hbAB
    unfold faultV
    clear hnu hru hbB hB0 hbAB hbwB hwB hck HLP hb1
    go_wp2_with fail
    refine HPC.out.mono ?_
    rintro e w2 ⟨hb2, v, rfl, hv, _⟩
    rw [← HWB.out] at hb2
    have HV := hide hv
    obtain ⟨nv, rv, rfl, hn, hr⟩ := hv
    obtain ⟨na, nc, rfl, _⟩ := hn.slice
    obtain ⟨ra, rc, rfl, _⟩ := hr.slice
    rw [← HNN.out, ← HMM.out] at HV ⊢
    have hz2 := hb2.size
    have hbA2 : Below wA.heap.size wA w2 := HBAB.out.trans (hb2.mono HBAB.out.size)
    have z0 := (hbA2.block w.heap.size (by omega)).trans HA0.out
    have z1 := (hbA2.block (w.heap.size + 1) (by omega)).trans HA1.out
    have z2 := (hb2.block w1.heap.size (by omega)).trans HB0.out
    have y0 : w2.cell? ⟨w.heap.size, 0, none⟩ = some (.slice none 0 0) := by rw [Lib.cell_of_heap z0]; rfl
    have y1 : w2.cell? ⟨w.heap.size, 1, none⟩ = some (.slice none 0 0) := by rw [Lib.cell_of_heap z0]; rfl
    have y2 : w2.cell? ⟨w.heap.size + 1, 0, none⟩ = some (.slice none 0 0) := by rw [Lib.cell_of_heap z1]; rfl
    have y3 : w2.cell? ⟨w.heap.size + 1, 1, none⟩ = some (.slice none 0 0) := by rw [Lib.cell_of_heap z1]; rfl
    have y4 : w2.cell? ⟨w1.heap.size, 0, none⟩ = some (.slice ua n uc) := by rw [Lib.cell_of_heap z2]; rfl
    have y5 : w2.cell? ⟨w1.heap.size, 1, none⟩ = some (.slice ta m tc) := by rw [Lib.cell_of_heap z2]; rfl
    have u0 : w2.frozen? ⟨w.heap.size, 0, none⟩ = false := Lib.frozen_of_heap z0 0
    have u1 : w2.frozen? ⟨w.heap.size, 1, none⟩ = false := Lib.frozen_of_heap z0 1
    have u2 : w2.frozen? ⟨w.heap.size + 1, 0, none⟩ = false := Lib.frozen_of_heap z1 0
    have u3 : w2.frozen? ⟨w.heap.size + 1, 1, none⟩ = false := Lib.frozen_of_heap z1 1
    have hlt0 : w.heap.size < w2.heap.size := by omega
    have hlt1 : w.heap.size + 1 < w2.heap.size := by omega
    have hlt2 : w1.heap.size < w2.heap.size := by omega
    have hne0 : w.heap.size ≠ w1.heap.size := by omega
    have hne1 : w.heap.size + 1 ≠ w1.heap.size := by omega
    obtain ⟨wF, hwF⟩ : ∃ wF, wF = (((w2.setCell ⟨w.heap.size, 0, none⟩ (.slice na n nc)).setCell ⟨w.heap.size, 1, none⟩ (.slice ra m rc)).setCell ⟨w.heap.size + 1, 0, none⟩ (.slice ua n uc)).setCell ⟨w.heap.size + 1, 1, none⟩ (.slice ta m tc) := ⟨_, rfl⟩
    obtain ⟨⟨k0, k1, k2, k3⟩, hst, hko⟩ := stored4 (N := w.heap.size) (F := wF) z0 z1 ⟨_, _, _, rfl⟩ ⟨_, _, _, rfl⟩ (by rw [hwF])
    have hzF : wF.heap.size = w2.heap.size := by rw [hwF]; simp [World.setCell]
    have hbF : Below w.heap.size w wF := by
      refine ⟨?_, ?_, ?_, by rw [hzF]; omega, fun k hk => (hko k (by omega) (by omega)).trans ((hbA2.block k (by omega)).trans (HBA.out.block k hk))⟩
      · rw [hwF]; exact hbA2.os.trans HBA.out.os
      · rw [hwF]; exact hbA2.tape.trans HBA.out.tape
      · rw [hwF]; exact hbA2.output.trans HBA.out.output
    obtain ⟨wG, hwG⟩ : ∃ wG, wG = (wF.alloc (.cells #[.slice na n nc, .slice ra m rc] 26)).drew := ⟨_, rfl⟩
    have hbG : Below wF.heap.size wF wG := by rw [hwG]; exact ((Below.refl _ _).alloc (Nat.le_refl _) _).drew
    have hFG : ∀ b i u, wF.cell? ⟨b, i, none⟩ = some u → wG.cell? ⟨b, i, none⟩ = some u := fun b i u hu => (hbG.cell (World.block_lt_of_cell? _ _ hu)).trans hu
    have j0 := hFG _ _ _ k0
    have j1 := hFG _ _ _ k1
    have j2 := hFG _ _ _ k2
    have j3 := hFG _ _ _ k3
    have HBG := hide (hbF.trans (hbG.mono hbF.size))
    have HVF := hide ((prg_keep hst HV.out).below hbG)
    have HUF := hide ((rprg_keep hst ((HU.out.below HBB.out).below hb2)).below hbG)
    clear hn hr hb2 hbA2 z0 z1 z2 hst hko hbF hbG hFG k0 k1 k2 k3 HPC
    go_wp2_with fail
    go_region
    all_goals go_wp2_with fail
    all_goals rw [← hwF, ← hwG]
    all_goals refine bodyPost_ret_by (v := .tuple #[.agg #[.slice na n nc, .slice ra m rc], .agg #[.slice ua n uc, .slice ta m tc], .bool true]) ?_ rfl ?_
    · simp [results, Tryz.results6, go_sem, j0, j1, j2, j3]
    · exact ⟨HBG.out, .inr ⟨p, _, _, rfl, HRES.out.symm, HVF.out, HUF.out, HCK.out⟩⟩
end Sl
end
section
namespace ErAs
open Go.RowKit
/-- an error that the program hands back, its Errno and its place -/
def ErrAt (er : Value) (n pl : Int) (w : World) : Prop := (er = .iface 58 (.int .i64 n) ∧ pl = -1) ∨ ∃ a, er = .iface 126 (.pointer (some ⟨a, 0, none⟩)) ∧ w.cell? ⟨a, 0, none⟩ = some (.int .i64 n) ∧ w.cell? ⟨a, 1, none⟩ = some (.int .i64 pl)
theorem ErrAt.finds {er : Value} {n pl : Int} {w : World} (h : ErrAt er n pl w) : Finds er n w := by
  rcases h with ⟨h, _⟩ | ⟨a, h, h1, _⟩
  · exact .inl h
  · exact .inr ⟨_, h, h1⟩
set_option maxHeartbeats 2000000 in
set_option maxRecDepth 100000 in
theorem Place_any (er : Value) (n pl : Int) (w : World) (hg : Door w) (hf : ErrAt er n pl w) :
    Calls Tryz.prog 65 #[er] w fun e w' => e = .returned (.tuple #[.int .i64 n, .int .i64 pl]) ∧ Below w.heap.size w w' := by
  have HC := hide (Tell_any er n w hg hf.finds)
  clear hg
  rcases hf with ⟨rfl, rfl⟩ | ⟨a, rfl, h0, h1⟩
  · have sE := atE
    have sU := unE
    go_enter Tryz.func65, Tryz.ntmps65
    go_wp2_with fail
    refine HC.out.mono ?_
    rintro e w1 ⟨rfl, hb⟩
    have HB := hide hb
    clear hb HC
    go_wp2_with fail
    refine wp_loop_rounds 1 ?_
    rw [rounds_succ]
    go_wp2_with fail
    refine bodyPost_ret_by (v := .tuple #[.int .i64 n, .int .i64 (-1)]) ?_ rfl ⟨rfl, HB.out⟩
    simp [results, Tryz.results65, go_sem]
  · have sA := atA
    go_enter Tryz.func65, Tryz.ntmps65
    go_wp2_with fail
    refine HC.out.mono ?_
    rintro e w1 ⟨rfl, hb⟩
    have HB := hide hb
    have h1' := (hb.cell (World.block_lt_of_cell? _ _ h1)).trans h1
    clear hb HC h0 h1
    go_wp2_with fail
    refine wp_loop_rounds 1 ?_
    rw [rounds_succ]
    go_wp2_with fail
    go_quiet (fail)
    go_wp2_with fail
    refine bodyPost_ret_by (v := .tuple #[.int .i64 n, .int .i64 pl]) ?_ rfl ⟨rfl, ⟨HB.out.os, HB.out.tape, HB.out.output, HB.out.size, HB.out.block⟩⟩
    simp [results, Tryz.results65, go_sem]
end ErAs
end
section
open Go.RowKit ErAs
set_option maxHeartbeats 2000000 in
set_option maxRecDepth 100000 in
theorem at_any (er : Value) (n pl : Int) (w : World) (hg : Door w) (hf : ErrAt er n pl w) :
    Calls Tryz.prog 37 #[er, faultV n pl] w fun e w' => e = .returned (.bool true) ∧ Below w.heap.size w w' := by
  obtain ⟨w1, hw1⟩ : ∃ w1, w1 = w.alloc (.cells #[.int .i64 n, .int .i64 pl] 87) := ⟨_, rfl⟩
  have hb1 : Below w.heap.size w w1 := by rw [hw1]; exact (Below.refl _ _).alloc (Nat.le_refl _) _
  have hg1 : Door w1 := (hb1.cell (World.block_lt_of_cell? _ _ hg)).trans hg
  have hf1 : ErrAt er n pl w1 := by
    rcases hf with h | ⟨a, h, h1, h2⟩
    · exact .inl h
    · exact .inr ⟨a, h, (hb1.cell (World.block_lt_of_cell? _ _ h1)).trans h1, (hb1.cell (World.block_lt_of_cell? _ _ h2)).trans h2⟩
  have HC := hide (Place_any er n pl w1 hg1 hf1)
  have hh : w1.heap[w.heap.size]? = some (.cells #[.int .i64 n, .int .i64 pl] 87 (0, 0)) := by rw [hw1]; exact heap_alloc_new _ _
  have HH := hide hh
  have HS1 : Hid (w1.heap.size = w.heap.size + 1) := by show _ = _; rw [hw1]; simp
  obtain ⟨te, ve, hte⟩ : ∃ te ve, er = .iface te ve := by
    rcases hf with ⟨rfl, _⟩ | ⟨q, rfl, _⟩
    · exact ⟨_, _, rfl⟩
    · exact ⟨_, _, rfl⟩
  subst hte
  have HB1 := hide hb1
  have HW1 := hide hw1
  rw [hw1] at HC
  unfold faultV
  clear hg hf hg1 hf1 hb1 hw1 hh
  go_enter Tryz.func37, Tryz.ntmps37
  go_wp2_with fail
  refine HC.out.mono ?_
  rintro e w2 ⟨rfl, hb⟩
  rw [← HW1.out] at hb
  have c0 : w2.cell? ⟨w.heap.size, 0, none⟩ = some (.int .i64 n) := by rw [hb.cell (p := ⟨w.heap.size, 0, none⟩) (by rw [HS1.out]; simp), Lib.cell_of_heap HH.out]; rfl
  have c1 : w2.cell? ⟨w.heap.size, 1, none⟩ = some (.int .i64 pl) := by rw [hb.cell (p := ⟨w.heap.size, 1, none⟩) (by rw [HS1.out]; simp), Lib.cell_of_heap HH.out]; rfl
  have HB := hide hb
  clear hb HC
  go_wp2_with fail
  go_ret
  exact ⟨ret_bool (by simp), HB1.out.trans (HB.out.mono HB1.out.size)⟩
end
section
open Go.RowKit
/-- a slice of numbers that came in -/
def Ints (w : World) (sv : Value) (l : List Int) : Prop :=
  (l = [] ∧ ∃ a cap, sv = .slice a 0 cap) ∨ ∃ g o cap, sv = .slice (some ⟨g, o, none⟩) l.length cap ∧ l.length ≤ cap ∧ ∀ (k : Nat) x, l[k]? = some x → w.cell? ⟨g, o + k, none⟩ = some (.int .i64 x) ∧ I64 x
theorem Ints.below {w w' : World} {sv : Value} {l : List Int} (h : Ints w sv l) (hb : Below w.heap.size w w') : Ints w' sv l := by
  rcases h with h | ⟨g, o, cap, h1, h2, h3⟩
  · exact .inl h
  · exact .inr ⟨g, o, cap, h1, h2, fun k x hk => ⟨(hb.cell (World.block_lt_of_cell? _ _ (h3 k x hk).1)).trans (h3 k x hk).1, (h3 k x hk).2⟩⟩
theorem Ints.slice {w : World} {sv : Value} {l : List Int} (h : Ints w sv l) : ∃ a c, sv = .slice a l.length c := by
  rcases h with ⟨rfl, a, c, rfl⟩ | ⟨g, o, cap, rfl, _⟩
  · exact ⟨a, c, rfl⟩
  · exact ⟨_, _, rfl⟩
theorem Ints.cell {w : World} {a : Option Addr} {n c : Nat} {l : List Int} (h : Ints w (.slice a n c) l) (k : Nat) (x : Int) (hx : l[k]? = some x) : ∃ g o, a = some ⟨g, o, none⟩ ∧ w.cell? ⟨g, o + k, none⟩ = some (.int .i64 x) := by
  rcases h with ⟨h0, _⟩ | ⟨g, o, cap, h1, h2, h3⟩
  · rw [h0] at hx; simp at hx
  · simp only [Value.slice.injEq] at h1
    exact ⟨g, o, h1.1, (h3 k x hx).1⟩
end
section
open Go.RowKit
namespace Sl
set_option maxHeartbeats 2000000 in
theorem lbare_any (n : Int) (w : World) (hg : ErAs.Door w) : Calls Tryz.prog 17 #[.iface 58 (.int .i64 n), .int .i64 n] w fun e w' => e = .returned (.bool true) ∧ Below w.heap.size w w' := by
  have HBA := hide (rbare_any n w)
  have HG := hide hg
  clear hg
  go_enter Tryz.func17, Tryz.ntmps17
  go_wp2_with fail
  refine HBA.out.mono ?_
  rintro e w1 ⟨rfl, hb1⟩
  have HAT := hide (at_any (.iface 58 (.int .i64 n)) n (-1) w1 ((hb1.cell (World.block_lt_of_cell? _ _ HG.out)).trans HG.out) (.inl ⟨rfl, rfl⟩))
  have HB1 := hide hb1
  unfold faultV at HAT ⊢
  clear hb1 HBA
  go_wp2_with fail
  refine HAT.out.mono ?_
  rintro e w2 ⟨rfl, hb2⟩
  have HB2 := hide (HB1.out.trans (hb2.mono HB1.out.size))
  clear hb2 HAT
  go_wp2_with fail
  go_ret
  exact ⟨rfl, HB2.out⟩
theorem own_ints {W : World} {q : Nat} {v : Value} {l : List Nat} (h : W.ownsRow q 3 1 v l.length (l.map intV)) (hl : ∀ i, i ∈ l → i ≤ 1000) : Ints W v (l.map fun i : Nat => (i : Int)) := by
  rcases h.2 with ⟨rfl, h0⟩ | ⟨g, cap, cur, rfl, _, hcur, hcap, _, _, htk⟩
  · exact .inl ⟨by rw [List.length_eq_zero_iff.1 h0]; rfl, _, _, rfl⟩
  · refine .inr ⟨g, 0, cap, by simp, by simpa using hcap, fun k x hx => ?_⟩
    rw [List.getElem?_map] at hx
    cases hk : l[k]? with
    | none => rw [hk] at hx; cases hx
    | some i =>
      rw [hk] at hx
      simp only [Option.map_some, Option.some.injEq] at hx
      subst hx
      have := hl i (List.mem_of_getElem? hk)
      exact ⟨by rw [Nat.zero_add]; exact row_cell hcur htk (by rw [List.getElem?_map, hk]; rfl), by unfold I64; omega⟩
end Sl
end
section
open Go.RowKit
set_option maxHeartbeats 2000000 in
set_option maxRecDepth 100000 in
theorem lsameI_any (l : List Int) (u v : Value) (w : World) (hu : Ints w u l) (hv : Ints w v l) (hl : l.length ≤ 1000000) :
    Calls Tryz.prog 14 #[u, v] w fun e w' => e = .returned (.bool true) ∧ Below w.heap.size w w' := by
  have HU := hide hu
  have HV := hide hv
  obtain ⟨n, hn⟩ : ∃ n, n = l.length := ⟨_, rfl⟩
  have HN := hide hn
  obtain ⟨ua, uc, rfl⟩ := hu.slice
  obtain ⟨va, vc, rfl⟩ := hv.slice
  rw [← hn] at HU HV hl ⊢
  clear hu hv hn
  go_enter Tryz.func14, Tryz.ntmps14
  go_wp2_with fail
  go_loopw [5] (fun i wr => ∃ k : Nat, k ≤ n ∧ i = .int .i64 (k : Int) ∧ Hid (Below w.heap.size w wr)) (fun i _ => n - (intOf i).toNat)
  case atStart => exact ⟨0, Nat.zero_le _, rfl, Below.refl _ _⟩
  case round =>
    obtain ⟨k, hk, rfl, HB⟩ := hrel
    by_cases hlt : k < n
    · have hkl : k < l.length := by rw [← HN.out]; exact hlt
      have hx := List.getElem?_eq_getElem hkl
      obtain ⟨g1, o1, e1, d1⟩ := (HU.out.below HB.out).cell k _ hx
      obtain ⟨g2, o2, e2, d2⟩ := (HV.out.below HB.out).cell k _ hx
      subst e1
      subst e2
      generalize l[k] = x at *
      clear hx
      go_wp2_with fail
      go_quiet (fail)
      go_wp2_with fail
      go_roundw
      case rel => exact ⟨k + 1, by omega, by go_num, HB.out.trans ⟨rfl, rfl, rfl, Nat.le_refl _, fun _ _ => rfl⟩⟩
      case measure => simp [intOf]; omega
    · have hkn : k = n := by omega
      subst hkn
      go_wp2_with fail
      go_ret
      exact ⟨rfl, HB.out⟩
end
section
namespace Sc
structure St where
  is : List Bool
  ct : List Int
def further (a most : Int) : Int := if a < most then a + 1 else most
def run (n : Nat) (most : Int) (says : Bool) (s : St) : St :=
  let c := if says then further (s.ct.getD n 0) most else 0
  ⟨s.is.set n (c == most), s.ct.set n c⟩
def count (n : Nat) (most : Int) (says : Bool) (s : St) : St :=
  let c := if says then further (s.ct.getD n 0) most else s.ct.getD n 0
  ⟨s.is.set n (c == most), s.ct.set n c⟩
def zero (n : Nat) (says : Bool) (s : St) : St := if says then ⟨s.is.set n false, s.ct.set n 0⟩ else s
/-- a rung of kind k does this to name n, whose count is most -/
def rung (k : Int) (n : Nat) (most : Int) (says : Bool) (s : St) : St :=
  if k = 1 then ⟨s.is.set n says, s.ct⟩
  else if k = 2 then ⟨s.is.set n (s.is.getD n false || says), s.ct⟩
  else if k = 3 then ⟨s.is.set n (s.is.getD n false && !says), s.ct⟩
  else if k = 4 then run n most says s
  else if k = 5 then count n most says s
  else if k = 6 then zero n says s
  else s
theorem rung_len (k : Int) (n : Nat) (most : Int) (says : Bool) (s : St) : (rung k n most says s).is.length = s.is.length ∧ (rung k n most says s).ct.length = s.ct.length := by
  unfold rung run count zero
  repeat' split
  all_goals simp
/-- what names are, told -/
def told (ns : List Ld.Nme) (l : List Bool) (s : List UInt8) : Bool := decide (0 ≤ Ld.number ns s) && l.getD (Ld.number ns s).toNat false
def doRung (ns : List Ld.Nme) (was : List Bool) (s : St) (r : Ld.Rng) : St :=
  match r.cond with
  | some x => if 0 ≤ Ld.number ns r.name then rung r.kind (Ld.number ns r.name).toNat ((ns.getD (Ld.number ns r.name).toNat ⟨[], 0, 0⟩).count) (x.eval (told ns s.is) (told ns was)) s else s
  | none => s
/-- inputs are read -/
def reads (l : List Nat) (inp : List Bool) (is : List Bool) : List Bool := (l.zip inp).foldl (fun acc p => acc.set p.1 p.2) is
def step (p : Ld.Prg) (s : St) (inp : List Bool) : St := p.rungs.foldl (doRung p.names s.is) ⟨reads (Ld.kindL p.names 1) inp s.is, s.ct⟩
def start (p : Ld.Prg) : St := ⟨List.replicate p.names.length false, List.replicate p.names.length 0⟩
end Sc
end
section
open Go.RowKit
def boolV (b : Bool) : Value := .bool b
def iV (k : Int) : Value := .int .i64 k
/-- all that is old stands, but for two rows -/
structure Two (gi gc : Nat) (w w' : World) : Prop where
  os : w'.os = w.os
  tape : w'.tape = w.tape
  output : w'.output = w.output
  size : w.heap.size ≤ w'.heap.size
  block : ∀ k, k < w.heap.size → k ≠ gi → k ≠ gc → w'.heap[k]? = w.heap[k]?
theorem Two.refl (gi gc : Nat) (w : World) : Two gi gc w w := ⟨rfl, rfl, rfl, Nat.le_refl _, fun _ _ _ _ => rfl⟩
theorem Two.trans {gi gc : Nat} {A B C : World} (h : Two gi gc A B) (k : Two gi gc B C) : Two gi gc A C :=
  ⟨k.os.trans h.os, k.tape.trans h.tape, k.output.trans h.output, Nat.le_trans h.size k.size, fun i h1 h2 h3 => (k.block i (Nat.lt_of_lt_of_le h1 h.size) h2 h3).trans (h.block i h1 h2 h3)⟩
theorem Two.below {gi gc : Nat} {w w' : World} (h : Below w.heap.size w w') : Two gi gc w w' := ⟨h.os, h.tape, h.output, h.size, fun k hk _ _ => h.block k hk⟩
theorem Two.setI {gi gc : Nat} (w : World) (i : Nat) (v : Value) : Two gi gc w (w.setCell ⟨gi, i, none⟩ v) := ⟨rfl, rfl, rfl, by simp [World.setCell], fun k _ h _ => Below.heap_setCell _ _ _ _ (fun e => h e)⟩
theorem Two.setC {gi gc : Nat} (w : World) (i : Nat) (v : Value) : Two gi gc w (w.setCell ⟨gc, i, none⟩ v) := ⟨rfl, rfl, rfl, by simp [World.setCell], fun k _ _ h => Below.heap_setCell _ _ _ _ (fun e => h e)⟩
theorem upto12 {P : Nat → Prop} (h0 : P 0) (h1 : P 1) (h2 : P 2) (h3 : P 3) (h4 : P 4) (h5 : P 5) (h6 : P 6) (h7 : P 7) (h8 : P 8) (h9 : P 9) (h10 : P 10) (h11 : P 11) (h12 : P 12) (n : Nat) (hn : n ≤ 12) : P n := by
  rcases (show n = 0 ∨ n = 1 ∨ n = 2 ∨ n = 3 ∨ n = 4 ∨ n = 5 ∨ n = 6 ∨ n = 7 ∨ n = 8 ∨ n = 9 ∨ n = 10 ∨ n = 11 ∨ n = 12 by omega) with rfl | rfl | rfl | rfl | rfl | rfl | rfl | rfl | rfl | rfl | rfl | rfl | rfl <;> assumption
theorem makeB (w : World) : ∀ n : Nat, n ≤ 12 → (Instr.makeSlice 47 (.int .i64 (n : Int)) (.int .i64 (n : Int))).run Tryz.prog w = .ok (.slice (some ⟨w.heap.size, 0, none⟩) n n) (w.alloc (.cells ⟨(List.replicate n false).map boolV⟩ 4)) := by
  apply upto12 <;> kernel_rfl
end
end Go.Proofs.YtkpfahbodlfpiaaGreatDoor
