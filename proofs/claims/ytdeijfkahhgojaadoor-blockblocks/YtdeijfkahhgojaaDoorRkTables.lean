/-
  The walk of the statements' own tables.
-/
import Derived.Test.YtdeijfkahhgojaaDoorRkCheck
namespace Go.Proofs.YtdeijfkahhgojaaDoor
namespace Bk
open Go.RowKit
/-- what tables comes to -/
def TabsDone (w : World) (N T : List (List Int)) (nv tv : Value) (e : Ending) (w' : World) : Prop := Below w.heap.size w w' ∧ ∃ (E P : Int) (ok : Bool), e = .returned (.tuple #[.agg #[nv, tv], .agg #[.int .i64 E, .int .i64 P], .bool ok]) ∧ (ok = true → E = fltE (check N T) ∧ P = fltP (check N T) ∧ (check N T = none → N.length ≤ 30 ∧ (N.getD 0 []).length ≤ 8))
/-- an operation whose guard was not carried out itself -/
theorem skipU_at {P : Program} {md : Region.Mode} {ops : Array Oper} {Q : Exit → Act → World → Prop} {S : World → Prop} (i d j : Nat) (want : Bool) {oi : Oper} {fuel : Nat} {listed : Array Bool} {tm : Array Value} {df : _} {w : World} (hi : ops[i]? = some oi) (hd : oi.dst = some d) (hg : oi.guard = some (j, want)) (hj : yielded ops tm j = none) (hs : Region.noSelect ops = true) (hf : Region.free md ops listed i = true) (hr : (Region.ready md ops listed).contains i = true) (hQ : ∀ c a w, ¬ Q (.panic c) a w) (hS : S w) (h : wpAnyH P md ops Q S fuel (listed.setIfInBounds i true) ⟨tm.setIfInBounds d undef, df⟩ w) : wpAnyH P md ops Q S (fuel + 1) listed ⟨tm, df⟩ w := by
  refine take_at i d undef hi hd hs hf hr hQ hS (Or.inr ⟨?_, rfl⟩) h
  unfold Region.wanted
  rw [hg]
  show (yielded ops tm j == some want) = false
  rw [hj]
  rfl
theorem below_drew {n : Nat} {A B : World} (h : Below n A B) : Below n A B.drew := ⟨h.os, h.tape, h.output, h.size, h.block⟩
theorem drew_cell (W : World) (p : Addr) : W.drew.cell? p = W.cell? p := rfl
/-- two boxes of two cells are written -/
theorem set4 (W : World) (a b : Nat) (hab : a ≠ b) (x0 x1 y0 y1 p0 p1 q0 q1 : Value) (h0 : W.cell? ⟨a, 0, none⟩ = some p0) (h1 : W.cell? ⟨a, 1, none⟩ = some p1) (h2 : W.cell? ⟨b, 0, none⟩ = some q0) (h3 : W.cell? ⟨b, 1, none⟩ = some q1) :
    ((((W.setCell ⟨a, 0, none⟩ x0).setCell ⟨a, 1, none⟩ x1).setCell ⟨b, 0, none⟩ y0).setCell ⟨b, 1, none⟩ y1).drew.cell? ⟨a, 0, none⟩ = some x0 ∧ ((((W.setCell ⟨a, 0, none⟩ x0).setCell ⟨a, 1, none⟩ x1).setCell ⟨b, 0, none⟩ y0).setCell ⟨b, 1, none⟩ y1).drew.cell? ⟨a, 1, none⟩ = some x1 ∧ ((((W.setCell ⟨a, 0, none⟩ x0).setCell ⟨a, 1, none⟩ x1).setCell ⟨b, 0, none⟩ y0).setCell ⟨b, 1, none⟩ y1).drew.cell? ⟨b, 0, none⟩ = some y0 ∧ ((((W.setCell ⟨a, 0, none⟩ x0).setCell ⟨a, 1, none⟩ x1).setCell ⟨b, 0, none⟩ y0).setCell ⟨b, 1, none⟩ y1).drew.cell? ⟨b, 1, none⟩ = some y1 := by
  have e1 := World.cell?_setCell_same W ⟨a, 0, none⟩ x0 h0
  have e2 := cell_set_other W a 1 0 x0 p1 (by omega) h1
  have e3 := cell_set_block W b a 0 0 x0 q0 (fun e => hab e.symm) h2
  have e4 := cell_set_block W b a 1 0 x0 q1 (fun e => hab e.symm) h3
  have f1 := cell_set_other _ a 0 1 x1 x0 (by omega) e1
  have f2 := World.cell?_setCell_same _ ⟨a, 1, none⟩ x1 e2
  have f3 := cell_set_block _ b a 0 1 x1 q0 (fun e => hab e.symm) e3
  have f4 := cell_set_block _ b a 1 1 x1 q1 (fun e => hab e.symm) e4
  have g1 := cell_set_block _ a b 0 0 y0 x0 hab f1
  have g2 := cell_set_block _ a b 1 0 y0 x1 hab f2
  have g3 := World.cell?_setCell_same _ ⟨b, 0, none⟩ y0 f3
  have g4 := cell_set_other _ b 1 0 y0 q1 (by omega) f4
  have k1 := cell_set_block _ a b 0 1 y1 x0 hab g1
  have k2 := cell_set_block _ a b 1 1 y1 x1 hab g2
  have k3 := cell_set_other _ b 0 1 y1 y0 (by omega) g3
  have k4 := World.cell?_setCell_same _ ⟨b, 1, none⟩ y1 g4
  rw [drew_cell, drew_cell, drew_cell, drew_cell]
  exact ⟨k1, k2, k3, k4⟩
theorem set4' (W : World) (a b : Nat) (hab : a ≠ b) (x0 x1 y0 y1 p0 p1 q0 q1 : Value) (h0 : W.cell? ⟨a, 0, none⟩ = some p0) (h1 : W.cell? ⟨a, 1, none⟩ = some p1) (h2 : W.cell? ⟨b, 0, none⟩ = some q0) (h3 : W.cell? ⟨b, 1, none⟩ = some q1) :
    ((((W.setCell ⟨a, 0, none⟩ x0).setCell ⟨a, 1, none⟩ x1).setCell ⟨b, 0, none⟩ y0).setCell ⟨b, 1, none⟩ y1).cell? ⟨a, 0, none⟩ = some x0 ∧ ((((W.setCell ⟨a, 0, none⟩ x0).setCell ⟨a, 1, none⟩ x1).setCell ⟨b, 0, none⟩ y0).setCell ⟨b, 1, none⟩ y1).cell? ⟨a, 1, none⟩ = some x1 ∧ ((((W.setCell ⟨a, 0, none⟩ x0).setCell ⟨a, 1, none⟩ x1).setCell ⟨b, 0, none⟩ y0).setCell ⟨b, 1, none⟩ y1).cell? ⟨b, 0, none⟩ = some y0 ∧ ((((W.setCell ⟨a, 0, none⟩ x0).setCell ⟨a, 1, none⟩ x1).setCell ⟨b, 0, none⟩ y0).setCell ⟨b, 1, none⟩ y1).cell? ⟨b, 1, none⟩ = some y1 := by
  have e1 := World.cell?_setCell_same W ⟨a, 0, none⟩ x0 h0
  have e2 := cell_set_other W a 1 0 x0 p1 (by omega) h1
  have e3 := cell_set_block W b a 0 0 x0 q0 (fun e => hab e.symm) h2
  have e4 := cell_set_block W b a 1 0 x0 q1 (fun e => hab e.symm) h3
  have f1 := cell_set_other _ a 0 1 x1 x0 (by omega) e1
  have f2 := World.cell?_setCell_same _ ⟨a, 1, none⟩ x1 e2
  have f3 := cell_set_block _ b a 0 1 x1 q0 (fun e => hab e.symm) e3
  have f4 := cell_set_block _ b a 1 1 x1 q1 (fun e => hab e.symm) e4
  have g1 := cell_set_block _ a b 0 0 y0 x0 hab f1
  have g2 := cell_set_block _ a b 1 0 y0 x1 hab f2
  have g3 := World.cell?_setCell_same _ ⟨b, 0, none⟩ y0 f3
  have g4 := cell_set_other _ b 1 0 y0 q1 (by omega) f4
  have k1 := cell_set_block _ a b 0 1 y1 x0 hab g1
  have k2 := cell_set_block _ a b 1 1 y1 x1 hab g2
  have k3 := cell_set_other _ b 0 1 y1 y0 (by omega) g3
  have k4 := World.cell?_setCell_same _ ⟨b, 1, none⟩ y1 g4
  exact ⟨k1, k2, k3, k4⟩
theorem check_zero {N T : List (List Int)} (h : fltE (check N T) = 0) : check N T = none := by
  unfold check at h ⊢
  split at h
  · simp [fltE] at h
  · rename_i h1
    rw [if_neg h1]
    split at h
    · simp [fltE] at h
    · rename_i h2
      rw [if_neg h2]
      cases hf : (List.range N.length).findSome? fun s => (badAt N T s).map fun e => (e, some s) with
      | none => rfl
      | some x =>
        rw [hf] at h
        obtain ⟨s, _, hs⟩ := List.exists_of_findSome?_eq_some hf
        rw [Option.map_eq_some_iff] at hs
        obtain ⟨e, he, rfl⟩ := hs
        unfold badAt rowBad at he
        split at he
        · split at he
          · cases he; simp [fltE] at h
          · cases he
        · cases he; simp [fltE] at h
set_option maxHeartbeats 16000000 in
set_option maxRecDepth 100000 in
theorem tables_any (N T : List (List Int)) (nv tv : Value) (w : World) (hN : Rows w nv N) (hT : Rows w tv T) (hf : Fine w) :
    Calls Tryd.prog 5 #[.agg #[nv, tv]] w (TabsDone w N T nv tv) := by
  obtain ⟨wA, hwA⟩ : ∃ wA, wA = w.alloc (.cells #[nv, tv] 24) := ⟨_, rfl⟩
  obtain ⟨wB, hwB⟩ : ∃ wB, wB = wA.alloc (.cells #[.slice none 0 0, .slice none 0 0] 25) := ⟨_, rfl⟩
  obtain ⟨wC, hwC⟩ : ∃ wC, wC = wB.alloc (.cells #[.int .i64 0, .int .i64 0] 28) := ⟨_, rfl⟩
  obtain ⟨wD, hwD⟩ : ∃ wD, wD = wC.alloc (.cells #[nv, tv] 25) := ⟨_, rfl⟩
  have zA : wA.heap.size = w.heap.size + 1 := by rw [hwA]; simp
  have zB : wB.heap.size = w.heap.size + 1 + 1 := by rw [hwB]; simp [zA]
  have zC : wC.heap.size = w.heap.size + 1 + 1 + 1 := by rw [hwC]; simp [zB]
  have bA : Below w.heap.size w wA := by rw [hwA]; exact (Below.refl _ _).alloc (Nat.le_refl _) _
  have bB : Below wA.heap.size wA wB := by rw [hwB]; exact (Below.refl _ _).alloc (Nat.le_refl _) _
  have bC : Below wB.heap.size wB wC := by rw [hwC]; exact (Below.refl _ _).alloc (Nat.le_refl _) _
  have bD : Below wC.heap.size wC wD := by rw [hwD]; exact (Below.refl _ _).alloc (Nat.le_refl _) _
  have hWD := then_ bA (then_ bB (then_ bC bD))
  have HBD := hide hWD
  have T1 : Tab wD w.heap.size nv tv := by refine Tab.below ?_ (then_ bB (then_ bC bD)); rw [hwA]; exact Tab.new _ _ _
  have T2 : wD.heap[w.heap.size + 1]? = some (.cells #[.slice none 0 0, .slice none 0 0] 25 (0, 0)) := by
    refine ((then_ bC bD).block _ (by omega)).trans ?_
    rw [hwB, ← zA]; exact heap_alloc_new _ _
  have T3 : wD.heap[w.heap.size + 1 + 1]? = some (.cells #[.int .i64 0, .int .i64 0] 28 (0, 0)) := by
    refine (bD.block _ (by omega)).trans ?_
    rw [hwC, ← zB]; exact heap_alloc_new _ _
  have T5 : Tab wD (w.heap.size + 1 + 1 + 1) nv tv := by rw [hwD, ← zC]; exact TabR.new _ _ _
  have HKEEP : Hid (∀ W, Below wD.heap.size wD W → Tab W w.heap.size nv tv ∧ Tab W (w.heap.size + 1 + 1 + 1) nv tv ∧ (W.cell? ⟨w.heap.size + 1, 0, none⟩ = some (.slice none 0 0) ∧ W.cell? ⟨w.heap.size + 1, 1, none⟩ = some (.slice none 0 0) ∧ W.frozen? ⟨w.heap.size + 1, 0, none⟩ = false ∧ W.frozen? ⟨w.heap.size + 1, 1, none⟩ = false) ∧ (W.cell? ⟨w.heap.size + 1 + 1, 0, none⟩ = some (.int .i64 0) ∧ W.cell? ⟨w.heap.size + 1 + 1, 1, none⟩ = some (.int .i64 0) ∧ W.frozen? ⟨w.heap.size + 1 + 1, 0, none⟩ = false ∧ W.frozen? ⟨w.heap.size + 1 + 1, 1, none⟩ = false)) := fun W hW => by
    have h2 := (hW.block _ (Array.getElem?_eq_some_iff.1 T2).1).trans T2
    have h3 := (hW.block _ (Array.getElem?_eq_some_iff.1 T3).1).trans T3
    exact ⟨T1.below hW, T5.below hW, ⟨by rw [Lib.cell_of_heap h2]; rfl, by rw [Lib.cell_of_heap h2]; rfl, Lib.frozen_of_heap h2 0, Lib.frozen_of_heap h2 1⟩, ⟨by rw [Lib.cell_of_heap h3]; rfl, by rw [Lib.cell_of_heap h3]; rfl, Lib.frozen_of_heap h3 0, Lib.frozen_of_heap h3 1⟩⟩
  have HFW : Hid (∀ (W : World) (a_ b_ c_ d_ : Value), Below wD.heap.size wD W → Below w.heap.size w ((((W.setCell ⟨w.heap.size + 1, 0, none⟩ a_).setCell ⟨w.heap.size + 1, 1, none⟩ b_).setCell ⟨w.heap.size + 1 + 1, 0, none⟩ c_).setCell ⟨w.heap.size + 1 + 1, 1, none⟩ d_)) := fun W a_ b_ c_ d_ hW => by
    have h := HBD.out.trans (hW.mono HBD.out.size)
    exact (((h.setCell (by show w.heap.size ≤ w.heap.size + 1; omega) _).setCell (by show w.heap.size ≤ w.heap.size + 1; omega) _).setCell (by show w.heap.size ≤ w.heap.size + 1 + 1; omega) _).setCell (by show w.heap.size ≤ w.heap.size + 1 + 1; omega) _
  have HTC := hide (TableCheck_any N T nv tv wD (hN.below hWD) (hT.below hWD) (hf.below hWD))
  have HND := hide (hN.below hWD)
  have HNW := hide hN
  obtain ⟨f0, f1⟩ := hf.below hWD
  have hgF : 0 < w.heap.size := World.block_lt_of_cell? _ _ hf.1
  obtain ⟨na, nc, rfl⟩ := hN.slice
  obtain ⟨ta, tc, rfl⟩ := hT.slice
  obtain ⟨⟨a0, a1⟩, ⟨b0, b1⟩, ⟨c0, c1, c2, c3⟩, ⟨d0, d1, d2, d3⟩⟩ := HKEEP.out wD (Below.refl _ _)
  obtain ⟨n, hn⟩ : ∃ n, n = N.length := ⟨_, rfl⟩
  obtain ⟨m, hm⟩ : ∃ m, m = T.length := ⟨_, rfl⟩
  have HNn := hide hn
  rw [← hn] at HTC HND HNW HKEEP a0 b0 hwA hwD ⊢
  rw [← hm] at HTC HKEEP a1 b1 hwA hwD ⊢
  clear hN hT hf bA bB bC bD hWD T1 T2 T3 T5 zA zB zC hn hm
  by_cases h1 : n ≤ 510 ∧ m ≤ 510
  · obtain ⟨h1a, h1b⟩ := h1
    have h1i : ¬ (510 : Int) < (n : Int) := by omega
    have h2i : ¬ (510 : Int) < (m : Int) := by omega
    unfold faultV at HTC
    obtain ⟨E, hE⟩ : ∃ E, E = fltE (check N T) := ⟨_, rfl⟩
    obtain ⟨P, hP⟩ : ∃ P, P = fltP (check N T) := ⟨_, rfl⟩
    have HE := hide hE
    have HP := hide hP
    rw [← hE, ← hP] at HTC
    clear hE hP
    go_enter Tryd.func5, Tryd.ntmps5
    go_wp2_with fail
    rw [← hwA, ← hwB, ← hwC, ← hwD]
    clear hwA hwB hwC hwD a0 a1 b0 b1 c0 c1 c2 c3 d0 d1 d2 d3 f0 f1
    refine HTC.out.mono ?_
    rintro e w5 ⟨rfl, hb5⟩
    obtain ⟨w6, hw6⟩ : ∃ w6, w6 = w5.alloc (.cells #[.int .i64 E, .int .i64 P] 28) := ⟨_, rfl⟩
    have hb6 : Below w5.heap.size w5 w6 := by rw [hw6]; exact (Below.refl _ _).alloc (Nat.le_refl _) _
    obtain ⟨⟨a0, a1⟩, ⟨b0, b1⟩, ⟨c0, c1, c2, c3⟩, ⟨d0, d1, d2, d3⟩⟩ := HKEEP.out w6 (then_ hb5 hb6)
    have g0 : w6.cell? ⟨w5.heap.size, 0, none⟩ = some (.int .i64 E) := by rw [hw6, Lib.cell_of_heap (heap_alloc_new w5 _)]; rfl
    have g1 : w6.cell? ⟨w5.heap.size, 1, none⟩ = some (.int .i64 P) := by rw [hw6, Lib.cell_of_heap (heap_alloc_new w5 _)]; rfl
    have HB6 := hide (then_ hb5 hb6)
    have hz5 : w.heap.size + 1 + 1 + 1 < w5.heap.size := by
      have h1 := World.block_lt_of_cell? _ _ ((HKEEP.out w5 hb5).2.1.1)
      exact h1
    have HFIN : Hid (∀ ok : Bool, (ok = true → (check N T = none → N.length ≤ 30 ∧ (N.getD 0 []).length ≤ 8)) → ∀ W, Below wD.heap.size wD W → ∀ a_ b_ c_ d_, TabsDone w N T (.slice na n nc) (.slice ta m tc) (.returned (.tuple #[.agg #[.slice na n nc, .slice ta m tc], .agg #[.int .i64 E, .int .i64 P], .bool ok])) ((((W.setCell ⟨w.heap.size + 1, 0, none⟩ a_).setCell ⟨w.heap.size + 1, 1, none⟩ b_).setCell ⟨w.heap.size + 1 + 1, 0, none⟩ c_).setCell ⟨w.heap.size + 1 + 1, 1, none⟩ d_)) := fun ok hok W hW a_ b_ c_ d_ =>
      ⟨HFW.out W a_ b_ c_ d_ hW, E, P, ok, rfl, fun h => ⟨HE.out, HP.out, hok h⟩⟩
    clear hb5 hb6 HTC HKEEP HFW
    by_cases hE0 : E = 0
    · have hck : check N T = none := by
        have h := HE.out
        rw [hE0] at h
        exact check_zero h.symm
      have hG := good_of hck
      have hp0 : 0 < N.length := hG.pos
      obtain ⟨gN, oN, rfl, ur, dr, cr, _⟩ := HNW.out.cell 0 _ (List.getElem?_eq_getElem hp0)
      simp only [Nat.add_zero] at cr
      have hz : N.getD 0 [] = N[0] := getD_in _ _ _ hp0
      obtain ⟨k, hk⟩ : ∃ k, k = N[0].length := ⟨_, rfl⟩
      rw [← hk] at cr
      have hgNw : gN < w.heap.size := World.block_lt_of_cell? _ _ cr
      have cr6 := kept (HBD.out.trans (HB6.out.mono HBD.out.size)) cr
      have hn0 : ¬ n = 0 := by rw [HNn.out]; omega
      subst hE0
      have hpi : (0 : Int) < (n : Int) := by rw [HNn.out]; omega
      by_cases h30 : n ≤ 30
      · have h30i : (n : Int) ≤ 30 := by omega
        have HF1 := hide (HFIN.out (Decidable.decide ((k : Int) ≤ 8)) (fun h _ => ⟨by rw [← HNn.out]; exact h30, by rw [hz, ← hk]; have := of_decide_eq_true h; omega⟩))
        clear HFIN hck hG hz hk cr
        have HSW : Hid (w6.drew.cell? ⟨w.heap.size, 0, none⟩ = some (.slice (some ⟨gN, oN, none⟩) n nc) ∧ w6.drew.cell? ⟨w.heap.size + 1 + 1 + 1, 0, none⟩ = some (.slice (some ⟨gN, oN, none⟩) n nc) ∧ w6.drew.cell? ⟨w.heap.size + 1 + 1 + 1, 1, none⟩ = some (.slice ta m tc) ∧ w6.drew.cell? ⟨w5.heap.size, 0, none⟩ = some (.int .i64 0) ∧ w6.drew.cell? ⟨w5.heap.size, 1, none⟩ = some (.int .i64 P) ∧ w6.drew.cell? ⟨gN, oN, none⟩ = some (.slice ur k dr)) := ⟨a0, b0, b1, g0, g1, cr6⟩
        go_wp2_with fail
        rw [← hw6]
        clear hw6
        refine wp_region_noPanic ?_
        refine wp_region_held_drew (S := fun W => W.cell? ⟨w.heap.size, 0, none⟩ = some (.slice (some ⟨gN, oN, none⟩) n nc) ∧ W.cell? ⟨w.heap.size + 1 + 1 + 1, 0, none⟩ = some (.slice (some ⟨gN, oN, none⟩) n nc) ∧ W.cell? ⟨w.heap.size + 1 + 1 + 1, 1, none⟩ = some (.slice ta m tc) ∧ W.cell? ⟨w5.heap.size, 0, none⟩ = some (.int .i64 0) ∧ W.cell? ⟨w5.heap.size, 1, none⟩ = some (.int .i64 P) ∧ W.cell? ⟨gN, oN, none⟩ = some (.slice ur k dr)) (by kernel_rfl) (HSW.out) (fun hHeld => ?_)
        refine take_at 0 26 (.agg #[.slice (some ⟨gN, oN, none⟩) n nc, .slice ta m tc]) rfl rfl (by kernel_rfl) (by kernel_rfl) (by kernel_rfl) (fun _ _ _ h => h) hHeld (Or.inl ⟨by rfl, ?_⟩) ?_
        · rintro Z ⟨z0, z1, z2, z3, z4, z5⟩
          go_simp
        simp only [List.setIfInBounds_toArray, List.set_cons_zero, List.set_cons_succ]
        refine take_at 1 27 (.agg #[.int .i64 0, .int .i64 P]) rfl rfl (by kernel_rfl) (by kernel_rfl) (by kernel_rfl) (fun _ _ _ h => h) hHeld (Or.inl ⟨by rfl, ?_⟩) ?_
        · rintro Z ⟨z0, z1, z2, z3, z4, z5⟩
          go_simp
        simp only [List.setIfInBounds_toArray, List.set_cons_zero, List.set_cons_succ]
        refine take_at 2 28 (.pointer (some ⟨w5.heap.size, 0, none⟩)) rfl rfl (by kernel_rfl) (by kernel_rfl) (by kernel_rfl) (fun _ _ _ h => h) hHeld (Or.inl ⟨by rfl, ?_⟩) ?_
        · rintro Z ⟨z0, z1, z2, z3, z4, z5⟩
          go_simp
        simp only [List.setIfInBounds_toArray, List.set_cons_zero, List.set_cons_succ]
        refine take_at 3 29 (.int .i64 0) rfl rfl (by kernel_rfl) (by kernel_rfl) (by kernel_rfl) (fun _ _ _ h => h) hHeld (Or.inl ⟨by rfl, ?_⟩) ?_
        · rintro Z ⟨z0, z1, z2, z3, z4, z5⟩
          go_simp
        simp only [List.setIfInBounds_toArray, List.set_cons_zero, List.set_cons_succ]
        refine take_at 4 30 (.bool false) rfl rfl (by kernel_rfl) (by kernel_rfl) (by kernel_rfl) (fun _ _ _ h => h) hHeld (Or.inl ⟨by rfl, ?_⟩) ?_
        · rintro Z ⟨z0, z1, z2, z3, z4, z5⟩
          go_simp
        simp only [List.setIfInBounds_toArray, List.set_cons_zero, List.set_cons_succ]
        refine take_at 5 31 (.bool false) rfl rfl (by kernel_rfl) (by kernel_rfl) (by kernel_rfl) (fun _ _ _ h => h) hHeld (Or.inl ⟨by rfl, ?_⟩) ?_
        · rintro Z ⟨z0, z1, z2, z3, z4, z5⟩
          go_simp
        simp only [List.setIfInBounds_toArray, List.set_cons_zero, List.set_cons_succ]
        refine take_at 6 32 (.pointer (some ⟨w.heap.size, 0, none⟩)) rfl rfl (by kernel_rfl) (by kernel_rfl) (by kernel_rfl) (fun _ _ _ h => h) hHeld (Or.inl ⟨by rfl, ?_⟩) ?_
        · rintro Z ⟨z0, z1, z2, z3, z4, z5⟩
          go_simp
        simp only [List.setIfInBounds_toArray, List.set_cons_zero, List.set_cons_succ]
        refine take_at 7 33 (.slice (some ⟨gN, oN, none⟩) n nc) rfl rfl (by kernel_rfl) (by kernel_rfl) (by kernel_rfl) (fun _ _ _ h => h) hHeld (Or.inl ⟨by rfl, ?_⟩) ?_
        · rintro Z ⟨z0, z1, z2, z3, z4, z5⟩
          go_simp
        simp only [List.setIfInBounds_toArray, List.set_cons_zero, List.set_cons_succ]
        refine take_at 8 34 (.int .i64 (n : Int)) rfl rfl (by kernel_rfl) (by kernel_rfl) (by kernel_rfl) (fun _ _ _ h => h) hHeld (Or.inl ⟨by rfl, ?_⟩) ?_
        · rintro Z ⟨z0, z1, z2, z3, z4, z5⟩
          go_simp
        simp only [List.setIfInBounds_toArray, List.set_cons_zero, List.set_cons_succ]
        refine take_at 9 35 (.bool true) rfl rfl (by kernel_rfl) (by kernel_rfl) (by kernel_rfl) (fun _ _ _ h => h) hHeld (Or.inl ⟨by rfl, ?_⟩) ?_
        · rintro Z ⟨z0, z1, z2, z3, z4, z5⟩
          go_simp
        simp only [List.setIfInBounds_toArray, List.set_cons_zero, List.set_cons_succ]
        refine take_at 10 36 (.bool true) rfl rfl (by kernel_rfl) (by kernel_rfl) (by kernel_rfl) (fun _ _ _ h => h) hHeld (Or.inl ⟨by rfl, ?_⟩) ?_
        · rintro Z ⟨z0, z1, z2, z3, z4, z5⟩
          go_simp
        simp only [List.setIfInBounds_toArray, List.set_cons_zero, List.set_cons_succ]
        refine take_at 11 37 (.pointer (some ⟨w.heap.size, 0, none⟩)) rfl rfl (by kernel_rfl) (by kernel_rfl) (by kernel_rfl) (fun _ _ _ h => h) hHeld (Or.inl ⟨by rfl, ?_⟩) ?_
        · rintro Z ⟨z0, z1, z2, z3, z4, z5⟩
          go_simp
        simp only [List.setIfInBounds_toArray, List.set_cons_zero, List.set_cons_succ]
        refine take_at 12 38 (.slice (some ⟨gN, oN, none⟩) n nc) rfl rfl (by kernel_rfl) (by kernel_rfl) (by kernel_rfl) (fun _ _ _ h => h) hHeld (Or.inl ⟨by rfl, ?_⟩) ?_
        · rintro Z ⟨z0, z1, z2, z3, z4, z5⟩
          go_simp
        simp only [List.setIfInBounds_toArray, List.set_cons_zero, List.set_cons_succ]
        refine take_at 13 39 (.pointer (some ⟨gN, oN, none⟩)) rfl rfl (by kernel_rfl) (by kernel_rfl) (by kernel_rfl) (fun _ _ _ h => h) hHeld (Or.inl ⟨by rfl, ?_⟩) ?_
        · rintro Z ⟨z0, z1, z2, z3, z4, z5⟩
          go_simp
        simp only [List.setIfInBounds_toArray, List.set_cons_zero, List.set_cons_succ]
        refine take_at 14 40 (.slice ur k dr) rfl rfl (by kernel_rfl) (by kernel_rfl) (by kernel_rfl) (fun _ _ _ h => h) hHeld (Or.inl ⟨by rfl, ?_⟩) ?_
        · rintro Z ⟨z0, z1, z2, z3, z4, z5⟩
          go_simp
        simp only [List.setIfInBounds_toArray, List.set_cons_zero, List.set_cons_succ]
        refine take_at 15 41 (.int .i64 (k : Int)) rfl rfl (by kernel_rfl) (by kernel_rfl) (by kernel_rfl) (fun _ _ _ h => h) hHeld (Or.inl ⟨by rfl, ?_⟩) ?_
        · rintro Z ⟨z0, z1, z2, z3, z4, z5⟩
          go_simp
        simp only [List.setIfInBounds_toArray, List.set_cons_zero, List.set_cons_succ]
        refine take_at 16 42 (.bool (Decidable.decide ((k : Int) ≤ 8))) rfl rfl (by kernel_rfl) (by kernel_rfl) (by kernel_rfl) (fun _ _ _ h => h) hHeld (Or.inl ⟨by rfl, ?_⟩) ?_
        · rintro Z ⟨z0, z1, z2, z3, z4, z5⟩
          go_simp
        simp only [List.setIfInBounds_toArray, List.set_cons_zero, List.set_cons_succ]
        refine take_at 17 43 (.bool (Decidable.decide ((k : Int) ≤ 8))) rfl rfl (by kernel_rfl) (by kernel_rfl) (by kernel_rfl) (fun _ _ _ h => h) hHeld (Or.inl ⟨by rfl, ?_⟩) ?_
        · rintro Z ⟨z0, z1, z2, z3, z4, z5⟩
          go_simp
        simp only [List.setIfInBounds_toArray, List.set_cons_zero, List.set_cons_succ]
        refine take_at 18 44 (.bool (Decidable.decide ((k : Int) ≤ 8))) rfl rfl (by kernel_rfl) (by kernel_rfl) (by kernel_rfl) (fun _ _ _ h => h) hHeld (Or.inl ⟨by rfl, ?_⟩) ?_
        · rintro Z ⟨z0, z1, z2, z3, z4, z5⟩
          go_simp
        simp only [List.setIfInBounds_toArray, List.set_cons_zero, List.set_cons_succ]
        obtain ⟨w7, hw7⟩ : ∃ w7, w7 = w6.drew := ⟨_, rfl⟩
        have c0 : w7.cell? ⟨w.heap.size + 1, 0, none⟩ = some (.slice none 0 0) := by rw [hw7]; exact c0
        have c1 : w7.cell? ⟨w.heap.size + 1, 1, none⟩ = some (.slice none 0 0) := by rw [hw7]; exact c1
        have c2 : w7.frozen? ⟨w.heap.size + 1, 0, none⟩ = false := by rw [hw7]; exact c2
        have c3 : w7.frozen? ⟨w.heap.size + 1, 1, none⟩ = false := by rw [hw7]; exact c3
        have d0 : w7.cell? ⟨w.heap.size + 1 + 1, 0, none⟩ = some (.int .i64 0) := by rw [hw7]; exact d0
        have d1 : w7.cell? ⟨w.heap.size + 1 + 1, 1, none⟩ = some (.int .i64 0) := by rw [hw7]; exact d1
        have d2 : w7.frozen? ⟨w.heap.size + 1 + 1, 0, none⟩ = false := by rw [hw7]; exact d2
        have d3 : w7.frozen? ⟨w.heap.size + 1 + 1, 1, none⟩ = false := by rw [hw7]; exact d3
        have HB7 : Hid (Below wD.heap.size wD w7) := by rw [hw7]; exact below_drew HB6.out
        rw [← hw7] at hHeld ⊢
        clear hw7
        refine wpAnyH_ready (rs := [19]) (by kernel_rfl) (by simp) ?_
        intro i hmem
        obtain rfl := List.mem_singleton.1 hmem
        refine wpOp_k rfl (by rfl) (fun K' hK => ?_)
        go_simp
        have h19 : (fun W => W.cell? ⟨w.heap.size, 0, none⟩ = some (.slice (some ⟨gN, oN, none⟩) n nc) ∧ W.cell? ⟨w.heap.size + 1 + 1 + 1, 0, none⟩ = some (.slice (some ⟨gN, oN, none⟩) n nc) ∧ W.cell? ⟨w.heap.size + 1 + 1 + 1, 1, none⟩ = some (.slice ta m tc) ∧ W.cell? ⟨w5.heap.size, 0, none⟩ = some (.int .i64 0) ∧ W.cell? ⟨w5.heap.size, 1, none⟩ = some (.int .i64 P) ∧ W.cell? ⟨gN, oN, none⟩ = some (.slice ur k dr)) ((w7.setCell ⟨w.heap.size + 1, 0, none⟩ (.slice (some ⟨gN, oN, none⟩) n nc)).setCell ⟨w.heap.size + 1, 1, none⟩ (.slice ta m tc)) := ⟨cell_set_block _ _ _ _ _ _ _ (by omega) (cell_set_block _ _ _ _ _ _ _ (by omega) hHeld.1), cell_set_block _ _ _ _ _ _ _ (by omega) (cell_set_block _ _ _ _ _ _ _ (by omega) hHeld.2.1), cell_set_block _ _ _ _ _ _ _ (by omega) (cell_set_block _ _ _ _ _ _ _ (by omega) hHeld.2.2.1), cell_set_block _ _ _ _ _ _ _ (by omega) (cell_set_block _ _ _ _ _ _ _ (by omega) hHeld.2.2.2.1), cell_set_block _ _ _ _ _ _ _ (by omega) (cell_set_block _ _ _ _ _ _ _ (by omega) hHeld.2.2.2.2.1), cell_set_block _ _ _ _ _ _ _ (by omega) (cell_set_block _ _ _ _ _ _ _ (by omega) hHeld.2.2.2.2.2)⟩
        refine hK _ _ ⟨h19, ?_⟩
        clear hK K'
        refine wpAnyH_ready (rs := [20]) (by kernel_rfl) (by simp) ?_
        intro i hmem
        obtain rfl := List.mem_singleton.1 hmem
        refine wpOp_k rfl (by rfl) (fun K' hK => ?_)
        go_simp
        have h20 : (fun W => W.cell? ⟨w.heap.size, 0, none⟩ = some (.slice (some ⟨gN, oN, none⟩) n nc) ∧ W.cell? ⟨w.heap.size + 1 + 1 + 1, 0, none⟩ = some (.slice (some ⟨gN, oN, none⟩) n nc) ∧ W.cell? ⟨w.heap.size + 1 + 1 + 1, 1, none⟩ = some (.slice ta m tc) ∧ W.cell? ⟨w5.heap.size, 0, none⟩ = some (.int .i64 0) ∧ W.cell? ⟨w5.heap.size, 1, none⟩ = some (.int .i64 P) ∧ W.cell? ⟨gN, oN, none⟩ = some (.slice ur k dr)) ((((w7.setCell ⟨w.heap.size + 1, 0, none⟩ (.slice (some ⟨gN, oN, none⟩) n nc)).setCell ⟨w.heap.size + 1, 1, none⟩ (.slice ta m tc)).setCell ⟨w.heap.size + 1 + 1, 0, none⟩ (.int .i64 0)).setCell ⟨w.heap.size + 1 + 1, 1, none⟩ (.int .i64 P)) := ⟨cell_set_block _ _ _ _ _ _ _ (by omega) (cell_set_block _ _ _ _ _ _ _ (by omega) h19.1), cell_set_block _ _ _ _ _ _ _ (by omega) (cell_set_block _ _ _ _ _ _ _ (by omega) h19.2.1), cell_set_block _ _ _ _ _ _ _ (by omega) (cell_set_block _ _ _ _ _ _ _ (by omega) h19.2.2.1), cell_set_block _ _ _ _ _ _ _ (by omega) (cell_set_block _ _ _ _ _ _ _ (by omega) h19.2.2.2.1), cell_set_block _ _ _ _ _ _ _ (by omega) (cell_set_block _ _ _ _ _ _ _ (by omega) h19.2.2.2.2.1), cell_set_block _ _ _ _ _ _ _ (by omega) (cell_set_block _ _ _ _ _ _ _ (by omega) h19.2.2.2.2.2)⟩
        refine hK _ _ ⟨h20, ?_⟩
        clear hK K'
        refine take_at 21 4 (.bool (Decidable.decide ((k : Int) ≤ 8))) rfl rfl (by kernel_rfl) (by kernel_rfl) (by kernel_rfl) (fun _ _ _ h => h) h20 (Or.inl ⟨by rfl, ?_⟩) ?_
        · rintro Z ⟨z0, z1, z2, z3, z4, z5⟩
          go_simp
        simp only [List.setIfInBounds_toArray, List.set_cons_zero, List.set_cons_succ]
        obtain ⟨wE, hwE⟩ : ∃ wE, wE = ((((w7.setCell ⟨w.heap.size + 1, 0, none⟩ (.slice (some ⟨gN, oN, none⟩) n nc)).setCell ⟨w.heap.size + 1, 1, none⟩ (.slice ta m tc)).setCell ⟨w.heap.size + 1 + 1, 0, none⟩ (.int .i64 0)).setCell ⟨w.heap.size + 1 + 1, 1, none⟩ (.int .i64 P)) := ⟨_, rfl⟩
        obtain ⟨k0, k1, k2, k3⟩ := set4' w7 (w.heap.size + 1) (w.heap.size + 1 + 1) (by omega) (.slice (some ⟨gN, oN, none⟩) n nc) (.slice ta m tc) (.int .i64 0) (.int .i64 P) _ _ _ _ c0 c1 d0 d1
        have HFE := hide (HF1.out w7 HB7.out (.slice (some ⟨gN, oN, none⟩) n nc) (.slice ta m tc) (.int .i64 0) (.int .i64 P))
        rw [← hwE] at k0 k1 k2 k3 HFE ⊢
        clear hwE h19 h20 hHeld
        refine wpAnyH_done (by kernel_rfl) ?_ _
        refine NoPanic.normal ?_
        go_wp2_with fail
        refine bodyPost_ret_by (v := .tuple #[.agg #[.slice (some ⟨gN, oN, none⟩) n nc, .slice ta m tc], .agg #[.int .i64 0, .int .i64 P], .bool (Decidable.decide ((k : Int) ≤ 8))]) ?_ rfl ?_
        · simp [results, Tryd.results5, go_sem, k0, k1, k2, k3]
        · exact HFE.out
      · have h30i : ¬ (n : Int) ≤ 30 := by omega
        have HF1 := hide (HFIN.out false (fun h => by cases h))
        clear HFIN hck hG hz hk cr
        have HSW : Hid (w6.drew.cell? ⟨w.heap.size, 0, none⟩ = some (.slice (some ⟨gN, oN, none⟩) n nc) ∧ w6.drew.cell? ⟨w.heap.size + 1 + 1 + 1, 0, none⟩ = some (.slice (some ⟨gN, oN, none⟩) n nc) ∧ w6.drew.cell? ⟨w.heap.size + 1 + 1 + 1, 1, none⟩ = some (.slice ta m tc) ∧ w6.drew.cell? ⟨w5.heap.size, 0, none⟩ = some (.int .i64 0) ∧ w6.drew.cell? ⟨w5.heap.size, 1, none⟩ = some (.int .i64 P) ∧ w6.drew.cell? ⟨gN, oN, none⟩ = some (.slice ur k dr)) := ⟨a0, b0, b1, g0, g1, cr6⟩
        go_wp2_with fail
        rw [← hw6]
        clear hw6
        refine wp_region_noPanic ?_
        refine wp_region_held_drew (S := fun W => W.cell? ⟨w.heap.size, 0, none⟩ = some (.slice (some ⟨gN, oN, none⟩) n nc) ∧ W.cell? ⟨w.heap.size + 1 + 1 + 1, 0, none⟩ = some (.slice (some ⟨gN, oN, none⟩) n nc) ∧ W.cell? ⟨w.heap.size + 1 + 1 + 1, 1, none⟩ = some (.slice ta m tc) ∧ W.cell? ⟨w5.heap.size, 0, none⟩ = some (.int .i64 0) ∧ W.cell? ⟨w5.heap.size, 1, none⟩ = some (.int .i64 P) ∧ W.cell? ⟨gN, oN, none⟩ = some (.slice ur k dr)) (by kernel_rfl) (HSW.out) (fun hHeld => ?_)
        refine take_at 0 26 (.agg #[.slice (some ⟨gN, oN, none⟩) n nc, .slice ta m tc]) rfl rfl (by kernel_rfl) (by kernel_rfl) (by kernel_rfl) (fun _ _ _ h => h) hHeld (Or.inl ⟨by rfl, ?_⟩) ?_
        · rintro Z ⟨z0, z1, z2, z3, z4, z5⟩
          go_simp
        simp only [List.setIfInBounds_toArray, List.set_cons_zero, List.set_cons_succ]
        refine take_at 1 27 (.agg #[.int .i64 0, .int .i64 P]) rfl rfl (by kernel_rfl) (by kernel_rfl) (by kernel_rfl) (fun _ _ _ h => h) hHeld (Or.inl ⟨by rfl, ?_⟩) ?_
        · rintro Z ⟨z0, z1, z2, z3, z4, z5⟩
          go_simp
        simp only [List.setIfInBounds_toArray, List.set_cons_zero, List.set_cons_succ]
        refine take_at 2 28 (.pointer (some ⟨w5.heap.size, 0, none⟩)) rfl rfl (by kernel_rfl) (by kernel_rfl) (by kernel_rfl) (fun _ _ _ h => h) hHeld (Or.inl ⟨by rfl, ?_⟩) ?_
        · rintro Z ⟨z0, z1, z2, z3, z4, z5⟩
          go_simp
        simp only [List.setIfInBounds_toArray, List.set_cons_zero, List.set_cons_succ]
        refine take_at 3 29 (.int .i64 0) rfl rfl (by kernel_rfl) (by kernel_rfl) (by kernel_rfl) (fun _ _ _ h => h) hHeld (Or.inl ⟨by rfl, ?_⟩) ?_
        · rintro Z ⟨z0, z1, z2, z3, z4, z5⟩
          go_simp
        simp only [List.setIfInBounds_toArray, List.set_cons_zero, List.set_cons_succ]
        refine take_at 4 30 (.bool false) rfl rfl (by kernel_rfl) (by kernel_rfl) (by kernel_rfl) (fun _ _ _ h => h) hHeld (Or.inl ⟨by rfl, ?_⟩) ?_
        · rintro Z ⟨z0, z1, z2, z3, z4, z5⟩
          go_simp
        simp only [List.setIfInBounds_toArray, List.set_cons_zero, List.set_cons_succ]
        refine take_at 5 31 (.bool false) rfl rfl (by kernel_rfl) (by kernel_rfl) (by kernel_rfl) (fun _ _ _ h => h) hHeld (Or.inl ⟨by rfl, ?_⟩) ?_
        · rintro Z ⟨z0, z1, z2, z3, z4, z5⟩
          go_simp
        simp only [List.setIfInBounds_toArray, List.set_cons_zero, List.set_cons_succ]
        refine take_at 6 32 (.pointer (some ⟨w.heap.size, 0, none⟩)) rfl rfl (by kernel_rfl) (by kernel_rfl) (by kernel_rfl) (fun _ _ _ h => h) hHeld (Or.inl ⟨by rfl, ?_⟩) ?_
        · rintro Z ⟨z0, z1, z2, z3, z4, z5⟩
          go_simp
        simp only [List.setIfInBounds_toArray, List.set_cons_zero, List.set_cons_succ]
        refine take_at 7 33 (.slice (some ⟨gN, oN, none⟩) n nc) rfl rfl (by kernel_rfl) (by kernel_rfl) (by kernel_rfl) (fun _ _ _ h => h) hHeld (Or.inl ⟨by rfl, ?_⟩) ?_
        · rintro Z ⟨z0, z1, z2, z3, z4, z5⟩
          go_simp
        simp only [List.setIfInBounds_toArray, List.set_cons_zero, List.set_cons_succ]
        refine take_at 8 34 (.int .i64 (n : Int)) rfl rfl (by kernel_rfl) (by kernel_rfl) (by kernel_rfl) (fun _ _ _ h => h) hHeld (Or.inl ⟨by rfl, ?_⟩) ?_
        · rintro Z ⟨z0, z1, z2, z3, z4, z5⟩
          go_simp
        simp only [List.setIfInBounds_toArray, List.set_cons_zero, List.set_cons_succ]
        refine take_at 9 35 (.bool false) rfl rfl (by kernel_rfl) (by kernel_rfl) (by kernel_rfl) (fun _ _ _ h => h) hHeld (Or.inl ⟨by rfl, ?_⟩) ?_
        · rintro Z ⟨z0, z1, z2, z3, z4, z5⟩
          go_simp
        simp only [List.setIfInBounds_toArray, List.set_cons_zero, List.set_cons_succ]
        refine take_at 10 36 (.bool false) rfl rfl (by kernel_rfl) (by kernel_rfl) (by kernel_rfl) (fun _ _ _ h => h) hHeld (Or.inl ⟨by rfl, ?_⟩) ?_
        · rintro Z ⟨z0, z1, z2, z3, z4, z5⟩
          go_simp
        simp only [List.setIfInBounds_toArray, List.set_cons_zero, List.set_cons_succ]
        refine skip_at 11 37 10 true rfl rfl rfl rfl (by kernel_rfl) (by kernel_rfl) (by kernel_rfl) (fun _ _ _ h => h) hHeld ?_
        simp only [List.setIfInBounds_toArray, List.set_cons_zero, List.set_cons_succ]
        refine skip_at 12 38 10 true rfl rfl rfl rfl (by kernel_rfl) (by kernel_rfl) (by kernel_rfl) (fun _ _ _ h => h) hHeld ?_
        simp only [List.setIfInBounds_toArray, List.set_cons_zero, List.set_cons_succ]
        refine skip_at 13 39 10 true rfl rfl rfl rfl (by kernel_rfl) (by kernel_rfl) (by kernel_rfl) (fun _ _ _ h => h) hHeld ?_
        simp only [List.setIfInBounds_toArray, List.set_cons_zero, List.set_cons_succ]
        refine skip_at 14 40 10 true rfl rfl rfl rfl (by kernel_rfl) (by kernel_rfl) (by kernel_rfl) (fun _ _ _ h => h) hHeld ?_
        simp only [List.setIfInBounds_toArray, List.set_cons_zero, List.set_cons_succ]
        refine skip_at 15 41 10 true rfl rfl rfl rfl (by kernel_rfl) (by kernel_rfl) (by kernel_rfl) (fun _ _ _ h => h) hHeld ?_
        simp only [List.setIfInBounds_toArray, List.set_cons_zero, List.set_cons_succ]
        refine skip_at 16 42 10 true rfl rfl rfl rfl (by kernel_rfl) (by kernel_rfl) (by kernel_rfl) (fun _ _ _ h => h) hHeld ?_
        simp only [List.setIfInBounds_toArray, List.set_cons_zero, List.set_cons_succ]
        refine take_at 17 43 (.bool false) rfl rfl (by kernel_rfl) (by kernel_rfl) (by kernel_rfl) (fun _ _ _ h => h) hHeld (Or.inl ⟨by rfl, ?_⟩) ?_
        · rintro Z ⟨z0, z1, z2, z3, z4, z5⟩
          go_simp
        simp only [List.setIfInBounds_toArray, List.set_cons_zero, List.set_cons_succ]
        refine take_at 18 44 (.bool false) rfl rfl (by kernel_rfl) (by kernel_rfl) (by kernel_rfl) (fun _ _ _ h => h) hHeld (Or.inl ⟨by rfl, ?_⟩) ?_
        · rintro Z ⟨z0, z1, z2, z3, z4, z5⟩
          go_simp
        simp only [List.setIfInBounds_toArray, List.set_cons_zero, List.set_cons_succ]
        obtain ⟨w7, hw7⟩ : ∃ w7, w7 = w6.drew := ⟨_, rfl⟩
        have c0 : w7.cell? ⟨w.heap.size + 1, 0, none⟩ = some (.slice none 0 0) := by rw [hw7]; exact c0
        have c1 : w7.cell? ⟨w.heap.size + 1, 1, none⟩ = some (.slice none 0 0) := by rw [hw7]; exact c1
        have c2 : w7.frozen? ⟨w.heap.size + 1, 0, none⟩ = false := by rw [hw7]; exact c2
        have c3 : w7.frozen? ⟨w.heap.size + 1, 1, none⟩ = false := by rw [hw7]; exact c3
        have d0 : w7.cell? ⟨w.heap.size + 1 + 1, 0, none⟩ = some (.int .i64 0) := by rw [hw7]; exact d0
        have d1 : w7.cell? ⟨w.heap.size + 1 + 1, 1, none⟩ = some (.int .i64 0) := by rw [hw7]; exact d1
        have d2 : w7.frozen? ⟨w.heap.size + 1 + 1, 0, none⟩ = false := by rw [hw7]; exact d2
        have d3 : w7.frozen? ⟨w.heap.size + 1 + 1, 1, none⟩ = false := by rw [hw7]; exact d3
        have HB7 : Hid (Below wD.heap.size wD w7) := by rw [hw7]; exact below_drew HB6.out
        rw [← hw7] at hHeld ⊢
        clear hw7
        refine wpAnyH_ready (rs := [19]) (by kernel_rfl) (by simp) ?_
        intro i hmem
        obtain rfl := List.mem_singleton.1 hmem
        refine wpOp_k rfl (by rfl) (fun K' hK => ?_)
        go_simp
        have h19 : (fun W => W.cell? ⟨w.heap.size, 0, none⟩ = some (.slice (some ⟨gN, oN, none⟩) n nc) ∧ W.cell? ⟨w.heap.size + 1 + 1 + 1, 0, none⟩ = some (.slice (some ⟨gN, oN, none⟩) n nc) ∧ W.cell? ⟨w.heap.size + 1 + 1 + 1, 1, none⟩ = some (.slice ta m tc) ∧ W.cell? ⟨w5.heap.size, 0, none⟩ = some (.int .i64 0) ∧ W.cell? ⟨w5.heap.size, 1, none⟩ = some (.int .i64 P) ∧ W.cell? ⟨gN, oN, none⟩ = some (.slice ur k dr)) ((w7.setCell ⟨w.heap.size + 1, 0, none⟩ (.slice (some ⟨gN, oN, none⟩) n nc)).setCell ⟨w.heap.size + 1, 1, none⟩ (.slice ta m tc)) := ⟨cell_set_block _ _ _ _ _ _ _ (by omega) (cell_set_block _ _ _ _ _ _ _ (by omega) hHeld.1), cell_set_block _ _ _ _ _ _ _ (by omega) (cell_set_block _ _ _ _ _ _ _ (by omega) hHeld.2.1), cell_set_block _ _ _ _ _ _ _ (by omega) (cell_set_block _ _ _ _ _ _ _ (by omega) hHeld.2.2.1), cell_set_block _ _ _ _ _ _ _ (by omega) (cell_set_block _ _ _ _ _ _ _ (by omega) hHeld.2.2.2.1), cell_set_block _ _ _ _ _ _ _ (by omega) (cell_set_block _ _ _ _ _ _ _ (by omega) hHeld.2.2.2.2.1), cell_set_block _ _ _ _ _ _ _ (by omega) (cell_set_block _ _ _ _ _ _ _ (by omega) hHeld.2.2.2.2.2)⟩
        refine hK _ _ ⟨h19, ?_⟩
        clear hK K'
        refine wpAnyH_ready (rs := [20]) (by kernel_rfl) (by simp) ?_
        intro i hmem
        obtain rfl := List.mem_singleton.1 hmem
        refine wpOp_k rfl (by rfl) (fun K' hK => ?_)
        go_simp
        have h20 : (fun W => W.cell? ⟨w.heap.size, 0, none⟩ = some (.slice (some ⟨gN, oN, none⟩) n nc) ∧ W.cell? ⟨w.heap.size + 1 + 1 + 1, 0, none⟩ = some (.slice (some ⟨gN, oN, none⟩) n nc) ∧ W.cell? ⟨w.heap.size + 1 + 1 + 1, 1, none⟩ = some (.slice ta m tc) ∧ W.cell? ⟨w5.heap.size, 0, none⟩ = some (.int .i64 0) ∧ W.cell? ⟨w5.heap.size, 1, none⟩ = some (.int .i64 P) ∧ W.cell? ⟨gN, oN, none⟩ = some (.slice ur k dr)) ((((w7.setCell ⟨w.heap.size + 1, 0, none⟩ (.slice (some ⟨gN, oN, none⟩) n nc)).setCell ⟨w.heap.size + 1, 1, none⟩ (.slice ta m tc)).setCell ⟨w.heap.size + 1 + 1, 0, none⟩ (.int .i64 0)).setCell ⟨w.heap.size + 1 + 1, 1, none⟩ (.int .i64 P)) := ⟨cell_set_block _ _ _ _ _ _ _ (by omega) (cell_set_block _ _ _ _ _ _ _ (by omega) h19.1), cell_set_block _ _ _ _ _ _ _ (by omega) (cell_set_block _ _ _ _ _ _ _ (by omega) h19.2.1), cell_set_block _ _ _ _ _ _ _ (by omega) (cell_set_block _ _ _ _ _ _ _ (by omega) h19.2.2.1), cell_set_block _ _ _ _ _ _ _ (by omega) (cell_set_block _ _ _ _ _ _ _ (by omega) h19.2.2.2.1), cell_set_block _ _ _ _ _ _ _ (by omega) (cell_set_block _ _ _ _ _ _ _ (by omega) h19.2.2.2.2.1), cell_set_block _ _ _ _ _ _ _ (by omega) (cell_set_block _ _ _ _ _ _ _ (by omega) h19.2.2.2.2.2)⟩
        refine hK _ _ ⟨h20, ?_⟩
        clear hK K'
        refine take_at 21 4 (.bool false) rfl rfl (by kernel_rfl) (by kernel_rfl) (by kernel_rfl) (fun _ _ _ h => h) h20 (Or.inl ⟨by rfl, ?_⟩) ?_
        · rintro Z ⟨z0, z1, z2, z3, z4, z5⟩
          go_simp
        simp only [List.setIfInBounds_toArray, List.set_cons_zero, List.set_cons_succ]
        obtain ⟨wE, hwE⟩ : ∃ wE, wE = ((((w7.setCell ⟨w.heap.size + 1, 0, none⟩ (.slice (some ⟨gN, oN, none⟩) n nc)).setCell ⟨w.heap.size + 1, 1, none⟩ (.slice ta m tc)).setCell ⟨w.heap.size + 1 + 1, 0, none⟩ (.int .i64 0)).setCell ⟨w.heap.size + 1 + 1, 1, none⟩ (.int .i64 P)) := ⟨_, rfl⟩
        obtain ⟨k0, k1, k2, k3⟩ := set4' w7 (w.heap.size + 1) (w.heap.size + 1 + 1) (by omega) (.slice (some ⟨gN, oN, none⟩) n nc) (.slice ta m tc) (.int .i64 0) (.int .i64 P) _ _ _ _ c0 c1 d0 d1
        have HFE := hide (HF1.out w7 HB7.out (.slice (some ⟨gN, oN, none⟩) n nc) (.slice ta m tc) (.int .i64 0) (.int .i64 P))
        rw [← hwE] at k0 k1 k2 k3 HFE ⊢
        clear hwE h19 h20 hHeld
        refine wpAnyH_done (by kernel_rfl) ?_ _
        refine NoPanic.normal ?_
        go_wp2_with fail
        refine bodyPost_ret_by (v := .tuple #[.agg #[.slice (some ⟨gN, oN, none⟩) n nc, .slice ta m tc], .agg #[.int .i64 0, .int .i64 P], .bool false]) ?_ rfl ?_
        · simp [results, Tryd.results5, go_sem, k0, k1, k2, k3]
        · exact HFE.out
    · have HF1 := hide (HFIN.out true (fun _ h => absurd (by rw [HE.out, h]; rfl) hE0))
      have hEb : (E != 0) = true := by simpa using hE0
      have hEc : (E == 0) = false := by simpa using hE0
      have HSW : Hid (w6.drew.cell? ⟨w.heap.size, 0, none⟩ = some (.slice na n nc) ∧ w6.drew.cell? ⟨w.heap.size + 1 + 1 + 1, 0, none⟩ = some (.slice na n nc) ∧ w6.drew.cell? ⟨w.heap.size + 1 + 1 + 1, 1, none⟩ = some (.slice ta m tc) ∧ w6.drew.cell? ⟨w5.heap.size, 0, none⟩ = some (.int .i64 E) ∧ w6.drew.cell? ⟨w5.heap.size, 1, none⟩ = some (.int .i64 P)) := ⟨a0, b0, b1, g0, g1⟩
      clear HFIN
      go_wp2_with fail
      rw [← hw6]
      clear hw6
      refine wp_region_noPanic ?_
      refine wp_region_held_drew (S := fun W => W.cell? ⟨w.heap.size, 0, none⟩ = some (.slice na n nc) ∧ W.cell? ⟨w.heap.size + 1 + 1 + 1, 0, none⟩ = some (.slice na n nc) ∧ W.cell? ⟨w.heap.size + 1 + 1 + 1, 1, none⟩ = some (.slice ta m tc) ∧ W.cell? ⟨w5.heap.size, 0, none⟩ = some (.int .i64 E) ∧ W.cell? ⟨w5.heap.size, 1, none⟩ = some (.int .i64 P)) (by kernel_rfl) (HSW.out) (fun hHeld => ?_)
      refine take_at 0 26 (.agg #[.slice na n nc, .slice ta m tc]) rfl rfl (by kernel_rfl) (by kernel_rfl) (by kernel_rfl) (fun _ _ _ h => h) hHeld (Or.inl ⟨by rfl, ?_⟩) ?_
      · rintro Z ⟨z0, z1, z2, z3, z4⟩
        go_simp
      simp only [List.setIfInBounds_toArray, List.set_cons_zero, List.set_cons_succ]
      refine take_at 1 27 (.agg #[.int .i64 E, .int .i64 P]) rfl rfl (by kernel_rfl) (by kernel_rfl) (by kernel_rfl) (fun _ _ _ h => h) hHeld (Or.inl ⟨by rfl, ?_⟩) ?_
      · rintro Z ⟨z0, z1, z2, z3, z4⟩
        go_simp
      simp only [List.setIfInBounds_toArray, List.set_cons_zero, List.set_cons_succ]
      refine take_at 2 28 (.pointer (some ⟨w5.heap.size, 0, none⟩)) rfl rfl (by kernel_rfl) (by kernel_rfl) (by kernel_rfl) (fun _ _ _ h => h) hHeld (Or.inl ⟨by rfl, ?_⟩) ?_
      · rintro Z ⟨z0, z1, z2, z3, z4⟩
        go_simp
      simp only [List.setIfInBounds_toArray, List.set_cons_zero, List.set_cons_succ]
      refine take_at 3 29 (.int .i64 E) rfl rfl (by kernel_rfl) (by kernel_rfl) (by kernel_rfl) (fun _ _ _ h => h) hHeld (Or.inl ⟨by rfl, ?_⟩) ?_
      · rintro Z ⟨z0, z1, z2, z3, z4⟩
        go_simp
      simp only [List.setIfInBounds_toArray, List.set_cons_zero, List.set_cons_succ]
      refine take_at 4 30 (.bool true) rfl rfl (by kernel_rfl) (by kernel_rfl) (by kernel_rfl) (fun _ _ _ h => h) hHeld (Or.inl ⟨by rfl, ?_⟩) ?_
      · rintro Z ⟨z0, z1, z2, z3, z4⟩
        go_simp
      simp only [List.setIfInBounds_toArray, List.set_cons_zero, List.set_cons_succ]
      refine take_at 5 31 (.bool true) rfl rfl (by kernel_rfl) (by kernel_rfl) (by kernel_rfl) (fun _ _ _ h => h) hHeld (Or.inl ⟨by rfl, ?_⟩) ?_
      · rintro Z ⟨z0, z1, z2, z3, z4⟩
        go_simp
      simp only [List.setIfInBounds_toArray, List.set_cons_zero, List.set_cons_succ]
      refine skip_at 6 32 5 false rfl rfl rfl rfl (by kernel_rfl) (by kernel_rfl) (by kernel_rfl) (fun _ _ _ h => h) hHeld ?_
      simp only [List.setIfInBounds_toArray, List.set_cons_zero, List.set_cons_succ]
      refine skip_at 7 33 5 false rfl rfl rfl rfl (by kernel_rfl) (by kernel_rfl) (by kernel_rfl) (fun _ _ _ h => h) hHeld ?_
      simp only [List.setIfInBounds_toArray, List.set_cons_zero, List.set_cons_succ]
      refine skip_at 8 34 5 false rfl rfl rfl rfl (by kernel_rfl) (by kernel_rfl) (by kernel_rfl) (fun _ _ _ h => h) hHeld ?_
      simp only [List.setIfInBounds_toArray, List.set_cons_zero, List.set_cons_succ]
      refine skip_at 9 35 5 false rfl rfl rfl rfl (by kernel_rfl) (by kernel_rfl) (by kernel_rfl) (fun _ _ _ h => h) hHeld ?_
      simp only [List.setIfInBounds_toArray, List.set_cons_zero, List.set_cons_succ]
      refine skip_at 10 36 5 false rfl rfl rfl rfl (by kernel_rfl) (by kernel_rfl) (by kernel_rfl) (fun _ _ _ h => h) hHeld ?_
      simp only [List.setIfInBounds_toArray, List.set_cons_zero, List.set_cons_succ]
      refine skipU_at 11 37 10 true rfl rfl rfl rfl (by kernel_rfl) (by kernel_rfl) (by kernel_rfl) (fun _ _ _ h => h) hHeld ?_
      simp only [List.setIfInBounds_toArray, List.set_cons_zero, List.set_cons_succ]
      refine skipU_at 12 38 10 true rfl rfl rfl rfl (by kernel_rfl) (by kernel_rfl) (by kernel_rfl) (fun _ _ _ h => h) hHeld ?_
      simp only [List.setIfInBounds_toArray, List.set_cons_zero, List.set_cons_succ]
      refine skipU_at 13 39 10 true rfl rfl rfl rfl (by kernel_rfl) (by kernel_rfl) (by kernel_rfl) (fun _ _ _ h => h) hHeld ?_
      simp only [List.setIfInBounds_toArray, List.set_cons_zero, List.set_cons_succ]
      refine skipU_at 14 40 10 true rfl rfl rfl rfl (by kernel_rfl) (by kernel_rfl) (by kernel_rfl) (fun _ _ _ h => h) hHeld ?_
      simp only [List.setIfInBounds_toArray, List.set_cons_zero, List.set_cons_succ]
      refine skipU_at 15 41 10 true rfl rfl rfl rfl (by kernel_rfl) (by kernel_rfl) (by kernel_rfl) (fun _ _ _ h => h) hHeld ?_
      simp only [List.setIfInBounds_toArray, List.set_cons_zero, List.set_cons_succ]
      refine skipU_at 16 42 10 true rfl rfl rfl rfl (by kernel_rfl) (by kernel_rfl) (by kernel_rfl) (fun _ _ _ h => h) hHeld ?_
      simp only [List.setIfInBounds_toArray, List.set_cons_zero, List.set_cons_succ]
      refine skip_at 17 43 5 false rfl rfl rfl rfl (by kernel_rfl) (by kernel_rfl) (by kernel_rfl) (fun _ _ _ h => h) hHeld ?_
      simp only [List.setIfInBounds_toArray, List.set_cons_zero, List.set_cons_succ]
      refine take_at 18 44 (.bool true) rfl rfl (by kernel_rfl) (by kernel_rfl) (by kernel_rfl) (fun _ _ _ h => h) hHeld (Or.inl ⟨by rfl, ?_⟩) ?_
      · rintro Z ⟨z0, z1, z2, z3, z4⟩
        go_simp
      simp only [List.setIfInBounds_toArray, List.set_cons_zero, List.set_cons_succ]
      obtain ⟨w7, hw7⟩ : ∃ w7, w7 = w6.drew := ⟨_, rfl⟩
      have c0 : w7.cell? ⟨w.heap.size + 1, 0, none⟩ = some (.slice none 0 0) := by rw [hw7]; exact c0
      have c1 : w7.cell? ⟨w.heap.size + 1, 1, none⟩ = some (.slice none 0 0) := by rw [hw7]; exact c1
      have c2 : w7.frozen? ⟨w.heap.size + 1, 0, none⟩ = false := by rw [hw7]; exact c2
      have c3 : w7.frozen? ⟨w.heap.size + 1, 1, none⟩ = false := by rw [hw7]; exact c3
      have d0 : w7.cell? ⟨w.heap.size + 1 + 1, 0, none⟩ = some (.int .i64 0) := by rw [hw7]; exact d0
      have d1 : w7.cell? ⟨w.heap.size + 1 + 1, 1, none⟩ = some (.int .i64 0) := by rw [hw7]; exact d1
      have d2 : w7.frozen? ⟨w.heap.size + 1 + 1, 0, none⟩ = false := by rw [hw7]; exact d2
      have d3 : w7.frozen? ⟨w.heap.size + 1 + 1, 1, none⟩ = false := by rw [hw7]; exact d3
      have HB7 : Hid (Below wD.heap.size wD w7) := by rw [hw7]; exact below_drew HB6.out
      rw [← hw7] at hHeld ⊢
      clear hw7
      refine wpAnyH_ready (rs := [19]) (by kernel_rfl) (by simp) ?_
      intro i hmem
      obtain rfl := List.mem_singleton.1 hmem
      refine wpOp_k rfl (by rfl) (fun K' hK => ?_)
      go_simp
      have h19 : (fun W => W.cell? ⟨w.heap.size, 0, none⟩ = some (.slice na n nc) ∧ W.cell? ⟨w.heap.size + 1 + 1 + 1, 0, none⟩ = some (.slice na n nc) ∧ W.cell? ⟨w.heap.size + 1 + 1 + 1, 1, none⟩ = some (.slice ta m tc) ∧ W.cell? ⟨w5.heap.size, 0, none⟩ = some (.int .i64 E) ∧ W.cell? ⟨w5.heap.size, 1, none⟩ = some (.int .i64 P)) ((w7.setCell ⟨w.heap.size + 1, 0, none⟩ (.slice na n nc)).setCell ⟨w.heap.size + 1, 1, none⟩ (.slice ta m tc)) := ⟨cell_set_block _ _ _ _ _ _ _ (by omega) (cell_set_block _ _ _ _ _ _ _ (by omega) hHeld.1), cell_set_block _ _ _ _ _ _ _ (by omega) (cell_set_block _ _ _ _ _ _ _ (by omega) hHeld.2.1), cell_set_block _ _ _ _ _ _ _ (by omega) (cell_set_block _ _ _ _ _ _ _ (by omega) hHeld.2.2.1), cell_set_block _ _ _ _ _ _ _ (by omega) (cell_set_block _ _ _ _ _ _ _ (by omega) hHeld.2.2.2.1), cell_set_block _ _ _ _ _ _ _ (by omega) (cell_set_block _ _ _ _ _ _ _ (by omega) hHeld.2.2.2.2)⟩
      refine hK _ _ ⟨h19, ?_⟩
      clear hK K'
      refine wpAnyH_ready (rs := [20]) (by kernel_rfl) (by simp) ?_
      intro i hmem
      obtain rfl := List.mem_singleton.1 hmem
      refine wpOp_k rfl (by rfl) (fun K' hK => ?_)
      go_simp
      have h20 : (fun W => W.cell? ⟨w.heap.size, 0, none⟩ = some (.slice na n nc) ∧ W.cell? ⟨w.heap.size + 1 + 1 + 1, 0, none⟩ = some (.slice na n nc) ∧ W.cell? ⟨w.heap.size + 1 + 1 + 1, 1, none⟩ = some (.slice ta m tc) ∧ W.cell? ⟨w5.heap.size, 0, none⟩ = some (.int .i64 E) ∧ W.cell? ⟨w5.heap.size, 1, none⟩ = some (.int .i64 P)) ((((w7.setCell ⟨w.heap.size + 1, 0, none⟩ (.slice na n nc)).setCell ⟨w.heap.size + 1, 1, none⟩ (.slice ta m tc)).setCell ⟨w.heap.size + 1 + 1, 0, none⟩ (.int .i64 E)).setCell ⟨w.heap.size + 1 + 1, 1, none⟩ (.int .i64 P)) := ⟨cell_set_block _ _ _ _ _ _ _ (by omega) (cell_set_block _ _ _ _ _ _ _ (by omega) h19.1), cell_set_block _ _ _ _ _ _ _ (by omega) (cell_set_block _ _ _ _ _ _ _ (by omega) h19.2.1), cell_set_block _ _ _ _ _ _ _ (by omega) (cell_set_block _ _ _ _ _ _ _ (by omega) h19.2.2.1), cell_set_block _ _ _ _ _ _ _ (by omega) (cell_set_block _ _ _ _ _ _ _ (by omega) h19.2.2.2.1), cell_set_block _ _ _ _ _ _ _ (by omega) (cell_set_block _ _ _ _ _ _ _ (by omega) h19.2.2.2.2)⟩
      refine hK _ _ ⟨h20, ?_⟩
      clear hK K'
      refine take_at 21 4 (.bool true) rfl rfl (by kernel_rfl) (by kernel_rfl) (by kernel_rfl) (fun _ _ _ h => h) h20 (Or.inl ⟨by rfl, ?_⟩) ?_
      · rintro Z ⟨z0, z1, z2, z3, z4⟩
        go_simp
      simp only [List.setIfInBounds_toArray, List.set_cons_zero, List.set_cons_succ]
      obtain ⟨wE, hwE⟩ : ∃ wE, wE = (((w7.setCell ⟨w.heap.size + 1, 0, none⟩ (.slice na n nc)).setCell ⟨w.heap.size + 1, 1, none⟩ (.slice ta m tc)).setCell ⟨w.heap.size + 1 + 1, 0, none⟩ (.int .i64 E)).setCell ⟨w.heap.size + 1 + 1, 1, none⟩ (.int .i64 P) := ⟨_, rfl⟩
      obtain ⟨k0, k1, k2, k3⟩ := set4' w7 (w.heap.size + 1) (w.heap.size + 1 + 1) (by omega) (.slice na n nc) (.slice ta m tc) (.int .i64 E) (.int .i64 P) _ _ _ _ c0 c1 d0 d1
      have HFE := hide (HF1.out w7 HB7.out (.slice na n nc) (.slice ta m tc) (.int .i64 E) (.int .i64 P))
      rw [← hwE] at k0 k1 k2 k3 HFE ⊢
      clear hwE h19 h20 hHeld
      refine wpAnyH_done (by kernel_rfl) ?_ _
      refine NoPanic.normal ?_
      go_wp2_with fail
      refine bodyPost_ret_by (v := .tuple #[.agg #[.slice na n nc, .slice ta m tc], .agg #[.int .i64 E, .int .i64 P], .bool true]) ?_ rfl ?_
      · simp [results, Tryd.results5, go_sem, k0, k1, k2, k3]
      · exact HFE.out
  · have HFIN : Hid (∀ a_ b_ c_ d_, TabsDone w N T (.slice na n nc) (.slice ta m tc) (.returned (.tuple #[.agg #[.slice na n nc, .slice ta m tc], .agg #[.int .i64 0, .int .i64 (-1)], .bool false])) ((((wD.setCell ⟨w.heap.size + 1, 0, none⟩ a_).setCell ⟨w.heap.size + 1, 1, none⟩ b_).setCell ⟨w.heap.size + 1 + 1, 0, none⟩ c_).setCell ⟨w.heap.size + 1 + 1, 1, none⟩ d_).drew) := fun a_ b_ c_ d_ =>
      ⟨below_drew (HFW.out wD a_ b_ c_ d_ (Below.refl _ _)), 0, -1, false, rfl, fun h => by cases h⟩
    by_cases h2 : 510 < n
    · have h2i : (510 : Int) < (n : Int) := by omega
      go_enter Tryd.func5, Tryd.ntmps5
      go_wp2_with fail
      rw [← hwA, ← hwB, ← hwC, ← hwD]
      clear hwA hwB hwC hwD
      go_region
      obtain ⟨wE, hwE⟩ : ∃ wE, wE = ((((wD.setCell ⟨w.heap.size + 1, 0, none⟩ (.slice na n nc)).setCell ⟨w.heap.size + 1, 1, none⟩ (.slice ta m tc)).setCell ⟨w.heap.size + 1 + 1, 0, none⟩ (.int .i64 0)).setCell ⟨w.heap.size + 1 + 1, 1, none⟩ (.int .i64 (-1))).drew := ⟨_, rfl⟩
      obtain ⟨k0, k1, k2, k3⟩ := set4 wD (w.heap.size + 1) (w.heap.size + 1 + 1) (by omega) (.slice na n nc) (.slice ta m tc) (.int .i64 0) (.int .i64 (-1)) _ _ _ _ c0 c1 d0 d1
      have HFE := hide (HFIN.out (.slice na n nc) (.slice ta m tc) (.int .i64 0) (.int .i64 (-1)))
      rw [← hwE] at k0 k1 k2 k3 HFE ⊢
      clear hwE
      go_wp2_with fail
      refine bodyPost_ret_by (v := .tuple #[.agg #[.slice na n nc, .slice ta m tc], .agg #[.int .i64 0, .int .i64 (-1)], .bool false]) ?_ rfl ?_
      · simp [results, Tryd.results5, go_sem, k0, k1, k2, k3]
      · exact HFE.out
    · have h2i : ¬ (510 : Int) < (n : Int) := by omega
      have h3i : (510 : Int) < (m : Int) := by omega
      go_enter Tryd.func5, Tryd.ntmps5
      go_wp2_with fail
      rw [← hwA, ← hwB, ← hwC, ← hwD]
      clear hwA hwB hwC hwD
      go_region
      obtain ⟨wE, hwE⟩ : ∃ wE, wE = ((((wD.setCell ⟨w.heap.size + 1, 0, none⟩ (.slice na n nc)).setCell ⟨w.heap.size + 1, 1, none⟩ (.slice ta m tc)).setCell ⟨w.heap.size + 1 + 1, 0, none⟩ (.int .i64 0)).setCell ⟨w.heap.size + 1 + 1, 1, none⟩ (.int .i64 (-1))).drew := ⟨_, rfl⟩
      obtain ⟨k0, k1, k2, k3⟩ := set4 wD (w.heap.size + 1) (w.heap.size + 1 + 1) (by omega) (.slice na n nc) (.slice ta m tc) (.int .i64 0) (.int .i64 (-1)) _ _ _ _ c0 c1 d0 d1
      have HFE := hide (HFIN.out (.slice na n nc) (.slice ta m tc) (.int .i64 0) (.int .i64 (-1)))
      rw [← hwE] at k0 k1 k2 k3 HFE ⊢
      clear hwE
      go_wp2_with fail
      refine bodyPost_ret_by (v := .tuple #[.agg #[.slice na n nc, .slice ta m tc], .agg #[.int .i64 0, .int .i64 (-1)], .bool false]) ?_ rfl ?_
      · simp [results, Tryd.results5, go_sem, k0, k1, k2, k3]
      · exact HFE.out
end Bk
end Go.Proofs.YtdeijfkahhgojaaDoor
