/-
  The map of numbers that the statement LassoRights makes: how many parts each kind has.
-/
import Derived.Test.YtmdblokmplbpmaaDoorLsBare
import Derived.Maps.OwnSet
import Derived.Maps.OwnOps
import Derived.Maps.Views
namespace Go.Proofs.YtmdblokmplbpmaaDoor
namespace Ls
open Go.RowKit Go.Maps
theorem lawI : Keyed Tryd.prog 3 := int_keyed Tryd.underlying3
theorem zeroI (w : World) : (zeroValue 3).run Tryd.prog w = .ok (.int .i64 0) w := by kernel_rfl
/-- at each number what g tells -/
def WM (W : World) (b n : Nat) (D : DataW Unit) (g : Int → Option Int) : Prop := W.ownsMap Tryd.prog 3 (plainElem Tryd.prog 3) b n D ∧ ∀ (i : Int) zd, D.atKey (.int .i64 i) zd = match g i with | some v => .lit (.int .i64 v) | none => zd
theorem wf64 {i : Int} (h : I64 i) : (Lit.int .i64 i).wf = true := WalkArith.wf_i64 h
theorem key_i {i : Int} (h : I64 i) : keyOf Tryd.prog 3 (.int .i64 i) = some (.int .i64 i) := keyOf_int_mk Tryd.underlying3 (wf64 h)
theorem WM.made (W : World) : WM (W.alloc (.map #[] 0)) W.heap.size 0 (.map []) (fun _ => none) := ⟨World.ownsMap_made _ _ _ _, fun _ _ => rfl⟩
theorem turned_below {w W W' : World} (h : Below w.heap.size w W) (ht : W.mapTurned W' w.heap.size) : Below w.heap.size w W' := by
  obtain ⟨es, clock, es', clock', hb, rfl⟩ := ht
  refine ⟨h.os, h.tape, h.output, by simp [Go.ChangeMaps.setBlock]; exact h.size, fun k hk => ?_⟩
  rw [← h.block k hk]
  have : w.heap.size ≠ k := by omega
  simp [Go.ChangeMaps.setBlock, this]
theorem WM.put {W : World} {b n : Nat} {D : DataW Unit} {g : Int → Option Int} (h : WM W b n D g) (hn : n ≤ 1000) (k v : Int) (hk : I64 k) (hv : I64 v) :
    ∃ W', (Instr.mapUpdate 81 (.map (some b)) (.int .i64 k) (.int .i64 v)).run Tryd.prog W = .ok () W' ∧ WM W' b (n + 1) (D.put (.int .i64 k) (.lit (.int .i64 v))) (fun j => if j = k then some v else g j) ∧ W.mapTurned W' b := by
  obtain ⟨W', h1, h2, h3⟩ := h.1.store lawI Tryd.underlying81 (by unfold maxLen; omega) (key_i hk) (plainElem_int Tryd.underlying3 (wf64 hv))
  refine ⟨W', h1, ⟨h2, fun i zd => ?_⟩, h3⟩
  by_cases e : i = k
  · subst e
    rw [atKey_put_same h.1.isMap (by trivial)]
    simp
  · rw [atKey_put_other (by simp only [ne_eq, Lit.int.injEq, true_and]; exact e), h.2 i zd]
    simp [e]
theorem WM.look {W : World} {b n : Nat} {D : DataW Unit} {g : Int → Option Int} (h : WM W b n D g) (i : Int) (hi : I64 i) : (Instr.lookup 81 (.map (some b)) (.int .i64 i) true).run Tryd.prog W = .ok (.tuple #[.int .i64 ((g i).getD 0), .bool (g i).isSome]) W := by
  obtain ⟨v, ps, hrun, hv⟩ := h.1.look_ok lawI Tryd.underlying81 (zeroI W) (plainElem_int Tryd.underlying3 (wf64 (by unfold I64; omega))) (key_i hi)
  obtain ⟨x, rfl, hx, _⟩ := plainElem_int_inv Tryd.underlying3 hv
  have hz := h.2 i
  cases hg : g i with
  | none =>
    rw [hg] at hz
    rw [has_false_of_atKey hz] at hrun
    rw [hz] at hx
    simp only [Prod.mk.injEq, DataW.lit.injEq, Lit.int.injEq, true_and] at hx
    rw [← hx.1] at hrun
    exact hrun
  | some y =>
    rw [hg] at hz
    rw [has_true_of_atKey hz] at hrun
    rw [hz] at hx
    simp only [Prod.mk.injEq, DataW.lit.injEq, Lit.int.injEq, true_and] at hx
    rw [← hx.1] at hrun
    exact hrun
/-- how many parts a kind has, if it is one -/
def wantN (k : Int) : Option Int := if 1 ≤ k ∧ k ≤ 10 then some (partsOf k : Int) else none
theorem want_made (w : World) : ∃ W1 W2 W3 W4 W5 W6 W7 W8 W9 W10 : World,
    (Instr.mapUpdate 81 (.map (some w.heap.size)) (.int .i64 1) (.int .i64 0)).run Tryd.prog (w.alloc (.map #[] 0)) = .ok () W1 ∧
    (Instr.mapUpdate 81 (.map (some w.heap.size)) (.int .i64 2) (.int .i64 0)).run Tryd.prog W1 = .ok () W2 ∧
    (Instr.mapUpdate 81 (.map (some w.heap.size)) (.int .i64 3) (.int .i64 1)).run Tryd.prog W2 = .ok () W3 ∧
    (Instr.mapUpdate 81 (.map (some w.heap.size)) (.int .i64 4) (.int .i64 2)).run Tryd.prog W3 = .ok () W4 ∧
    (Instr.mapUpdate 81 (.map (some w.heap.size)) (.int .i64 5) (.int .i64 2)).run Tryd.prog W4 = .ok () W5 ∧
    (Instr.mapUpdate 81 (.map (some w.heap.size)) (.int .i64 6) (.int .i64 1)).run Tryd.prog W5 = .ok () W6 ∧
    (Instr.mapUpdate 81 (.map (some w.heap.size)) (.int .i64 7) (.int .i64 2)).run Tryd.prog W6 = .ok () W7 ∧
    (Instr.mapUpdate 81 (.map (some w.heap.size)) (.int .i64 8) (.int .i64 2)).run Tryd.prog W7 = .ok () W8 ∧
    (Instr.mapUpdate 81 (.map (some w.heap.size)) (.int .i64 9) (.int .i64 1)).run Tryd.prog W8 = .ok () W9 ∧
    (Instr.mapUpdate 81 (.map (some w.heap.size)) (.int .i64 10) (.int .i64 1)).run Tryd.prog W9 = .ok () W10 ∧
    Below w.heap.size w W10 ∧ ∀ k, I64 k → (Instr.lookup 81 (.map (some w.heap.size)) (.int .i64 k) true).run Tryd.prog W10 = .ok (.tuple #[.int .i64 ((wantN k).getD 0), .bool (wantN k).isSome]) W10 := by
  have h0 := WM.made w
  have b0 : Below w.heap.size w (w.alloc (.map #[] 0)) := (Below.refl _ _).alloc (Nat.le_refl _) _
  obtain ⟨W1, r1, h1, t1⟩ := h0.put (by omega) 1 0 (by unfold I64; omega) (by unfold I64; omega)
  obtain ⟨W2, r2, h2, t2⟩ := h1.put (by omega) 2 0 (by unfold I64; omega) (by unfold I64; omega)
  obtain ⟨W3, r3, h3, t3⟩ := h2.put (by omega) 3 1 (by unfold I64; omega) (by unfold I64; omega)
  obtain ⟨W4, r4, h4, t4⟩ := h3.put (by omega) 4 2 (by unfold I64; omega) (by unfold I64; omega)
  obtain ⟨W5, r5, h5, t5⟩ := h4.put (by omega) 5 2 (by unfold I64; omega) (by unfold I64; omega)
  obtain ⟨W6, r6, h6, t6⟩ := h5.put (by omega) 6 1 (by unfold I64; omega) (by unfold I64; omega)
  obtain ⟨W7, r7, h7, t7⟩ := h6.put (by omega) 7 2 (by unfold I64; omega) (by unfold I64; omega)
  obtain ⟨W8, r8, h8, t8⟩ := h7.put (by omega) 8 2 (by unfold I64; omega) (by unfold I64; omega)
  obtain ⟨W9, r9, h9, t9⟩ := h8.put (by omega) 9 1 (by unfold I64; omega) (by unfold I64; omega)
  obtain ⟨W10, r10, h10, t10⟩ := h9.put (by omega) 10 1 (by unfold I64; omega) (by unfold I64; omega)
  refine ⟨W1, W2, W3, W4, W5, W6, W7, W8, W9, W10, r1, r2, r3, r4, r5, r6, r7, r8, r9, r10, turned_below (turned_below (turned_below (turned_below (turned_below (turned_below (turned_below (turned_below (turned_below (turned_below b0 t1) t2) t3) t4) t5) t6) t7) t8) t9) t10, fun k hk => ?_⟩
  rw [h10.look k hk]
  have e : (if k = 10 then some 1 else if k = 9 then some 1 else if k = 8 then some 2 else if k = 7 then some 2 else if k = 6 then some 1 else if k = 5 then some 2 else if k = 4 then some 2 else if k = 3 then some 1 else if k = 2 then some 0 else if k = 1 then some 0 else none) = wantN k := by
    unfold wantN
    by_cases hr : 1 ≤ k ∧ k ≤ 10
    · rw [if_pos hr]
      have : k = 1 ∨ k = 2 ∨ k = 3 ∨ k = 4 ∨ k = 5 ∨ k = 6 ∨ k = 7 ∨ k = 8 ∨ k = 9 ∨ k = 10 := by omega
      rcases this with rfl | rfl | rfl | rfl | rfl | rfl | rfl | rfl | rfl | rfl <;> decide
    · rw [if_neg hr]
      repeat rw [if_neg (by omega)]
  rw [e]
end Ls
end Go.Proofs.YtmdblokmplbpmaaDoor
