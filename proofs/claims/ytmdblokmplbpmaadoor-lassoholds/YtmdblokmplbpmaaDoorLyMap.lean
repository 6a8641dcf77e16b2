/-
  The maps of numbers, and of signs, that the document's Push and Text make.
-/
import Derived.Test.YtmdblokmplbpmaaDoorLsWant
import Derived.Test.YtmdblokmplbpmaaDoorLyMath
import Derived.Maps.StringElems
namespace Go.Proofs.YtmdblokmplbpmaaDoor
namespace Ls
open Go.RowKit Go.Maps
theorem WM.lookN {W : World} {b n : Nat} {D : DataW Unit} {g : Int → Option Int} (h : WM W b n D g) (i : Int) (hi : I64 i) : (Instr.lookup 81 (.map (some b)) (.int .i64 i) false).run Tryd.prog W = .ok (.int .i64 ((g i).getD 0)) W := by
  obtain ⟨v, ps, hrun, hv⟩ := h.1.lookup lawI Tryd.underlying81 (zeroI W) (plainElem_int Tryd.underlying3 (wf64 (by unfold I64; omega))) (key_i hi)
  obtain ⟨x, rfl, hx, _⟩ := plainElem_int_inv Tryd.underlying3 hv
  have hz := h.2 i
  cases hg : g i with
  | none =>
    rw [hg] at hz
    rw [hz] at hx
    simp only [Prod.mk.injEq, DataW.lit.injEq, Lit.int.injEq, true_and] at hx
    rw [← hx.1] at hrun
    exact hrun
  | some y =>
    rw [hg] at hz
    rw [hz] at hx
    simp only [Prod.mk.injEq, DataW.lit.injEq, Lit.int.injEq, true_and] at hx
    rw [← hx.1] at hrun
    exact hrun
/-- the other sides, as the document's Push makes them -/
theorem other_made (w : World) : ∃ W1 W2 W3 W4 W5 : World,
    (Instr.mapUpdate 81 (.map (some w.heap.size)) (.int .i64 4) (.int .i64 5)).run Tryd.prog (w.alloc (.map #[] 0)) = .ok () W1 ∧
    (Instr.mapUpdate 81 (.map (some w.heap.size)) (.int .i64 5) (.int .i64 4)).run Tryd.prog W1 = .ok () W2 ∧
    (Instr.mapUpdate 81 (.map (some w.heap.size)) (.int .i64 6) (.int .i64 6)).run Tryd.prog W2 = .ok () W3 ∧
    (Instr.mapUpdate 81 (.map (some w.heap.size)) (.int .i64 7) (.int .i64 8)).run Tryd.prog W3 = .ok () W4 ∧
    (Instr.mapUpdate 81 (.map (some w.heap.size)) (.int .i64 8) (.int .i64 7)).run Tryd.prog W4 = .ok () W5 ∧
    Below w.heap.size w W5 ∧ ∀ k, (k = 4 ∨ k = 5 ∨ k = 6 ∨ k = 7 ∨ k = 8) → (Instr.lookup 81 (.map (some w.heap.size)) (.int .i64 k) false).run Tryd.prog W5 = .ok (.int .i64 (other k)) W5 := by
  have h0 := WM.made w
  have b0 : Below w.heap.size w (w.alloc (.map #[] 0)) := (Below.refl _ _).alloc (Nat.le_refl _) _
  obtain ⟨W1, r1, h1, t1⟩ := h0.put (by omega) 4 5 (by unfold I64; omega) (by unfold I64; omega)
  obtain ⟨W2, r2, h2, t2⟩ := h1.put (by omega) 5 4 (by unfold I64; omega) (by unfold I64; omega)
  obtain ⟨W3, r3, h3, t3⟩ := h2.put (by omega) 6 6 (by unfold I64; omega) (by unfold I64; omega)
  obtain ⟨W4, r4, h4, t4⟩ := h3.put (by omega) 7 8 (by unfold I64; omega) (by unfold I64; omega)
  obtain ⟨W5, r5, h5, t5⟩ := h4.put (by omega) 8 7 (by unfold I64; omega) (by unfold I64; omega)
  refine ⟨W1, W2, W3, W4, W5, r1, r2, r3, r4, r5, turned_below (turned_below (turned_below (turned_below (turned_below b0 t1) t2) t3) t4) t5, fun k hk => ?_⟩
  rw [h5.lookN k (by unfold I64; omega)]
  rcases hk with rfl | rfl | rfl | rfl | rfl <;> rfl
/-- at each number which text g tells -/
def WS (W : World) (b n : Nat) (D : DataW Unit) (g : Int → Option (List UInt8)) : Prop := W.ownsMap Tryd.prog 3 (plainElem Tryd.prog 9) b n D ∧ ∀ (i : Int) zd, D.atKey (.int .i64 i) zd = match g i with | some v => .lit (.string v) | none => zd
theorem zeroS (w : World) : (zeroValue 9).run Tryd.prog w = .ok (.string ⟨#[]⟩) w := by kernel_rfl
theorem WS.made (W : World) : WS (W.alloc (.map #[] 0)) W.heap.size 0 (.map []) (fun _ => none) := ⟨World.ownsMap_made _ _ _ _, fun _ _ => rfl⟩
theorem WS.put {W : World} {b n : Nat} {D : DataW Unit} {g : Int → Option (List UInt8)} (h : WS W b n D g) (hn : n ≤ 1000) (k : Int) (v : List UInt8) (hk : I64 k) (hv : v.length ≤ 100) :
    ∃ W', (Instr.mapUpdate 83 (.map (some b)) (.int .i64 k) (.string ⟨v.toArray⟩)).run Tryd.prog W = .ok () W' ∧ WS W' b (n + 1) (D.put (.int .i64 k) (.lit (.string v))) (fun j => if j = k then some v else g j) ∧ W.mapTurned W' b := by
  have he : plainElem (H := Unit) Tryd.prog 9 (.string ⟨v.toArray⟩) = some (.lit (.string v), []) := by
    have := plainElem_string (H := Unit) (P := Tryd.prog) (e := 9) Tryd.underlying9 (s := ⟨v.toArray⟩) (by simp [ByteArray.size, maxLen]; omega)
    simpa using this
  obtain ⟨W', h1, h2, h3⟩ := h.1.store lawI Tryd.underlying83 (by unfold maxLen; omega) (key_i hk) he
  refine ⟨W', h1, ⟨h2, fun i zd => ?_⟩, h3⟩
  by_cases e : i = k
  · subst e
    rw [atKey_put_same h.1.isMap (by trivial)]
    simp
  · rw [atKey_put_other (by simp only [ne_eq, Lit.int.injEq, true_and]; exact e), h.2 i zd]
    simp [e]
theorem WS.lookN {W : World} {b n : Nat} {D : DataW Unit} {g : Int → Option (List UInt8)} (h : WS W b n D g) (i : Int) (hi : I64 i) (y : List UInt8) (hy : g i = some y) : (Instr.lookup 83 (.map (some b)) (.int .i64 i) false).run Tryd.prog W = .ok (.string ⟨y.toArray⟩) W := by
  obtain ⟨v, ps, hrun, hv⟩ := h.1.lookup lawI Tryd.underlying83 (zeroS W) (zd := .lit (.string [])) (zp := []) (by
    have := plainElem_string (H := Unit) (P := Tryd.prog) (e := 9) Tryd.underlying9 (s := ⟨#[]⟩) (by simp [ByteArray.size])
    simpa using this) (key_i hi)
  obtain ⟨s, rfl, hx, _⟩ := plainElem_string_inv Tryd.underlying9 hv
  have hz := h.2 i
  rw [hy] at hz
  rw [hz] at hx
  simp only [Prod.mk.injEq, DataW.lit.injEq, Lit.string.injEq] at hx
  rw [hrun, hx.1]
/-- the signs of those with one part, as the document's Text makes them -/
theorem sign1_made (w : World) : ∃ W1 W2 W3 W4 : World,
    (Instr.mapUpdate 83 (.map (some w.heap.size)) (.int .i64 3) (.string ⟨#[33]⟩)).run Tryd.prog (w.alloc (.map #[] 0)) = .ok () W1 ∧
    (Instr.mapUpdate 83 (.map (some w.heap.size)) (.int .i64 6) (.string ⟨#[88, 32]⟩)).run Tryd.prog W1 = .ok () W2 ∧
    (Instr.mapUpdate 83 (.map (some w.heap.size)) (.int .i64 9) (.string ⟨#[70, 32]⟩)).run Tryd.prog W2 = .ok () W3 ∧
    (Instr.mapUpdate 83 (.map (some w.heap.size)) (.int .i64 10) (.string ⟨#[71, 32]⟩)).run Tryd.prog W3 = .ok () W4 ∧
    Below w.heap.size w W1 ∧ Below w.heap.size w W2 ∧ Below w.heap.size w W3 ∧ Below w.heap.size w W4 ∧ ∀ k, (k = 3 ∨ k = 6 ∨ k = 9 ∨ k = 10) → (Instr.lookup 83 (.map (some w.heap.size)) (.int .i64 k) false).run Tryd.prog W4 = .ok (.string ⟨(sign k).toArray⟩) W4 := by
  have h0 := WS.made w
  have b0 : Below w.heap.size w (w.alloc (.map #[] 0)) := (Below.refl _ _).alloc (Nat.le_refl _) _
  obtain ⟨W1, r1, h1, t1⟩ := h0.put (by omega) 3 [33] (by unfold I64; omega) (by simp)
  obtain ⟨W2, r2, h2, t2⟩ := h1.put (by omega) 6 [88, 32] (by unfold I64; omega) (by simp)
  obtain ⟨W3, r3, h3, t3⟩ := h2.put (by omega) 9 [70, 32] (by unfold I64; omega) (by simp)
  obtain ⟨W4, r4, h4, t4⟩ := h3.put (by omega) 10 [71, 32] (by unfold I64; omega) (by simp)
  have b1 := turned_below b0 t1
  have b2 := turned_below b1 t2
  have b3 := turned_below b2 t3
  have b4 := turned_below b3 t4
  refine ⟨W1, W2, W3, W4, r1, r2, r3, r4, b1, b2, b3, b4, fun k hk => ?_⟩
  refine h4.lookN k (by unfold I64; omega) _ ?_
  rcases hk with rfl | rfl | rfl | rfl <;> rfl
/-- .. and of those with two -/
theorem sign2_made (w : World) : ∃ W1 W2 W3 W4 : World,
    (Instr.mapUpdate 83 (.map (some w.heap.size)) (.int .i64 4) (.string ⟨#[32, 38, 32]⟩)).run Tryd.prog (w.alloc (.map #[] 0)) = .ok () W1 ∧
    (Instr.mapUpdate 83 (.map (some w.heap.size)) (.int .i64 5) (.string ⟨#[32, 124, 32]⟩)).run Tryd.prog W1 = .ok () W2 ∧
    (Instr.mapUpdate 83 (.map (some w.heap.size)) (.int .i64 7) (.string ⟨#[32, 85, 32]⟩)).run Tryd.prog W2 = .ok () W3 ∧
    (Instr.mapUpdate 83 (.map (some w.heap.size)) (.int .i64 8) (.string ⟨#[32, 82, 32]⟩)).run Tryd.prog W3 = .ok () W4 ∧
    Below w.heap.size w W1 ∧ Below w.heap.size w W2 ∧ Below w.heap.size w W3 ∧ Below w.heap.size w W4 ∧ ∀ k, (k = 4 ∨ k = 5 ∨ k = 7 ∨ k = 8) → (Instr.lookup 83 (.map (some w.heap.size)) (.int .i64 k) false).run Tryd.prog W4 = .ok (.string ⟨(sign k).toArray⟩) W4 := by
  have h0 := WS.made w
  have b0 : Below w.heap.size w (w.alloc (.map #[] 0)) := (Below.refl _ _).alloc (Nat.le_refl _) _
  obtain ⟨W1, r1, h1, t1⟩ := h0.put (by omega) 4 [32, 38, 32] (by unfold I64; omega) (by simp)
  obtain ⟨W2, r2, h2, t2⟩ := h1.put (by omega) 5 [32, 124, 32] (by unfold I64; omega) (by simp)
  obtain ⟨W3, r3, h3, t3⟩ := h2.put (by omega) 7 [32, 85, 32] (by unfold I64; omega) (by simp)
  obtain ⟨W4, r4, h4, t4⟩ := h3.put (by omega) 8 [32, 82, 32] (by unfold I64; omega) (by simp)
  have b1 := turned_below b0 t1
  have b2 := turned_below b1 t2
  have b3 := turned_below b2 t3
  have b4 := turned_below b3 t4
  refine ⟨W1, W2, W3, W4, r1, r2, r3, r4, b1, b2, b3, b4, fun k hk => ?_⟩
  refine h4.lookN k (by unfold I64; omega) _ ?_
  rcases hk with rfl | rfl | rfl | rfl <;> rfl
theorem sign1_drew (w : World) : ∃ W1 W2 W3 W4 : World,
    (Instr.mapUpdate 83 (.map (some w.heap.size)) (.int .i64 3) (.string ⟨#[33]⟩)).run Tryd.prog (w.alloc (.map #[] 0)).drew = .ok () W1 ∧
    (Instr.mapUpdate 83 (.map (some w.heap.size)) (.int .i64 6) (.string ⟨#[88, 32]⟩)).run Tryd.prog W1 = .ok () W2 ∧
    (Instr.mapUpdate 83 (.map (some w.heap.size)) (.int .i64 9) (.string ⟨#[70, 32]⟩)).run Tryd.prog W2 = .ok () W3 ∧
    (Instr.mapUpdate 83 (.map (some w.heap.size)) (.int .i64 10) (.string ⟨#[71, 32]⟩)).run Tryd.prog W3 = .ok () W4 ∧
    Below w.heap.size w.drew W1 ∧ Below w.heap.size w.drew W2 ∧ Below w.heap.size w.drew W3 ∧ Below w.heap.size w.drew W4 ∧ ∀ k, (k = 3 ∨ k = 6 ∨ k = 9 ∨ k = 10) → (Instr.lookup 83 (.map (some w.heap.size)) (.int .i64 k) false).run Tryd.prog W4 = .ok (.string ⟨(sign k).toArray⟩) W4 := sign1_made w.drew
theorem sign2_drew (w : World) : ∃ W1 W2 W3 W4 : World,
    (Instr.mapUpdate 83 (.map (some w.heap.size)) (.int .i64 4) (.string ⟨#[32, 38, 32]⟩)).run Tryd.prog (w.alloc (.map #[] 0)).drew = .ok () W1 ∧
    (Instr.mapUpdate 83 (.map (some w.heap.size)) (.int .i64 5) (.string ⟨#[32, 124, 32]⟩)).run Tryd.prog W1 = .ok () W2 ∧
    (Instr.mapUpdate 83 (.map (some w.heap.size)) (.int .i64 7) (.string ⟨#[32, 85, 32]⟩)).run Tryd.prog W2 = .ok () W3 ∧
    (Instr.mapUpdate 83 (.map (some w.heap.size)) (.int .i64 8) (.string ⟨#[32, 82, 32]⟩)).run Tryd.prog W3 = .ok () W4 ∧
    Below w.heap.size w.drew W1 ∧ Below w.heap.size w.drew W2 ∧ Below w.heap.size w.drew W3 ∧ Below w.heap.size w.drew W4 ∧ ∀ k, (k = 4 ∨ k = 5 ∨ k = 7 ∨ k = 8) → (Instr.lookup 83 (.map (some w.heap.size)) (.int .i64 k) false).run Tryd.prog W4 = .ok (.string ⟨(sign k).toArray⟩) W4 := sign2_made w.drew
end Ls
end Go.Proofs.YtmdblokmplbpmaaDoor
