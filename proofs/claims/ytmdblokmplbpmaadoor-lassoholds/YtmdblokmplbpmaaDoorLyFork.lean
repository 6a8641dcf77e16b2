/-
  A map's literal inside a region that draws its order: four entries are laid in whatever order.
-/
import Derived.Test.YtmdblokmplbpmaaDoorLyMap
namespace Go.Proofs.YtmdblokmplbpmaaDoor
namespace Ls
open Go.RowKit Go.Maps
section
variable {P : Program} {ops : Array Oper} {Q : Exit → Act → World → Prop} {md : Region.Mode} {S : World → Prop} {fuel : Nat} {l : Array Bool} {a : Act} {w : World}
theorem only_one {i : Nat} (hr : Region.ready md ops l = [i]) (h : wpOp P ops Q i (fun a' w' => S w' ∧ wpAnyH P md ops Q S fuel (l.setIfInBounds i true) a' w') a w) : wpAnyH P md ops Q S (fuel + 1) l a w :=
  ⟨fun h0 => absurd (hr.symm.trans h0) (by simp), fun j hj => by rw [hr] at hj; obtain rfl := List.mem_singleton.1 hj; exact h⟩
theorem none_left (hr : Region.ready md ops l = []) (h : Q .normal a w) : wpAnyH P md ops Q S fuel l a w := by
  cases fuel with
  | zero => exact ⟨hr, h⟩
  | succ n => exact ⟨fun _ => h, fun j hj => by rw [hr] at hj; cases hj⟩
end
def setb (l : Array Bool) (i : Nat) (b : Bool) : Array Bool := if b then l.setIfInBounds i true else l
def set4 (l : Array Bool) (i1 i2 i3 i4 : Nat) (b1 b2 b3 b4 : Bool) : Array Bool := setb (setb (setb (setb l i1 b1) i2 b2) i3 b3) i4 b4
def left4 (i1 i2 i3 i4 : Nat) (b1 b2 b3 b4 : Bool) : List Nat := (if b1 then [] else [i1]) ++ (if b2 then [] else [i2]) ++ (if b3 then [] else [i3]) ++ (if b4 then [] else [i4])
def cnt (b : Bool) : Nat := if b then 1 else 0
/-- FOUR ENTRIES, IN WHATEVER ORDER -/
theorem map_fork {ops : Array Oper} {Q : Exit → Act → World → Prop} {md : Region.Mode} {S : World → Prop} (a : Act) (H : Nat) (W0 : World) (i1 i2 i3 i4 : Nat) (k1 k2 k3 k4 : Int) (v1 v2 v3 v4 : List UInt8) (l0 : Array Bool) (fuel : Nat)
    (hk1 : I64 k1) (hk2 : I64 k2) (hk3 : I64 k3) (hk4 : I64 k4) (h12 : k1 ≠ k2) (h13 : k1 ≠ k3) (h14 : k1 ≠ k4) (h23 : k2 ≠ k3) (h24 : k2 ≠ k4) (h34 : k3 ≠ k4)
    (hv : v1.length ≤ 100 ∧ v2.length ≤ 100 ∧ v3.length ≤ 100 ∧ v4.length ≤ 100) (hH : H = W0.heap.size)
    (hrd : ∀ b1 b2 b3 b4, (b1 && b2 && b3 && b4) = false → Region.ready md ops (set4 l0 i1 i2 i3 i4 b1 b2 b3 b4) = left4 i1 i2 i3 i4 b1 b2 b3 b4)
    (hs1 : ∀ b2 b3 b4, (set4 l0 i1 i2 i3 i4 false b2 b3 b4).setIfInBounds i1 true = set4 l0 i1 i2 i3 i4 true b2 b3 b4)
    (hs2 : ∀ b1 b3 b4, (set4 l0 i1 i2 i3 i4 b1 false b3 b4).setIfInBounds i2 true = set4 l0 i1 i2 i3 i4 b1 true b3 b4)
    (hs3 : ∀ b1 b2 b4, (set4 l0 i1 i2 i3 i4 b1 b2 false b4).setIfInBounds i3 true = set4 l0 i1 i2 i3 i4 b1 b2 true b4)
    (hs4 : ∀ b1 b2 b3, (set4 l0 i1 i2 i3 i4 b1 b2 b3 false).setIfInBounds i4 true = set4 l0 i1 i2 i3 i4 b1 b2 b3 true)
    (x1 : ∀ (w w' : World) (K : Act → World → Prop), (Instr.mapUpdate 83 (.map (some H)) (.int .i64 k1) (.string ⟨v1.toArray⟩)).run Tryd.prog w = .ok () w' → K a w' → wpOp Tryd.prog ops Q i1 K a w)
    (x2 : ∀ (w w' : World) (K : Act → World → Prop), (Instr.mapUpdate 83 (.map (some H)) (.int .i64 k2) (.string ⟨v2.toArray⟩)).run Tryd.prog w = .ok () w' → K a w' → wpOp Tryd.prog ops Q i2 K a w)
    (x3 : ∀ (w w' : World) (K : Act → World → Prop), (Instr.mapUpdate 83 (.map (some H)) (.int .i64 k3) (.string ⟨v3.toArray⟩)).run Tryd.prog w = .ok () w' → K a w' → wpOp Tryd.prog ops Q i3 K a w)
    (x4 : ∀ (w w' : World) (K : Act → World → Prop), (Instr.mapUpdate 83 (.map (some H)) (.int .i64 k4) (.string ⟨v4.toArray⟩)).run Tryd.prog w = .ok () w' → K a w' → wpOp Tryd.prog ops Q i4 K a w)
    (hS : ∀ W, Below W0.heap.size W0 W → S W)
    (hdone : ∀ (W : World) (n : Nat) (D : DataW Unit) (g : Int → Option (List UInt8)), Below W0.heap.size W0 W → WS W H n D g → g k1 = some v1 → g k2 = some v2 → g k3 = some v3 → g k4 = some v4 → wpAnyH Tryd.prog md ops Q S fuel (set4 l0 i1 i2 i3 i4 true true true true) a W) :
    ∀ (c : Nat) (b1 b2 b3 b4 : Bool), c + (cnt b1 + cnt b2 + cnt b3 + cnt b4) = 4 → ∀ (W : World) (n : Nat) (D : DataW Unit) (g : Int → Option (List UInt8)), n + c ≤ 4 → Below W0.heap.size W0 W → WS W H n D g → (b1 = true → g k1 = some v1) → (b2 = true → g k2 = some v2) → (b3 = true → g k3 = some v3) → (b4 = true → g k4 = some v4) → wpAnyH Tryd.prog md ops Q S (fuel + c) (set4 l0 i1 i2 i3 i4 b1 b2 b3 b4) a W := by
  intro c
  induction c with
  | zero =>
    intro b1 b2 b3 b4 hc W n D g hn hb hw g1 g2 g3 g4
    have e1 : b1 = true := by cases b1 <;> cases b2 <;> cases b3 <;> cases b4 <;> simp [cnt] at hc ⊢
    have e2 : b2 = true := by cases b1 <;> cases b2 <;> cases b3 <;> cases b4 <;> simp [cnt] at hc ⊢
    have e3 : b3 = true := by cases b1 <;> cases b2 <;> cases b3 <;> cases b4 <;> simp [cnt] at hc ⊢
    have e4 : b4 = true := by cases b1 <;> cases b2 <;> cases b3 <;> cases b4 <;> simp [cnt] at hc ⊢
    subst e1 e2 e3 e4
    exact hdone W n D g hb hw (g1 rfl) (g2 rfl) (g3 rfl) (g4 rfl)
  | succ c ih =>
    intro b1 b2 b3 b4 hc W n D g hn hb hw g1 g2 g3 g4
    have hna : (b1 && b2 && b3 && b4) = false := by cases b1 <;> cases b2 <;> cases b3 <;> cases b4 <;> simp [cnt] at hc ⊢
    have hr := hrd b1 b2 b3 b4 hna
    refine ⟨fun h0 => ?_, fun i hi => ?_⟩
    · rw [hr] at h0
      cases b1 <;> cases b2 <;> cases b3 <;> cases b4 <;> simp [left4] at h0 hna
    · rw [hr] at hi
      have hcase : (i = i1 ∧ b1 = false) ∨ (i = i2 ∧ b2 = false) ∨ (i = i3 ∧ b3 = false) ∨ (i = i4 ∧ b4 = false) := by
        cases b1 <;> cases b2 <;> cases b3 <;> cases b4 <;> simp [left4] at hi ⊢ <;> omega
      have gn : ∀ {k k' : Int} {v : List UInt8} {v' : List UInt8}, k ≠ k' → g k = some v → (fun j => if j = k' then some v' else g j) k = some v := fun {k k' v v'} hne h => by
        show (if k = k' then some v' else g k) = some v
        rw [if_neg hne]; exact h
      have gs : ∀ (k : Int) (v : List UInt8), (fun j => if j = k then some v else g j) k = some v := fun k v => by
        show (if k = k then some v else g k) = some v
        rw [if_pos rfl]
      rcases hcase with ⟨rfl, rfl⟩ | ⟨rfl, rfl⟩ | ⟨rfl, rfl⟩ | ⟨rfl, rfl⟩
      · obtain ⟨W', r, hw', ht⟩ := hw.put (by omega) k1 v1 hk1 hv.1
        have hb' := turned_below (W := W) hb (hH ▸ ht)
        refine x1 W W' _ r ⟨hS W' hb', ?_⟩
        rw [hs1]
        exact ih true b2 b3 b4 (by simp [cnt] at hc ⊢; omega) W' _ _ _ (by omega) hb' hw' (fun _ => gs _ _) (fun h => gn h12.symm (g2 h)) (fun h => gn h13.symm (g3 h)) (fun h => gn h14.symm (g4 h))
      · obtain ⟨W', r, hw', ht⟩ := hw.put (by omega) k2 v2 hk2 hv.2.1
        have hb' := turned_below (W := W) hb (hH ▸ ht)
        refine x2 W W' _ r ⟨hS W' hb', ?_⟩
        rw [hs2]
        exact ih b1 true b3 b4 (by simp [cnt] at hc ⊢; omega) W' _ _ _ (by omega) hb' hw' (fun h => gn h12 (g1 h)) (fun _ => gs _ _) (fun h => gn h23.symm (g3 h)) (fun h => gn h24.symm (g4 h))
      · obtain ⟨W', r, hw', ht⟩ := hw.put (by omega) k3 v3 hk3 hv.2.2.1
        have hb' := turned_below (W := W) hb (hH ▸ ht)
        refine x3 W W' _ r ⟨hS W' hb', ?_⟩
        rw [hs3]
        exact ih b1 b2 true b4 (by simp [cnt] at hc ⊢; omega) W' _ _ _ (by omega) hb' hw' (fun h => gn h13 (g1 h)) (fun h => gn h23 (g2 h)) (fun _ => gs _ _) (fun h => gn h34.symm (g4 h))
      · obtain ⟨W', r, hw', ht⟩ := hw.put (by omega) k4 v4 hk4 hv.2.2.2
        have hb' := turned_below (W := W) hb (hH ▸ ht)
        refine x4 W W' _ r ⟨hS W' hb', ?_⟩
        rw [hs4]
        exact ih b1 b2 b3 true (by simp [cnt] at hc ⊢; omega) W' _ _ _ (by omega) hb' hw' (fun h => gn h14 (g1 h)) (fun h => gn h24 (g2 h)) (fun h => gn h34 (g3 h)) (fun _ => gs _ _)
theorem map_fork0 {ops : Array Oper} {Q : Exit → Act → World → Prop} {md : Region.Mode} {S : World → Prop} (a : Act) (H : Nat) (W0 : World) (i1 i2 i3 i4 : Nat) (k1 k2 k3 k4 : Int) (v1 v2 v3 v4 : List UInt8) (l0 : Array Bool) (fuel : Nat)
    (hk1 : I64 k1) (hk2 : I64 k2) (hk3 : I64 k3) (hk4 : I64 k4) (h12 : k1 ≠ k2) (h13 : k1 ≠ k3) (h14 : k1 ≠ k4) (h23 : k2 ≠ k3) (h24 : k2 ≠ k4) (h34 : k3 ≠ k4)
    (hv : v1.length ≤ 100 ∧ v2.length ≤ 100 ∧ v3.length ≤ 100 ∧ v4.length ≤ 100) (hH : H = W0.heap.size)
    (hrd : ∀ b1 b2 b3 b4, (b1 && b2 && b3 && b4) = false → Region.ready md ops (set4 l0 i1 i2 i3 i4 b1 b2 b3 b4) = left4 i1 i2 i3 i4 b1 b2 b3 b4)
    (hs1 : ∀ b2 b3 b4, (set4 l0 i1 i2 i3 i4 false b2 b3 b4).setIfInBounds i1 true = set4 l0 i1 i2 i3 i4 true b2 b3 b4)
    (hs2 : ∀ b1 b3 b4, (set4 l0 i1 i2 i3 i4 b1 false b3 b4).setIfInBounds i2 true = set4 l0 i1 i2 i3 i4 b1 true b3 b4)
    (hs3 : ∀ b1 b2 b4, (set4 l0 i1 i2 i3 i4 b1 b2 false b4).setIfInBounds i3 true = set4 l0 i1 i2 i3 i4 b1 b2 true b4)
    (hs4 : ∀ b1 b2 b3, (set4 l0 i1 i2 i3 i4 b1 b2 b3 false).setIfInBounds i4 true = set4 l0 i1 i2 i3 i4 b1 b2 b3 true)
    (x1 : ∀ (w w' : World) (K : Act → World → Prop), (Instr.mapUpdate 83 (.map (some H)) (.int .i64 k1) (.string ⟨v1.toArray⟩)).run Tryd.prog w = .ok () w' → K a w' → wpOp Tryd.prog ops Q i1 K a w)
    (x2 : ∀ (w w' : World) (K : Act → World → Prop), (Instr.mapUpdate 83 (.map (some H)) (.int .i64 k2) (.string ⟨v2.toArray⟩)).run Tryd.prog w = .ok () w' → K a w' → wpOp Tryd.prog ops Q i2 K a w)
    (x3 : ∀ (w w' : World) (K : Act → World → Prop), (Instr.mapUpdate 83 (.map (some H)) (.int .i64 k3) (.string ⟨v3.toArray⟩)).run Tryd.prog w = .ok () w' → K a w' → wpOp Tryd.prog ops Q i3 K a w)
    (x4 : ∀ (w w' : World) (K : Act → World → Prop), (Instr.mapUpdate 83 (.map (some H)) (.int .i64 k4) (.string ⟨v4.toArray⟩)).run Tryd.prog w = .ok () w' → K a w' → wpOp Tryd.prog ops Q i4 K a w)
    (hS : ∀ W, Below W0.heap.size W0 W → S W)
    (hdone : ∀ (W : World) (n : Nat) (D : DataW Unit) (g : Int → Option (List UInt8)), Below W0.heap.size W0 W → WS W H n D g → g k1 = some v1 → g k2 = some v2 → g k3 = some v3 → g k4 = some v4 → wpAnyH Tryd.prog md ops Q S fuel (set4 l0 i1 i2 i3 i4 true true true true) a W) :
    ∀ W : World, Below W0.heap.size W0 W → WS W H 0 (.map []) (fun _ => none) → wpAnyH Tryd.prog md ops Q S (fuel + 4) l0 a W := fun W hb hw =>
  map_fork a H W0 i1 i2 i3 i4 k1 k2 k3 k4 v1 v2 v3 v4 l0 fuel hk1 hk2 hk3 hk4 h12 h13 h14 h23 h24 h34 hv hH hrd hs1 hs2 hs3 hs4 x1 x2 x3 x4 hS hdone 4 false false false false rfl W 0 _ _ (by omega) hb hw (fun h => by cases h) (fun h => by cases h) (fun h => by cases h) (fun h => by cases h)
end Ls
end Go.Proofs.YtmdblokmplbpmaaDoor
