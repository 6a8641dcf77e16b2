/-
  Three own rows that grow side by side, in blocks of their own; formulas that lie beside them.
-/
import Derived.Test.YtmdblokmplbpmaaDoorLyMath
namespace Go.Proofs.YtmdblokmplbpmaaDoor
namespace Ls
open Go.RowKit
/-- three own rows, in blocks of their own -/
structure T3 (q : Nat) (W : World) (t1 t2 t3 : TypeId) (v1 v2 v3 : Value) (l1 l2 l3 : List Value) : Prop where
  o1 : W.ownsRow q t1 1 v1 l1.length l1
  o2 : W.ownsRow q t2 1 v2 l2.length l2
  o3 : W.ownsRow q t3 1 v3 l3.length l3
  d12 : ∀ g, v1.ownBlock = some g → v2.ownBlock ≠ some g
  d13 : ∀ g, v1.ownBlock = some g → v3.ownBlock ≠ some g
  d23 : ∀ g, v2.ownBlock = some g → v3.ownBlock ≠ some g
/-- blocks beside them -/
def Av (W : World) (v1 v2 v3 : Value) (b : Nat) : Prop := b < W.heap.size ∧ some b ≠ v1.ownBlock ∧ some b ≠ v2.ownBlock ∧ some b ≠ v3.ownBlock
theorem T3.rot {q : Nat} {W : World} {t1 t2 t3 : TypeId} {v1 v2 v3 : Value} {l1 l2 l3 : List Value} (h : T3 q W t1 t2 t3 v1 v2 v3 l1 l2 l3) : T3 q W t2 t3 t1 v2 v3 v1 l2 l3 l1 :=
  ⟨h.o2, h.o3, h.o1, h.d23, fun g e1 e2 => h.d12 g e2 e1, fun g e1 e2 => h.d13 g e2 e1⟩
theorem T3.below {q : Nat} {W W' : World} {t1 t2 t3 : TypeId} {v1 v2 v3 : Value} {l1 l2 l3 : List Value} (h : T3 q W t1 t2 t3 v1 v2 v3 l1 l2 l3) (hb : Below W.heap.size W W') : T3 q W' t1 t2 t3 v1 v2 v3 l1 l2 l3 :=
  ⟨own_below h.o1 hb, own_below h.o2 hb, own_below h.o3 hb, h.d12, h.d13, h.d23⟩
theorem own_lt {W : World} {q : Nat} {e : TypeId} {s : Nat} {v : Value} {n : Nat} {xs : List Value} (h : W.ownsRow q e s v n xs) {g : Nat} (hg : v.ownBlock = some g) : g < W.heap.size := by
  rcases h.2 with ⟨h1, _⟩ | ⟨g', cap, cur, h1, h2, h3, _⟩
  · rw [h1] at hg; cases hg
  · rw [h1] at hg
    cases hg
    exact (Array.getElem?_eq_some_iff.1 h3).1
theorem T3.app {q : Nat} {W W' : World} {t1 t2 t3 : TypeId} {v1 v2 v3 : Value} {l1 l2 l3 : List Value} {o : Obj} {p : Value} {g cap : Nat} (h : T3 q W t1 t2 t3 v1 v2 v3 l1 l2 l3)
    (ho : W'.ownsRow q t1 1 (.slice (some ⟨g, 0, none⟩) (l1.length + 1) cap) (l1.length + 1) (l1 ++ [p])) (hg : (W.alloc o).grownBy W' v1.ownBlock) (hat : v1.ownBlock = some g ∨ g = W.heap.size + 1) :
    T3 q W' t1 t2 t3 (.slice (some ⟨g, 0, none⟩) (l1.length + 1) cap) v2 v3 (l1 ++ [p]) l2 l3 ∧ ∀ b, Av W v1 v2 v3 b → Av W' (.slice (some ⟨g, 0, none⟩) (l1.length + 1) cap) v2 v3 b ∧ ∀ i, W'.cell? ⟨b, i, none⟩ = W.cell? ⟨b, i, none⟩ := by
  have hs : W.heap.size + 1 ≤ W'.heap.size := by have := hg.size; simpa using this
  have hn : ∀ {v : Value} {e : TypeId} {n : Nat} {xs : List Value}, W.ownsRow q e 1 v n xs → (∀ g, v1.ownBlock = some g → v.ownBlock ≠ some g) → W'.ownsRow q e 1 v n xs := fun {v e n xs} hv hd => by
    refine (own_below hv (newB W o)).kept hg ?_
    cases hv1 : v1.ownBlock with
    | none =>
      cases hvv : v.ownBlock with
      | none => exact .inl rfl
      | some k => exact .inr (by intro e; cases e)
    | some k =>
      exact .inr (hd k hv1)
  have hdd : ∀ {v : Value} {e : TypeId} {n : Nat} {xs : List Value}, W.ownsRow q e 1 v n xs → (∀ g, v1.ownBlock = some g → v.ownBlock ≠ some g) → ∀ g', (Value.slice (some ⟨g, 0, none⟩) (l1.length + 1) cap).ownBlock = some g' → v.ownBlock ≠ some g' := fun {v e n xs} hv hd g' e1 e2 => by
    have e3 : g = g' := by simpa [Value.ownBlock] using e1
    subst e3
    rcases hat with h | h
    · exact hd g h e2
    · have := own_lt hv e2
      omega
  refine ⟨⟨by rw [List.length_append]; exact ho, hn h.o2 h.d12, hn h.o3 h.d13, hdd h.o2 h.d12, hdd h.o3 h.d13, h.d23⟩, fun b hb => ⟨⟨by have := hb.1; omega, ?_, hb.2.2⟩, fun i => ?_⟩⟩
  · show some b ≠ some g
    intro e
    cases e
    rcases hat with h | h
    · exact hb.2.1 h.symm
    · have := hb.1; omega
  · have h1 := hg.block b (by have := hb.1; simp; omega) hb.2.1
    rw [Below.heap_alloc _ _ _ hb.1] at h1
    exact heap_cell i h1
theorem T3.grow {q : Nat} {W W' : World} {t1 t2 t3 : TypeId} {v1 v2 v3 : Value} {l1 l2 l3 : List Value} {o : Obj} {p : Value} {n g cap : Nat} (h : T3 q W t1 t2 t3 v1 v2 v3 l1 l2 l3) (hn : l1.length = n)
    (ho : W'.ownsRow q t1 1 (.slice (some ⟨g, 0, none⟩) (n + 1) cap) (n + 1) (l1 ++ [p])) (hg : (W.alloc o).grownBy W' v1.ownBlock) (hat : v1.ownBlock = some g ∨ g = W.heap.size + 1) :
    T3 q W' t1 t2 t3 (.slice (some ⟨g, 0, none⟩) (n + 1) cap) v2 v3 (l1 ++ [p]) l2 l3 ∧ ∀ b, Av W v1 v2 v3 b → Av W' (.slice (some ⟨g, 0, none⟩) (n + 1) cap) v2 v3 b ∧ ∀ i, W'.cell? ⟨b, i, none⟩ = W.cell? ⟨b, i, none⟩ := by
  subst hn
  exact h.app ho hg hat
theorem T3.own {q : Nat} {W : World} {t1 t2 t3 : TypeId} {v1 v2 v3 : Value} {l1 l2 l3 : List Value} {n : Nat} (h : T3 q W t1 t2 t3 v1 v2 v3 l1 l2 l3) (hn : l1.length = n) (o : Obj) : (W.alloc o).ownsRow q t1 1 v1 n l1 := by
  subst hn
  exact own_below h.o1 (newB W o)
/-- formulas, in blocks of which ok holds -/
def FF (W : World) (ok : Nat → Prop) (us : List Value) (xs : List Fm) : Prop := us.length = xs.length ∧ ∀ (i : Nat) (u : Value) (x : Fm), us[i]? = some u → xs[i]? = some x → IsF ok W x u
theorem FF.stay {W W' : World} {ok ok' : Nat → Prop} {us : List Value} {xs : List Fm} (h : FF W ok us xs) (hs : ∀ b, ok b → ok' b ∧ ∀ i u, W.cell? ⟨b, i, none⟩ = some u → W'.cell? ⟨b, i, none⟩ = some u) : FF W' ok' us xs :=
  ⟨h.1, fun i u x hu hx => IsF.stay (fun g i u hg hc => (hs g hg).2 i u hc) (fun g hg => (hs g hg).1) x u (h.2 i u x hu hx)⟩
theorem FF.push {W : World} {ok : Nat → Prop} {us : List Value} {xs : List Fm} {u : Value} {x : Fm} (h : FF W ok us xs) (hx : IsF ok W x u) : FF W ok (us ++ [u]) (xs ++ [x]) := by
  refine ⟨by rw [List.length_append, List.length_append, h.1]; rfl, fun i y z hy hz => ?_⟩
  by_cases hi : i < us.length
  · rw [List.getElem?_append_left hi] at hy
    rw [List.getElem?_append_left (by have := h.1; omega)] at hz
    exact h.2 i y z hy hz
  · have hl := h.1
    rw [List.getElem?_append_right (by omega)] at hy hz
    have h0 : i - us.length = 0 := by
      have := (List.getElem?_eq_some_iff.1 hy).1
      simp at this; omega
    rw [h0] at hy
    rw [← hl, h0] at hz
    cases hy; cases hz
    exact hx
theorem Av.rot {W : World} {v1 v2 v3 : Value} {b : Nat} (h : Av W v1 v2 v3 b) : Av W v2 v3 v1 b := ⟨h.1, h.2.2.1, h.2.2.2, h.2.1⟩
/-- an own row that is not empty lies at a block's beginning -/
theorem own_at {W : World} {q : Nat} {e : TypeId} {v : Value} {n : Nat} {xs : List Value} (h : W.ownsRow q e 1 v n xs) (hn : 0 < n) : ∃ g cap, v = .slice (some ⟨g, 0, none⟩) n cap ∧ g < W.heap.size ∧ q ≤ g ∧ ∀ i u, xs[i]? = some u → W.cell? ⟨g, i, none⟩ = some u := by
  rcases h.2 with ⟨_, h0⟩ | ⟨g, cap, cur, e1, e2, e3, _, _, _, e4⟩
  · omega
  · exact ⟨g, cap, e1, (Array.getElem?_eq_some_iff.1 e3).1, e2, fun i u hu => row_cell e3 (by simpa using e4) hu⟩
/-- how many parts, as numbers in a row -/
def szs (xs : List Fm) : List Value := xs.map fun x => .int .i64 (cap (size x) : Int)
def dps (xs : List Fm) : List Value := xs.map fun x => .int .i64 (depth x : Int)
theorem szs_at {xs : List Fm} {i : Nat} (h : i < xs.length) : (szs xs)[i]? = some (.int .i64 (cap (size (xs.getD i tru)) : Int)) := by
  unfold szs
  rw [List.getElem?_map, List.getElem?_eq_getElem h, List.getD_eq_getElem?_getD, List.getElem?_eq_getElem h]
  rfl
theorem dps_at {xs : List Fm} {i : Nat} (h : i < xs.length) : (dps xs)[i]? = some (.int .i64 (depth (xs.getD i tru) : Int)) := by
  unfold dps
  rw [List.getElem?_map, List.getElem?_eq_getElem h, List.getD_eq_getElem?_getD, List.getElem?_eq_getElem h]
  rfl
theorem szs_len (xs : List Fm) : (szs xs).length = xs.length := by simp [szs]
theorem dps_len (xs : List Fm) : (dps xs).length = xs.length := by simp [dps]
theorem szs_push (xs : List Fm) (x : Fm) : szs (xs ++ [x]) = szs xs ++ [.int .i64 (cap (size x) : Int)] := by simp [szs]
theorem dps_push (xs : List Fm) (x : Fm) : dps (xs ++ [x]) = dps xs ++ [.int .i64 (depth x : Int)] := by simp [dps]
theorem cap_le (n : Nat) : cap n ≤ 1000000 := by unfold cap; omega
end Ls
end Go.Proofs.YtmdblokmplbpmaaDoor
