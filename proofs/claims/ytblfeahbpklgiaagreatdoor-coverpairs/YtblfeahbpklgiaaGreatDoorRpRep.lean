/-
  Expressions as the document's package lays them: a block a part. What its reading comes to in memory.
-/
import Derived.Test.YtblfeahbpklgiaaGreatDoorRpWord
namespace Go.Proofs.YtblfeahbpklgiaaGreatDoor
open Go.RowKit
/-- the document's word for a kind -/
def kindS : Nat → List UInt8
  | 0 => [48]
  | 1 => [49]
  | 2 => [98, 105, 116]
  | 3 => [94]
  | 4 => [126]
  | 5 => [33]
  | 6 => [38]
  | _ => [124]
/-- in block h lie, from its head on, pointers to blocks of which these hold -/
def RowP (w : World) (h : Nat) (Ps : List (Nat → Prop)) : Prop := ∀ (i : Nat) (P : Nat → Prop), Ps[i]? = some P → ∃ g, w.cell? ⟨h, i, none⟩ = some (.pointer (some ⟨g, 0, none⟩)) ∧ P g
def OfRow (ok : Nat → Prop) (w : World) (sv : Value) (n : Nat) (Ps : List (Nat → Prop)) : Prop :=
  (n = 0 ∧ sv = .slice none 0 0) ∨ (0 < n ∧ ∃ h cap, sv = .slice (some ⟨h, 0, none⟩) n cap ∧ n ≤ cap ∧ ok h ∧ RowP w h Ps)
/-- an expression's form -/
def RWf (k : Nat) (nm : List UInt8) (n : Nat) : Prop :=
  (k ≤ 1 ∧ nm = [] ∧ n = 0) ∨ (2 ≤ k ∧ k ≤ 4 ∧ nm ≠ [] ∧ n = 0) ∨ (k = 5 ∧ nm = [] ∧ n = 1) ∨ (6 ≤ k ∧ k ≤ 7 ∧ nm = [] ∧ 2 ≤ n)
def IsRx (ok : Nat → Prop) (w : World) : Ex → Nat → Prop
  | ⟨k, nm, l⟩ => fun g => ok g ∧ RWf k nm l.length ∧ l.length ≤ 1000000 ∧ w.cell? ⟨g, 0, none⟩ = some (.string ⟨(kindS k).toArray⟩) ∧ w.cell? ⟨g, 1, none⟩ = some (.string ⟨nm.toArray⟩) ∧
    ∃ sv, w.cell? ⟨g, 2, none⟩ = some sv ∧ OfRow ok w sv l.length (l.map fun y => IsRx ok w y)
theorem IsRx.def (ok : Nat → Prop) (w : World) (k : Nat) (nm : List UInt8) (l : List Ex) (g : Nat) : IsRx ok w ⟨k, nm, l⟩ g ↔ ok g ∧ RWf k nm l.length ∧ l.length ≤ 1000000 ∧ w.cell? ⟨g, 0, none⟩ = some (.string ⟨(kindS k).toArray⟩) ∧ w.cell? ⟨g, 1, none⟩ = some (.string ⟨nm.toArray⟩) ∧
    ∃ sv, w.cell? ⟨g, 2, none⟩ = some sv ∧ OfRow ok w sv l.length (l.map fun y => IsRx ok w y) := by simp only [IsRx]
theorem IsRx.stay {ok ok' : Nat → Prop} {w w' : World} (hs : Stay ok w w') (hok : ∀ g, ok g → ok' g) : ∀ (x : Ex) (g : Nat), IsRx ok w x g → IsRx ok' w' x g := by
  intro x
  induction x using Ex.ind with
  | h k nm l ih =>
    intro g h
    rw [IsRx.def] at h ⊢
    obtain ⟨h1, h2, h3, h4, h5, sv, h6, h7⟩ := h
    refine ⟨hok g h1, h2, h3, hs g 0 _ h1 h4, hs g 1 _ h1 h5, sv, hs g 2 _ h1 h6, ?_⟩
    rcases h7 with h7 | ⟨h0, b, cap, e1, e2, e3, e4⟩
    · exact .inl h7
    · refine .inr ⟨h0, b, cap, e1, e2, hok b e3, ?_⟩
      intro i P hP
      rw [List.getElem?_map] at hP
      cases hl : l[i]? with
      | none => rw [hl] at hP; simp at hP
      | some y =>
        rw [hl] at hP
        simp only [Option.map_some, Option.some.injEq] at hP
        obtain ⟨q, hq, hx⟩ := e4 i (IsRx ok w y) (by rw [List.getElem?_map, hl]; rfl)
        exact ⟨q, hs b i _ e3 hq, by rw [← hP]; exact ih y (List.mem_of_getElem? hl) q hx⟩
theorem IsRx.lt {ok : Nat → Prop} {w : World} : ∀ (x : Ex) (g : Nat), IsRx ok w x g → IsRx (fun g => ok g ∧ g < w.heap.size) w x g := by
  intro x
  induction x using Ex.ind with
  | h k nm l ih =>
    intro g h
    rw [IsRx.def] at h ⊢
    obtain ⟨h1, h2, h3, h4, h5, sv, h6, h7⟩ := h
    refine ⟨⟨h1, World.block_lt_of_cell? _ _ h4⟩, h2, h3, h4, h5, sv, h6, ?_⟩
    rcases h7 with h7 | ⟨h0, b, cap, e1, e2, e3, e4⟩
    · exact .inl h7
    · refine .inr ⟨h0, b, cap, e1, e2, ⟨e3, ?_⟩, ?_⟩
      · obtain ⟨q, hq, _⟩ := e4 0 (IsRx ok w l[0]) (by rw [List.getElem?_map, List.getElem?_eq_getElem (by omega)]; rfl)
        exact World.block_lt_of_cell? _ _ hq
      · intro i P hP
        rw [List.getElem?_map] at hP
        cases hl : l[i]? with
        | none => rw [hl] at hP; simp at hP
        | some y =>
          rw [hl] at hP
          simp only [Option.map_some, Option.some.injEq] at hP
          obtain ⟨q, hq, hx⟩ := e4 i (IsRx ok w y) (by rw [List.getElem?_map, hl]; rfl)
          exact ⟨q, hq, by rw [← hP]; exact ih y (List.mem_of_getElem? hl) q hx⟩
/-- What reading comes to in memory: a fault, or what is read; the reader's place; all else is as it was. -/
def ReadR (b : Nat) (s : ByteArray) (D : Nat) (w : World) (r : Ex.Res Ex) (e : Ending) (w' : World) : Prop :=
  Keep b w w' ∧
  match r with
  | .inl (err, p) => ∃ q i, e = .returned (.pointer q) ∧ i ≤ s.size + D ∧ err ≠ 0 ∧ Rp b s i (err : Int) (p : Int) w'
  | .inr (x, m) => ∃ g, e = .returned (.pointer (some ⟨g, 0, none⟩)) ∧ IsRx (fun g => w.heap.size ≤ g) w' x g ∧ Rp b s m 0 (-1) w'
/-- a row of the call's own of pointers -/
structure LR (b : Nat) (w : World) (v : Value) (us : List Value) (wr : World) : Prop where
  keep : Keep b w wr
  hb : b < w.heap.size
  own : wr.ownsRow w.heap.size 24 1 v us.length us
  ptr : ∀ u, u ∈ us → ∃ q, u = .pointer q
  ne : us ≠ []
/-- what they point to -/
structure Good (w : World) (v : Value) (xs : List Ex) (us : List Value) (wr : World) : Prop where
  len : us.length = xs.length
  each : ∀ (j : Nat) (x : Ex) (u : Value), xs[j]? = some x → us[j]? = some u → ∃ g, u = .pointer (some ⟨g, 0, none⟩) ∧ IsRx (fun g => w.heap.size ≤ g ∧ some g ≠ v.ownBlock) wr x g
namespace LR
variable {b : Nat} {w : World} {v : Value} {us : List Value} {wr : World}
theorem far (h : LR b w v us wr) : v.ownBlock = none ∨ v.ownBlock ≠ some b := by
  cases hv : v.ownBlock with
  | none => exact .inl rfl
  | some k => right; intro e; have := h.own.lt k hv; have h1 := h.hb; simp only [Option.some.injEq] at e; omega
theorem nb (h : LR b w v us wr) : some b ≠ v.ownBlock := fun e => by rcases h.far with h1 | h1 <;> simp [← e] at h1
theorem read {w1 : World} (h : LR b w v us wr) (hk : Keep b wr w1) : LR b w v us w1 := ⟨h.keep.trans hk, h.hb, h.own.kept hk.toGrown h.far, h.ptr, h.ne⟩
theorem push {u v' : Value} {w2 : World} {o : Obj} (h : LR b w v us wr) (hg : (wr.alloc o).grownBy w2 v.ownBlock) (hown : w2.ownsRow w.heap.size 24 1 v' (us.length + 1) (us ++ [u])) (hu : ∃ q, u = .pointer q) : LR b w v' (us ++ [u]) w2 := by
  refine ⟨(h.keep.alloc o).grown hg (fun k hk => (h.own.lt k hk).1), h.hb, ?_, ?_, by simp⟩
  · have e : (us ++ [u]).length = us.length + 1 := by simp
    rw [e]; exact hown
  · intro y hy
    rcases List.mem_append.1 hy with hy | hy
    · exact h.ptr y hy
    · simp only [List.mem_singleton] at hy; rw [hy]; exact hu
end LR
theorem Good.read {b : Nat} {w : World} {v : Value} {xs : List Ex} {us : List Value} {wr w1 : World} (h : Good w v xs us wr) (hb : b < w.heap.size) (hk : Keep b wr w1) : Good w v xs us w1 :=
  ⟨h.len, fun j x u hx hu => by
    obtain ⟨g, e, hg⟩ := h.each j x u hx hu
    exact ⟨g, e, IsRx.stay (Stay.keep hk fun g hg e => by omega) (fun g hg => hg) x g hg⟩⟩
theorem Good.push {w : World} {v v' : Value} {xs : List Ex} {us : List Value} {wr w2 : World} {x : Ex} {g B : Nat} {o : Obj} (h : Good w v xs us wr) (hB : w.heap.size ≤ B) (hv : ∀ k, v.ownBlock = some k → k < B) (hx : IsRx (fun g => B ≤ g) wr x g)
    (hg : (wr.alloc o).grownBy w2 v.ownBlock) (hat : v'.ownBlock = v.ownBlock ∨ v'.ownBlock = some (wr.heap.size + 1)) : Good w v' (xs ++ [x]) (us ++ [.pointer (some ⟨g, 0, none⟩)]) w2 := by
  have hal : Below wr.heap.size wr (wr.alloc o) := (Below.refl _ _).alloc (Nat.le_refl _) o
  have st : ∀ (ok : Nat → Prop), (∀ g, ok g → some g ≠ v.ownBlock) → Stay ok wr w2 := fun ok hok => (Stay.below hal).trans (Stay.grown hg hok)
  refine ⟨by simp [h.len], ?_⟩
  intro j y z hy hz
  have fin : ∀ (ok : Nat → Prop) (q : Nat), (∀ g, ok g → w.heap.size ≤ g ∧ some g ≠ v.ownBlock ∧ g < wr.heap.size) → IsRx ok wr y q → IsRx (fun g => w.heap.size ≤ g ∧ some g ≠ v'.ownBlock) w2 y q := by
    intro ok q hok hyz
    refine IsRx.stay (st ok fun g hg => (hok g hg).2.1) (fun g hg => ⟨(hok g hg).1, ?_⟩) y q hyz
    have h3 := hok g hg
    rcases hat with e | e
    · rw [e]; exact h3.2.1
    · rw [e]; intro e2; simp only [Option.some.injEq] at e2; omega
  by_cases hj : j < xs.length
  · rw [List.getElem?_append_left hj] at hy
    rw [List.getElem?_append_left (by rw [h.len]; exact hj)] at hz
    obtain ⟨q, e, hq⟩ := h.each j y z hy hz
    exact ⟨q, e, fin _ q (fun g hg => ⟨hg.1.1, hg.1.2, hg.2⟩) (IsRx.lt y q hq)⟩
  · have hj2 : j = xs.length := by
      by_cases e : j = xs.length
      · exact e
      · rw [List.getElem?_eq_none (by simp; omega)] at hy; cases hy
    subst hj2
    rw [List.getElem?_append_right (Nat.le_refl _)] at hy
    rw [List.getElem?_append_right (by rw [h.len]; exact Nat.le_refl _)] at hz
    simp only [Nat.sub_self, List.getElem?_cons_zero, Option.some.injEq] at hy
    rw [h.len] at hz
    simp only [Nat.sub_self, List.getElem?_cons_zero, Option.some.injEq] at hz
    subst hy hz
    refine ⟨g, rfl, fin _ g ?_ (IsRx.lt x g hx)⟩
    intro q hq
    refine ⟨by have := hq.1; omega, fun e => ?_, hq.2⟩
    have := hv q e.symm
    have := hq.1
    omega
theorem owns_one (w : World) (B : Nat) (hB : B ≤ w.heap.size) (t : TypeId) (u : Value) : (w.alloc (.cells #[u] t)).ownsRow B t 1 (.slice (some ⟨w.heap.size, 0, none⟩) 1 1) 1 [u] := by
  refine ⟨by simp, .inr ⟨w.heap.size, 1, #[u], rfl, hB, (by show (w.heap.push _)[w.heap.size]? = _; simp), ?_, ?_, ?_, ?_⟩⟩ <;> first | rfl | simp | (unfold maxLen; decide)
/-- the row's beginning: one that was read -/
theorem LR.start {b : Nat} {w w1 : World} (hk : Keep b w w1) (hb : b < w.heap.size) (q : Option Addr) : LR b w (.slice (some ⟨w1.heap.size, 0, none⟩) 1 1) [.pointer q] (w1.alloc (.cells #[.pointer q] 24)) :=
  ⟨hk.alloc _, hb, owns_one w1 _ hk.size _ _, fun u hu => by simp at hu; exact ⟨q, hu⟩, by simp⟩
theorem Good.start {w w1 : World} {x : Ex} {g : Nat} (hx : IsRx (fun g => w.heap.size ≤ g) w1 x g) : Good w (.slice (some ⟨w1.heap.size, 0, none⟩) 1 1) [x] [.pointer (some ⟨g, 0, none⟩)] (w1.alloc (.cells #[.pointer (some ⟨g, 0, none⟩)] 24)) := by
  refine ⟨rfl, ?_⟩
  intro j y u hy hu
  match j, hy, hu with
  | 0, hy, hu =>
    simp at hy hu
    subst hy hu
    refine ⟨g, rfl, IsRx.stay (Stay.below ((Below.refl _ _).alloc (Nat.le_refl _) _)) (fun q hq => ⟨hq.1, ?_⟩) _ g (IsRx.lt _ g hx)⟩
    intro e
    simp [Value.ownBlock] at e
    have := hq.2
    omega
  | j + 1, hy, _ => simp at hy
end Go.Proofs.YtblfeahbpklgiaaGreatDoor
