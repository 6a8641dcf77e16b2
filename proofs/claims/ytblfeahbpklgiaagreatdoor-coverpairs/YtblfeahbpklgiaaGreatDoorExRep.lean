/-
  Expressions in memory, as package expr lays them: an interface value; And and Or are rows of such. 'ok' says which blocks those rows may lie in.
-/
import Derived.Test.YtblfeahbpklgiaaGreatDoorRdKeep
namespace Go.Proofs.YtblfeahbpklgiaaGreatDoor
open Go.RowKit
/-- in block g lie, from its head on, values of which these hold -/
def Row (w : World) (g : Nat) (Ps : List (Value → Prop)) : Prop := ∀ i P, Ps[i]? = some P → ∃ u, w.cell? ⟨g, i, none⟩ = some u ∧ P u
/-- the value of a list of that type: a row of at least two -/
def IsList (ok : Nat → Prop) (w : World) (t : Nat) (n : Nat) (Ps : List (Value → Prop)) (v : Value) : Prop :=
  2 ≤ n ∧ n ≤ 9223372036854775807 ∧ ∃ g cap, v = .iface t (.slice (some ⟨g, 0, none⟩) n cap) ∧ n ≤ cap ∧ ok g ∧ Row w g Ps
def IsEx (ok : Nat → Prop) (w : World) : Ex → Value → Prop
  | ⟨0, nm, l⟩ => fun v => nm = [] ∧ l = [] ∧ v = .iface 107 (.bool false)
  | ⟨1, nm, l⟩ => fun v => nm = [] ∧ l = [] ∧ v = .iface 107 (.bool true)
  | ⟨2, nm, l⟩ => fun v => l = [] ∧ nm.length ≤ 8 ∧ v = .iface 89 (.string ⟨nm.toArray⟩)
  | ⟨3, nm, l⟩ => fun v => l = [] ∧ nm.length ≤ 8 ∧ v = .iface 90 (.string ⟨nm.toArray⟩)
  | ⟨4, nm, l⟩ => fun v => l = [] ∧ nm.length ≤ 8 ∧ v = .iface 91 (.string ⟨nm.toArray⟩)
  | ⟨5, nm, l⟩ => fun v => nm = [] ∧ l.length = 1 ∧ ∃ u, v = .iface 104 (.agg #[u]) ∧ ∀ P, (l.map fun x => IsEx ok w x)[0]? = some P → P u
  | ⟨6, nm, l⟩ => fun v => nm = [] ∧ IsList ok w 102 l.length (l.map fun x => IsEx ok w x) v
  | ⟨7, nm, l⟩ => fun v => nm = [] ∧ IsList ok w 86 l.length (l.map fun x => IsEx ok w x) v
  | ⟨_, _, _⟩ => fun _ => False
/-- cells in such blocks stand as they stood -/
def Stay (ok : Nat → Prop) (w w' : World) : Prop := ∀ g i u, ok g → w.cell? ⟨g, i, none⟩ = some u → w'.cell? ⟨g, i, none⟩ = some u
theorem Stay.trans {ok : Nat → Prop} {x y z : World} (h : Stay ok x y) (k : Stay ok y z) : Stay ok x z := fun g i u hg hc => k g i u hg (h g i u hg hc)
theorem Stay.keep {ok : Nat → Prop} {b : Nat} {w w' : World} (hk : Keep b w w') (hb : ∀ g, ok g → g ≠ b) : Stay ok w w' := fun g i u hg hc => by
  rw [hk.cell (p := ⟨g, i, none⟩) (World.block_lt_of_cell? _ _ hc) (hb g hg)]; exact hc
theorem Stay.below {ok : Nat → Prop} {w w' : World} (hk : Below w.heap.size w w') : Stay ok w w' := fun g i u _ hc => by
  rw [hk.cell (p := ⟨g, i, none⟩) (World.block_lt_of_cell? _ _ hc)]; exact hc
theorem Stay.grown {ok : Nat → Prop} {w w' : World} {row : Option Nat} (hk : w.grownBy w' row) (hb : ∀ g, ok g → some g ≠ row) : Stay ok w w' := fun g _ _ hg hc => hk.cell hc (hb g hg)
/-- an expression stands where its cells do; and what is asked of its blocks may be less -/
theorem IsEx.stay {ok ok' : Nat → Prop} {w w' : World} (hs : Stay ok w w') (hok : ∀ g, ok g → ok' g) : ∀ (x : Ex) (v : Value), IsEx ok w x v → IsEx ok' w' x v := by
  intro x
  induction x using Ex.ind with
  | h k nm l ih =>
    intro v h
    have hrow : ∀ g, ok g → Row w g (l.map fun x => IsEx ok w x) → Row w' g (l.map fun x => IsEx ok' w' x) := by
      intro g hg hr i P hP
      rw [List.getElem?_map] at hP
      cases hl : l[i]? with
      | none => rw [hl] at hP; simp at hP
      | some y =>
        rw [hl] at hP
        simp only [Option.map_some, Option.some.injEq] at hP
        obtain ⟨u, hu, hx⟩ := hr i (IsEx ok w y) (by rw [List.getElem?_map, hl]; rfl)
        exact ⟨u, hs g i u hg hu, by rw [← hP]; exact ih y (List.mem_of_getElem? hl) u hx⟩
    have hlist : ∀ t, IsList ok w t l.length (l.map fun x => IsEx ok w x) v → IsList ok' w' t l.length (l.map fun x => IsEx ok' w' x) v := by
      rintro t ⟨h1, h2, g, cap, h3, h4, h5, h6⟩
      exact ⟨h1, h2, g, cap, h3, h4, hok g h5, hrow g h5 h6⟩
    match k, h with
    | 0, h => simp only [IsEx] at h ⊢; exact h
    | 1, h => simp only [IsEx] at h ⊢; exact h
    | 2, h => simp only [IsEx] at h ⊢; exact h
    | 3, h => simp only [IsEx] at h ⊢; exact h
    | 4, h => simp only [IsEx] at h ⊢; exact h
    | 5, h =>
      simp only [IsEx] at h ⊢
      obtain ⟨h1, h2, u, h3, h4⟩ := h
      refine ⟨h1, h2, u, h3, ?_⟩
      intro P hP
      rw [List.getElem?_map] at hP
      cases hl : l[0]? with
      | none => rw [hl] at hP; simp at hP
      | some y =>
        rw [hl] at hP
        simp only [Option.map_some, Option.some.injEq] at hP
        rw [← hP]
        exact ih y (List.mem_of_getElem? hl) u (h4 _ (by rw [List.getElem?_map, hl]; rfl))
    | 6, h => simp only [IsEx] at h ⊢; exact ⟨h.1, hlist _ h.2⟩
    | 7, h => simp only [IsEx] at h ⊢; exact ⟨h.1, hlist _ h.2⟩
    | n + 8, h => simp only [IsEx] at h
/-- an error at a place: an At in a block that is not b -/
def IsErr (b : Nat) (w : World) (v : Value) (err p : Nat) : Prop :=
  ∃ a, a ≠ b ∧ v = .iface 87 (.pointer (some ⟨a, 0, none⟩)) ∧ w.cell? ⟨a, 0, none⟩ = some (.int .i64 (err : Int)) ∧ w.cell? ⟨a, 1, none⟩ = some (.int .i64 (p : Int))
theorem IsErr.stay {b : Nat} {w w' : World} {v : Value} {err p : Nat} (hs : Stay (fun g => g ≠ b) w w') (h : IsErr b w v err p) : IsErr b w' v err p := by
  obtain ⟨a, h1, h2, h3, h4⟩ := h
  exact ⟨a, h1, h2, hs a 0 _ h1 h3, hs a 1 _ h1 h4⟩
/-- What reading comes to in memory: an error, or what is read; the reader's place; all else is as it was. -/
def Read (b : Nat) (s : ByteArray) (d : Nat) (w : World) (r : Ex.Res Ex) (e : Ending) (w' : World) : Prop :=
  Keep b w w' ∧
  match r with
  | .inl (err, p) => ∃ v i, e = .returned (.tuple #[.nilIface, v]) ∧ IsErr b w' v err p ∧ Rd b s i d w'
  | .inr (x, m) => ∃ v, e = .returned (.tuple #[v, .nilIface]) ∧ IsEx (fun g => w.heap.size ≤ g) w' x v ∧ Rd b s m d w'
end Go.Proofs.YtblfeahbpklgiaaGreatDoor
