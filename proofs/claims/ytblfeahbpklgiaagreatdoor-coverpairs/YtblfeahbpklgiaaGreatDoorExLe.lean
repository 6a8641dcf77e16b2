/-
  Expressions in memory: small facts.
-/
import Derived.Test.YtblfeahbpklgiaaGreatDoorRdKeep
import Derived.Test.YtblfeahbpklgiaaGreatDoorTxAssert
import Derived.Defers
import Derived.Recover
namespace Go.Proofs.YtblfeahbpklgiaaGreatDoor
open Go.RowKit
theorem ret_str {a b : ByteArray} (h : a = b) : Ending.returned (.string a) = .returned (.string b) := by rw [h]
theorem IsEx.le7 {ok : Nat → Prop} {w : World} (x : Ex) (v : Value) (h : IsEx ok w x v) : x.kind ≤ 7 := by
  obtain ⟨k, nm, l⟩ := x
  match k, h with
  | 0, _ => simp
  | 1, _ => simp
  | 2, _ => simp
  | 3, _ => simp
  | 4, _ => simp
  | 5, _ => simp
  | 6, _ => simp
  | 7, _ => simp
  | n + 8, h => simp only [IsEx] at h
/-- an expression's rows lie in blocks that are there -/
theorem IsEx.lt {ok : Nat → Prop} {w : World} : ∀ (x : Ex) (v : Value), IsEx ok w x v → IsEx (fun g => ok g ∧ g < w.heap.size) w x v := by
  intro x
  induction x using Ex.ind with
  | h k nm l ih =>
    intro v h
    have sub : ∀ (i : Nat) (P : Value → Prop), (l.map fun x => IsEx (fun g => ok g ∧ g < w.heap.size) w x)[i]? = some P → ∃ Q : Value → Prop, (l.map fun x => IsEx ok w x)[i]? = some Q ∧ ∀ u, Q u → P u := by
      intro i P hP
      rw [List.getElem?_map] at hP
      cases hl : l[i]? with
      | none => rw [hl] at hP; simp at hP
      | some y =>
        rw [hl] at hP
        simp only [Option.map_some, Option.some.injEq] at hP
        exact ⟨IsEx ok w y, by rw [List.getElem?_map, hl]; rfl, fun u hu => by rw [← hP]; exact ih y (List.mem_of_getElem? hl) u hu⟩
    have hlist : ∀ t, IsList ok w t l.length (l.map fun x => IsEx ok w x) v → IsList (fun g => ok g ∧ g < w.heap.size) w t l.length (l.map fun x => IsEx (fun g => ok g ∧ g < w.heap.size) w x) v := by
      rintro t ⟨h1, h2, g, cap, h3, h4, h5, h6⟩
      have hg : g < w.heap.size := by
        obtain ⟨u, hu, _⟩ := h6 0 (IsEx ok w l[0]) (by rw [List.getElem?_map, List.getElem?_eq_getElem (by omega)]; rfl)
        exact World.block_lt_of_cell? _ _ hu
      refine ⟨h1, h2, g, cap, h3, h4, ⟨h5, hg⟩, ?_⟩
      intro i P hP
      obtain ⟨Q, hQ, hq⟩ := sub i P hP
      obtain ⟨u, hu, hx⟩ := h6 i Q hQ
      exact ⟨u, hu, hq u hx⟩
    match k, h with
    | 0, h => simp only [IsEx] at h ⊢; exact h
    | 1, h => simp only [IsEx] at h ⊢; exact h
    | 2, h => simp only [IsEx] at h ⊢; exact h
    | 3, h => simp only [IsEx] at h ⊢; exact h
    | 4, h => simp only [IsEx] at h ⊢; exact h
    | 5, h =>
      simp only [IsEx] at h ⊢
      obtain ⟨h1, h2, u, h3, h4⟩ := h
      refine ⟨h1, h2, u, h3, ?_⟩
      intro P hP
      obtain ⟨Q, hQ, hq⟩ := sub 0 P hP
      exact hq u (h4 Q hQ)
    | 6, h => simp only [IsEx] at h ⊢; exact ⟨h.1, hlist _ h.2⟩
    | 7, h => simp only [IsEx] at h ⊢; exact ⟨h.1, hlist _ h.2⟩
    | n + 8, h => simp only [IsEx] at h
/-- an expression is an interface value -/
theorem IsEx.iface {ok : Nat → Prop} {w : World} (x : Ex) (v : Value) (h : IsEx ok w x v) : ∃ t y, v = .iface t y := by
  obtain ⟨k, nm, l⟩ := x
  match k, h with
  | 0, h => simp only [IsEx] at h; exact ⟨_, _, h.2.2⟩
  | 1, h => simp only [IsEx] at h; exact ⟨_, _, h.2.2⟩
  | 2, h => simp only [IsEx] at h; exact ⟨_, _, h.2.2⟩
  | 3, h => simp only [IsEx] at h; exact ⟨_, _, h.2.2⟩
  | 4, h => simp only [IsEx] at h; exact ⟨_, _, h.2.2⟩
  | 5, h => simp only [IsEx] at h; obtain ⟨_, _, u, h, _⟩ := h; exact ⟨_, _, h⟩
  | 6, h => simp only [IsEx] at h; obtain ⟨_, _, _, _, _, h, _⟩ := h; exact ⟨_, _, h⟩
  | 7, h => simp only [IsEx] at h; obtain ⟨_, _, _, _, _, h, _⟩ := h; exact ⟨_, _, h⟩
  | n + 8, h => simp only [IsEx] at h
/-- a function that is there -/
def Entered (K : Nat) : Prop := ∀ (args : Array Value) (w : World), (callFunc K args).run Tryz.prog w = .ok (.enter K args) w
end Go.Proofs.YtblfeahbpklgiaaGreatDoor
