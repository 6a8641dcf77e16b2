/-
  The sizes of the first parts of a list: plain. An expression of the document's, later. Plain mathematics of chapter 1: the names in an expression; what it says hangs on them alone. Nothing of the program is named here. The walk of within: the parts right within an expression, as a slice.
-/
import Derived.Test.YtblfeahbpklgiaaGreatDoorExMath
import Derived.Test.YtblfeahbpklgiaaGreatDoorRpPiece
import Derived.Test.YtblfeahbpklgiaaGreatDoorExLe
namespace Go.Proofs.YtblfeahbpklgiaaGreatDoor
section
namespace Ex
theorem size_eq (k : Nat) (nm : List UInt8) (l : List Ex) : size ⟨k, nm, l⟩ = 1 + (l.map fun x => x.size).sum := by simp [size]
/-- the sizes of the first k, together -/
def sizes (l : List Ex) (k : Nat) : Nat := ((l.take k).map fun x => x.size).sum
theorem sizes_succ (l : List Ex) (k : Nat) (h : k < l.length) : sizes l (k + 1) = sizes l k + l[k].size := by
  unfold sizes
  rw [List.take_succ_eq_append_getElem h]
  simp only [List.map_append, List.sum_append, List.map_cons, List.map_nil, List.sum_cons, List.sum_nil, Nat.add_zero]
theorem sizes_le (l : List Ex) : ∀ j k, k + j = l.length → sizes l k ≤ sizes l l.length
  | 0, k, h => by
    have e : k = l.length := by omega
    rw [e]; exact Nat.le_refl _
  | j + 1, k, h => by
    have h1 := sizes_le l j (k + 1) (by omega)
    rw [sizes_succ l k (by omega)] at h1
    omega
theorem sizes_all (l : List Ex) : sizes l l.length = (l.map fun x => x.size).sum := by unfold sizes; rw [List.take_length]
end Ex
end
section
open Go.RowKit
theorem IsRx.later {ok : Nat → Prop} {w w' : World} {x : Ex} {g : Nat} (h : IsRx ok w x g) (hb : Below w.heap.size w w') : IsRx (fun _ => True) w' x g := IsRx.stay (Stay.below hb) (fun _ _ => trivial) x g h
end
section
namespace Ex
/-- the names in an expression, as they are met (all: also those of which it asks only what they are) -/
def named (all : Bool) : Ex → List (List UInt8)
  | ⟨2, n, _⟩ => if all then [n] else []
  | ⟨3, n, _⟩ => [n]
  | ⟨4, n, _⟩ => [n]
  | ⟨_, _, l⟩ => (l.map fun x => x.named all).flatten
theorem named2 (all : Bool) (n : List UInt8) (l : List Ex) : named all ⟨2, n, l⟩ = if all then [n] else [] := by simp [named]
theorem named3 (all : Bool) (n : List UInt8) (l : List Ex) : named all ⟨3, n, l⟩ = [n] := by simp [named]
theorem named4 (all : Bool) (n : List UInt8) (l : List Ex) : named all ⟨4, n, l⟩ = [n] := by simp [named]
theorem named_of (all : Bool) (k : Nat) (n : List UInt8) (l : List Ex) (h : k ≠ 2 ∧ k ≠ 3 ∧ k ≠ 4) : named all ⟨k, n, l⟩ = (l.map fun x => x.named all).flatten := by
  obtain ⟨h2, h3, h4⟩ := h
  match k, h2, h3, h4 with
  | 0, _, _, _ => simp [named]
  | 1, _, _, _ => simp [named]
  | k + 5, _, _, _ => simp [named]
/-- what it says hangs on its names alone, and on what those were of which it asks that -/
theorem eval_congr (is is' was was' : List UInt8 → Bool) (x : Ex) : (∀ n, n ∈ x.named true → is n = is' n) → (∀ n, n ∈ x.named false → was n = was' n) → x.eval is was = x.eval is' was' := by
  induction x using Ex.ind with
  | h k nm l ih =>
    intro h1 h2
    have sub : (k ≠ 2 ∧ k ≠ 3 ∧ k ≠ 4) → (l.map fun x => x.eval is was) = (l.map fun x => x.eval is' was') := by
      intro hk
      rw [named_of _ _ _ _ hk] at h1 h2
      apply List.map_congr_left
      intro y hy
      refine ih y hy (fun n hn => h1 n ?_) (fun n hn => h2 n ?_)
      · rw [List.mem_flatten]; exact ⟨_, List.mem_map_of_mem hy, hn⟩
      · rw [List.mem_flatten]; exact ⟨_, List.mem_map_of_mem hy, hn⟩
    match k, h1, h2, sub with
    | 0, _, _, _ => simp [eval]
    | 1, _, _, _ => simp [eval]
    | 2, h1, _, _ =>
      rw [named2] at h1
      simp only [eval]
      exact h1 nm (by simp)
    | 3, h1, h2, _ =>
      rw [named3] at h1 h2
      simp only [eval]
      rw [h1 nm (by simp), h2 nm (by simp)]
    | 4, h1, h2, _ =>
      rw [named4] at h1 h2
      simp only [eval]
      rw [h1 nm (by simp), h2 nm (by simp)]
    | 5, _, _, sub => simp only [eval]; rw [sub (by decide)]
    | 6, _, _, sub => simp only [eval]; rw [sub (by decide)]
    | k + 7, _, _, sub =>
      have := sub ⟨by omega, by omega, by omega⟩
      simp only [eval]; rw [this]
/-- those of which it asks what they were are among its names -/
theorem edges_names (x : Ex) : ∀ n, n ∈ x.named false → n ∈ x.named true := by
  induction x using Ex.ind with
  | h k nm l ih =>
    intro n hn
    by_cases h2 : k = 2
    · subst h2; rw [named2] at hn; simp at hn
    by_cases h3 : k = 3
    · subst h3; rw [named3] at hn ⊢; exact hn
    by_cases h4 : k = 4
    · subst h4; rw [named4] at hn ⊢; exact hn
    rw [named_of _ _ _ _ ⟨h2, h3, h4⟩, List.mem_flatten] at hn ⊢
    obtain ⟨a, ha, hn⟩ := hn
    obtain ⟨y, hy, rfl⟩ := List.mem_map.1 ha
    exact ⟨_, List.mem_map_of_mem hy, ih y hy n hn⟩
/-- there are no more names than parts -/
theorem named_le (all : Bool) (x : Ex) : (x.named all).length ≤ x.size := by
  induction x using Ex.ind with
  | h k nm l ih =>
    have hs : size ⟨k, nm, l⟩ = 1 + (l.map fun x => x.size).sum := by simp [size]
    rw [hs]
    by_cases h2 : k = 2
    · subst h2; rw [named2]; cases all <;> simp
    by_cases h3 : k = 3
    · subst h3; rw [named3]; simp
    by_cases h4 : k = 4
    · subst h4; rw [named4]; simp
    rw [named_of _ _ _ _ ⟨h2, h3, h4⟩, List.length_flatten, List.map_map]
    have : (l.map (List.length ∘ fun x => x.named all)).sum ≤ (l.map fun x => x.size).sum := by
      clear hs h2 h3 h4
      induction l with
      | nil => simp
      | cons a r ihr =>
        have h1 := ih a (by simp)
        have h2 := ihr (fun y hy => ih y (by simp [hy]))
        simp only [List.map_cons, List.sum_cons, Function.comp] at *
        omega
    omega
end Ex
end
section
open Go.RowKit
theorem ret_int {a b : Int} (h : a = b) : Ending.returned (.int .i64 a) = .returned (.int .i64 b) := by rw [h]
/-- a slice of expressions -/
def Parts (w : World) (sv : Value) (xs : List Ex) : Prop :=
  (xs = [] ∧ sv = .slice none 0 0) ∨ ∃ g cap, sv = .slice (some ⟨g, 0, none⟩) xs.length cap ∧ xs.length ≤ cap ∧ xs.length ≤ 9223372036854775807 ∧ ∀ (k : Nat) (x : Ex), xs[k]? = some x → ∃ u, w.cell? ⟨g, k, none⟩ = some u ∧ IsEx (fun _ => True) w x u
theorem Parts.below {w w' : World} {sv : Value} {xs : List Ex} (h : Parts w sv xs) (hb : Below w.heap.size w w') : Parts w' sv xs := by
  rcases h with h | ⟨g, cap, h1, h2, h3, h4⟩
  · exact .inl h
  · refine .inr ⟨g, cap, h1, h2, h3, fun k x hx => ?_⟩
    obtain ⟨u, hu, he⟩ := h4 k x hx
    exact ⟨u, Stay.below (ok := fun _ => True) hb g k u trivial hu, IsEx.stay (Stay.below hb) (fun g hg => hg) x u he⟩
set_option maxHeartbeats 1000000 in
theorem within_parts (x : Ex) (v : Value) (w : World) (h : IsEx (fun _ => True) w x v) :
    Calls Tryz.prog 46 #[v] w fun e w' => ∃ sv, e = .returned sv ∧ Parts w' sv x.of ∧ Below w.heap.size w w' := by
  obtain ⟨k, nm, l⟩ := x
  match k, h with
  | 0, h =>
    simp only [IsEx] at h
    obtain ⟨_, hl, rfl⟩ := h
    go_enter Tryz.func46, Tryz.ntmps46
    go_wp2
    go_ret
    exact ⟨_, rfl, .inl ⟨hl, rfl⟩, Below.refl _ _⟩
  | 1, h =>
    simp only [IsEx] at h
    obtain ⟨_, hl, rfl⟩ := h
    go_enter Tryz.func46, Tryz.ntmps46
    go_wp2
    go_ret
    exact ⟨_, rfl, .inl ⟨hl, rfl⟩, Below.refl _ _⟩
  | 2, h =>
    simp only [IsEx] at h
    obtain ⟨hl, _, rfl⟩ := h
    go_enter Tryz.func46, Tryz.ntmps46
    go_wp2
    go_ret
    exact ⟨_, rfl, .inl ⟨hl, rfl⟩, Below.refl _ _⟩
  | 3, h =>
    simp only [IsEx] at h
    obtain ⟨hl, _, rfl⟩ := h
    go_enter Tryz.func46, Tryz.ntmps46
    go_wp2
    go_ret
    exact ⟨_, rfl, .inl ⟨hl, rfl⟩, Below.refl _ _⟩
  | 4, h =>
    simp only [IsEx] at h
    obtain ⟨hl, _, rfl⟩ := h
    go_enter Tryz.func46, Tryz.ntmps46
    go_wp2
    go_ret
    exact ⟨_, rfl, .inl ⟨hl, rfl⟩, Below.refl _ _⟩
  | 5, h =>
    simp only [IsEx] at h
    obtain ⟨_, h1, u, rfl, h3⟩ := h
    match l, h1 with
    | [y], _ =>
      have hy : IsEx (fun _ => True) w y u := h3 _ rfl
      obtain ⟨tu, yu, hiu⟩ := IsEx.iface y u hy
      subst hiu
      have HY := hide hy
      clear h3 hy
      go_enter Tryz.func46, Tryz.ntmps46
      go_wp2
      go_ret
      have hb : Below w.heap.size w ((w.alloc (.cells #[.iface tu yu] 104)).alloc (.cells #[.iface tu yu] 23)) := ((Below.refl _ w).alloc (Nat.le_refl _) _).alloc (by simp) _
      refine ⟨_, rfl, .inr ⟨w.heap.size + 1, 1, rfl, by simp, by simp, ?_⟩, hb⟩
      intro k x hk
      match k, hk with
      | 0, hk =>
        simp only [List.getElem?_cons_zero, Option.some.injEq] at hk
        subst hk
        exact ⟨_, by simp [go_sem], IsEx.stay (Stay.below hb) (fun g hg => hg) y _ HY.out⟩
      | k + 1, hk => simp at hk
  | 6, h =>
    simp only [IsEx] at h
    obtain ⟨_, _, h3, g, cap, rfl, h4, _, hr⟩ := h
    have HR := hide hr
    clear hr
    have hcap := h4
    generalize hn : l.length = n at *
    have HN := hide hn
    clear hn
    go_enter Tryz.func46, Tryz.ntmps46
    go_wp2
    go_ret
    exact ⟨.slice (some ⟨g, 0, none⟩) n cap, rfl, .inr ⟨g, cap, by show _ = Value.slice _ l.length cap; rw [HN.out], by show l.length ≤ cap; rw [HN.out]; exact h4, by show l.length ≤ _; rw [HN.out]; exact h3, fun k x hx => HR.out k _ (by rw [List.getElem?_map, hx]; rfl)⟩, Below.refl _ _⟩
  | 7, h =>
    simp only [IsEx] at h
    obtain ⟨_, _, h3, g, cap, rfl, h4, _, hr⟩ := h
    have HR := hide hr
    clear hr
    have hcap := h4
    generalize hn : l.length = n at *
    have HN := hide hn
    clear hn
    go_enter Tryz.func46, Tryz.ntmps46
    go_wp2
    go_ret
    exact ⟨.slice (some ⟨g, 0, none⟩) n cap, rfl, .inr ⟨g, cap, by show _ = Value.slice _ l.length cap; rw [HN.out], by show l.length ≤ cap; rw [HN.out]; exact h4, by show l.length ≤ _; rw [HN.out]; exact h3, fun k x hx => HR.out k _ (by rw [List.getElem?_map, hx]; rfl)⟩, Below.refl _ _⟩
  | n + 8, h => simp only [IsEx] at h
end
end Go.Proofs.YtblfeahbpklgiaaGreatDoor
