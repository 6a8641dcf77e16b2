/-
  Plain mathematics of chapter 1: the names in an expression; what it says hangs on them alone. Nothing of the program is named here.
-/
import Derived.Test.YtbimjhgngohhoaaExMath
namespace Go.Proofs.Ytbimjhgngohhoaa
namespace Ex
/-- the names in an expression, as they are met (all: also those of which it asks only what they are) -/
def named (all : Bool) : Ex → List (List UInt8)
  | ⟨2, n, _⟩ => if all then [n] else []
  | ⟨3, n, _⟩ => [n]
  | ⟨4, n, _⟩ => [n]
  | ⟨_, _, l⟩ => (l.map fun x => x.named all).flatten
theorem named2 (all : Bool) (n : List UInt8) (l : List Ex) : named all ⟨2, n, l⟩ = if all then [n] else [] := by simp [named]
theorem named3 (all : Bool) (n : List UInt8) (l : List Ex) : named all ⟨3, n, l⟩ = [n] := by simp [named]
theorem named4 (all : Bool) (n : List UInt8) (l : List Ex) : named all ⟨4, n, l⟩ = [n] := by simp [named]
theorem named_of (all : Bool) (k : Nat) (n : List UInt8) (l : List Ex) (h : k ≠ 2 ∧ k ≠ 3 ∧ k ≠ 4) : named all ⟨k, n, l⟩ = (l.map fun x => x.named all).flatten := by
  obtain ⟨h2, h3, h4⟩ := h
  match k, h2, h3, h4 with
  | 0, _, _, _ => simp [named]
  | 1, _, _, _ => simp [named]
  | k + 5, _, _, _ => simp [named]
/-- what it says hangs on its names alone, and on what those were of which it asks that -/
theorem eval_congr (is is' was was' : List UInt8 → Bool) (x : Ex) : (∀ n, n ∈ x.named true → is n = is' n) → (∀ n, n ∈ x.named false → was n = was' n) → x.eval is was = x.eval is' was' := by
  induction x using Ex.ind with
  | h k nm l ih =>
    intro h1 h2
    have sub : (k ≠ 2 ∧ k ≠ 3 ∧ k ≠ 4) → (l.map fun x => x.eval is was) = (l.map fun x => x.eval is' was') := by
      intro hk
      rw [named_of _ _ _ _ hk] at h1 h2
      apply List.map_congr_left
      intro y hy
      refine ih y hy (fun n hn => h1 n ?_) (fun n hn => h2 n ?_)
      · rw [List.mem_flatten]; exact ⟨_, List.mem_map_of_mem hy, hn⟩
      · rw [List.mem_flatten]; exact ⟨_, List.mem_map_of_mem hy, hn⟩
    match k, h1, h2, sub with
    | 0, _, _, _ => simp [eval]
    | 1, _, _, _ => simp [eval]
    | 2, h1, _, _ =>
      rw [named2] at h1
      simp only [eval]
      exact h1 nm (by simp)
    | 3, h1, h2, _ =>
      rw [named3] at h1 h2
      simp only [eval]
      rw [h1 nm (by simp), h2 nm (by simp)]
    | 4, h1, h2, _ =>
      rw [named4] at h1 h2
      simp only [eval]
      rw [h1 nm (by simp), h2 nm (by simp)]
    | 5, _, _, sub => simp only [eval]; rw [sub (by decide)]
    | 6, _, _, sub => simp only [eval]; rw [sub (by decide)]
    | k + 7, _, _, sub =>
      have := sub ⟨by omega, by omega, by omega⟩
      simp only [eval]; rw [this]
/-- those of which it asks what they were are among its names -/
theorem edges_names (x : Ex) : ∀ n, n ∈ x.named false → n ∈ x.named true := by
  induction x using Ex.ind with
  | h k nm l ih =>
    intro n hn
    by_cases h2 : k = 2
    · subst h2; rw [named2] at hn; simp at hn
    by_cases h3 : k = 3
    · subst h3; rw [named3] at hn ⊢; exact hn
    by_cases h4 : k = 4
    · subst h4; rw [named4] at hn ⊢; exact hn
    rw [named_of _ _ _ _ ⟨h2, h3, h4⟩, List.mem_flatten] at hn ⊢
    obtain ⟨a, ha, hn⟩ := hn
    obtain ⟨y, hy, rfl⟩ := List.mem_map.1 ha
    exact ⟨_, List.mem_map_of_mem hy, ih y hy n hn⟩
/-- there are no more names than parts -/
theorem named_le (all : Bool) (x : Ex) : (x.named all).length ≤ x.size := by
  induction x using Ex.ind with
  | h k nm l ih =>
    have hs : size ⟨k, nm, l⟩ = 1 + (l.map fun x => x.size).sum := by simp [size]
    rw [hs]
    by_cases h2 : k = 2
    · subst h2; rw [named2]; cases all <;> simp
    by_cases h3 : k = 3
    · subst h3; rw [named3]; simp
    by_cases h4 : k = 4
    · subst h4; rw [named4]; simp
    rw [named_of _ _ _ _ ⟨h2, h3, h4⟩, List.length_flatten, List.map_map]
    have : (l.map (List.length ∘ fun x => x.named all)).sum ≤ (l.map fun x => x.size).sum := by
      clear hs h2 h3 h4
      induction l with
      | nil => simp
      | cons a r ihr =>
        have h1 := ih a (by simp)
        have h2 := ihr (fun y hy => ih y (by simp [hy]))
        simp only [List.map_cons, List.sum_cons, Function.comp] at *
        omega
    omega
end Ex
end Go.Proofs.Ytbimjhgngohhoaa
