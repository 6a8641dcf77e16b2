/-
  Plain mathematics of the document's looking on: times folded into a word, and what holds until, told by looking on for two rounds.
-/
import Derived.Test.YtmdblokmplbpmaaDoorLsMath
namespace Go.Proofs.YtmdblokmplbpmaaDoor
namespace Ls
/-- a time beyond the word's last one, folded into its round -/
def fold (N r i : Nat) : Nat := if i < N then i else r + (i - r) % (N - r)
theorem fold_small {N r i : Nat} (h : i < N) : fold N r i = i := if_pos h
theorem fold_round {N r i : Nat} (_hr : r < N) (h : r ≤ i) : fold N r i = r + (i - r) % (N - r) := by
  unfold fold
  by_cases hi : i < N
  · rw [if_pos hi, Nat.mod_eq_of_lt (by omega)]; omega
  · rw [if_neg hi]
theorem fold_lt {N r : Nat} (hr : r < N) (i : Nat) : fold N r i < N := by
  unfold fold
  by_cases hi : i < N
  · rw [if_pos hi]; exact hi
  · rw [if_neg hi]
    have := Nat.mod_lt (i - r) (show N - r > 0 by omega)
    omega
theorem next_fold {N r : Nat} (hr : r < N) (i : Nat) : next N r (fold N r i) = fold N r (i + 1) := by
  by_cases h : r ≤ i
  · rw [fold_round hr h, fold_round hr (by omega)]
    have hc : 0 < N - r := by omega
    have hm := Nat.mod_lt (i - r) hc
    have e1 : i + 1 - r = (i - r) + 1 := by omega
    unfold next
    by_cases h1 : r + (i - r) % (N - r) + 1 < N
    · rw [if_pos h1, e1, Nat.add_mod, Nat.mod_eq_of_lt (a := (i - r) % (N - r) + 1 % (N - r))]
      · by_cases h2 : N - r = 1
        · omega
        · rw [Nat.mod_eq_of_lt (show 1 < N - r by omega)]; omega
      · by_cases h2 : N - r = 1
        · omega
        · rw [Nat.mod_eq_of_lt (show 1 < N - r by omega)]; omega
    · rw [if_neg h1]
      have h3 : (i - r) % (N - r) + 1 = N - r := by omega
      have h4 : (i - r + 1) % (N - r) = 0 := by
        rw [← Nat.mod_add_mod, h3, Nat.mod_self]
      rw [e1, h4]; rfl
  · rw [fold_small (by omega)]
    unfold next
    rw [if_pos (by omega), fold_small (by omega)]
theorem steps_fold {N r : Nat} (hr : r < N) : ∀ (k i : Nat), steps N r k (fold N r i) = fold N r (i + k)
  | 0, i => rfl
  | k + 1, i => by rw [steps, next_fold hr, steps_fold hr k (i + 1)]; congr 1; omega
theorem steps_at {N r t : Nat} (hr : r < N) (ht : t < N) (k : Nat) : steps N r k t = fold N r (t + k) := by
  have := steps_fold hr k t
  rwa [fold_small ht] at this
/-- each time is met within a round -/
theorem fold_met {N r m : Nat} (hr : r < N) (hm : r ≤ m) (i : Nat) (hi : m ≤ i) : ∃ j, m ≤ j ∧ j < m + (N - r) ∧ fold N r j = fold N r i := by
  have hc : 0 < N - r := by omega
  refine ⟨m + (i - m) % (N - r), by omega, by have := Nat.mod_lt (i - m) hc; omega, ?_⟩
  rw [fold_round hr (by omega), fold_round hr (by omega)]
  have e1 : m + (i - m) % (N - r) - r = (m - r) + (i - m) % (N - r) := by omega
  have e2 : i - r = (m - r) + (i - m) := by omega
  rw [e1, e2, Nat.add_mod_mod]
section
variable {N r t : Nat} (hr : r < N) (ht : t < N) (p q : Nat → Bool)
include hr ht
theorem unt_hit (k : Nat) (hk : t ≤ k) (h : ∀ j, t ≤ j → j < k → p (fold N r j) = true) (hq : q (fold N r k) = true) : unt N r p q t = true := by
  rw [unt_iff hr p q t ht]
  refine ⟨k - t, ?_, fun j hj => ?_⟩
  · rw [steps_at hr ht, show t + (k - t) = k by omega]; exact hq
  · rw [steps_at hr ht]; exact h (t + j) (by omega) (by omega)
theorem unt_miss (k : Nat) (hk : t ≤ k) (h : ∀ j, t ≤ j → j < k → q (fold N r j) = false) (hq : q (fold N r k) = false) (hp : p (fold N r k) = false) : unt N r p q t = false := by
  cases hu : unt N r p q t with
  | false => rfl
  | true =>
    rw [unt_iff hr p q t ht] at hu
    obtain ⟨c, h1, h2⟩ := hu
    rw [steps_at hr ht] at h1
    by_cases hc : t + c < k
    · rw [h (t + c) (by omega) hc] at h1; cases h1
    · by_cases he : t + c = k
      · rw [he, hq] at h1; cases h1
      · have := h2 (k - t) (by omega)
        rw [steps_at hr ht, show t + (k - t) = k by omega, hp] at this
        cases this
theorem unt_end (h : ∀ j, t ≤ j → j < max t r + 2 * (N - r) → q (fold N r j) = false) : unt N r p q t = false := by
  cases hu : unt N r p q t with
  | false => rfl
  | true =>
    rw [unt_iff hr p q t ht] at hu
    obtain ⟨c, h1, h2⟩ := hu
    rw [steps_at hr ht] at h1
    by_cases hc : t + c < max t r + 2 * (N - r)
    · rw [h (t + c) (by omega) hc] at h1; cases h1
    · obtain ⟨j, hj1, hj2, hj3⟩ := fold_met hr (Nat.le_max_right t r) (t + c) (by omega)
      rw [← hj3, h j (by have := Nat.le_max_left t r; omega) (by omega)] at h1
      cases h1
end
end Ls
end Go.Proofs.YtmdblokmplbpmaaDoor
