/-
  Plain mathematics of promise 10.1 as the document's own count goes: a formula of so many parts within so many Nots: what is wrong with it.
-/
import Derived.Test.YtmdblokmplbpmaaDoorLsMath
namespace Go.Proofs.YtmdblokmplbpmaaDoor
namespace Ls
def truth : Fm := ⟨false, 2, [], []⟩
def nilF : Fm := ⟨true, 0, [], []⟩
def root (k : Int) (nm : List UInt8) (m : Nat) : Fm := ⟨false, k, nm, List.replicate m truth⟩
def nots : Nat → Fm → Fm
  | 0, x => x
  | n + 1, x => ⟨false, 3, [], [nots n x]⟩
def pairN : Fm := ⟨false, 4, [], [truth, nilF]⟩
/-- what is wrong with the root, wherever it stands -/
def ownN (k : Int) (nm : List UInt8) (m : Nat) : Nat := if k < 1 ∨ 10 < k ∨ m ≠ partsOf k ∨ (k ≠ 1 ∧ nm ≠ []) then 1 else if k = 1 ∧ Nm.name nm = false then 5 else 0
def askN (k : Int) (nm : List UInt8) (m d : Nat) : Nat := if 20 < d + 1 ∨ (ownN k nm m = 0 ∧ 0 < m ∧ 20 < d + 2) then 4 else ownN k nm m
theorem wrongN_own (k : Int) (nm : List UInt8) (m a : Nat) : wrongN false k nm m a = if 19 < a then 4 else ownN k nm m := by
  unfold wrongN ownN
  rw [if_neg (by decide)]
  by_cases h1 : 19 < a
  · rw [if_pos h1, if_pos h1]
  rw [if_neg h1, if_neg h1]
  by_cases h2 : k < 1 ∨ 10 < k ∨ m ≠ partsOf k
  · rw [if_pos h2, if_pos (h2.elim .inl fun h => h.elim (fun h => .inr (.inl h)) fun h => .inr (.inr (.inl h)))]
  rw [if_neg h2]
  by_cases h3 : k ≠ 1 ∧ nm ≠ []
  · rw [if_pos h3, if_pos (.inr (.inr (.inr h3)))]
  · rw [if_neg h3, if_neg (c := k < 1 ∨ 10 < k ∨ m ≠ partsOf k ∨ (k ≠ 1 ∧ nm ≠ [])) (fun h => h.elim (fun h => h2 (.inl h)) fun h => h.elim (fun h => h2 (.inr (.inl h))) fun h => h.elim (fun h => h2 (.inr (.inr h))) h3)]
theorem count_truth (b : Nat) : count truth b = if 19 < b then (0, 4) else (1, 0) := by
  unfold truth
  rw [count_eq, wrongN_own]
  by_cases h : 19 < b
  · simp [h]
  · have : ownN 2 [] 0 = 0 := by decide
    simp [h, this, tally]
theorem tally_one : ∀ (m n : Nat), tally (List.replicate m (1, 0)) n = (n + m, 0)
  | 0, n => rfl
  | m + 1, n => by
    rw [List.replicate_succ, tally, if_neg (by decide), tally_one m (n + 1)]
    simp only [Prod.mk.injEq, and_true]
    omega
theorem count_root (k : Int) (nm : List UInt8) (m a : Nat) : (count (root k nm m) a).2 = askN k nm m a ∧ (count (root k nm m) a).1 ≤ 1 + m := by
  unfold root askN
  rw [count_eq, List.length_replicate, wrongN_own, List.map_replicate, count_truth]
  by_cases h1 : 19 < a
  · have h2 : 20 < a + 1 := by omega
    simp [h1, h2]
  rw [if_neg h1]
  by_cases h2 : ownN k nm m = 0
  · rw [h2, if_neg (by decide)]
    by_cases h3 : 19 < a + 1
    · rw [if_pos h3]
      cases m with
      | zero =>
        rw [if_neg (by omega)]
        exact ⟨rfl, by simp [tally]⟩
      | succ m =>
        rw [if_pos (.inr ⟨rfl, by omega, by omega⟩), List.replicate_succ, tally, if_pos (by decide)]
        exact ⟨rfl, by simp⟩
    · rw [if_neg h3, if_neg (by omega), tally_one]
      exact ⟨rfl, by simp⟩
  · rw [if_pos h2, if_neg (by omega)]
    exact ⟨rfl, by simp⟩
theorem count_nots (k : Int) (nm : List UInt8) (m : Nat) : ∀ (n a : Nat), (count (nots n (root k nm m)) a).2 = askN k nm m (a + n) ∧ (count (nots n (root k nm m)) a).1 ≤ n + (1 + m)
  | 0, a => by
    have := count_root k nm m a
    rw [nots]
    exact ⟨this.1, by omega⟩
  | n + 1, a => by
    have ih := count_nots k nm m n (a + 1)
    have e0 : ownN 3 [] 1 = 0 := by decide
    rw [nots, count_eq, List.length_singleton, wrongN_own, e0]
    by_cases h1 : 19 < a
    · rw [if_pos h1, if_pos (by decide)]
      refine ⟨?_, by simp⟩
      unfold askN
      rw [if_pos (.inl (by omega))]
    · rw [if_neg h1, if_neg (by decide), List.map_singleton, tally]
      have e1 : a + (n + 1) = a + 1 + n := by omega
      rw [e1, ← ih.1]
      by_cases h2 : (count (nots n (root k nm m)) (a + 1)).2 = 0
      · rw [if_neg (by simpa using h2), tally, h2]
        exact ⟨rfl, by simp only; omega⟩
      · rw [if_pos h2]
        exact ⟨rfl, by simp⟩
theorem right_nots (k : Int) (nm : List UInt8) (m d : Nat) (hm : m ≤ 3) (hd : d ≤ 24) : (right (nots d (root k nm m))).getD 0 = askN k nm m d := by
  have h := count_nots k nm m d 0
  rw [Nat.zero_add] at h
  unfold right
  by_cases h2 : (count (nots d (root k nm m)) 0).2 = 0
  · rw [if_neg (by simpa using h2), if_neg (by omega), ← h.1, h2]
    rfl
  · rw [if_pos h2, ← h.1]
    rfl
theorem count_nil (a : Nat) : count nilF a = (0, 7) := by
  unfold nilF
  rw [count_eq]
  simp [wrongN]
theorem right_nil : right nilF = some 7 := by
  unfold right
  rw [count_nil, if_pos (by decide)]
theorem right_pair : right pairN = some 7 := by
  have e : count pairN 0 = (0, 7) := by
    unfold pairN
    have e0 : ownN 4 [] 2 = 0 := by decide
    rw [count_eq, show ([truth, nilF] : List Fm).length = 2 from rfl, wrongN_own, if_neg (c := 19 < 0) (by decide), e0, if_neg (by decide)]
    simp [count_truth, count_nil, tally]
  unfold right
  rw [e, if_pos (by decide)]
end Ls
end Go.Proofs.YtmdblokmplbpmaaDoor
