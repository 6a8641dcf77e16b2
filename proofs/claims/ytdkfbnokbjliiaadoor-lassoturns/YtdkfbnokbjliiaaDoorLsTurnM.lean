/-
  Plain mathematics of the statement LassoTurns: a round may be turned, and gone twice.
-/
import Derived.Test.YtdkfbnokbjliiaaDoorLsHolds
namespace Go.Proofs.YtdkfbnokbjliiaaDoor
namespace Ls
theorem getD_left {α : Type} (l m : List α) (i : Nat) (d : α) (h : i < l.length) : (l ++ m).getD i d = l.getD i d := by
  rw [List.getD_eq_getElem?_getD, List.getD_eq_getElem?_getD, List.getElem?_append_left h]
theorem getD_right {α : Type} (l m : List α) (i : Nat) (d : α) : (l ++ m).getD (l.length + i) d = m.getD i d := by
  rw [List.getD_eq_getElem?_getD, List.getD_eq_getElem?_getD, List.getElem?_append_right (by omega), Nat.add_sub_cancel_left]
section
variable (A : List (List (List UInt8))) (R0 : List (List UInt8)) (Rt : List (List (List UInt8)))
def turnRel (n r i j : Nat) : Prop := (i = j ∧ j < n + r) ∨ (i = n ∧ j = n + r)
theorem turned_word : (A ++ [R0]) ++ (Rt ++ [R0]) = (A ++ R0 :: Rt) ++ [R0] := by simp
theorem turn_bis : Bis (A ++ R0 :: Rt) A.length ((A ++ [R0]) ++ (Rt ++ [R0])) (A.length + 1) (turnRel A.length (Rt.length + 1)) := by
  have hl : (A ++ R0 :: Rt).length = A.length + (Rt.length + 1) := by simp
  have hl' : ((A ++ [R0]) ++ (Rt ++ [R0])).length = A.length + (Rt.length + 1) + 1 := by simp; omega
  refine ⟨by omega, by omega, fun i j h => ?_, fun i j h => ?_, fun i j h => ?_⟩
  · rw [hl, hl']
    unfold turnRel at h
    omega
  · rw [turned_word]
    rcases h with ⟨rfl, h⟩ | ⟨rfl, rfl⟩
    · exact (getD_left (A ++ R0 :: Rt) [R0] i [] (by omega)).symm
    · have e := getD_right (A ++ R0 :: Rt) [R0] 0 ([] : List (List UInt8))
      rw [Nat.add_zero, hl] at e
      rw [e]
      have e2 := getD_right A (R0 :: Rt) 0 ([] : List (List UInt8))
      rw [Nat.add_zero] at e2
      rw [e2]
      rfl
  · rw [hl, hl']
    unfold turnRel at *
    unfold next
    rcases h with ⟨rfl, h⟩ | ⟨rfl, rfl⟩
    · by_cases h1 : i + 1 < A.length + (Rt.length + 1)
      · rw [if_pos h1, if_pos (by omega)]; omega
      · rw [if_neg h1, if_pos (by omega)]; omega
    · rw [if_neg (show ¬ A.length + (Rt.length + 1) + 1 < A.length + (Rt.length + 1) + 1 by omega)]
      by_cases h1 : A.length + 1 < A.length + (Rt.length + 1)
      · rw [if_pos h1]; omega
      · rw [if_neg h1]; omega
def twiceRel (n r i j : Nat) : Prop := (i = j ∧ j < n + r) ∨ (n ≤ i ∧ i < n + r ∧ j = i + r)
theorem twice_bis (R : List (List (List UInt8))) (hR : 0 < R.length) : Bis (A ++ R) A.length (A ++ (R ++ R)) A.length (twiceRel A.length R.length) := by
  have hl : (A ++ R).length = A.length + R.length := by simp
  have hl' : (A ++ (R ++ R)).length = A.length + R.length + R.length := by simp; omega
  refine ⟨by omega, by omega, fun i j h => ?_, fun i j h => ?_, fun i j h => ?_⟩
  · rw [hl, hl']
    unfold twiceRel at h
    omega
  · rw [← List.append_assoc]
    rcases h with ⟨rfl, h⟩ | ⟨h1, h2, rfl⟩
    · exact (getD_left (A ++ R) R i [] (by omega)).symm
    · obtain ⟨k, rfl⟩ : ∃ k, i = A.length + k := ⟨i - A.length, by omega⟩
      have e1 : A.length + k + R.length = (A ++ R).length + k := by omega
      rw [e1, getD_right, getD_right]
  · rw [hl, hl']
    unfold twiceRel at *
    unfold next
    rcases h with ⟨rfl, h⟩ | ⟨h1, h2, rfl⟩
    · by_cases h3 : i + 1 < A.length + R.length
      · rw [if_pos h3, if_pos (by omega)]; omega
      · rw [if_neg h3, if_pos (by omega)]; omega
    · by_cases h3 : i + 1 < A.length + R.length
      · rw [if_pos h3, if_pos (by omega)]; omega
      · rw [if_neg h3, if_neg (by omega)]; omega
end
theorem check_parts {A R : List (List (List UInt8))} (h : check A R = none) : A.any badRow = false ∧ R.any badRow = false := by
  unfold check at h
  by_cases h1 : R.length < 1 ∨ 60 < A.length + R.length
  · rw [if_pos h1] at h; cases h
  · rw [if_neg h1] at h
    by_cases h2 : (A.any badRow || R.any badRow) = true
    · rw [if_pos h2] at h; cases h
    · simpa using h2
theorem check_mk {A R : List (List (List UInt8))} (h0 : 0 < R.length) (h1 : A.length + R.length ≤ 60) (h2 : A.any badRow = false) (h3 : R.any badRow = false) : check A R = none := by
  unfold check
  rw [if_neg (by omega), h2, h3]
  rfl
theorem turned_check {A : List (List (List UInt8))} {R0 : List (List UInt8)} {Rt : List (List (List UInt8))} (h : check A (R0 :: Rt) = none) (h40 : A.length + 2 * (Rt.length + 1) ≤ 40) : check (A ++ [R0]) (Rt ++ [R0]) = none := by
  obtain ⟨h1, h2⟩ := check_parts h
  rw [List.any_cons, Bool.or_eq_false_iff] at h2
  refine check_mk (by simp) (by simp; omega) ?_ ?_
  · rw [List.any_append, h1]; simp [h2.1]
  · rw [List.any_append, h2.2]; simp [h2.1]
theorem twice_check {A R : List (List (List UInt8))} (h : check A R = none) (h40 : A.length + 2 * R.length ≤ 40) : check A (R ++ R) = none := by
  obtain ⟨h1, h2⟩ := check_parts h
  obtain ⟨h3, _⟩ := check_none h
  exact check_mk (by simp; omega) (by simp; omega) h1 (by rw [List.any_append, h2]; rfl)
end Ls
end Go.Proofs.YtdkfbnokbjliiaaDoor
