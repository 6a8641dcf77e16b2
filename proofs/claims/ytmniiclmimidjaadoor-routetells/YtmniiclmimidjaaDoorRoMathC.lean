/-
  Plain mathematics of promise 11.1: routes, and which clash.
-/
import Derived.Test.YtmniiclmimidjaaDoorRows
namespace Go.Proofs.YtmniiclmimidjaaDoor
namespace Ro
/-- a route: its sections, and its points with how they lie -/
structure Rt where
  secs : List Int
  pts : List (Int × Bool)
def clash (a b : Rt) : Bool := (b.secs.any fun s => a.secs.contains s) || (b.pts.any fun p => a.pts.contains (p.1, !p.2))
theorem clash_iff (a b : Rt) : clash a b = true ↔ (∃ s, s ∈ a.secs ∧ s ∈ b.secs) ∨ ∃ n o, (n, o) ∈ b.pts ∧ (n, !o) ∈ a.pts := by
  unfold clash
  rw [Bool.or_eq_true, List.any_eq_true, List.any_eq_true]
  constructor
  · rintro (⟨s, h1, h2⟩ | ⟨⟨n, o⟩, h1, h2⟩)
    · exact .inl ⟨s, by simpa using h2, h1⟩
    · exact .inr ⟨n, o, h1, by simpa using h2⟩
  · rintro (⟨s, h1, h2⟩ | ⟨n, o, h1, h2⟩)
    · exact .inl ⟨s, h2, by simpa using h1⟩
    · exact .inr ⟨(n, o), h1, by simpa using h2⟩
theorem clash_comm (a b : Rt) : clash a b = clash b a := by
  rw [Bool.eq_iff_iff, clash_iff, clash_iff]
  constructor
  · rintro (⟨s, h1, h2⟩ | ⟨n, o, h1, h2⟩)
    · exact .inl ⟨s, h2, h1⟩
    · exact .inr ⟨n, !o, h2, by rw [Bool.not_not]; exact h1⟩
  · rintro (⟨s, h1, h2⟩ | ⟨n, o, h1, h2⟩)
    · exact .inl ⟨s, h2, h1⟩
    · exact .inr ⟨n, !o, h2, by rw [Bool.not_not]; exact h1⟩
theorem clash_share (a b : Rt) (s : Int) (h1 : s ∈ a.secs) (h2 : s ∈ b.secs) : clash a b = true := (clash_iff a b).2 (.inl ⟨s, h1, h2⟩)
end Ro
end Go.Proofs.YtmniiclmimidjaaDoor
