/-
  What a table that check passes is like.
-/
import Derived.Test.YtmniiclmimidjaaDoorRjTrackT
namespace Go.Proofs.YtmniiclmimidjaaDoor
namespace Ro
theorem ok_of (t : Tbl) (h : check t = none) : sized t = true ∧ ∀ r, r ∈ t.rts → wrongR t.secs t.pts r = 0 := by
  unfold check at h
  split at h
  · cases h
  · rename_i h1
    refine ⟨by simpa using h1, fun r hr => ?_⟩
    have hf : firstBad t = none := by
      cases hc : firstBad t with
      | none => rfl
      | some i => rw [hc] at h; cases h
    unfold firstBad at hf
    rw [List.findIdx?_eq_none_iff] at hf
    simpa using hf r hr
theorem wrong_zero (s p : Int) (r : Rt) (h : wrongR s p r = 0) : beyond r.secs s = false ∧ beyond (nums r) p = false := by
  unfold wrongR at h
  split at h
  · cases h
  · split at h
    · cases h
    · rename_i h2
      simpa using h2
theorem beyond_mem {l : List Int} {m : Int} (h : beyond l m = false) (x : Int) (hx : x ∈ l) : 0 ≤ x ∧ x ≤ m - 1 := by
  unfold beyond at h
  rw [List.any_eq_false] at h
  have := h x hx
  unfold fromTo at this
  simp at this
  omega
theorem beyond_of {l : List Int} {m : Int} (h : ∀ x, x ∈ l → 0 ≤ x ∧ x ≤ m - 1) : beyond l m = false := by
  unfold beyond
  rw [List.any_eq_false]
  intro x hx
  have := h x hx
  unfold fromTo
  simp
  omega
theorem fine_short (t : Tbl) (h : check t = none) (h8 : t.rts.length ≤ 8) (h20 : ∀ r, r ∈ t.rts → r.secs.length ≤ 20 ∧ r.pts.length ≤ 20) : Short t ∧ ∀ r, r ∈ t.rts → beyond (nums r) 100 = false := by
  obtain ⟨h1, h2⟩ := ok_of t h
  obtain ⟨hs, hp, hn⟩ := (sized_iff t).1 h1
  have hb : ∀ r, r ∈ t.rts → ∀ q, q ∈ r.pts → 0 ≤ q.1 ∧ q.1 ≤ t.pts - 1 := fun r hr q hq => beyond_mem (wrong_zero _ _ r (h2 r hr)).2 q.1 (List.mem_map.2 ⟨q, hq, rfl⟩)
  refine ⟨⟨h8, by omega, by omega, fun r hr => ⟨(h20 r hr).1, fun s hs' => ?_⟩, fun r hr => ⟨(h20 r hr).2, fun q hq => ?_⟩⟩, fun r hr => beyond_of fun x hx => ?_⟩
  · have := beyond_mem (wrong_zero _ _ r (h2 r hr)).1 s hs'
    omega
  · have := hb r hr q hq
    omega
  · obtain ⟨q, hq, rfl⟩ := List.mem_map.1 hx
    have := hb r hr q hq
    omega
theorem flt_zero (t : Tbl) : check t = none ∨ (flt (check t)).1 ≠ 0 := by
  unfold check
  split
  · exact .inr (by decide)
  · cases hc : firstBad t with
    | none => exact .inl rfl
    | some i =>
      refine .inr ?_
      unfold firstBad at hc
      rw [List.findIdx?_eq_some_iff_getElem] at hc
      obtain ⟨hi, h1, _⟩ := hc
      have e : t.rts.getD i ⟨[], []⟩ = t.rts[i] := by simp [hi]
      show ((wrongR t.secs t.pts (t.rts.getD i ⟨[], []⟩) : Nat) : Int) ≠ 0
      rw [e]
      have : wrongR t.secs t.pts t.rts[i] ≠ 0 := by simpa using h1
      omega
end Ro
end Go.Proofs.YtmniiclmimidjaaDoor
