/-
  Slices of strings that came in, as the walks want them.
-/
import Derived.Test.YtbimjhgngohhoaaKeStrs
import Derived.SliceStrings
namespace Go.Proofs.Ytbimjhgngohhoaa
open Go.RowKit
open Go.ChangeShapes
theorem Strs.mk (W : World) (a : Addr) (len cap : Nat) (ss : List ByteArray) (hl : len ≤ cap) (hz : ss.length = cap) (hcell : ∀ i, i < ss.length → W.cell? (a.add i) = some (.string (ss.getD i ByteArray.empty))) (hlen : len ≤ 1000000) :
    Strs W (.slice (some a) len cap) (ss.take len) := by
  by_cases h0 : len = 0
  · subst h0
    exact .inl ⟨by simp, some a, cap, rfl⟩
  · obtain ⟨b, off, spot⟩ := a
    have hc := hcell 0 (by omega)
    have hspot : spot = none := by simpa [Addr.add] using World.cell?_spot hc
    subst hspot
    have hle : (ss.take len).length = len := by rw [List.length_take]; omega
    refine .inr ⟨b, off, cap, by rw [hle], by rw [hle]; exact hl, by rw [hle]; exact hlen, ?_⟩
    intro k s hk
    have hkl : k < len := by
      by_cases h : k < len
      · exact h
      · rw [List.getElem?_eq_none (by rw [hle]; omega)] at hk; cases hk
    have h1 := hcell k (by omega)
    rw [List.getElem?_take_of_lt hkl, List.getElem?_eq_getElem (by omega)] at hk
    simp only [Option.some.injEq] at hk
    have e : ss.getD k ByteArray.empty = s := by rw [← hk, List.getD_eq_getElem?_getD, List.getElem?_eq_getElem (by omega)]; rfl
    rw [e] at h1
    cases k <;> simpa [Addr.add] using h1
/-- what a walk is told of a slice of strings that came in -/
def InStrs (W : World) (a : Option Addr) (n c : Nat) (ss : List ByteArray) : Prop := n ≤ 9223372036854775807 ∧ (n ≤ 1000000 → Strs W (.slice a n c) ss)
theorem in_strs {H : Type} {enc : TypeId × Value → H} {W : World} {a : Option Addr} {n c : Nat} {d : DataW H} {p : List MemPlace} (h : DataW.Trod enc Try.prog W 0 (fun _ => true) true 33 (.slice a n c) d p) : ∃ ss, InStrs W a n c ss := by
  obtain ⟨fuel, hf⟩ := h
  rcases open_strings Try.underlying33 Try.underlying9 (by kernel_rfl) hf with ⟨hcs, _⟩ | ⟨x, l, cc, ss, hcs, _, hl, hm, hz, _, hcell, _⟩
  · simp [Value.cells] at hcs
    obtain ⟨rfl, rfl, rfl⟩ := hcs
    exact ⟨[], by decide, fun _ => .inl ⟨rfl, _, _, rfl⟩⟩
  · simp [Value.cells] at hcs
    obtain ⟨rfl, rfl, rfl⟩ := hcs
    refine ⟨ss.take n, by unfold maxLen at hm; omega, fun hn => Strs.mk W x n c ss hl (by simpa using hz) hcell hn⟩
end Go.Proofs.Ytbimjhgngohhoaa
