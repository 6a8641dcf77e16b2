/-
  Slices of strings; is a name one of some?
-/
import Derived.Test.YtbimjhgngohhoaaEvWithin
namespace Go.Proofs.Ytbimjhgngohhoaa
open Go.RowKit
/-- a slice of strings -/
def Strs (w : World) (sv : Value) (ss : List ByteArray) : Prop :=
  (ss = [] ∧ ∃ a cap, sv = .slice a 0 cap) ∨ ∃ g o cap, sv = .slice (some ⟨g, o, none⟩) ss.length cap ∧ ss.length ≤ cap ∧ ss.length ≤ 1000000 ∧ ∀ k s, ss[k]? = some s → w.cell? ⟨g, o + k, none⟩ = some (.string s)
theorem Strs.below {w w' : World} {sv : Value} {ss : List ByteArray} (h : Strs w sv ss) (hb : Below w.heap.size w w') : Strs w' sv ss := by
  rcases h with h | ⟨g, o, cap, h1, h2, h3, h4⟩
  · exact .inl h
  · exact .inr ⟨g, o, cap, h1, h2, h3, fun k s hs => Stay.below (ok := fun _ => True) hb g _ _ trivial (h4 k s hs)⟩
/-- is a name one of these? -/
def amongB (ss : List ByteArray) (nm : List UInt8) : Bool := ss.any fun s => s.data.toList == nm
theorem bytes_list (l : List UInt8) : (⟨l.toArray⟩ : ByteArray).toList = l := by rw [ByteArray.toList_eq]
end Go.Proofs.Ytbimjhgngohhoaa
