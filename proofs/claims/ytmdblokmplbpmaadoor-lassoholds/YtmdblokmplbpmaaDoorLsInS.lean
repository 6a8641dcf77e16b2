/-
  The table of signs that the row of LassoPush lists.
-/
import Derived.Test.YtmdblokmplbpmaaDoorLsIn
import Derived.Test.YtmdblokmplbpmaaDoorLsText
namespace Go.Proofs.YtmdblokmplbpmaaDoor
namespace Ls
open Go.ChangeShapes Go.WideShapes Go.ChangeAt Go.RowKit
/-- a table of texts -/
theorem strs_of {W : World} {name : String} {g n : Nat} {t : TypeId} {ls : List (List UInt8)} (hg : Tryd.prog.globalNamed name = some g) (ht : (Tryd.prog.globals[g]?).map (·.type) = some t) (hu : Tryd.prog.underlying t = some (.array n 9))
    (h : laidMet Tryd.prog [(name, .agg (ls.map fun l => .lit (.string l)))] W) : ∀ (i : Nat) l, ls[i]? = some l → W.cell? ⟨g, i, none⟩ = some (.string ⟨l.toArray⟩) := by
  intro i l hl
  obtain ⟨ps, ⟨g0, t0, cs0, f0, p0, q0, hg0, ht0, hv0, hd0, _, _⟩, _, _⟩ := h
  obtain rfl := Option.some.inj (hg.symm.trans hg0)
  obtain rfl := Option.some.inj (ht.symm.trans ht0)
  obtain ⟨xs, m, _, hx, hlen, hn, hall⟩ := DataW.trod_array hu hd0
  have hce : Tryd.prog.cellsOf 9 = 1 := by kernel_rfl
  simp only [Prod.mk.injEq, DataW.agg.injEq] at hx
  have hi : i < n := by
    have h1 := congrArg List.length hx.1
    simp only [List.length_map] at h1
    have h2 := (List.getElem?_eq_some_iff.1 hl).1
    omega
  have h1 := hall i hi
  rw [hce, Nat.mul_one] at h1
  obtain ⟨y, hy⟩ : ∃ y, xs[i]? = some y := ⟨xs[i], List.getElem?_eq_getElem (by omega)⟩
  rw [hy] at h1
  obtain ⟨s, e1, e2, _⟩ := DataW.trod_string Tryd.underlying9 h1
  have h3 := congrArg (·[i]?) hx.1
  simp only [List.getElem?_map, hl, hy, Option.map_some, e2, Option.some.injEq, DataW.lit.injEq, Lit.string.injEq] at h3
  have h4 := World.var?_cell hg0 hv0 i
  have h5 : cs0.toList[i]? = some (.string s) := by
    have h6 := congrArg (·[0]?) e1
    simpa [List.getElem?_take, List.getElem?_drop] using h6
  rw [h3]
  have h7 : cs0[i]? = some (.string s) := by rw [← Array.getElem?_toList]; exact h5
  simpa [h7] using h4
theorem gSigns : Tryd.prog.globalNamed "signalcabin/lasso.signs" = some 1 := by kernel_rfl
theorem tSigns : (Tryd.prog.globals[1]?).map (·.type) = some 97 := by kernel_rfl
theorem sg_of {W : World} (h : laidMet Tryd.prog [("signalcabin/lasso.signs", Rows.laid_signalcabin_lasso_signs)] W) : SG W := by
  have k := strs_of (ls := [[], [], [], [33], [32, 38, 32], [32, 124, 32], [88, 32], [32, 85, 32], [32, 82, 32], [70, 32], [71, 32]]) gSigns tSigns Tryd.underlying97 h
  intro i hi
  match i, hi with
  | 0, _ => exact k 0 _ rfl
  | 1, _ => exact k 1 _ rfl
  | 2, _ => exact k 2 _ rfl
  | 3, _ => exact k 3 _ rfl
  | 4, _ => exact k 4 _ rfl
  | 5, _ => exact k 5 _ rfl
  | 6, _ => exact k 6 _ rfl
  | 7, _ => exact k 7 _ rfl
  | 8, _ => exact k 8 _ rfl
  | 9, _ => exact k 9 _ rfl
  | 10, _ => exact k 10 _ rfl
  | i + 11, hi => omega
end Ls
end Go.Proofs.YtmdblokmplbpmaaDoor
