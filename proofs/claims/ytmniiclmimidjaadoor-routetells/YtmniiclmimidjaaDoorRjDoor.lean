/-
  The variables errorType and Fine, as the row of RouteTells lists them.
-/
import Derived.Test.YtmniiclmimidjaaDoorRjCheck
import Derived.Test.YtmniiclmimidjaaDoorCards
import Derived.ProofKit
import Derived.LaidMore
import Derived.LaidHandle
namespace Go.Proofs.YtmniiclmimidjaaDoor
namespace Ro
open Go.ChangeShapes Go.WideShapes Go.ChangeAt Go.RowKit
theorem gDoor : Tryd.prog.globalNamed "errors.errorType" = some 1 := by kernel_rfl
theorem rtRow : (Tryd.prog.cutTypes.find? (·.1 == "internal/reflectlite.rtype")).map (·.2) = some 119 := by kernel_rfl
theorem sizes : Tryd.prog.types.size = 175 := by kernel_rfl
theorem oneRow : ((List.range 175).filter fun t => Tryd.prog.rowNamed t [101, 114, 114, 111, 114]) = [36] := by kernel_rfl
theorem door_of {W : World} (h : handlesMet Tryd.prog [("errors.errorType", Rows.laid_errors_errorType)] W) : ErAs.Door W := by
  obtain ⟨name, u, ty, e1, e2, e3, e4, e5⟩ := h _ (List.mem_singleton.2 rfl)
  have en : name = [101, 114, 114, 111, 114] := (Option.some.inj e1).symm
  subst en
  obtain rfl := Option.some.inj (rtRow.symm.trans e2)
  have hm : ty ∈ (List.range 175).filter fun t => Tryd.prog.rowNamed t [101, 114, 114, 111, 114] := List.mem_filter.2 ⟨List.mem_range.2 (by rw [← sizes]; exact e3), e4⟩
  rw [oneRow] at hm
  obtain rfl := List.mem_singleton.1 hm
  have hh : typeHandle Tryd.prog 36 = .pointer (some ⟨6, 36, none⟩) := by kernel_rfl
  rw [hh] at e5
  unfold ErAs.Door
  simpa using World.var?_cell gDoor e5 0
theorem gFine : Tryd.prog.globalNamed "signalcabin/signalcabinref.Fine" = some 0 := by kernel_rfl
theorem tFine : (Tryd.prog.globals[0]?).map (·.type) = some 32 := by kernel_rfl
set_option maxRecDepth 100000 in
theorem fine_of {W : World} (h00 : laidMet Tryd.prog [("math/bits.deBruijn32tab", Rows.laid_math_bits_deBruijn32tab), ("math/bits.deBruijn64tab", Rows.laid_math_bits_deBruijn64tab), ("internal/strconv.uint64pow10", Rows.laid_internal_strconv_uint64pow10), ("signalcabin/signalcabinref.Fine", Rows.laid_signalcabin_signalcabinref_Fine)] W) : FineAt W := by
  obtain ⟨ps, ⟨_, _, _, _, _, _, _, _, _, _, ⟨_, _, _, _, _, _, _, _, _, _, ⟨_, _, _, _, _, _, _, _, _, _, ⟨g0, t0, cs0, f0, p0, q0, hg0, ht0, hv0, hd0, _, _⟩, _⟩, _⟩, _⟩, _, _⟩ := h00
  obtain rfl := Option.some.inj (gFine.symm.trans hg0)
  obtain rfl := Option.some.inj (tFine.symm.trans ht0)
  obtain ⟨y0, y1, n, hx, hl, hy0, hy1⟩ := trod_struct2 Tryd.underlying32 hd0
  have c42 : Tryd.prog.cellsOf 30 = 1 := by kernel_rfl
  have c3 : Tryd.prog.cellsOf 3 = 1 := by kernel_rfl
  obtain ⟨k0, e0, e0', _⟩ := DataW.trod_int Tryd.underlying30 hy0
  obtain ⟨k1, e1, e1', _⟩ := DataW.trod_int Tryd.underlying3 hy1
  rw [c42] at e0
  rw [c3] at e1
  simp only [Prod.mk.injEq] at hx
  have hx1 := hx.1
  rw [e0', e1'] at hx1
  simp only [Rows.laid_signalcabin_signalcabinref_Fine, DataW.agg.injEq, List.cons.injEq, DataW.lit.injEq, Lit.int.injEq, true_and, and_true] at hx1
  obtain ⟨rfl, rfl⟩ := hx1
  have v0 := World.var?_cell hg0 hv0 0
  have v1 := World.var?_cell hg0 hv0 1
  obtain ⟨l0⟩ := cs0
  rcases l0 with _ | ⟨c, _ | ⟨d, r⟩⟩
  · simp at e0
  · simp at e1
  · simp at e0 e1
    subst e0
    subst e1
    exact ⟨by simpa using v0, by simpa using v1⟩
end Ro
end Go.Proofs.YtmniiclmimidjaaDoor
