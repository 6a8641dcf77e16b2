/-
  The walk of the statements' own both, with the document's reading. What rows that reach package ladder's Parse list of the package variables, brought to the walks' own words (Laid); and a builder that hands on that the start's memory has the package variables' blocks. What rows that reach the document's ProgramParse list of the package variables, brought to the walks' own words (PLaid); and a builder that hands on that the start's memory has its shape. A start that meets what a row of the statements lists of the package variables. The closed facts of InductChecks's row, one by one. for every two texts and every number, the call of InductChecks returns true (of a text that the document reads as a machine of up to 40 states and 4 inputs, and of a text of up to 1,000 bytes that it reads as an expression: the code, the number and the inputs that package induct's Check tells are what the document's Induct tells; a name that isn't there and a number that may not be are refused as the document tells), and the arguments read behind the call as they did before.
-/
import Derived.Test.YtgldbliohpfljaaGreatDoorScBoundAll
import Derived.Test.YtgldbliohpfljaaGreatDoorRlParse
import Derived.Test.YtgldbliohpfljaaGreatDoorRlStayAll
import Derived.Test.YtgldbliohpfljaaGreatDoorCards
import Derived.ProofKit
import Derived.LaidMore
import Derived.LaidHandle
import Derived.LaidSub
import Derived.OpenShut
import Derived.ShutString
import Derived.ChangeOld
import Derived.ChangeSame
import Derived.Below
import Derived.Handed
import Derived.Stop.Joined
import Derived.Stop.LaidErr
import Derived.Deep.Strs
import Derived.Lay
import Derived.JoinedOf
import Derived.Test.YtgldbliohpfljaaGreatDoorLwIChecksAll
namespace Go.Proofs.YtgldbliohpfljaaGreatDoor
section
open Go.RowKit
namespace Sl
theorem both_any (s : ByteArray) (w : World) (hs : s.size ≤ maxLen) (hL : Laid w) (hP : PLaid w) : Calls Tryz.prog 28 #[.string s] w (Both s w) := both_of rparse_any s w hs hL hP
end Sl
end
section
namespace LdLaid
open Go.ChangeShapes Go.WideShapes Go.ChangeAt Go.RowKit
theorem gDoor : Tryz.prog.globalNamed "errors.errorType" = some 3 := by kernel_rfl
theorem rt : (Tryz.prog.cutTypes.find? (·.1 == "internal/reflectlite.rtype")).map (·.2) = some 362 := by kernel_rfl
theorem sizes : Tryz.prog.types.size = 432 := by kernel_rfl
theorem oneRow : ((List.range 432).filter fun t => Tryz.prog.rowNamed t [101, 114, 114, 111, 114]) = [33] := by kernel_rfl
theorem door_of {W : World} (h : handlesMet Tryz.prog [("errors.errorType", Rows.laid_errors_errorType)] W) : ErAs.Door W := by
  obtain ⟨name, u, ty, e1, e2, e3, e4, e5⟩ := h _ (List.mem_singleton.2 rfl)
  have en : name = [101, 114, 114, 111, 114] := (Option.some.inj e1).symm
  subst en
  obtain rfl := Option.some.inj (rt.symm.trans e2)
  have hm : ty ∈ (List.range 432).filter fun t => Tryz.prog.rowNamed t [101, 114, 114, 111, 114] := List.mem_filter.2 ⟨List.mem_range.2 (by rw [← sizes]; exact e3), e4⟩
  rw [oneRow] at hm
  obtain rfl := List.mem_singleton.1 hm
  have hh : typeHandle Tryz.prog 33 = .pointer (some ⟨14, 33, none⟩) := by kernel_rfl
  rw [hh] at e5
  unfold ErAs.Door
  simpa using World.var?_cell gDoor e5 0
theorem tPow : (Tryz.prog.globals[9]?).map (·.type) = some 378 := by kernel_rfl
theorem pows_of {W : World} (h : laidMet Tryz.prog [("internal/strconv.uint64pow10", Lib.tabData .u64 Lib.pow10Tab)] W) : Pows W :=
  Lib.tabIs_of_head gPows tPow Tryz.underlying378 Tryz.underlying332 (by kernel_rfl) (by kernel_rfl) h
theorem star : "*" ++ "errors.errorString" = "*errors.errorString" := by decide
theorem rowE (u : TypeId) (h : Tryz.prog.typeName? 3 u = some "*errors.errorString") : u = 397 :=
  typeName_ptr_named (nm := "errors.errorString") (by rw [star]; kernel_rfl) (by kernel_rfl) (by decide) u (by rw [star]; exact h)
theorem gES : Tryz.prog.globalNamed "strconv.ErrSyntax" = some 7 := by kernel_rfl
theorem gESType : (Tryz.prog.globals[7]?).map (·.type) = some 33 := by kernel_rfl
theorem gER : Tryz.prog.globalNamed "strconv.ErrRange" = some 8 := by kernel_rfl
theorem gERType : (Tryz.prog.globals[8]?).map (·.type) = some 33 := by kernel_rfl
theorem errs_of {W : World} (h1 : laidMet Tryz.prog [("strconv.ErrSyntax", Rows.laid_strconv_ErrSyntax)] W) (h2 : laidMet Tryz.prog [("strconv.ErrRange", Rows.laid_strconv_ErrRange)] W) : NumErrs W := by
  obtain ⟨a0, s0, hv0, -, -, -⟩ := laid_sentinel h1 gES gESType Tryz.underlying33 rowE Tryz.underlying397 Tryz.underlying399 rfl rfl Tryz.underlying9 (by kernel_rfl) (by kernel_rfl)
  obtain ⟨a1, s1, hv1, -, -, -⟩ := laid_sentinel h2 gER gERType Tryz.underlying33 rowE Tryz.underlying397 Tryz.underlying399 rfl rfl Tryz.underlying9 (by kernel_rfl) (by kernel_rfl)
  exact ⟨⟨_, _, by have h0 := World.var?_cell gES hv0 0; simpa using h0⟩, _, _, by have h0 := World.var?_cell gER hv1 0; simpa using h0⟩
/-- a table of texts -/
theorem strs_of {W : World} {name : String} {g n : Nat} {t : TypeId} {ls : List (List UInt8)} (hg : Tryz.prog.globalNamed name = some g) (ht : (Tryz.prog.globals[g]?).map (·.type) = some t) (hu : Tryz.prog.underlying t = some (.array n 9))
    (h : laidMet Tryz.prog [(name, .agg (ls.map fun l => .lit (.string l)))] W) : ∀ (i : Nat) l, ls[i]? = some l → W.cell? ⟨g, i, none⟩ = some (.string ⟨l.toArray⟩) := by
  intro i l hl
  obtain ⟨ps, ⟨g0, t0, cs0, f0, p0, q0, hg0, ht0, hv0, hd0, _, _⟩, _, _⟩ := h
  obtain rfl := Option.some.inj (hg.symm.trans hg0)
  obtain rfl := Option.some.inj (ht.symm.trans ht0)
  obtain ⟨xs, m, _, hx, hlen, hn, hall⟩ := DataW.trod_array hu hd0
  have hce : Tryz.prog.cellsOf 9 = 1 := by kernel_rfl
  simp only [Prod.mk.injEq, DataW.agg.injEq] at hx
  have hi : i < n := by
    have h1 := congrArg List.length hx.1
    simp only [List.length_map] at h1
    have h2 := (List.getElem?_eq_some_iff.1 hl).1
    omega
  have h1 := hall i hi
  rw [hce, Nat.mul_one] at h1
  obtain ⟨y, hy⟩ : ∃ y, xs[i]? = some y := ⟨xs[i], List.getElem?_eq_getElem (by omega)⟩
  rw [hy] at h1
  obtain ⟨s, e1, e2, _⟩ := DataW.trod_string Tryz.underlying9 h1
  have h3 := congrArg (·[i]?) hx.1
  simp only [List.getElem?_map, hl, hy, Option.map_some, e2, Option.some.injEq, DataW.lit.injEq, Lit.string.injEq] at h3
  have h4 := World.var?_cell hg0 hv0 i
  have h5 : cs0.toList[i]? = some (.string s) := by
    have h6 := congrArg (·[0]?) e1
    simpa [List.getElem?_take, List.getElem?_drop] using h6
  rw [h3]
  have h7 : cs0[i]? = some (.string s) := by rw [← Array.getElem?_toList]; exact h5
  simpa [h7] using h4
theorem gNW : Tryz.prog.globalNamed "signalcabin/ladder.nameWords" = some 5 := by kernel_rfl
theorem gRW : Tryz.prog.globalNamed "signalcabin/ladder.rungWords" = some 6 := by kernel_rfl
theorem tNW : (Tryz.prog.globals[5]?).map (·.type) = some 345 := by kernel_rfl
theorem tRW : (Tryz.prog.globals[6]?).map (·.type) = some 347 := by kernel_rfl
theorem words_of {W : World} (h1 : laidMet Tryz.prog [("signalcabin/ladder.nameWords", Rows.laid_signalcabin_ladder_nameWords)] W) (h2 : laidMet Tryz.prog [("signalcabin/ladder.rungWords", Rows.laid_signalcabin_ladder_rungWords)] W) : Words W := by
  have k1 := strs_of (ls := [[], [105, 110, 112, 117, 116], [99, 111, 105, 108], [116, 105, 109, 101, 114], [99, 111, 117, 110, 116, 101, 114]]) gNW tNW Tryz.underlying345 h1
  have k2 := strs_of (ls := [[], [], [115, 101, 116], [114, 101, 115, 101, 116], [114, 117, 110], [99, 111, 117, 110, 116], [122, 101, 114, 111]]) gRW tRW Tryz.underlying347 h2
  refine ⟨fun i hi => ?_, fun i hi => ?_⟩
  · match i, hi with
    | 0, _ => exact k1 0 _ rfl
    | 1, _ => exact k1 1 _ rfl
    | 2, _ => exact k1 2 _ rfl
    | 3, _ => exact k1 3 _ rfl
    | 4, _ => exact k1 4 _ rfl
    | n + 5, h => omega
  · match i, hi with
    | 0, _ => exact k2 0 _ rfl
    | 1, _ => exact k2 1 _ rfl
    | 2, _ => exact k2 2 _ rfl
    | 3, _ => exact k2 3 _ rfl
    | 4, _ => exact k2 4 _ rfl
    | 5, _ => exact k2 5 _ rfl
    | 6, _ => exact k2 6 _ rfl
    | n + 7, h => omega
/-- one variable of a list -/
def only (l : List (String × DataW Unit)) (s : String) : List (String × DataW Unit) := (l.filter fun x => x.2.handleName?.isNone).filter fun x => x.1 == s
theorem laid_of {W : World} {l : List (String × DataW Unit)} (hh : (l.filter fun x => x.2.handleName?.isSome) = [("errors.errorType", Rows.laid_errors_errorType)])
    (h1 : only l "strconv.ErrSyntax" = [("strconv.ErrSyntax", Rows.laid_strconv_ErrSyntax)]) (h2 : only l "strconv.ErrRange" = [("strconv.ErrRange", Rows.laid_strconv_ErrRange)])
    (h3 : only l "internal/strconv.uint64pow10" = [("internal/strconv.uint64pow10", Lib.tabData .u64 Lib.pow10Tab)])
    (h4 : only l "signalcabin/ladder.nameWords" = [("signalcabin/ladder.nameWords", Rows.laid_signalcabin_ladder_nameWords)]) (h5 : only l "signalcabin/ladder.rungWords" = [("signalcabin/ladder.rungWords", Rows.laid_signalcabin_ladder_rungWords)])
    (h : laidMetH Tryz.prog l W) (hlow : 14 ≤ W.heap.size) : Laid W := by
  unfold laidMetH at h
  rw [hh] at h
  obtain ⟨hd, hx⟩ := h
  have f := fun s => hd.filter fun x => x.1 == s
  have f1 := f "strconv.ErrSyntax"
  have f2 := f "strconv.ErrRange"
  have f3 := f "internal/strconv.uint64pow10"
  have f4 := f "signalcabin/ladder.nameWords"
  have f5 := f "signalcabin/ladder.rungWords"
  unfold only at h1 h2 h3 h4 h5
  rw [h1] at f1
  rw [h2] at f2
  rw [h3] at f3
  rw [h4] at f4
  rw [h5] at f5
  exact ⟨words_of f4 f5, errs_of f1 f2, pows_of f3, door_of hx, hlow⟩
/-- the last package variable's block -/
theorem low_of {W : World} (h : W.ShapedOpen Tryz.prog) : 14 ≤ W.heap.size := by
  have hg : Tryz.prog.globals.size = 14 := by kernel_rfl
  have hi : (((begin Tryz.prog (fun _ _ => 0) default).world.heap[14 - 1]?).bind Obj.row?).isSome = true := by kernel_rfl
  obtain ⟨⟨z, t⟩, hr⟩ := Option.isSome_iff_exists.1 hi
  obtain ⟨cs, hc, _⟩ := h.1 (14 - 1) z t (by rw [hg]; decide) hr
  have := (Array.getElem?_eq_some_iff.1 hc).1
  omega
set_option maxRecDepth 100000 in
/-- a row's contract, proved where the start's memory is known to be shaped -/
theorem returns_low {H : Type} {enc : TypeId × Value → H} {os : Os} {f : FuncId} {fn : Func} {s : ChangeSpec} {X : World → Prop} (hX : ∀ (w w' : World), w.heap = w'.heap → X w → X w')
    (own : ownKnob Tryz.checked.prog.godebug = none) (started : os.Started) (noInit : Tryz.checked.prog.inits.idxOf? f = none) (hfn : Tryz.checked.prog.funcs[f]? = some fn)
    (witness : ∃ (w : World) (tape : Tape) (i : Input), w.os = os ∧ (w.forCall tape i).Shaped Tryz.checked.prog ∧ i.vars = [] ∧ Input.okWide Tryz.checked.prog (w.forCall tape i) .any w.heap.size f i ∧
      ((s.pre enc Tryz.checked.prog fn [] false (w.forCall tape i).memory i.args ∧ X (w.forCall tape i).memory) ∧ sizedMet enc Tryz.checked.prog fn (OpenSpec.ofChange s) false (w.forCall tape i).memory i.args) ∧ ({} : Assume).holds Tryz.checked.prog (lone (Frame.enter Tryz.checked.prog f i.args .normal) [] (w.forCall tape i)))
    (contract : ∀ (W : World) (base : Nat) (args : Array Value) (ds gs : List (DataW H)) (before : List MemPlace), 14 ≤ W.heap.size →
      (∀ (j : Nat) t v, fn.params[j]? = some t → args[j]? = some v → Value.okWide Tryz.checked.prog W .any base t v) →
      DataW.Whole enc Tryz.checked.prog fn.params.toList s.vars false W args.toList ds gs before → X W →
      Calls Tryz.checked.prog f args W fun e W' => ∃ v, e = .returned v ∧ s.post enc Tryz.checked.prog fn false true false false W args v W') :
    ReturnsInHanded {} Tryz.checked os f .any (fun w args => (s.pre enc Tryz.checked.prog fn [] false w args ∧ X w) ∧ sizedMet enc Tryz.checked.prog fn (OpenSpec.ofChange s) false w args) (s.post enc Tryz.checked.prog fn false true false false) := by
  refine returnsInHanded_of_calls own started noInit witness fun w tape i _ hsh _ hok hpre _ => ?_
  obtain ⟨_, _, _, fn', hfn', _, _, _, _, hval⟩ := hok
  obtain rfl : fn' = fn := Option.some.inj (hfn'.symm.trans hfn)
  obtain ⟨⟨⟨ds, gs, before, hw, _⟩, hx⟩, _⟩ := hpre
  have hw' := DataW.Whole.of_heap (w' := w.forCall tape i) (by rfl) hw
  have hx' := hX _ (w.forCall tape i) (by rfl) hx
  refine (contract (w.forCall tape i) w.heap.size i.args ds gs before (low_of hsh) hval hw' hx').mono ?_
  rintro e W' ⟨v, rfl, hp⟩
  exact ChangeSpec.post_blind hp
end LdLaid
end
section
namespace RlLaid
open Go.ChangeShapes Go.WideShapes Go.ChangeAt Go.RowKit
/-- a slice of texts -/
theorem row_of {W : World} {name : String} {g : Nat} {ls : List (List UInt8)} (hg : Tryz.prog.globalNamed name = some g) (ht : (Tryz.prog.globals[g]?).map (·.type) = some 65) (hne : 0 < ls.length)
    (h : laidMet Tryz.prog [(name, .slice (ls.map fun l => .lit (.string l)) [])] W) : ∃ b o c, W.cell? ⟨g, 0, none⟩ = some (.slice (some ⟨b, o, none⟩) ls.length c) ∧ ls.length ≤ c ∧ ∀ (k : Nat) l, ls[k]? = some l → W.cell? ⟨b, o + k, none⟩ = some (.string ⟨l.toArray⟩) := by
  obtain ⟨ps, ⟨g0, t0, cs0, f0, p0, q0, hg0, ht0, hv0, hd0, _, _⟩, _, _⟩ := h
  obtain rfl := Option.some.inj (hg.symm.trans hg0)
  obtain rfl := Option.some.inj (ht.symm.trans ht0)
  rcases Go.Deep.open_strs Tryz.underlying65 Tryz.underlying9 (by kernel_rfl) hd0 with ⟨_, hx⟩ | ⟨a, len, cap, m, Sx, hcs, _, hlc, _, hm, hx, hcell⟩
  · simp at hx
  · simp only [Prod.mk.injEq, DataW.slice.injEq] at hx
    have h1 := hx.1.1
    have hlen : ls.length = len := by
      have := congrArg List.length h1
      simpa using this
    subst hlen
    have hlm : ls.length ≤ m := by rw [hm]; split <;> omega
    have hS : ∀ (k : Nat) l, ls[k]? = some l → Sx k = ⟨l.toArray⟩ := fun k l hk => by
      have h2 := congrArg (·[k]?) h1
      have hkl : k < ls.length := (List.getElem?_eq_some_iff.1 hk).1
      simp only [List.getElem?_map, hk, List.getElem?_range hkl, Option.map_some, Option.some.injEq, DataW.lit.injEq, Lit.string.injEq] at h2
      rw [h2]
    obtain ⟨b, off, spot⟩ := a
    have hc0 := (hcell 0 (by omega)).1
    have hspot : spot = none := by simpa [Addr.add] using World.cell?_spot hc0
    subst hspot
    refine ⟨b, off, cap, ?_, hlc, fun k l hk => ?_⟩
    · have h4 := World.var?_cell hg0 hv0 0
      rw [Array.eq_one_of_toList hcs] at h4
      simpa using h4
    · have h5 := (hcell k (by have := (List.getElem?_eq_some_iff.1 hk).1; omega)).1
      rw [hS k l hk] at h5
      cases k <;> simpa [Addr.add] using h5
theorem gFine : Tryz.prog.globalNamed "signalcabin/signalcabinref.Fine" = some 0 := by kernel_rfl
theorem tFine : (Tryz.prog.globals[0]?).map (·.type) = some 93 := by kernel_rfl
theorem maxLen_of {W : World} (h : W.ShapedOpen Tryz.prog) : ∃ m, W.cell? ⟨4, 0, none⟩ = some (.int .i64 m) :=
  cell_of_shapedOpen_int (zero := #[.int .i64 0]) h (of_decide_eq_true (by kernel_rfl)) (by kernel_rfl) (by kernel_rfl) (by kernel_rfl) (by kernel_rfl) Tryz.underlying3
set_option maxRecDepth 100000 in
theorem fine_of {W : World} (h : laidMet Tryz.prog [("signalcabin/signalcabinref.Fine", Rows.laid_signalcabin_signalcabinref_Fine)] W) : Fine W := by
  obtain ⟨ps, ⟨g0, t0, cs0, f0, p0, q0, hg0, ht0, hv0, hd0, _, _⟩, _, _⟩ := h
  obtain rfl := Option.some.inj (gFine.symm.trans hg0)
  obtain rfl := Option.some.inj (tFine.symm.trans ht0)
  obtain ⟨y0, y1, n, hx, hl, hy0, hy1⟩ := trod_struct2 Tryz.underlying93 hd0
  have c42 : Tryz.prog.cellsOf 40 = 1 := by kernel_rfl
  have c3 : Tryz.prog.cellsOf 3 = 1 := by kernel_rfl
  obtain ⟨k0, e0, e0', _⟩ := DataW.trod_int Tryz.underlying40 hy0
  obtain ⟨k1, e1, e1', _⟩ := DataW.trod_int Tryz.underlying3 hy1
  rw [c42] at e0
  rw [c3] at e1
  simp only [Prod.mk.injEq] at hx
  have hx1 := hx.1
  rw [e0', e1'] at hx1
  simp only [Rows.laid_signalcabin_signalcabinref_Fine, DataW.agg.injEq, List.cons.injEq, DataW.lit.injEq, Lit.int.injEq, true_and, and_true] at hx1
  obtain ⟨rfl, rfl⟩ := hx1
  have v0 := World.var?_cell hg0 hv0 0
  have v1 := World.var?_cell hg0 hv0 1
  obtain ⟨l0⟩ := cs0
  rcases l0 with _ | ⟨c, _ | ⟨d, r⟩⟩
  · simp at e0
  · simp at e1
  · simp at e0 e1
    subst e0
    subst e1
    exact ⟨by simpa using v0, by simpa using v1⟩
theorem gNW : Tryz.prog.globalNamed "signalcabin/signalcabinref.nameWords" = some 2 := by kernel_rfl
theorem gRW : Tryz.prog.globalNamed "signalcabin/signalcabinref.rungWords" = some 1 := by kernel_rfl
theorem tNW : (Tryz.prog.globals[2]?).map (·.type) = some 65 := by kernel_rfl
theorem tRW : (Tryz.prog.globals[1]?).map (·.type) = some 65 := by kernel_rfl
theorem wds_of {W : World} (h1 : laidMet Tryz.prog [("signalcabin/signalcabinref.nameWords", Rows.laid_signalcabin_signalcabinref_nameWords)] W) (h2 : laidMet Tryz.prog [("signalcabin/signalcabinref.rungWords", Rows.laid_signalcabin_signalcabinref_rungWords)] W) : RWds W := by
  obtain ⟨b1, o1, c1, k1, k2, k3⟩ := row_of (ls := [[], [105, 110, 112, 117, 116], [99, 111, 105, 108], [116, 105, 109, 101, 114], [99, 111, 117, 110, 116, 101, 114]]) gNW tNW (by decide) h1
  obtain ⟨b2, o2, c2, m1, m2, m3⟩ := row_of (ls := [[], [], [115, 101, 116], [114, 101, 115, 101, 116], [114, 117, 110], [99, 111, 117, 110, 116], [122, 101, 114, 111]]) gRW tRW (by decide) h2
  refine ⟨b1, o1, c1, b2, o2, c2, ⟨k1, k2, fun i hi => ?_⟩, m1, m2, fun i hi => ?_⟩
  · match i, hi with
    | 0, _ => exact k3 0 _ rfl
    | 1, _ => exact k3 1 _ rfl
    | 2, _ => exact k3 2 _ rfl
    | 3, _ => exact k3 3 _ rfl
    | 4, _ => exact k3 4 _ rfl
    | n + 5, h => omega
  · match i, hi with
    | 0, _ => exact m3 0 _ rfl
    | 1, _ => exact m3 1 _ rfl
    | 2, _ => exact m3 2 _ rfl
    | 3, _ => exact m3 3 _ rfl
    | 4, _ => exact m3 4 _ rfl
    | 5, _ => exact m3 5 _ rfl
    | 6, _ => exact m3 6 _ rfl
    | n + 7, h => omega
theorem plaid_of {W : World} {l : List (String × DataW Unit)} (hh : (l.filter fun x => x.2.handleName?.isSome) = [("errors.errorType", Rows.laid_errors_errorType)])
    (h1 : LdLaid.only l "signalcabin/signalcabinref.Fine" = [("signalcabin/signalcabinref.Fine", Rows.laid_signalcabin_signalcabinref_Fine)])
    (h2 : LdLaid.only l "signalcabin/signalcabinref.nameWords" = [("signalcabin/signalcabinref.nameWords", Rows.laid_signalcabin_signalcabinref_nameWords)]) (h3 : LdLaid.only l "signalcabin/signalcabinref.rungWords" = [("signalcabin/signalcabinref.rungWords", Rows.laid_signalcabin_signalcabinref_rungWords)])
    (h : laidMetH Tryz.prog l W) (hs : W.ShapedOpen Tryz.prog) (hL : Laid W) : PLaid W := by
  unfold laidMetH at h
  rw [hh] at h
  obtain ⟨hd, _⟩ := h
  have f := fun s => hd.filter fun x => x.1 == s
  have f1 := f "signalcabin/signalcabinref.Fine"
  have f2 := f "signalcabin/signalcabinref.nameWords"
  have f3 := f "signalcabin/signalcabinref.rungWords"
  unfold LdLaid.only at h1 h2 h3
  rw [h1] at f1
  rw [h2] at f2
  rw [h3] at f3
  exact ⟨⟨fine_of f1, maxLen_of hs⟩, wds_of f2 f3, hL.errs, hL.pows, hL.low⟩
set_option maxRecDepth 100000 in
/-- a row's contract, proved where the start's memory is known to be shaped -/
theorem returns_shaped {H : Type} {enc : TypeId × Value → H} {os : Os} {f : FuncId} {fn : Func} {s : ChangeSpec} {X : World → Prop} (hX : ∀ (w w' : World), w.heap = w'.heap → X w → X w')
    (own : ownKnob Tryz.checked.prog.godebug = none) (started : os.Started) (noInit : Tryz.checked.prog.inits.idxOf? f = none) (hfn : Tryz.checked.prog.funcs[f]? = some fn)
    (witness : ∃ (w : World) (tape : Tape) (i : Input), w.os = os ∧ (w.forCall tape i).Shaped Tryz.checked.prog ∧ i.vars = [] ∧ Input.okWide Tryz.checked.prog (w.forCall tape i) .any w.heap.size f i ∧
      ((s.pre enc Tryz.checked.prog fn [] false (w.forCall tape i).memory i.args ∧ X (w.forCall tape i).memory) ∧ sizedMet enc Tryz.checked.prog fn (OpenSpec.ofChange s) false (w.forCall tape i).memory i.args) ∧ ({} : Assume).holds Tryz.checked.prog (lone (Frame.enter Tryz.checked.prog f i.args .normal) [] (w.forCall tape i)))
    (contract : ∀ (W : World) (base : Nat) (args : Array Value) (ds gs : List (DataW H)) (before : List MemPlace), W.ShapedOpen Tryz.prog →
      (∀ (j : Nat) t v, fn.params[j]? = some t → args[j]? = some v → Value.okWide Tryz.checked.prog W .any base t v) →
      DataW.Whole enc Tryz.checked.prog fn.params.toList s.vars false W args.toList ds gs before → X W →
      Calls Tryz.checked.prog f args W fun e W' => ∃ v, e = .returned v ∧ s.post enc Tryz.checked.prog fn false true false false W args v W') :
    ReturnsInHanded {} Tryz.checked os f .any (fun w args => (s.pre enc Tryz.checked.prog fn [] false w args ∧ X w) ∧ sizedMet enc Tryz.checked.prog fn (OpenSpec.ofChange s) false w args) (s.post enc Tryz.checked.prog fn false true false false) := by
  refine returnsInHanded_of_calls own started noInit witness fun w tape i _ hsh _ hok hpre _ => ?_
  obtain ⟨_, _, _, fn', hfn', _, _, _, _, hval⟩ := hok
  obtain rfl : fn' = fn := Option.some.inj (hfn'.symm.trans hfn)
  obtain ⟨⟨⟨ds, gs, before, hw, _⟩, hx⟩, _⟩ := hpre
  have hw' := DataW.Whole.of_heap (w' := w.forCall tape i) (by rfl) hw
  have hx' := hX _ (w.forCall tape i) (by rfl) hx
  refine (contract (w.forCall tape i) w.heap.size i.args ds gs before hsh hval hw' hx').mono ?_
  rintro e W' ⟨v, rfl, hp⟩
  exact ChangeSpec.post_blind hp
end RlLaid
end
section
namespace JcMet
open Go.RowKit
theorem all {w0 : World} {laid : List (String × DataW Unit)} (args : Array Value) (hf : w0.layFits Tryz.prog laid [] = true) (hi : w0.layIfaces Tryz.prog laid (w0.layVars Tryz.prog laid) = true) :
    laidMet Tryz.prog laid ((w0.layVars Tryz.prog laid).forCall (fun _ _ => 0) ⟨#[], args, []⟩).memory := by
  have e1 : (laid.filter fun x => (laid.map (·.1)).contains x.1) = laid := List.filter_eq_self.2 fun x hx => List.contains_iff_mem.2 (List.mem_map.2 ⟨x, hx, rfl⟩)
  have e2 : (laid.filter fun x => !(laid.map (·.1)).contains x.1) = [] := List.filter_eq_nil_iff.2 fun x hx => by rw [List.contains_iff_mem.2 (List.mem_map.2 ⟨x, hx, rfl⟩)]; simp
  have h : laidMet Tryz.prog laid (w0.layVars Tryz.prog laid) := laidMet_layVars (w0 := w0) (laid.map (·.1)) [] (by rw [e1]) (by rw [e1]; exact hf) (by rw [e1]; exact hi) (by rw [e2]; exact LaidIn.none)
  exact h.of_heap (by simp [World.memory, World.forCall, Input.heap])
/-- what is laid by the law -/
def data : List (String × DataW Unit) := Rows.inductChecksRow.laid.filter fun x => x.2.handleName?.isNone
theorem start_os (os : Os) : ((World.doorLaid Tryz.prog 400 os).layVars Tryz.prog data).os = os := (World.layVars_os _ _ _).trans rfl
theorem fits (os : Os) : (World.doorLaid Tryz.prog 400 os).layFits Tryz.prog data [] = true := by kernel_rfl
theorem ifaces (os : Os) : (World.doorLaid Tryz.prog 400 os).layIfaces Tryz.prog data ((World.doorLaid Tryz.prog 400 os).layVars Tryz.prog data) = true := by kernel_rfl
theorem hand (os : Os) (args : Array Value) : (Rows.inductChecksRow.laid.filter fun x => x.2.handleName?.isSome && x.2.funcsIn?.isNone).all (handleAtB Tryz.prog (((World.doorLaid Tryz.prog 400 os).layVars Tryz.prog data).forCall (fun _ _ => 0) ⟨#[], args, []⟩).memory) = true := by kernel_rfl
theorem met (os : Os) (args : Array Value) : laidMetH Tryz.prog Rows.inductChecksRow.laid (((World.doorLaid Tryz.prog 400 os).layVars Tryz.prog data).forCall (fun _ _ => 0) ⟨#[], args, []⟩).memory :=
  laidMetH_of_parts3 (fuel := 8) (all args (fits os) (ifaces os)) (hand os args) (by kernel_rfl)
theorem shape (os : Os) (args : Array Value) : (((World.doorLaid Tryz.prog 400 os).layVars Tryz.prog data).forCall (fun _ _ => 0) ⟨#[], args, []⟩).Shaped Tryz.prog := World.shaped_of_ZipB (by kernel_rfl) (by kernel_rfl)
end JcMet
end
section
namespace JcFacts
set_option maxHeartbeats 4000000 in
theorem closed : joinedFacts Tryz.prog 5 Tryz.f5 Rows.inductChecksSpec Rows.inductChecksRow = true := by
  unfold joinedFacts
  repeat' rw [Bool.and_eq_true]
  repeat' apply And.intro
  all_goals (as_aux_lemma => kernel_rfl)
end JcFacts
end
section
namespace ClaimIChecks
open Go.ChangeShapes Go.WideShapes Go.ChangeAt Go.RowKit
open Go.ChangeMaps (open_string shut_string)
set_option linter.unusedVariables false
theorem own : ownKnob Tryz.prog.godebug = none := by kernel_rfl
theorem laidOut : laidOutB Tryz.prog = true := by kernel_rfl
theorem laid {W : World} (h : laidMetH Tryz.prog Rows.inductChecksRow.laid W) (hlow : 14 ≤ W.heap.size) : Laid W :=
  LdLaid.laid_of (by kernel_rfl) (by kernel_rfl) (by kernel_rfl) (by kernel_rfl) (by kernel_rfl) (by kernel_rfl) h hlow
theorem plaid {W : World} (h : laidMetH Tryz.prog Rows.inductChecksRow.laid W) (hs : W.ShapedOpen Tryz.prog) (hL : Laid W) : PLaid W :=
  RlLaid.plaid_of (by kernel_rfl) (by kernel_rfl) (by kernel_rfl) (by kernel_rfl) h hs hL
set_option maxRecDepth 100000 in
theorem lifted (os : Os) (started : os.Started) (H : Type) (enc : TypeId × Value → H) :
    ReturnsInHanded {} Tryz.checked os 5 .any (fun w args => (Rows.inductChecksSpec.pre enc Tryz.prog Tryz.f5 [] false w args ∧ laidMetH Tryz.prog Rows.inductChecksRow.laid w) ∧ sizedMet enc Tryz.prog Tryz.f5 (OpenSpec.ofChange Rows.inductChecksSpec) false w args)
      (Rows.inductChecksSpec.post enc Tryz.prog Tryz.f5 false true false false) := by
  refine RlLaid.returns_shaped (X := fun w => laidMetH Tryz.prog Rows.inductChecksRow.laid w) (fun _ _ hh h => h.of_heap hh) own started (by kernel_rfl) Tryz.func5
    (ChangeSpec.witness_shaped (enc := enc) (C := Tryz.checked) (os := os) (X := fun w _ => laidMetH Tryz.prog Rows.inductChecksRow.laid w) false ((World.doorLaid Tryz.prog 400 os).layVars Tryz.prog JcMet.data) #[.string ByteArray.empty, .string ByteArray.empty, .int .i64 0] 8 (JcMet.start_os os) (JcMet.shape os _) (by kernel_rfl) (by kernel_rfl) (by kernel_rfl) (JcMet.met os _)) ?_
  intro W base args ds gs before hsh hval0 hW hL
  have hld := laid hL (LdLaid.low_of hsh)
  have hpl := plaid hL hsh hld
  have hval : ∀ (j : Nat) t v, Tryz.f5.params[j]? = some t → args[j]? = some v → Value.okWide Tryz.prog W .any base t v := hval0
  have hW' := hW
  obtain ⟨p, q, hA0, hV, rfl, hfz, hnd⟩ := hW
  have hA : DataW.TrodAll enc Tryz.prog W 0 (fun _ => true) true Tryz.f5.params.toList args.toList ds p := hA0
  rw [Tryz.params5] at hA hval
  obtain ⟨v0, vs0, d0, ds0, p0, q0, hargs, rfl, rfl, h0, r0⟩ := trodAll_cons hA
  obtain ⟨v1, vs1, d1, ds1, p1, q1, rfl, rfl, rfl, h1, r1⟩ := trodAll_cons r0
  obtain ⟨v2, vs2, d2, ds2, p2, q2, rfl, rfl, rfl, h2, r2⟩ := trodAll_cons r1
  obtain ⟨rfl, rfl, rfl⟩ := trodAll_nil r2
  obtain rfl : args = #[v0, v1, v2] := by cases args; simp_all
  obtain ⟨rfl, rfl⟩ := trodVars_none hV
  obtain ⟨a0, rfl, rfl, rfl, w0⟩ := open_string Tryz.underlying9 (hval 0 9 v0 rfl rfl) h0
  obtain ⟨a1, rfl, rfl, rfl, w1⟩ := open_string Tryz.underlying9 (hval 1 9 v1 rfl rfl) h1
  obtain ⟨a2, rfl, rfl, rfl, w2⟩ := open_int Tryz.underlying3 (hval 2 3 v2 rfl rfl) h2
  clear hA0 hval0
  refine (Rf.inductChecks_of Sl.both_any a0 a1 a2 W w0 w1 hld hpl).mono fun e W' ⟨he, bel⟩ => ?_
  subst he
  exact ⟨_, rfl, _, _, _, [], _, [], hW', trodAll_mk1 (shut_bool Tryz.underlying4 _), (trodAll_cons_mk (shut_string Tryz.underlying9 w0) (trodAll_cons_mk (shut_string Tryz.underlying9 w1) (trodAll_cons_mk (shut_int Tryz.underlying3 w2) trodAll_mk0))), rfl, bel.frame _, fun h => by cases h⟩
theorem named : Tryz.prog.funcNamed "signalcabin/signalcabinlaw.InductChecks" = some 5 := by kernel_rfl
theorem inst : Tryz.f5.isInstance Tryz.prog Rows.inductChecksRow.origin Rows.inductChecksRow.targs := of_decide_eq_true (by kernel_rfl)
theorem wrap : Tryz.f5.isWrapper Tryz.prog Rows.inductChecksRow.wrapper Rows.inductChecksRow.mainSum := by unfold Func.isWrapper; first | (rw [if_pos (by decide +kernel)]; kernel_rfl) | (rw [if_neg (by decide +kernel)]; exact ⟨rfl, rfl⟩)
theorem over : Rows.InductChecksSaid :=
  OpenClaim.holds_of_wide 5 Tryz.f5 rfl rfl rfl rfl rfl rfl rfl ⟨rfl, rfl, rfl, rfl, rfl⟩ rfl rfl rfl rfl rfl named Tryz.func5 JcFacts.closed
    inst wrap (fun os started H enc _ => lifted os started H enc)
end ClaimIChecks
end
end Go.Proofs.YtgldbliohpfljaaGreatDoor
