/-
  What rows that reach package ladder's Parse list of the package variables, brought to the walks' own words (Laid); and a builder that hands on that the start's memory has the package variables' blocks.
-/
import Derived.Test.YtgldbliohpfljaaGreatDoorRlStayAll
import Derived.Test.YtgldbliohpfljaaGreatDoorCards
import Derived.ProofKit
import Derived.LaidMore
import Derived.LaidHandle
import Derived.LaidSub
import Derived.OpenShut
import Derived.ShutString
import Derived.ChangeOld
import Derived.ChangeSame
import Derived.Below
import Derived.Handed
import Derived.Stop.Joined
import Derived.Stop.LaidErr
namespace Go.Proofs.YtgldbliohpfljaaGreatDoor
namespace LdLaid
open Go.ChangeShapes Go.WideShapes Go.ChangeAt Go.RowKit
theorem gDoor : Tryz.prog.globalNamed "errors.errorType" = some 3 := by kernel_rfl
theorem rt : (Tryz.prog.cutTypes.find? (·.1 == "internal/reflectlite.rtype")).map (·.2) = some 362 := by kernel_rfl
theorem sizes : Tryz.prog.types.size = 432 := by kernel_rfl
theorem oneRow : ((List.range 432).filter fun t => Tryz.prog.rowNamed t [101, 114, 114, 111, 114]) = [33] := by kernel_rfl
theorem door_of {W : World} (h : handlesMet Tryz.prog [("errors.errorType", Rows.laid_errors_errorType)] W) : ErAs.Door W := by
  obtain ⟨name, u, ty, e1, e2, e3, e4, e5⟩ := h _ (List.mem_singleton.2 rfl)
  have en : name = [101, 114, 114, 111, 114] := (Option.some.inj e1).symm
  subst en
  obtain rfl := Option.some.inj (rt.symm.trans e2)
  have hm : ty ∈ (List.range 432).filter fun t => Tryz.prog.rowNamed t [101, 114, 114, 111, 114] := List.mem_filter.2 ⟨List.mem_range.2 (by rw [← sizes]; exact e3), e4⟩
  rw [oneRow] at hm
  obtain rfl := List.mem_singleton.1 hm
  have hh : typeHandle Tryz.prog 33 = .pointer (some ⟨14, 33, none⟩) := by kernel_rfl
  rw [hh] at e5
  unfold ErAs.Door
  simpa using World.var?_cell gDoor e5 0
theorem tPow : (Tryz.prog.globals[9]?).map (·.type) = some 378 := by kernel_rfl
theorem pows_of {W : World} (h : laidMet Tryz.prog [("internal/strconv.uint64pow10", Lib.tabData .u64 Lib.pow10Tab)] W) : Pows W :=
  Lib.tabIs_of_head gPows tPow Tryz.underlying378 Tryz.underlying332 (by kernel_rfl) (by kernel_rfl) h
theorem star : "*" ++ "errors.errorString" = "*errors.errorString" := by decide
theorem rowE (u : TypeId) (h : Tryz.prog.typeName? 3 u = some "*errors.errorString") : u = 397 :=
  typeName_ptr_named (nm := "errors.errorString") (by rw [star]; kernel_rfl) (by kernel_rfl) (by decide) u (by rw [star]; exact h)
theorem gES : Tryz.prog.globalNamed "strconv.ErrSyntax" = some 7 := by kernel_rfl
theorem gESType : (Tryz.prog.globals[7]?).map (·.type) = some 33 := by kernel_rfl
theorem gER : Tryz.prog.globalNamed "strconv.ErrRange" = some 8 := by kernel_rfl
theorem gERType : (Tryz.prog.globals[8]?).map (·.type) = some 33 := by kernel_rfl
theorem errs_of {W : World} (h1 : laidMet Tryz.prog [("strconv.ErrSyntax", Rows.laid_strconv_ErrSyntax)] W) (h2 : laidMet Tryz.prog [("strconv.ErrRange", Rows.laid_strconv_ErrRange)] W) : NumErrs W := by
  obtain ⟨a0, s0, hv0, -, -, -⟩ := laid_sentinel h1 gES gESType Tryz.underlying33 rowE Tryz.underlying397 Tryz.underlying399 rfl rfl Tryz.underlying9 (by kernel_rfl) (by kernel_rfl)
  obtain ⟨a1, s1, hv1, -, -, -⟩ := laid_sentinel h2 gER gERType Tryz.underlying33 rowE Tryz.underlying397 Tryz.underlying399 rfl rfl Tryz.underlying9 (by kernel_rfl) (by kernel_rfl)
  exact ⟨⟨_, _, by have h0 := World.var?_cell gES hv0 0; simpa using h0⟩, _, _, by have h0 := World.var?_cell gER hv1 0; simpa using h0⟩
/-- a table of texts -/
theorem strs_of {W : World} {name : String} {g n : Nat} {t : TypeId} {ls : List (List UInt8)} (hg : Tryz.prog.globalNamed name = some g) (ht : (Tryz.prog.globals[g]?).map (·.type) = some t) (hu : Tryz.prog.underlying t = some (.array n 9))
    (h : laidMet Tryz.prog [(name, .agg (ls.map fun l => .lit (.string l)))] W) : ∀ (i : Nat) l, ls[i]? = some l → W.cell? ⟨g, i, none⟩ = some (.string ⟨l.toArray⟩) := by
  intro i l hl
  obtain ⟨ps, ⟨g0, t0, cs0, f0, p0, q0, hg0, ht0, hv0, hd0, _, _⟩, _, _⟩ := h
  obtain rfl := Option.some.inj (hg.symm.trans hg0)
  obtain rfl := Option.some.inj (ht.symm.trans ht0)
  obtain ⟨xs, m, _, hx, hlen, hn, hall⟩ := DataW.trod_array hu hd0
  have hce : Tryz.prog.cellsOf 9 = 1 := by kernel_rfl
  simp only [Prod.mk.injEq, DataW.agg.injEq] at hx
  have hi : i < n := by
    have h1 := congrArg List.length hx.1
    simp only [List.length_map] at h1
    have h2 := (List.getElem?_eq_some_iff.1 hl).1
    omega
  have h1 := hall i hi
  rw [hce, Nat.mul_one] at h1
  obtain ⟨y, hy⟩ : ∃ y, xs[i]? = some y := ⟨xs[i], List.getElem?_eq_getElem (by omega)⟩
  rw [hy] at h1
  obtain ⟨s, e1, e2, _⟩ := DataW.trod_string Tryz.underlying9 h1
  have h3 := congrArg (·[i]?) hx.1
  simp only [List.getElem?_map, hl, hy, Option.map_some, e2, Option.some.injEq, DataW.lit.injEq, Lit.string.injEq] at h3
  have h4 := World.var?_cell hg0 hv0 i
  have h5 : cs0.toList[i]? = some (.string s) := by
    have h6 := congrArg (·[0]?) e1
    simpa [List.getElem?_take, List.getElem?_drop] using h6
  rw [h3]
  have h7 : cs0[i]? = some (.string s) := by rw [← Array.getElem?_toList]; exact h5
  simpa [h7] using h4
theorem gNW : Tryz.prog.globalNamed "signalcabin/ladder.nameWords" = some 5 := by kernel_rfl
theorem gRW : Tryz.prog.globalNamed "signalcabin/ladder.rungWords" = some 6 := by kernel_rfl
theorem tNW : (Tryz.prog.globals[5]?).map (·.type) = some 345 := by kernel_rfl
theorem tRW : (Tryz.prog.globals[6]?).map (·.type) = some 347 := by kernel_rfl
theorem words_of {W : World} (h1 : laidMet Tryz.prog [("signalcabin/ladder.nameWords", Rows.laid_signalcabin_ladder_nameWords)] W) (h2 : laidMet Tryz.prog [("signalcabin/ladder.rungWords", Rows.laid_signalcabin_ladder_rungWords)] W) : Words W := by
  have k1 := strs_of (ls := [[], [105, 110, 112, 117, 116], [99, 111, 105, 108], [116, 105, 109, 101, 114], [99, 111, 117, 110, 116, 101, 114]]) gNW tNW Tryz.underlying345 h1
  have k2 := strs_of (ls := [[], [], [115, 101, 116], [114, 101, 115, 101, 116], [114, 117, 110], [99, 111, 117, 110, 116], [122, 101, 114, 111]]) gRW tRW Tryz.underlying347 h2
  refine ⟨fun i hi => ?_, fun i hi => ?_⟩
  · match i, hi with
    | 0, _ => exact k1 0 _ rfl
    | 1, _ => exact k1 1 _ rfl
    | 2, _ => exact k1 2 _ rfl
    | 3, _ => exact k1 3 _ rfl
    | 4, _ => exact k1 4 _ rfl
    | n + 5, h => omega
  · match i, hi with
    | 0, _ => exact k2 0 _ rfl
    | 1, _ => exact k2 1 _ rfl
    | 2, _ => exact k2 2 _ rfl
    | 3, _ => exact k2 3 _ rfl
    | 4, _ => exact k2 4 _ rfl
    | 5, _ => exact k2 5 _ rfl
    | 6, _ => exact k2 6 _ rfl
    | n + 7, h => omega
/-- one variable of a list -/
def only (l : List (String × DataW Unit)) (s : String) : List (String × DataW Unit) := (l.filter fun x => x.2.handleName?.isNone).filter fun x => x.1 == s
theorem laid_of {W : World} {l : List (String × DataW Unit)} (hh : (l.filter fun x => x.2.handleName?.isSome) = [("errors.errorType", Rows.laid_errors_errorType)])
    (h1 : only l "strconv.ErrSyntax" = [("strconv.ErrSyntax", Rows.laid_strconv_ErrSyntax)]) (h2 : only l "strconv.ErrRange" = [("strconv.ErrRange", Rows.laid_strconv_ErrRange)])
    (h3 : only l "internal/strconv.uint64pow10" = [("internal/strconv.uint64pow10", Lib.tabData .u64 Lib.pow10Tab)])
    (h4 : only l "signalcabin/ladder.nameWords" = [("signalcabin/ladder.nameWords", Rows.laid_signalcabin_ladder_nameWords)]) (h5 : only l "signalcabin/ladder.rungWords" = [("signalcabin/ladder.rungWords", Rows.laid_signalcabin_ladder_rungWords)])
    (h : laidMetH Tryz.prog l W) (hlow : 14 ≤ W.heap.size) : Laid W := by
  unfold laidMetH at h
  rw [hh] at h
  obtain ⟨hd, hx⟩ := h
  have f := fun s => hd.filter fun x => x.1 == s
  have f1 := f "strconv.ErrSyntax"
  have f2 := f "strconv.ErrRange"
  have f3 := f "internal/strconv.uint64pow10"
  have f4 := f "signalcabin/ladder.nameWords"
  have f5 := f "signalcabin/ladder.rungWords"
  unfold only at h1 h2 h3 h4 h5
  rw [h1] at f1
  rw [h2] at f2
  rw [h3] at f3
  rw [h4] at f4
  rw [h5] at f5
  exact ⟨words_of f4 f5, errs_of f1 f2, pows_of f3, door_of hx, hlow⟩
/-- the last package variable's block -/
theorem low_of {W : World} (h : W.ShapedOpen Tryz.prog) : 14 ≤ W.heap.size := by
  have hg : Tryz.prog.globals.size = 14 := by kernel_rfl
  have hi : (((begin Tryz.prog (fun _ _ => 0) default).world.heap[14 - 1]?).bind Obj.row?).isSome = true := by kernel_rfl
  obtain ⟨⟨z, t⟩, hr⟩ := Option.isSome_iff_exists.1 hi
  obtain ⟨cs, hc, _⟩ := h.1 (14 - 1) z t (by rw [hg]; decide) hr
  have := (Array.getElem?_eq_some_iff.1 hc).1
  omega
set_option maxRecDepth 100000 in
/-- a row's contract, proved where the start's memory is known to be shaped -/
theorem returns_low {H : Type} {enc : TypeId × Value → H} {os : Os} {f : FuncId} {fn : Func} {s : ChangeSpec} {X : World → Prop} (hX : ∀ (w w' : World), w.heap = w'.heap → X w → X w')
    (own : ownKnob Tryz.checked.prog.godebug = none) (started : os.Started) (noInit : Tryz.checked.prog.inits.idxOf? f = none) (hfn : Tryz.checked.prog.funcs[f]? = some fn)
    (witness : ∃ (w : World) (tape : Tape) (i : Input), w.os = os ∧ (w.forCall tape i).Shaped Tryz.checked.prog ∧ i.vars = [] ∧ Input.okWide Tryz.checked.prog (w.forCall tape i) .any w.heap.size f i ∧
      ((s.pre enc Tryz.checked.prog fn [] false (w.forCall tape i).memory i.args ∧ X (w.forCall tape i).memory) ∧ sizedMet enc Tryz.checked.prog fn (OpenSpec.ofChange s) false (w.forCall tape i).memory i.args) ∧ ({} : Assume).holds Tryz.checked.prog (lone (Frame.enter Tryz.checked.prog f i.args .normal) [] (w.forCall tape i)))
    (contract : ∀ (W : World) (base : Nat) (args : Array Value) (ds gs : List (DataW H)) (before : List MemPlace), 14 ≤ W.heap.size →
      (∀ (j : Nat) t v, fn.params[j]? = some t → args[j]? = some v → Value.okWide Tryz.checked.prog W .any base t v) →
      DataW.Whole enc Tryz.checked.prog fn.params.toList s.vars false W args.toList ds gs before → X W →
      Calls Tryz.checked.prog f args W fun e W' => ∃ v, e = .returned v ∧ s.post enc Tryz.checked.prog fn false true false false W args v W') :
    ReturnsInHanded {} Tryz.checked os f .any (fun w args => (s.pre enc Tryz.checked.prog fn [] false w args ∧ X w) ∧ sizedMet enc Tryz.checked.prog fn (OpenSpec.ofChange s) false w args) (s.post enc Tryz.checked.prog fn false true false false) := by
  refine returnsInHanded_of_calls own started noInit witness fun w tape i _ hsh _ hok hpre _ => ?_
  obtain ⟨_, _, _, fn', hfn', _, _, _, _, hval⟩ := hok
  obtain rfl : fn' = fn := Option.some.inj (hfn'.symm.trans hfn)
  obtain ⟨⟨⟨ds, gs, before, hw, _⟩, hx⟩, _⟩ := hpre
  have hw' := DataW.Whole.of_heap (w' := w.forCall tape i) (by rfl) hw
  have hx' := hX _ (w.forCall tape i) (by rfl) hx
  refine (contract (w.forCall tape i) w.heap.size i.args ds gs before (low_of hsh) hval hw' hx').mono ?_
  rintro e W' ⟨v, rfl, hp⟩
  exact ChangeSpec.post_blind hp
end LdLaid
end Go.Proofs.YtgldbliohpfljaaGreatDoor
