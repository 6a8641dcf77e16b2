/-
  What rows that reach the document's ProgramParse list of the package variables, brought to the walks' own words (PLaid); and a builder that hands on that the start's memory has its shape.
-/
import Derived.Test.YtgldbliohpfljaaGreatDoorLdLaid
import Derived.Test.YtgldbliohpfljaaGreatDoorRlStayAll
import Derived.Deep.Strs
namespace Go.Proofs.YtgldbliohpfljaaGreatDoor
namespace RlLaid
open Go.ChangeShapes Go.WideShapes Go.ChangeAt Go.RowKit
/-- a slice of texts -/
theorem row_of {W : World} {name : String} {g : Nat} {ls : List (List UInt8)} (hg : Tryz.prog.globalNamed name = some g) (ht : (Tryz.prog.globals[g]?).map (·.type) = some 65) (hne : 0 < ls.length)
    (h : laidMet Tryz.prog [(name, .slice (ls.map fun l => .lit (.string l)) [])] W) : ∃ b o c, W.cell? ⟨g, 0, none⟩ = some (.slice (some ⟨b, o, none⟩) ls.length c) ∧ ls.length ≤ c ∧ ∀ (k : Nat) l, ls[k]? = some l → W.cell? ⟨b, o + k, none⟩ = some (.string ⟨l.toArray⟩) := by
  obtain ⟨ps, ⟨g0, t0, cs0, f0, p0, q0, hg0, ht0, hv0, hd0, _, _⟩, _, _⟩ := h
  obtain rfl := Option.some.inj (hg.symm.trans hg0)
  obtain rfl := Option.some.inj (ht.symm.trans ht0)
  rcases Go.Deep.open_strs Tryz.underlying65 Tryz.underlying9 (by kernel_rfl) hd0 with ⟨_, hx⟩ | ⟨a, len, cap, m, Sx, hcs, _, hlc, _, hm, hx, hcell⟩
  · simp at hx
  · simp only [Prod.mk.injEq, DataW.slice.injEq] at hx
    have h1 := hx.1.1
    have hlen : ls.length = len := by
      have := congrArg List.length h1
      simpa using this
    subst hlen
    have hlm : ls.length ≤ m := by rw [hm]; split <;> omega
    have hS : ∀ (k : Nat) l, ls[k]? = some l → Sx k = ⟨l.toArray⟩ := fun k l hk => by
      have h2 := congrArg (·[k]?) h1
      have hkl : k < ls.length := (List.getElem?_eq_some_iff.1 hk).1
      simp only [List.getElem?_map, hk, List.getElem?_range hkl, Option.map_some, Option.some.injEq, DataW.lit.injEq, Lit.string.injEq] at h2
      rw [h2]
    obtain ⟨b, off, spot⟩ := a
    have hc0 := (hcell 0 (by omega)).1
    have hspot : spot = none := by simpa [Addr.add] using World.cell?_spot hc0
    subst hspot
    refine ⟨b, off, cap, ?_, hlc, fun k l hk => ?_⟩
    · have h4 := World.var?_cell hg0 hv0 0
      rw [Array.eq_one_of_toList hcs] at h4
      simpa using h4
    · have h5 := (hcell k (by have := (List.getElem?_eq_some_iff.1 hk).1; omega)).1
      rw [hS k l hk] at h5
      cases k <;> simpa [Addr.add] using h5
theorem gFine : Tryz.prog.globalNamed "signalcabin/signalcabinref.Fine" = some 0 := by kernel_rfl
theorem tFine : (Tryz.prog.globals[0]?).map (·.type) = some 93 := by kernel_rfl
theorem maxLen_of {W : World} (h : W.ShapedOpen Tryz.prog) : ∃ m, W.cell? ⟨4, 0, none⟩ = some (.int .i64 m) :=
  cell_of_shapedOpen_int (zero := #[.int .i64 0]) h (of_decide_eq_true (by kernel_rfl)) (by kernel_rfl) (by kernel_rfl) (by kernel_rfl) (by kernel_rfl) Tryz.underlying3
set_option maxRecDepth 100000 in
theorem fine_of {W : World} (h : laidMet Tryz.prog [("signalcabin/signalcabinref.Fine", Rows.laid_signalcabin_signalcabinref_Fine)] W) : Fine W := by
  obtain ⟨ps, ⟨g0, t0, cs0, f0, p0, q0, hg0, ht0, hv0, hd0, _, _⟩, _, _⟩ := h
  obtain rfl := Option.some.inj (gFine.symm.trans hg0)
  obtain rfl := Option.some.inj (tFine.symm.trans ht0)
  obtain ⟨y0, y1, n, hx, hl, hy0, hy1⟩ := trod_struct2 Tryz.underlying93 hd0
  have c42 : Tryz.prog.cellsOf 40 = 1 := by kernel_rfl
  have c3 : Tryz.prog.cellsOf 3 = 1 := by kernel_rfl
  obtain ⟨k0, e0, e0', _⟩ := DataW.trod_int Tryz.underlying40 hy0
  obtain ⟨k1, e1, e1', _⟩ := DataW.trod_int Tryz.underlying3 hy1
  rw [c42] at e0
  rw [c3] at e1
  simp only [Prod.mk.injEq] at hx
  have hx1 := hx.1
  rw [e0', e1'] at hx1
  simp only [Rows.laid_signalcabin_signalcabinref_Fine, DataW.agg.injEq, List.cons.injEq, DataW.lit.injEq, Lit.int.injEq, true_and, and_true] at hx1
  obtain ⟨rfl, rfl⟩ := hx1
  have v0 := World.var?_cell hg0 hv0 0
  have v1 := World.var?_cell hg0 hv0 1
  obtain ⟨l0⟩ := cs0
  rcases l0 with _ | ⟨c, _ | ⟨d, r⟩⟩
  · simp at e0
  · simp at e1
  · simp at e0 e1
    subst e0
    subst e1
    exact ⟨by simpa using v0, by simpa using v1⟩
theorem gNW : Tryz.prog.globalNamed "signalcabin/signalcabinref.nameWords" = some 2 := by kernel_rfl
theorem gRW : Tryz.prog.globalNamed "signalcabin/signalcabinref.rungWords" = some 1 := by kernel_rfl
theorem tNW : (Tryz.prog.globals[2]?).map (·.type) = some 65 := by kernel_rfl
theorem tRW : (Tryz.prog.globals[1]?).map (·.type) = some 65 := by kernel_rfl
theorem wds_of {W : World} (h1 : laidMet Tryz.prog [("signalcabin/signalcabinref.nameWords", Rows.laid_signalcabin_signalcabinref_nameWords)] W) (h2 : laidMet Tryz.prog [("signalcabin/signalcabinref.rungWords", Rows.laid_signalcabin_signalcabinref_rungWords)] W) : RWds W := by
  obtain ⟨b1, o1, c1, k1, k2, k3⟩ := row_of (ls := [[], [105, 110, 112, 117, 116], [99, 111, 105, 108], [116, 105, 109, 101, 114], [99, 111, 117, 110, 116, 101, 114]]) gNW tNW (by decide) h1
  obtain ⟨b2, o2, c2, m1, m2, m3⟩ := row_of (ls := [[], [], [115, 101, 116], [114, 101, 115, 101, 116], [114, 117, 110], [99, 111, 117, 110, 116], [122, 101, 114, 111]]) gRW tRW (by decide) h2
  refine ⟨b1, o1, c1, b2, o2, c2, ⟨k1, k2, fun i hi => ?_⟩, m1, m2, fun i hi => ?_⟩
  · match i, hi with
    | 0, _ => exact k3 0 _ rfl
    | 1, _ => exact k3 1 _ rfl
    | 2, _ => exact k3 2 _ rfl
    | 3, _ => exact k3 3 _ rfl
    | 4, _ => exact k3 4 _ rfl
    | n + 5, h => omega
  · match i, hi with
    | 0, _ => exact m3 0 _ rfl
    | 1, _ => exact m3 1 _ rfl
    | 2, _ => exact m3 2 _ rfl
    | 3, _ => exact m3 3 _ rfl
    | 4, _ => exact m3 4 _ rfl
    | 5, _ => exact m3 5 _ rfl
    | 6, _ => exact m3 6 _ rfl
    | n + 7, h => omega
theorem plaid_of {W : World} {l : List (String × DataW Unit)} (hh : (l.filter fun x => x.2.handleName?.isSome) = [("errors.errorType", Rows.laid_errors_errorType)])
    (h1 : LdLaid.only l "signalcabin/signalcabinref.Fine" = [("signalcabin/signalcabinref.Fine", Rows.laid_signalcabin_signalcabinref_Fine)])
    (h2 : LdLaid.only l "signalcabin/signalcabinref.nameWords" = [("signalcabin/signalcabinref.nameWords", Rows.laid_signalcabin_signalcabinref_nameWords)]) (h3 : LdLaid.only l "signalcabin/signalcabinref.rungWords" = [("signalcabin/signalcabinref.rungWords", Rows.laid_signalcabin_signalcabinref_rungWords)])
    (h : laidMetH Tryz.prog l W) (hs : W.ShapedOpen Tryz.prog) (hL : Laid W) : PLaid W := by
  unfold laidMetH at h
  rw [hh] at h
  obtain ⟨hd, _⟩ := h
  have f := fun s => hd.filter fun x => x.1 == s
  have f1 := f "signalcabin/signalcabinref.Fine"
  have f2 := f "signalcabin/signalcabinref.nameWords"
  have f3 := f "signalcabin/signalcabinref.rungWords"
  unfold LdLaid.only at h1 h2 h3
  rw [h1] at f1
  rw [h2] at f2
  rw [h3] at f3
  exact ⟨⟨fine_of f1, maxLen_of hs⟩, wds_of f2 f3, hL.errs, hL.pows, hL.low⟩
set_option maxRecDepth 100000 in
/-- a row's contract, proved where the start's memory is known to be shaped -/
theorem returns_shaped {H : Type} {enc : TypeId × Value → H} {os : Os} {f : FuncId} {fn : Func} {s : ChangeSpec} {X : World → Prop} (hX : ∀ (w w' : World), w.heap = w'.heap → X w → X w')
    (own : ownKnob Tryz.checked.prog.godebug = none) (started : os.Started) (noInit : Tryz.checked.prog.inits.idxOf? f = none) (hfn : Tryz.checked.prog.funcs[f]? = some fn)
    (witness : ∃ (w : World) (tape : Tape) (i : Input), w.os = os ∧ (w.forCall tape i).Shaped Tryz.checked.prog ∧ i.vars = [] ∧ Input.okWide Tryz.checked.prog (w.forCall tape i) .any w.heap.size f i ∧
      ((s.pre enc Tryz.checked.prog fn [] false (w.forCall tape i).memory i.args ∧ X (w.forCall tape i).memory) ∧ sizedMet enc Tryz.checked.prog fn (OpenSpec.ofChange s) false (w.forCall tape i).memory i.args) ∧ ({} : Assume).holds Tryz.checked.prog (lone (Frame.enter Tryz.checked.prog f i.args .normal) [] (w.forCall tape i)))
    (contract : ∀ (W : World) (base : Nat) (args : Array Value) (ds gs : List (DataW H)) (before : List MemPlace), W.ShapedOpen Tryz.prog →
      (∀ (j : Nat) t v, fn.params[j]? = some t → args[j]? = some v → Value.okWide Tryz.checked.prog W .any base t v) →
      DataW.Whole enc Tryz.checked.prog fn.params.toList s.vars false W args.toList ds gs before → X W →
      Calls Tryz.checked.prog f args W fun e W' => ∃ v, e = .returned v ∧ s.post enc Tryz.checked.prog fn false true false false W args v W') :
    ReturnsInHanded {} Tryz.checked os f .any (fun w args => (s.pre enc Tryz.checked.prog fn [] false w args ∧ X w) ∧ sizedMet enc Tryz.checked.prog fn (OpenSpec.ofChange s) false w args) (s.post enc Tryz.checked.prog fn false true false false) := by
  refine returnsInHanded_of_calls own started noInit witness fun w tape i _ hsh _ hok hpre _ => ?_
  obtain ⟨_, _, _, fn', hfn', _, _, _, _, hval⟩ := hok
  obtain rfl : fn' = fn := Option.some.inj (hfn'.symm.trans hfn)
  obtain ⟨⟨⟨ds, gs, before, hw, _⟩, hx⟩, _⟩ := hpre
  have hw' := DataW.Whole.of_heap (w' := w.forCall tape i) (by rfl) hw
  have hx' := hX _ (w.forCall tape i) (by rfl) hx
  refine (contract (w.forCall tape i) w.heap.size i.args ds gs before hsh hval hw' hx').mono ?_
  rintro e W' ⟨v, rfl, hp⟩
  exact ChangeSpec.post_blind hp
end RlLaid
end Go.Proofs.YtgldbliohpfljaaGreatDoor
