/-
  What the walk is told of a table that came in.
-/
import Derived.Test.YtmniiclmimidjaaDoorRoIn
import Derived.Test.YtmniiclmimidjaaDoorRoMath
namespace Go.Proofs.YtmniiclmimidjaaDoor
namespace Ro
open Go.ChangeShapes Go.WideShapes Go.ChangeAt Go.RowKit
theorem weights_in {H : Type} (P : Program) (e : TypeId) : ∀ (es : List (DataW H)) (d : DataW H), d ∈ es → ∀ k, k ∈ d.weights P e → k ∈ DataW.weightsAll P e es
  | [], d, h => by cases h
  | x :: es, d, h => fun k hk => by
    rw [DataW.weightsAll]
    rcases List.mem_cons.1 h with rfl | h
    · exact List.mem_append_left _ hk
    · exact List.mem_append_right _ (weights_in P e es d h k hk)
theorem in_rts {H : Type} {enc : TypeId × Value → H} {W : World} {fuel : Nat} {sv : Value} {x : DataW H × List MemPlace} (h : DataW.trod enc Tryd.prog W 0 (fun _ => true) true fuel 22 [sv] = some x) (hw : (x.1.weights Tryd.prog 22).all (· ≤ reachBytes) = true) : ∃ l, Rts W sv l := by
  have hce : Tryd.prog.cellsOf 42 = 2 := by kernel_rfl
  rcases Go.Deep.open_slice Tryd.underlying22 h with ⟨hcs, _⟩ | ⟨a, len, cap, m, n, D, Pl, hcs, _, hlc, hcm, hm, hxx, hx⟩
  · simp at hcs
    subst hcs
    exact ⟨[], none, 0, rfl, by simp, fun i n hi => by simp at hi⟩
  · simp only [List.cons.injEq, and_true] at hcs
    subst hcs
    rw [hce] at hx
    have hlm : len ≤ m := by rw [hm]; simp; omega
    have hd : x.1 = .slice ((List.range len).map D) ((List.range (m - len)).map fun j => D (len + j)) := congrArg Prod.fst hxx
    rw [hd] at hw
    have hwe : ∀ i, i < len → ((D i).weights Tryd.prog 42).all (· ≤ reachBytes) = true := fun i hi => List.all_eq_true.2 fun k hk => by
      refine List.all_eq_true.1 hw k ?_
      rw [DataW.weights, Tryd.underlying22]
      exact List.mem_cons_of_mem _ (List.mem_append_left _ (weights_in _ _ _ (D i) (List.mem_map.2 ⟨i, List.mem_range.2 hi, rfl⟩) k hk))
    have each : ∀ i, i < len → ∃ r : Rt, ∃ u v, W.cell? (a.add (i * 2)) = some u ∧ W.cell? ((a.add (i * 2)).add 1) = some v ∧ Ints W u r.secs ∧ Pts W v r.pts ∧ r.pts.length ≤ mxP := fun i hi => by
      obtain ⟨cs', h1, h2⟩ := hx i (by omega)
      obtain ⟨u, v, rfl, c0, c1⟩ := two h1
      obtain ⟨r, e1, e2, e3, e4⟩ := in_route0 h2 (hwe i hi)
      exact ⟨r, u, v, c0, c1, e1, e2, e4⟩
    haveI : Inhabited Rt := ⟨⟨[], []⟩⟩
    obtain ⟨Nf, hN⟩ := Go.Deep.choose_lt each
    refine ⟨(List.range len).map Nf, some a, cap, by simp, by simp; omega, fun i n hi => ?_⟩
    have hil : i < len := by have := (List.getElem?_eq_some_iff.1 hi).1; simpa using this
    have hn : Nf i = n := by simpa [hil] using hi
    subst hn
    obtain ⟨u, v, c0, c1, e1⟩ := hN i hil
    obtain ⟨g, o, spot⟩ := a
    have hspot : spot = none := by
      obtain ⟨u0, v0, c00, _⟩ := hN 0 (by omega)
      have h5 := World.cell?_spot c00
      simpa [Addr.add] using h5
    subst hspot
    rw [add_flat] at c0 c1
    rw [add_flat] at c1
    exact ⟨g, o, u, v, rfl, by simp; omega, c0, c1, e1⟩
set_option maxRecDepth 100000 in
theorem in_table {H : Type} {enc : TypeId × Value → H} {W : World} {r : _} {base : Nat} {v : Value} {d : DataW H} {p : List MemPlace} (hok : Value.okWide Tryd.prog W r base 24 v) (h : DataW.Trod enc Tryd.prog W 0 (fun _ => true) true 24 v d p) (hw : (d.weights Tryd.prog 24).all (· ≤ reachBytes) = true) : ∃ (rv : Value) (t : Tbl), v = .agg #[.int .i64 t.secs, .int .i64 t.pts, rv] ∧ Rts W rv t.rts := by
  obtain ⟨fuel, hf⟩ := h
  obtain ⟨cs, rfl, hsz⟩ := okWide_struct Tryd.underlying24 hok
  have hc : Tryd.prog.cellsOf 24 = 3 := by kernel_rfl
  have hc0 : Tryd.prog.cellsOf 3 = 1 := by kernel_rfl
  have hc1 : Tryd.prog.cellsOf 22 = 1 := by kernel_rfl
  rw [hc] at hsz
  obtain ⟨y0, y1, y2, n, hxx, hl, t0, t1, t2⟩ := Go.Deep.trod_struct3 Tryd.underlying24 hf
  have hd : d = .agg [y0.1, y1.1, y2.1] := congrArg Prod.fst hxx
  subst hd
  have hws : (DataW.agg [y0.1, y1.1, y2.1]).weights Tryd.prog 24 = y0.1.weights Tryd.prog 3 ++ (y1.1.weights Tryd.prog 3 ++ (y2.1.weights Tryd.prog 22 ++ [])) := by
    simp [DataW.weights, Tryd.underlying24, DataW.weightsEach]
  rw [hws, List.all_append, List.all_append, List.append_nil, Bool.and_eq_true, Bool.and_eq_true] at hw
  obtain ⟨l⟩ := cs
  match l, hsz with
  | [u0, u1, u2], _ =>
    have e : (Value.agg #[u0, u1, u2]).cells.toList = [u0, u1, u2] := rfl
    rw [e, hc0] at t0
    rw [e, hc0] at t1
    rw [e, hc1] at t2
    obtain ⟨k0, e0, _, _⟩ := DataW.trod_int Tryd.underlying3 t0
    obtain ⟨k1, e1, _, _⟩ := DataW.trod_int Tryd.underlying3 t1
    simp at e0 e1
    subst e0 e1
    obtain ⟨L, h1⟩ := in_rts (by simpa using t2) hw.2.2
    exact ⟨u2, ⟨k0, k1, L⟩, rfl, h1⟩
end Ro
end Go.Proofs.YtmniiclmimidjaaDoor
