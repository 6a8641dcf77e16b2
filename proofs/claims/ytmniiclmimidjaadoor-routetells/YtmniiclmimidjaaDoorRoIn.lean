/-
  What the walks are told of routes that came in.
-/
import Derived.Test.YtmniiclmimidjaaDoorRoCheck
import Derived.Deep.Strs
import Derived.ChangeSlices
import Derived.ChangeSame
import Derived.ProofKit
import Derived.SizedLaws
namespace Go.Proofs.YtmniiclmimidjaaDoor
namespace Ro
open Go.ChangeShapes Go.WideShapes Go.ChangeAt Go.RowKit
theorem add_flat (g o j : Nat) : (⟨g, o, none⟩ : Addr).add j = ⟨g, o + j, none⟩ := by unfold Addr.add; split <;> simp_all
theorem i64_of {k : Int} (hw : (Lit.int .i64 k).wf = true) : I64 k := (by simpa [Lit.wf, IntKind.min, IntKind.max, IntKind.signed, IntKind.bits] using hw : -9223372036854775808 ≤ k ∧ k ≤ 9223372036854775807)
theorem one {W : World} {base : Nat} {a : Addr} {cs : List Value} (h : W.cells? base a 1 = some cs) : ∃ x, cs = [x] ∧ W.cell? a = some x := by
  obtain ⟨_, hl, hc⟩ := World.cells?_some h
  match cs, hl with
  | [x], _ => exact ⟨x, rfl, by have := hc 0 (by omega); simpa [Addr.add] using this⟩
theorem two {W : World} {base : Nat} {a : Addr} {cs : List Value} (h : W.cells? base a 2 = some cs) : ∃ x y, cs = [x, y] ∧ W.cell? a = some x ∧ W.cell? (a.add 1) = some y := by
  obtain ⟨_, hl, hc⟩ := World.cells?_some h
  match cs, hl with
  | [x, y], _ => exact ⟨x, y, rfl, by have := hc 0 (by omega); simpa [Addr.add] using this, by simpa using hc 1 (by omega)⟩
/-- how long what was read is -/
def Long {H : Type} (d : DataW H) (n : Nat) : Prop := n = 0 ∨ ∃ es sp, d = .slice es sp ∧ es.length = n
theorem in_ints0 {H : Type} {enc : TypeId × Value → H} {W : World} {fuel : Nat} {sv : Value} {x : DataW H × List MemPlace} (h : DataW.trod enc Tryd.prog W 0 (fun _ => true) true fuel 39 [sv] = some x) : ∃ l, Ints W sv l ∧ Long x.1 l.length := by
  have hce : Tryd.prog.cellsOf 3 = 1 := by kernel_rfl
  rcases Go.Deep.open_slice Tryd.underlying39 h with ⟨hcs, _⟩ | ⟨a, len, cap, m, n, D, Pl, hcs, _, hlc, hcm, hm, hxx, hx⟩
  · simp at hcs
    subst hcs
    exact ⟨[], Ints.nil _ _ _, .inl rfl⟩
  · simp only [List.cons.injEq, and_true] at hcs
    subst hcs
    rw [hce] at hx
    have hlm : len ≤ m := by rw [hm]; simp; omega
    have each : ∀ i, i < len → ∃ k : Int, W.cell? (a.add (i * 1)) = some (.int .i64 k) ∧ I64 k := fun i hi => by
      obtain ⟨cs', h1, h2⟩ := hx i (by omega)
      obtain ⟨u, rfl, c⟩ := one h1
      obtain ⟨k1, e4, _, e5⟩ := DataW.trod_int Tryd.underlying3 h2
      simp at e4
      subst e4
      exact ⟨k1, c, i64_of e5⟩
    obtain ⟨Nf, hN⟩ := Go.Deep.choose_lt each
    refine ⟨(List.range len).map Nf, ⟨some a, cap, by simp, by simp; omega, fun i n hi => ?_⟩, .inr ⟨_, _, by rw [hxx], by simp⟩⟩
    have hil : i < len := by have := (List.getElem?_eq_some_iff.1 hi).1; simpa using this
    have hn : Nf i = n := by simpa [hil] using hi
    subst hn
    obtain ⟨c0, e1⟩ := hN i hil
    obtain ⟨g, o, spot⟩ := a
    have hspot : spot = none := by
      have h5 := World.cell?_spot (hN 0 (by omega)).1
      simpa [Addr.add] using h5
    subst hspot
    rw [add_flat] at c0
    exact ⟨g, o, rfl, by simp; omega, by simpa using c0, e1⟩
theorem in_pts0 {H : Type} {enc : TypeId × Value → H} {W : World} {fuel : Nat} {sv : Value} {x : DataW H × List MemPlace} (h : DataW.trod enc Tryd.prog W 0 (fun _ => true) true fuel 40 [sv] = some x) : ∃ l, Pts W sv l ∧ Long x.1 l.length := by
  have hce : Tryd.prog.cellsOf 50 = 2 := by kernel_rfl
  have hci : Tryd.prog.cellsOf 3 = 1 := by kernel_rfl
  have hcb : Tryd.prog.cellsOf 4 = 1 := by kernel_rfl
  rcases Go.Deep.open_slice Tryd.underlying40 h with ⟨hcs, _⟩ | ⟨a, len, cap, m, n, D, Pl, hcs, _, hlc, hcm, hm, hxx, hx⟩
  · simp at hcs
    subst hcs
    exact ⟨[], ⟨none, 0, rfl, by simp, fun i n hi => by simp at hi⟩, .inl rfl⟩
  · simp only [List.cons.injEq, and_true] at hcs
    subst hcs
    rw [hce] at hx
    have hlm : len ≤ m := by rw [hm]; simp; omega
    have each : ∀ i, i < len → ∃ p : Int × Bool, W.cell? (a.add (i * 2)) = some (.int .i64 p.1) ∧ W.cell? ((a.add (i * 2)).add 1) = some (.bool p.2) ∧ I64 p.1 := fun i hi => by
      obtain ⟨cs', h1, h2⟩ := hx i (by omega)
      obtain ⟨u, v, rfl, c0, c1⟩ := two h1
      obtain ⟨y0, y1, k, _, _, f0, f1⟩ := trod_struct2 Tryd.underlying50 h2
      rw [hci] at f0
      obtain ⟨k0, e0, _, w0⟩ := DataW.trod_int Tryd.underlying3 f0
      have f1' : DataW.trod enc Tryd.prog W 0 (fun _ => true) true k 4 [v] = some y1 := by
        rw [hcb] at f1
        simpa using f1
      obtain ⟨b1, e1, _⟩ := DataW.trod_bool Tryd.underlying4 f1'
      simp only [List.cons.injEq, and_true] at e1
      simp at e0
      subst e0 e1
      exact ⟨(k0, b1), c0, c1, i64_of w0⟩
    obtain ⟨Nf, hN⟩ := Go.Deep.choose_lt each
    refine ⟨(List.range len).map Nf, ⟨some a, cap, by simp, by simp; omega, fun i n hi => ?_⟩, .inr ⟨_, _, by rw [hxx], by simp⟩⟩
    have hil : i < len := by have := (List.getElem?_eq_some_iff.1 hi).1; simpa using this
    have hn : Nf i = n := by simpa [hil] using hi
    subst hn
    obtain ⟨c0, c1, e1⟩ := hN i hil
    obtain ⟨g, o, spot⟩ := a
    have hspot : spot = none := by
      have h5 := World.cell?_spot (hN 0 (by omega)).1
      simpa [Addr.add] using h5
    subst hspot
    rw [add_flat] at c0 c1
    rw [add_flat] at c1
    exact ⟨g, o, rfl, by simp; omega, c0, c1, e1⟩
theorem long_ints {H : Type} {d : DataW H} {n : Nat} (h : Long d n) (hw : (d.weights Tryd.prog 39).all (· ≤ reachBytes) = true) : n ≤ mxP := by
  rcases h with rfl | ⟨es, sp, rfl, rfl⟩
  · exact Nat.zero_le _
  · have hb : Tryd.prog.bytesOf 3 = 8 := by kernel_rfl
    have := List.all_eq_true.1 hw ((es.length + sp.length) * 8) (by simp [DataW.weights, Tryd.underlying39, hb])
    have h2 : (es.length + sp.length) * 8 ≤ reachBytes := by simpa using this
    have h3 : reachBytes < 140737488355328 := by decide
    unfold mxP
    omega
theorem long_pts {H : Type} {d : DataW H} {n : Nat} (h : Long d n) (hw : (d.weights Tryd.prog 40).all (· ≤ reachBytes) = true) : n ≤ mxP := by
  rcases h with rfl | ⟨es, sp, rfl, rfl⟩
  · exact Nat.zero_le _
  · have hb : Tryd.prog.bytesOf 50 = 16 := by kernel_rfl
    have := List.all_eq_true.1 hw ((es.length + sp.length) * 16) (by simp [DataW.weights, Tryd.underlying40, hb])
    have h2 : (es.length + sp.length) * 16 ≤ reachBytes := by simpa using this
    have h3 : reachBytes < 140737488355328 := by decide
    unfold mxP
    omega
/-- a route's two cells -/
theorem in_route0 {H : Type} {enc : TypeId × Value → H} {W : World} {fuel : Nat} {u v : Value} {x : DataW H × List MemPlace} (h : DataW.trod enc Tryd.prog W 0 (fun _ => true) true fuel 42 [u, v] = some x) (hw : (x.1.weights Tryd.prog 42).all (· ≤ reachBytes) = true) : ∃ r : Rt, Ints W u r.secs ∧ Pts W v r.pts ∧ r.secs.length ≤ mxP ∧ r.pts.length ≤ mxP := by
  obtain ⟨y0, y1, n, hxx, hl, t0, t1⟩ := trod_struct2 Tryd.underlying42 h
  have hc1 : Tryd.prog.cellsOf 39 = 1 := by kernel_rfl
  have hc2 : Tryd.prog.cellsOf 40 = 1 := by kernel_rfl
  have hd : x.1 = .agg [y0.1, y1.1] := congrArg Prod.fst hxx
  rw [hd] at hw
  have hws : (DataW.agg [y0.1, y1.1]).weights Tryd.prog 42 = y0.1.weights Tryd.prog 39 ++ (y1.1.weights Tryd.prog 40 ++ []) := by
    simp [DataW.weights, Tryd.underlying42, DataW.weightsEach]
  rw [hws, List.all_append, List.append_nil, Bool.and_eq_true] at hw
  rw [hc1] at t0
  rw [hc2] at t1
  obtain ⟨s, h1, k1⟩ := in_ints0 (by simpa using t0)
  obtain ⟨p, h2, k2⟩ := in_pts0 (by simpa using t1)
  exact ⟨⟨s, p⟩, h1, h2, long_ints k1 hw.1, long_pts k2 hw.2⟩
set_option maxRecDepth 100000 in
theorem in_route {H : Type} {enc : TypeId × Value → H} {W : World} {r : _} {base : Nat} {v : Value} {d : DataW H} {p : List MemPlace} (hok : Value.okWide Tryd.prog W r base 42 v) (h : DataW.Trod enc Tryd.prog W 0 (fun _ => true) true 42 v d p) (hw : (d.weights Tryd.prog 42).all (· ≤ reachBytes) = true) : ∃ (sv pv : Value) (r : Rt), v = .agg #[sv, pv] ∧ Ints W sv r.secs ∧ Pts W pv r.pts ∧ r.secs.length ≤ mxP ∧ r.pts.length ≤ mxP := by
  obtain ⟨fuel, hf⟩ := h
  obtain ⟨cs, rfl, hsz⟩ := okWide_struct Tryd.underlying42 hok
  have hc : Tryd.prog.cellsOf 42 = 2 := by kernel_rfl
  rw [hc] at hsz
  obtain ⟨l⟩ := cs
  match l, hsz with
  | [av, rv], _ =>
    obtain ⟨r, h1⟩ := in_route0 (u := av) (v := rv) hf hw
    exact ⟨av, rv, r, rfl, h1⟩
end Ro
end Go.Proofs.YtmniiclmimidjaaDoor
