/-
  What the walks are told of routes that came in. What the walk is told of a table that came in. Slices of numbers that came in, as the walks want them.
-/
import Derived.Test.YtflonjbbolmelaaGreatDoorRoCheckWAll
import Derived.Deep.Strs
import Derived.ChangeSlices
import Derived.ChangeSame
import Derived.ProofKit
import Derived.SizedLaws
import Derived.Test.YtflonjbbolmelaaGreatDoorRoTwiceAll
import Derived.Test.YtflonjbbolmelaaGreatDoorKeInputsAll
namespace Go.Proofs.YtflonjbbolmelaaGreatDoor
section
namespace Ro
open Go.ChangeShapes Go.WideShapes Go.ChangeAt Go.RowKit
theorem add_flat (g o j : Nat) : (⟨g, o, none⟩ : Addr).add j = ⟨g, o + j, none⟩ := by unfold Addr.add; split <;> simp_all
theorem i64_of {k : Int} (hw : (Lit.int .i64 k).wf = true) : I64 k := (by simpa [Lit.wf, IntKind.min, IntKind.max, IntKind.signed, IntKind.bits] using hw : -9223372036854775808 ≤ k ∧ k ≤ 9223372036854775807)
theorem one {W : World} {base : Nat} {a : Addr} {cs : List Value} (h : W.cells? base a 1 = some cs) : ∃ x, cs = [x] ∧ W.cell? a = some x := by
  obtain ⟨_, hl, hc⟩ := World.cells?_some h
  match cs, hl with
  | [x], _ => exact ⟨x, rfl, by have := hc 0 (by omega); simpa [Addr.add] using this⟩
theorem two {W : World} {base : Nat} {a : Addr} {cs : List Value} (h : W.cells? base a 2 = some cs) : ∃ x y, cs = [x, y] ∧ W.cell? a = some x ∧ W.cell? (a.add 1) = some y := by
  obtain ⟨_, hl, hc⟩ := World.cells?_some h
  match cs, hl with
  | [x, y], _ => exact ⟨x, y, rfl, by have := hc 0 (by omega); simpa [Addr.add] using this, by simpa using hc 1 (by omega)⟩
/-- how long what was read is -/
def Long {H : Type} (d : DataW H) (n : Nat) : Prop := n = 0 ∨ ∃ es sp, d = .slice es sp ∧ es.length = n
theorem in_ints0 {H : Type} {enc : TypeId × Value → H} {W : World} {fuel : Nat} {sv : Value} {x : DataW H × List MemPlace} (h : DataW.trod enc Tryz.prog W 0 (fun _ => true) true fuel 25 [sv] = some x) : ∃ l, Ints W sv l ∧ Long x.1 l.length := by
  have hce : Tryz.prog.cellsOf 3 = 1 := by kernel_rfl
  rcases Go.Deep.open_slice Tryz.underlying25 h with ⟨hcs, _⟩ | ⟨a, len, cap, m, n, D, Pl, hcs, _, hlc, hcm, hm, hxx, hx⟩
  · simp at hcs
    subst hcs
    exact ⟨[], Ints.nil _ _ _, .inl rfl⟩
  · simp only [List.cons.injEq, and_true] at hcs
    subst hcs
    rw [hce] at hx
    have hlm : len ≤ m := by rw [hm]; simp; omega
    have each : ∀ i, i < len → ∃ k : Int, W.cell? (a.add (i * 1)) = some (.int .i64 k) ∧ I64 k := fun i hi => by
      obtain ⟨cs', h1, h2⟩ := hx i (by omega)
      obtain ⟨u, rfl, c⟩ := one h1
      obtain ⟨k1, e4, _, e5⟩ := DataW.trod_int Tryz.underlying3 h2
      simp at e4
      subst e4
      exact ⟨k1, c, i64_of e5⟩
    obtain ⟨Nf, hN⟩ := Go.Deep.choose_lt each
    refine ⟨(List.range len).map Nf, ⟨some a, cap, by simp, by simp; omega, fun i n hi => ?_⟩, .inr ⟨_, _, by rw [hxx], by simp⟩⟩
    have hil : i < len := by have := (List.getElem?_eq_some_iff.1 hi).1; simpa using this
    have hn : Nf i = n := by simpa [hil] using hi
    subst hn
    obtain ⟨c0, e1⟩ := hN i hil
    obtain ⟨g, o, spot⟩ := a
    have hspot : spot = none := by
      have h5 := World.cell?_spot (hN 0 (by omega)).1
      simpa [Addr.add] using h5
    subst hspot
    rw [add_flat] at c0
    exact ⟨g, o, rfl, by simp; omega, by simpa using c0, e1⟩
theorem in_pts0 {H : Type} {enc : TypeId × Value → H} {W : World} {fuel : Nat} {sv : Value} {x : DataW H × List MemPlace} (h : DataW.trod enc Tryz.prog W 0 (fun _ => true) true fuel 55 [sv] = some x) : ∃ l, Pts W sv l ∧ Long x.1 l.length := by
  have hce : Tryz.prog.cellsOf 85 = 2 := by kernel_rfl
  have hci : Tryz.prog.cellsOf 3 = 1 := by kernel_rfl
  have hcb : Tryz.prog.cellsOf 4 = 1 := by kernel_rfl
  rcases Go.Deep.open_slice Tryz.underlying55 h with ⟨hcs, _⟩ | ⟨a, len, cap, m, n, D, Pl, hcs, _, hlc, hcm, hm, hxx, hx⟩
  · simp at hcs
    subst hcs
    exact ⟨[], ⟨none, 0, rfl, by simp, fun i n hi => by simp at hi⟩, .inl rfl⟩
  · simp only [List.cons.injEq, and_true] at hcs
    subst hcs
    rw [hce] at hx
    have hlm : len ≤ m := by rw [hm]; simp; omega
    have each : ∀ i, i < len → ∃ p : Int × Bool, W.cell? (a.add (i * 2)) = some (.int .i64 p.1) ∧ W.cell? ((a.add (i * 2)).add 1) = some (.bool p.2) ∧ I64 p.1 := fun i hi => by
      obtain ⟨cs', h1, h2⟩ := hx i (by omega)
      obtain ⟨u, v, rfl, c0, c1⟩ := two h1
      obtain ⟨y0, y1, k, _, _, f0, f1⟩ := trod_struct2 Tryz.underlying85 h2
      rw [hci] at f0
      obtain ⟨k0, e0, _, w0⟩ := DataW.trod_int Tryz.underlying3 f0
      have f1' : DataW.trod enc Tryz.prog W 0 (fun _ => true) true k 4 [v] = some y1 := by
        rw [hcb] at f1
        simpa using f1
      obtain ⟨b1, e1, _⟩ := DataW.trod_bool Tryz.underlying4 f1'
      simp only [List.cons.injEq, and_true] at e1
      simp at e0
      subst e0 e1
      exact ⟨(k0, b1), c0, c1, i64_of w0⟩
    obtain ⟨Nf, hN⟩ := Go.Deep.choose_lt each
    refine ⟨(List.range len).map Nf, ⟨some a, cap, by simp, by simp; omega, fun i n hi => ?_⟩, .inr ⟨_, _, by rw [hxx], by simp⟩⟩
    have hil : i < len := by have := (List.getElem?_eq_some_iff.1 hi).1; simpa using this
    have hn : Nf i = n := by simpa [hil] using hi
    subst hn
    obtain ⟨c0, c1, e1⟩ := hN i hil
    obtain ⟨g, o, spot⟩ := a
    have hspot : spot = none := by
      have h5 := World.cell?_spot (hN 0 (by omega)).1
      simpa [Addr.add] using h5
    subst hspot
    rw [add_flat] at c0 c1
    rw [add_flat] at c1
    exact ⟨g, o, rfl, by simp; omega, c0, c1, e1⟩
theorem long_ints {H : Type} {d : DataW H} {n : Nat} (h : Long d n) (hw : (d.weights Tryz.prog 25).all (· ≤ reachBytes) = true) : n ≤ mxP := by
  rcases h with rfl | ⟨es, sp, rfl, rfl⟩
  · exact Nat.zero_le _
  · have hb : Tryz.prog.bytesOf 3 = 8 := by kernel_rfl
    have := List.all_eq_true.1 hw ((es.length + sp.length) * 8) (by simp [DataW.weights, Tryz.underlying25, hb])
    have h2 : (es.length + sp.length) * 8 ≤ reachBytes := by simpa using this
    have h3 : reachBytes < 140737488355328 := by decide
    unfold mxP
    omega
theorem long_pts {H : Type} {d : DataW H} {n : Nat} (h : Long d n) (hw : (d.weights Tryz.prog 55).all (· ≤ reachBytes) = true) : n ≤ mxP := by
  rcases h with rfl | ⟨es, sp, rfl, rfl⟩
  · exact Nat.zero_le _
  · have hb : Tryz.prog.bytesOf 85 = 16 := by kernel_rfl
    have := List.all_eq_true.1 hw ((es.length + sp.length) * 16) (by simp [DataW.weights, Tryz.underlying55, hb])
    have h2 : (es.length + sp.length) * 16 ≤ reachBytes := by simpa using this
    have h3 : reachBytes < 140737488355328 := by decide
    unfold mxP
    omega
/-- a route's two cells -/
theorem in_route0 {H : Type} {enc : TypeId × Value → H} {W : World} {fuel : Nat} {u v : Value} {x : DataW H × List MemPlace} (h : DataW.trod enc Tryz.prog W 0 (fun _ => true) true fuel 57 [u, v] = some x) (hw : (x.1.weights Tryz.prog 57).all (· ≤ reachBytes) = true) : ∃ r : Rt, Ints W u r.secs ∧ Pts W v r.pts ∧ r.secs.length ≤ mxP ∧ r.pts.length ≤ mxP := by
  obtain ⟨y0, y1, n, hxx, hl, t0, t1⟩ := trod_struct2 Tryz.underlying57 h
  have hc1 : Tryz.prog.cellsOf 25 = 1 := by kernel_rfl
  have hc2 : Tryz.prog.cellsOf 55 = 1 := by kernel_rfl
  have hd : x.1 = .agg [y0.1, y1.1] := congrArg Prod.fst hxx
  rw [hd] at hw
  have hws : (DataW.agg [y0.1, y1.1]).weights Tryz.prog 57 = y0.1.weights Tryz.prog 25 ++ (y1.1.weights Tryz.prog 55 ++ []) := by
    simp [DataW.weights, Tryz.underlying57, DataW.weightsEach]
  rw [hws, List.all_append, List.append_nil, Bool.and_eq_true] at hw
  rw [hc1] at t0
  rw [hc2] at t1
  obtain ⟨s, h1, k1⟩ := in_ints0 (by simpa using t0)
  obtain ⟨p, h2, k2⟩ := in_pts0 (by simpa using t1)
  exact ⟨⟨s, p⟩, h1, h2, long_ints k1 hw.1, long_pts k2 hw.2⟩
set_option maxRecDepth 100000 in
theorem in_route {H : Type} {enc : TypeId × Value → H} {W : World} {r : _} {base : Nat} {v : Value} {d : DataW H} {p : List MemPlace} (hok : Value.okWide Tryz.prog W r base 57 v) (h : DataW.Trod enc Tryz.prog W 0 (fun _ => true) true 57 v d p) (hw : (d.weights Tryz.prog 57).all (· ≤ reachBytes) = true) : ∃ (sv pv : Value) (r : Rt), v = .agg #[sv, pv] ∧ Ints W sv r.secs ∧ Pts W pv r.pts ∧ r.secs.length ≤ mxP ∧ r.pts.length ≤ mxP := by
  obtain ⟨fuel, hf⟩ := h
  obtain ⟨cs, rfl, hsz⟩ := okWide_struct Tryz.underlying57 hok
  have hc : Tryz.prog.cellsOf 57 = 2 := by kernel_rfl
  rw [hc] at hsz
  obtain ⟨l⟩ := cs
  match l, hsz with
  | [av, rv], _ =>
    obtain ⟨r, h1⟩ := in_route0 (u := av) (v := rv) hf hw
    exact ⟨av, rv, r, rfl, h1⟩
end Ro
end
section
namespace Ro
open Go.ChangeShapes Go.WideShapes Go.ChangeAt Go.RowKit
theorem weights_in {H : Type} (P : Program) (e : TypeId) : ∀ (es : List (DataW H)) (d : DataW H), d ∈ es → ∀ k, k ∈ d.weights P e → k ∈ DataW.weightsAll P e es
  | [], d, h => by cases h
  | x :: es, d, h => fun k hk => by
    rw [DataW.weightsAll]
    rcases List.mem_cons.1 h with rfl | h
    · exact List.mem_append_left _ hk
    · exact List.mem_append_right _ (weights_in P e es d h k hk)
theorem in_rts {H : Type} {enc : TypeId × Value → H} {W : World} {fuel : Nat} {sv : Value} {x : DataW H × List MemPlace} (h : DataW.trod enc Tryz.prog W 0 (fun _ => true) true fuel 22 [sv] = some x) (hw : (x.1.weights Tryz.prog 22).all (· ≤ reachBytes) = true) : ∃ l, Rts W sv l := by
  have hce : Tryz.prog.cellsOf 57 = 2 := by kernel_rfl
  rcases Go.Deep.open_slice Tryz.underlying22 h with ⟨hcs, _⟩ | ⟨a, len, cap, m, n, D, Pl, hcs, _, hlc, hcm, hm, hxx, hx⟩
  · simp at hcs
    subst hcs
    exact ⟨[], none, 0, rfl, by simp, fun i n hi => by simp at hi⟩
  · simp only [List.cons.injEq, and_true] at hcs
    subst hcs
    rw [hce] at hx
    have hlm : len ≤ m := by rw [hm]; simp; omega
    have hd : x.1 = .slice ((List.range len).map D) ((List.range (m - len)).map fun j => D (len + j)) := congrArg Prod.fst hxx
    rw [hd] at hw
    have hwe : ∀ i, i < len → ((D i).weights Tryz.prog 57).all (· ≤ reachBytes) = true := fun i hi => List.all_eq_true.2 fun k hk => by
      refine List.all_eq_true.1 hw k ?_
      rw [DataW.weights, Tryz.underlying22]
      exact List.mem_cons_of_mem _ (List.mem_append_left _ (weights_in _ _ _ (D i) (List.mem_map.2 ⟨i, List.mem_range.2 hi, rfl⟩) k hk))
    have each : ∀ i, i < len → ∃ r : Rt, ∃ u v, W.cell? (a.add (i * 2)) = some u ∧ W.cell? ((a.add (i * 2)).add 1) = some v ∧ Ints W u r.secs ∧ Pts W v r.pts ∧ r.pts.length ≤ mxP := fun i hi => by
      obtain ⟨cs', h1, h2⟩ := hx i (by omega)
      obtain ⟨u, v, rfl, c0, c1⟩ := two h1
      obtain ⟨r, e1, e2, e3, e4⟩ := in_route0 h2 (hwe i hi)
      exact ⟨r, u, v, c0, c1, e1, e2, e4⟩
    haveI : Inhabited Rt := ⟨⟨[], []⟩⟩
    obtain ⟨Nf, hN⟩ := Go.Deep.choose_lt each
    refine ⟨(List.range len).map Nf, some a, cap, by simp, by simp; omega, fun i n hi => ?_⟩
    have hil : i < len := by have := (List.getElem?_eq_some_iff.1 hi).1; simpa using this
    have hn : Nf i = n := by simpa [hil] using hi
    subst hn
    obtain ⟨u, v, c0, c1, e1⟩ := hN i hil
    obtain ⟨g, o, spot⟩ := a
    have hspot : spot = none := by
      obtain ⟨u0, v0, c00, _⟩ := hN 0 (by omega)
      have h5 := World.cell?_spot c00
      simpa [Addr.add] using h5
    subst hspot
    rw [add_flat] at c0 c1
    rw [add_flat] at c1
    exact ⟨g, o, u, v, rfl, by simp; omega, c0, c1, e1⟩
set_option maxRecDepth 100000 in
theorem in_table {H : Type} {enc : TypeId × Value → H} {W : World} {r : _} {base : Nat} {v : Value} {d : DataW H} {p : List MemPlace} (hok : Value.okWide Tryz.prog W r base 24 v) (h : DataW.Trod enc Tryz.prog W 0 (fun _ => true) true 24 v d p) (hw : (d.weights Tryz.prog 24).all (· ≤ reachBytes) = true) : ∃ (rv : Value) (t : Tbl), v = .agg #[.int .i64 t.secs, .int .i64 t.pts, rv] ∧ Rts W rv t.rts := by
  obtain ⟨fuel, hf⟩ := h
  obtain ⟨cs, rfl, hsz⟩ := okWide_struct Tryz.underlying24 hok
  have hc : Tryz.prog.cellsOf 24 = 3 := by kernel_rfl
  have hc0 : Tryz.prog.cellsOf 3 = 1 := by kernel_rfl
  have hc1 : Tryz.prog.cellsOf 22 = 1 := by kernel_rfl
  rw [hc] at hsz
  obtain ⟨y0, y1, y2, n, hxx, hl, t0, t1, t2⟩ := Go.Deep.trod_struct3 Tryz.underlying24 hf
  have hd : d = .agg [y0.1, y1.1, y2.1] := congrArg Prod.fst hxx
  subst hd
  have hws : (DataW.agg [y0.1, y1.1, y2.1]).weights Tryz.prog 24 = y0.1.weights Tryz.prog 3 ++ (y1.1.weights Tryz.prog 3 ++ (y2.1.weights Tryz.prog 22 ++ [])) := by
    simp [DataW.weights, Tryz.underlying24, DataW.weightsEach]
  rw [hws, List.all_append, List.all_append, List.append_nil, Bool.and_eq_true, Bool.and_eq_true] at hw
  obtain ⟨l⟩ := cs
  match l, hsz with
  | [u0, u1, u2], _ =>
    have e : (Value.agg #[u0, u1, u2]).cells.toList = [u0, u1, u2] := rfl
    rw [e, hc0] at t0
    rw [e, hc0] at t1
    rw [e, hc1] at t2
    obtain ⟨k0, e0, _, _⟩ := DataW.trod_int Tryz.underlying3 t0
    obtain ⟨k1, e1, _, _⟩ := DataW.trod_int Tryz.underlying3 t1
    simp at e0 e1
    subst e0 e1
    obtain ⟨L, h1⟩ := in_rts (by simpa using t2) hw.2.2
    exact ⟨u2, ⟨k0, k1, L⟩, rfl, h1⟩
end Ro
end
section
open Go.RowKit
open Go.ChangeShapes
theorem Ints.mk (W : World) (a : Addr) (len cap : Nat) (zs : List Int) (hl : len ≤ cap) (hz : zs.length = cap) (hcell : ∀ i, i < zs.length → W.cell? (a.add i) = some (.int .i64 (zs.getD i 0))) (hwf : ∀ n ∈ zs, (Lit.int .i64 n).wf = true) :
    Ints W (.slice (some a) len cap) (zs.take len) := by
  by_cases h0 : len = 0
  · subst h0
    exact .inl ⟨by simp, some a, cap, rfl⟩
  · obtain ⟨b, off, spot⟩ := a
    have hc := hcell 0 (by omega)
    have hspot : spot = none := by simpa [Addr.add] using World.cell?_spot hc
    subst hspot
    have hle : (zs.take len).length = len := by rw [List.length_take]; omega
    refine .inr ⟨b, off, cap, by rw [hle], by rw [hle]; exact hl, ?_⟩
    intro k x hk
    have hkl : k < len := by
      by_cases h : k < len
      · exact h
      · rw [List.getElem?_eq_none (by rw [hle]; omega)] at hk; cases hk
    have h1 := hcell k (by omega)
    rw [List.getElem?_take_of_lt hkl, List.getElem?_eq_getElem (by omega)] at hk
    simp only [Option.some.injEq] at hk
    have e : zs.getD k 0 = x := by rw [← hk, List.getD_eq_getElem?_getD, List.getElem?_eq_getElem (by omega)]; rfl
    rw [e] at h1
    refine ⟨by cases k <;> simpa [Addr.add] using h1, ?_⟩
    have hw := hwf x (by rw [← hk]; exact List.getElem_mem _)
    have := (by simpa [Lit.wf, IntKind.min, IntKind.max, IntKind.signed, IntKind.bits] using hw : -9223372036854775808 ≤ x ∧ x ≤ 9223372036854775807)
    exact this
/-- what a walk is told of a slice of numbers that came in -/
theorem in_ints {H : Type} {enc : TypeId × Value → H} {W : World} {a : Option Addr} {n c : Nat} {d : DataW H} {p : List MemPlace} (h : DataW.Trod enc Tryz.prog W 0 (fun _ => true) true 25 (.slice a n c) d p) : ∃ l : List Int, Ints W (.slice a n c) l ∧ l.length ≤ maxLen := by
  obtain ⟨fuel, hf⟩ := h
  rcases open_ints Tryz.underlying25 Tryz.underlying3 (by kernel_rfl) hf with ⟨hcs, _⟩ | ⟨x, l, cc, zs, hcs, _, hl, hm, hz, _, hcell, hwf⟩
  · simp [Value.cells] at hcs
    obtain ⟨rfl, rfl, rfl⟩ := hcs
    exact ⟨[], .inl ⟨rfl, _, _, rfl⟩, by simp⟩
  · simp [Value.cells] at hcs
    obtain ⟨rfl, rfl, rfl⟩ := hcs
    refine ⟨zs.take n, Ints.mk W x n c zs hl (by simpa using hz) hcell hwf, by rw [List.length_take]; omega⟩
end
end Go.Proofs.YtflonjbbolmelaaGreatDoor
