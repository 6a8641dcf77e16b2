/-
  What the walks are told of tables, and of rows of numbers, that came in.
-/
import Derived.Test.YtdeijfkahhgojaaDoorBkBase
import Derived.Deep.Strs
import Derived.ChangeSlices
import Derived.ProofKit
namespace Go.Proofs.YtdeijfkahhgojaaDoor
namespace Bk
open Go.ChangeShapes Go.WideShapes Go.RowKit
theorem add_flat (g o j : Nat) : (⟨g, o, none⟩ : Addr).add j = ⟨g, o + j, none⟩ := by unfold Addr.add; split <;> simp_all
theorem i64_of {k : Int} (hw : (Lit.int .i64 k).wf = true) : I64 k := (by simpa [Lit.wf, IntKind.min, IntKind.max, IntKind.signed, IntKind.bits] using hw : -9223372036854775808 ≤ k ∧ k ≤ 9223372036854775807)
theorem one {W : World} {base : Nat} {a : Addr} {cs : List Value} (h : W.cells? base a 1 = some cs) : ∃ x, cs = [x] ∧ W.cell? a = some x := by
  obtain ⟨_, hl, hc⟩ := World.cells?_some h
  match cs, hl with
  | [x], _ => exact ⟨x, rfl, by have := hc 0 (by omega); simpa [Addr.add] using this⟩
theorem in_ints0 {H : Type} {enc : TypeId × Value → H} {W : World} {fuel : Nat} {sv : Value} {x : DataW H × List MemPlace} (h : DataW.trod enc Tryd.prog W 0 (fun _ => true) true fuel 31 [sv] = some x) : ∃ l, Ints W sv l := by
  have hce : Tryd.prog.cellsOf 3 = 1 := by kernel_rfl
  rcases Go.Deep.open_slice Tryd.underlying31 h with ⟨hcs, _⟩ | ⟨a, len, cap, m, n, D, Pl, hcs, _, hlc, hcm, hm, _, hx⟩
  · simp at hcs
    subst hcs
    exact ⟨[], Ints.nil _ _ _⟩
  · simp only [List.cons.injEq, and_true] at hcs
    subst hcs
    rw [hce] at hx
    have hlm : len ≤ m := by rw [hm]; simp; omega
    have each : ∀ i, i < len → ∃ k : Int, W.cell? (a.add (i * 1)) = some (.int .i64 k) ∧ I64 k := fun i hi => by
      obtain ⟨cs', h1, h2⟩ := hx i (by omega)
      obtain ⟨u, rfl, c⟩ := one h1
      obtain ⟨k1, e4, _, e5⟩ := DataW.trod_int Tryd.underlying3 h2
      simp at e4
      subst e4
      exact ⟨k1, c, i64_of e5⟩
    obtain ⟨Nf, hN⟩ := Go.Deep.choose_lt each
    refine ⟨(List.range len).map Nf, some a, cap, by simp, by simp; omega, fun i n hi => ?_⟩
    have hil : i < len := by have := (List.getElem?_eq_some_iff.1 hi).1; simpa using this
    have hn : Nf i = n := by simpa [hil] using hi
    subst hn
    obtain ⟨c0, e1⟩ := hN i hil
    obtain ⟨g, o, spot⟩ := a
    have hspot : spot = none := by
      have h5 := World.cell?_spot (hN 0 (by omega)).1
      simpa [Addr.add] using h5
    subst hspot
    rw [add_flat] at c0
    exact ⟨g, o, rfl, by simp; omega, by simpa using c0, e1⟩
theorem in_rows {H : Type} {enc : TypeId × Value → H} {W : World} {fuel : Nat} {sv : Value} {x : DataW H × List MemPlace} (h : DataW.trod enc Tryd.prog W 0 (fun _ => true) true fuel 22 [sv] = some x) : ∃ L, Rows W sv L := by
  have hce : Tryd.prog.cellsOf 31 = 1 := by kernel_rfl
  rcases Go.Deep.open_slice Tryd.underlying22 h with ⟨hcs, _⟩ | ⟨a, len, cap, m, n, D, Pl, hcs, _, hlc, hcm, hm, _, hx⟩
  · simp at hcs
    subst hcs
    exact ⟨[], none, 0, rfl, by simp, fun i n hi => by simp at hi⟩
  · simp only [List.cons.injEq, and_true] at hcs
    subst hcs
    rw [hce] at hx
    have hlm : len ≤ m := by rw [hm]; simp; omega
    have each : ∀ i, i < len → ∃ r : List Int, ∃ v, W.cell? (a.add (i * 1)) = some v ∧ Ints W v r := fun i hi => by
      obtain ⟨cs', h1, h2⟩ := hx i (by omega)
      obtain ⟨u, rfl, c⟩ := one h1
      obtain ⟨r, hr⟩ := in_ints0 h2
      exact ⟨r, u, c, hr⟩
    obtain ⟨Nf, hN⟩ := Go.Deep.choose_lt each
    refine ⟨(List.range len).map Nf, some a, cap, by simp, by simp; omega, fun i n hi => ?_⟩
    have hil : i < len := by have := (List.getElem?_eq_some_iff.1 hi).1; simpa using this
    have hn : Nf i = n := by simpa [hil] using hi
    subst hn
    obtain ⟨v, c0, e1⟩ := hN i hil
    obtain ⟨g, o, spot⟩ := a
    have hspot : spot = none := by
      obtain ⟨v0, c00, _⟩ := hN 0 (by omega)
      have h5 := World.cell?_spot c00
      simpa [Addr.add] using h5
    subst hspot
    rw [add_flat] at c0
    exact ⟨g, o, v, rfl, by simp; omega, by simpa using c0, e1⟩
theorem in_ints {H : Type} {enc : TypeId × Value → H} {W : World} {v : Value} {d : DataW H} {p : List MemPlace} (h : DataW.Trod enc Tryd.prog W 0 (fun _ => true) true 31 v d p) (hv : ∃ a n c, v = .slice a n c) : ∃ l, Ints W v l := by
  obtain ⟨a, n, c, rfl⟩ := hv
  obtain ⟨fuel, hf⟩ := h
  exact in_ints0 hf
set_option maxRecDepth 100000 in
theorem in_tab {H : Type} {enc : TypeId × Value → H} {W : World} {r : _} {base : Nat} {v : Value} {d : DataW H} {p : List MemPlace} (hok : Value.okWide Tryd.prog W r base 24 v) (h : DataW.Trod enc Tryd.prog W 0 (fun _ => true) true 24 v d p) : ∃ nv tv N T, v = .agg #[nv, tv] ∧ Rows W nv N ∧ Rows W tv T := by
  obtain ⟨fuel, hf⟩ := h
  obtain ⟨cs, rfl, hsz⟩ := okWide_struct Tryd.underlying24 hok
  obtain ⟨y0, y1, n, _, hl, t0, t1⟩ := trod_struct2 Tryd.underlying24 hf
  have hc : Tryd.prog.cellsOf 24 = 2 := by kernel_rfl
  have hc1 : Tryd.prog.cellsOf 22 = 1 := by kernel_rfl
  rw [hc] at hsz
  obtain ⟨l⟩ := cs
  match l, hsz with
  | [nv, tv], _ =>
    have e : (Value.agg #[nv, tv]).cells.toList = [nv, tv] := rfl
    rw [e, hc1] at t0
    rw [e, hc1] at t1
    obtain ⟨N, h1⟩ := in_rows (by simpa using t0)
    obtain ⟨T, h2⟩ := in_rows (by simpa using t1)
    exact ⟨nv, tv, N, T, rfl, h1, h2⟩
end Bk
end Go.Proofs.YtdeijfkahhgojaaDoor
