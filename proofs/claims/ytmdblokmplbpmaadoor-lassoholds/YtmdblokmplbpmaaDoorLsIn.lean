/-
  What the walks are told of words and steps that came in, and of the table of parts that the rows list.
-/
import Derived.Test.YtmdblokmplbpmaaDoorLsForm
import Derived.Test.YtmdblokmplbpmaaDoorCards
import Derived.Deep.Strs
import Derived.ChangeSlices
import Derived.ChangeSame
import Derived.ProofKit
import Derived.LaidMore
import Derived.LaidHandle
import Derived.SizedLaws
import Derived.LaidSub
import Derived.OpenShut
import Derived.Stop.LaidErr
namespace Go.Proofs.YtmdblokmplbpmaaDoor
namespace Ls
open Go.ChangeShapes Go.WideShapes Go.ChangeAt Go.RowKit
theorem add_flat (g o j : Nat) : (⟨g, o, none⟩ : Addr).add j = ⟨g, o + j, none⟩ := by unfold Addr.add; split <;> simp_all
theorem i64_of {k : Int} (hw : (Lit.int .i64 k).wf = true) : I64 k := (by simpa [Lit.wf, IntKind.min, IntKind.max, IntKind.signed, IntKind.bits] using hw : -9223372036854775808 ≤ k ∧ k ≤ 9223372036854775807)
theorem one {W : World} {base : Nat} {a : Addr} {cs : List Value} (h : W.cells? base a 1 = some cs) : ∃ x, cs = [x] ∧ W.cell? a = some x := by
  obtain ⟨_, hl, hc⟩ := World.cells?_some h
  match cs, hl with
  | [x], _ => exact ⟨x, rfl, by have := hc 0 (by omega); simpa [Addr.add] using this⟩
theorem four {W : World} {base : Nat} {a : Addr} {cs : List Value} (h : W.cells? base a 4 = some cs) : ∃ x y z u, cs = [x, y, z, u] ∧ W.cell? a = some x ∧ W.cell? (a.add 1) = some y ∧ W.cell? (a.add 2) = some z ∧ W.cell? (a.add 3) = some u := by
  obtain ⟨_, hl, hc⟩ := World.cells?_some h
  match cs, hl with
  | [x, y, z, u], _ => exact ⟨x, y, z, u, rfl, by have := hc 0 (by omega); simpa [Addr.add] using this, by simpa using hc 1 (by omega), by simpa using hc 2 (by omega), by simpa using hc 3 (by omega)⟩
theorem str_list (s : ByteArray) : (⟨s.data.toList.toArray⟩ : ByteArray) = s := by cases s; simp
theorem in_strs0 {H : Type} {enc : TypeId × Value → H} {W : World} {fuel : Nat} {sv : Value} {x : DataW H × List MemPlace} (h : DataW.trod enc Tryd.prog W 0 (fun _ => true) true fuel 58 [sv] = some x) : ∃ l, Strs W sv l := by
  have hce : Tryd.prog.cellsOf 9 = 1 := by kernel_rfl
  rcases Go.Deep.open_slice Tryd.underlying58 h with ⟨hcs, _⟩ | ⟨a, len, cap, m, n, D, Pl, hcs, _, hlc, hcm, hm, _, hx⟩
  · simp at hcs
    subst hcs
    exact ⟨[], Strs.nil _ _ _⟩
  · simp only [List.cons.injEq, and_true] at hcs
    subst hcs
    rw [hce] at hx
    have hlm : len ≤ m := by rw [hm]; simp; omega
    have each : ∀ i, i < len → ∃ k : List UInt8, W.cell? (a.add (i * 1)) = some (.string ⟨k.toArray⟩) ∧ k.length ≤ maxLen := fun i hi => by
      obtain ⟨cs', h1, h2⟩ := hx i (by omega)
      obtain ⟨u, rfl, c⟩ := one h1
      obtain ⟨s, e1, _, e3⟩ := DataW.trod_string Tryd.underlying9 h2
      simp at e1
      subst e1
      exact ⟨s.data.toList, by rw [str_list]; exact c, by rw [show s.data.toList.length = s.size from rfl]; exact e3⟩
    obtain ⟨Nf, hN⟩ := Go.Deep.choose_lt each
    refine ⟨(List.range len).map Nf, some a, cap, by simp, by simp; omega, fun i n hi => ?_⟩
    have hil : i < len := by have := (List.getElem?_eq_some_iff.1 hi).1; simpa using this
    have hn : Nf i = n := by simpa [hil] using hi
    subst hn
    obtain ⟨c0, e1⟩ := hN i hil
    obtain ⟨g, o, spot⟩ := a
    have hspot : spot = none := by
      have h5 := World.cell?_spot (hN 0 (by omega)).1
      simpa [Addr.add] using h5
    subst hspot
    rw [add_flat] at c0
    exact ⟨g, o, rfl, by simp; omega, by simpa using c0, e1⟩
/-- how long what was read is -/
def Long {H : Type} (d : DataW H) (n : Nat) : Prop := n = 0 ∨ ∃ es sp, d = .slice es sp ∧ es.length = n
theorem in_rows {H : Type} {enc : TypeId × Value → H} {W : World} {fuel : Nat} {sv : Value} {x : DataW H × List MemPlace} (h : DataW.trod enc Tryd.prog W 0 (fun _ => true) true fuel 22 [sv] = some x) : ∃ L, Rows W sv L ∧ Long x.1 L.length := by
  have hce : Tryd.prog.cellsOf 58 = 1 := by kernel_rfl
  rcases Go.Deep.open_slice Tryd.underlying22 h with ⟨hcs, _⟩ | ⟨a, len, cap, m, n, D, Pl, hcs, _, hlc, hcm, hm, hxx, hx⟩
  · simp at hcs
    subst hcs
    exact ⟨[], ⟨none, 0, rfl, by simp, fun i n hi => by simp at hi⟩, .inl rfl⟩
  · simp only [List.cons.injEq, and_true] at hcs
    subst hcs
    rw [hce] at hx
    have hlm : len ≤ m := by rw [hm]; simp; omega
    have each : ∀ i, i < len → ∃ r : List (List UInt8), ∃ v, W.cell? (a.add (i * 1)) = some v ∧ Strs W v r := fun i hi => by
      obtain ⟨cs', h1, h2⟩ := hx i (by omega)
      obtain ⟨u, rfl, c⟩ := one h1
      obtain ⟨r, hr⟩ := in_strs0 h2
      exact ⟨r, u, c, hr⟩
    obtain ⟨Nf, hN⟩ := Go.Deep.choose_lt each
    refine ⟨(List.range len).map Nf, ⟨some a, cap, by simp, by simp; omega, fun i n hi => ?_⟩, .inr ⟨_, _, by rw [hxx], by simp⟩⟩
    have hil : i < len := by have := (List.getElem?_eq_some_iff.1 hi).1; simpa using this
    have hn : Nf i = n := by simpa [hil] using hi
    subst hn
    obtain ⟨v, c0, e1⟩ := hN i hil
    obtain ⟨g, o, spot⟩ := a
    have hspot : spot = none := by
      obtain ⟨v0, c00, _⟩ := hN 0 (by omega)
      have h5 := World.cell?_spot c00
      simpa [Addr.add] using h5
    subst hspot
    rw [add_flat] at c0
    exact ⟨g, o, v, rfl, by simp; omega, by simpa using c0, e1⟩
theorem long_le {H : Type} {d : DataW H} {n : Nat} (h : Long d n) (hw : (d.weights Tryd.prog 22).all (· ≤ reachBytes) = true) : n ≤ mx := by
  rcases h with rfl | ⟨es, sp, rfl, rfl⟩
  · exact Nat.zero_le _
  · have hb : Tryd.prog.bytesOf 58 = 24 := by kernel_rfl
    have := List.all_eq_true.1 hw ((es.length + sp.length) * 24) (by simp [DataW.weights, Tryd.underlying22, hb])
    have h2 : (es.length + sp.length) * 24 ≤ reachBytes := by simpa using this
    have h3 : reachBytes < 140737488355328 := by decide
    unfold mx
    omega
set_option maxRecDepth 100000 in
theorem in_word {H : Type} {enc : TypeId × Value → H} {W : World} {r : _} {base : Nat} {v : Value} {d : DataW H} {p : List MemPlace} (hok : Value.okWide Tryd.prog W r base 24 v) (h : DataW.Trod enc Tryd.prog W 0 (fun _ => true) true 24 v d p) (hw : (d.weights Tryd.prog 24).all (· ≤ reachBytes) = true) : ∃ av rv A R, v = .agg #[av, rv] ∧ Rows W av A ∧ Rows W rv R ∧ A.length ≤ mx ∧ R.length ≤ mx := by
  obtain ⟨fuel, hf⟩ := h
  obtain ⟨cs, rfl, hsz⟩ := okWide_struct Tryd.underlying24 hok
  obtain ⟨y0, y1, n, hxx, hl, t0, t1⟩ := trod_struct2 Tryd.underlying24 hf
  have hc : Tryd.prog.cellsOf 24 = 2 := by kernel_rfl
  have hc1 : Tryd.prog.cellsOf 22 = 1 := by kernel_rfl
  rw [hc] at hsz
  have hd : d = .agg [y0.1, y1.1] := congrArg Prod.fst hxx
  subst hd
  have hws : (DataW.agg [y0.1, y1.1]).weights Tryd.prog 24 = y0.1.weights Tryd.prog 22 ++ (y1.1.weights Tryd.prog 22 ++ []) := by
    simp [DataW.weights, Tryd.underlying24, DataW.weightsEach]
  rw [hws, List.all_append, List.append_nil, Bool.and_eq_true] at hw
  obtain ⟨l⟩ := cs
  match l, hsz with
  | [av, rv], _ =>
    have e : (Value.agg #[av, rv]).cells.toList = [av, rv] := rfl
    rw [e, hc1] at t0
    rw [e, hc1] at t1
    obtain ⟨A, h1, k1⟩ := in_rows (by simpa using t0)
    obtain ⟨R, h2, k2⟩ := in_rows (by simpa using t1)
    exact ⟨av, rv, A, R, rfl, h1, h2, long_le k1 hw.1, long_le k2 hw.2⟩
theorem in_steps {H : Type} {enc : TypeId × Value → H} {W : World} {sv : Value} {d : DataW H} {p : List MemPlace} (hv : ∃ a n c, sv = .slice a n c) (h : DataW.Trod enc Tryd.prog W 0 (fun _ => true) true 25 sv d p) : ∃ l, Steps W sv l := by
  obtain ⟨fuel, h⟩ := h
  obtain ⟨a', n', c', rfl⟩ := hv
  have h : DataW.trod enc Tryd.prog W 0 (fun _ => true) true fuel 25 [.slice a' n' c'] = some (d, p) := h
  have hce : Tryd.prog.cellsOf 56 = 4 := by kernel_rfl
  have hci : Tryd.prog.cellsOf 3 = 1 := by kernel_rfl
  have hcs1 : Tryd.prog.cellsOf 9 = 1 := by kernel_rfl
  rcases Go.Deep.open_slice Tryd.underlying25 h with ⟨hcs, _⟩ | ⟨a, len, cap, m, n, D, Pl, hcs, _, hlc, hcm, hm, _, hx⟩
  · simp at hcs
    obtain ⟨rfl, rfl, rfl⟩ := hcs
    exact ⟨[], none, 0, rfl, by simp, fun i n hi => by simp at hi⟩
  · simp only [List.cons.injEq, and_true, Value.slice.injEq] at hcs
    obtain ⟨rfl, rfl, rfl⟩ := hcs
    rw [hce] at hx
    have hlm : n' ≤ m := by rw [hm]; simp; omega
    have each : ∀ i, i < n' → ∃ s : St, W.cell? (a.add (i * 4)) = some (.int .i64 s.kind) ∧ W.cell? ((a.add (i * 4)).add 1) = some (.int .i64 s.a) ∧ W.cell? ((a.add (i * 4)).add 2) = some (.int .i64 s.b) ∧ W.cell? ((a.add (i * 4)).add 3) = some (.string ⟨s.name.toArray⟩) ∧ I64 s.kind ∧ s.name.length ≤ maxLen := fun i hi => by
      obtain ⟨cs', h1, h2⟩ := hx i (by omega)
      obtain ⟨x, y, z, u, rfl, c0, c1, c2, c3⟩ := four h1
      obtain ⟨xs, k, _, _, _, hxl, hf⟩ := DataW.trod_struct Tryd.underlying56 h2
      have hxl : xs.length = 4 := hxl
      match xs, hxl with
      | [y0, y1, y2, y3], _ =>
        have f0 := hf 0 _ rfl
        have f1 := hf 1 _ rfl
        have f2 := hf 2 _ rfl
        have f3 := hf 3 _ rfl
        change DataW.trod enc Tryd.prog W 0 (fun _ => true) true k 3 (List.take (Tryd.prog.cellsOf 3) [x, y, z, u]) = some y0 at f0
        change DataW.trod enc Tryd.prog W 0 (fun _ => true) true k 3 (List.take (Tryd.prog.cellsOf 3) [y, z, u]) = some y1 at f1
        change DataW.trod enc Tryd.prog W 0 (fun _ => true) true k 3 (List.take (Tryd.prog.cellsOf 3) [z, u]) = some y2 at f2
        change DataW.trod enc Tryd.prog W 0 (fun _ => true) true k 9 (List.take (Tryd.prog.cellsOf 9) [u]) = some y3 at f3
        rw [hci] at f0 f1 f2
        rw [hcs1] at f3
        obtain ⟨k0, e0, _, w0⟩ := DataW.trod_int Tryd.underlying3 f0
        obtain ⟨k1, e1, _, _⟩ := DataW.trod_int Tryd.underlying3 f1
        obtain ⟨k2, e2, _, _⟩ := DataW.trod_int Tryd.underlying3 f2
        obtain ⟨s3, e3, _, w3⟩ := DataW.trod_string Tryd.underlying9 f3
        simp only [List.take_succ_cons, List.take_zero, List.cons.injEq, and_true] at e0 e1 e2 e3
        subst e0 e1 e2 e3
        exact ⟨⟨k0, k1, k2, s3.data.toList⟩, c0, c1, c2, by rw [str_list]; exact c3, i64_of w0, by rw [show s3.data.toList.length = s3.size from rfl]; exact w3⟩
    haveI : Inhabited St := ⟨⟨0, 0, 0, []⟩⟩
    obtain ⟨Nf, hN⟩ := Go.Deep.choose_lt each
    refine ⟨(List.range n').map Nf, some a, c', by simp, by simp; omega, fun i n hi => ?_⟩
    have hil : i < n' := by have := (List.getElem?_eq_some_iff.1 hi).1; simpa using this
    have hn : Nf i = n := by simpa [hil] using hi
    subst hn
    obtain ⟨c0, c1, c2, c3, e1, e2⟩ := hN i hil
    obtain ⟨g, o, spot⟩ := a
    have hspot : spot = none := by
      have h5 := World.cell?_spot (hN 0 (by omega)).1
      simpa [Addr.add] using h5
    subst hspot
    rw [add_flat] at c0 c1 c2 c3
    rw [add_flat] at c1 c2 c3
    exact ⟨g, o, rfl, by simp; omega, c0, c1, c2, c3, e1, e2⟩
/-- a table of numbers -/
theorem ints_of {W : World} {name : String} {g n : Nat} {t : TypeId} {ls : List Int} (hg : Tryd.prog.globalNamed name = some g) (ht : (Tryd.prog.globals[g]?).map (·.type) = some t) (hu : Tryd.prog.underlying t = some (.array n 3))
    (h : laidMet Tryd.prog [(name, .agg (ls.map fun l => .lit (.int .i64 l)))] W) : ∀ (i : Nat) l, ls[i]? = some l → W.cell? ⟨g, i, none⟩ = some (.int .i64 l) := by
  intro i l hl
  obtain ⟨ps, ⟨g0, t0, cs0, f0, p0, q0, hg0, ht0, hv0, hd0, _, _⟩, _, _⟩ := h
  obtain rfl := Option.some.inj (hg.symm.trans hg0)
  obtain rfl := Option.some.inj (ht.symm.trans ht0)
  obtain ⟨xs, m, _, hx, hlen, hn, hall⟩ := DataW.trod_array hu hd0
  have hce : Tryd.prog.cellsOf 3 = 1 := by kernel_rfl
  simp only [Prod.mk.injEq, DataW.agg.injEq] at hx
  have hi : i < n := by
    have h1 := congrArg List.length hx.1
    simp only [List.length_map] at h1
    have h2 := (List.getElem?_eq_some_iff.1 hl).1
    omega
  have h1 := hall i hi
  rw [hce, Nat.mul_one] at h1
  obtain ⟨y, hy⟩ : ∃ y, xs[i]? = some y := ⟨xs[i], List.getElem?_eq_getElem (by omega)⟩
  rw [hy] at h1
  obtain ⟨s, e1, e2, _⟩ := DataW.trod_int Tryd.underlying3 h1
  have h3 := congrArg (·[i]?) hx.1
  simp only [List.getElem?_map, hl, hy, Option.map_some, e2, Option.some.injEq, DataW.lit.injEq, Lit.int.injEq, true_and] at h3
  have h4 := World.var?_cell hg0 hv0 i
  have h5 : cs0.toList[i]? = some (.int .i64 s) := by
    have h6 := congrArg (·[0]?) e1
    simpa [List.getElem?_take, List.getElem?_drop] using h6
  rw [h3]
  have h7 : cs0[i]? = some (.int .i64 s) := by rw [← Array.getElem?_toList]; exact h5
  simpa [h7] using h4
theorem gParts : Tryd.prog.globalNamed "signalcabin/lasso.parts" = some 0 := by kernel_rfl
theorem tParts : (Tryd.prog.globals[0]?).map (·.type) = some 96 := by kernel_rfl
theorem pt_of {W : World} (h : laidMet Tryd.prog [("signalcabin/lasso.parts", Rows.laid_signalcabin_lasso_parts)] W) : PT W := by
  have k := ints_of (ls := [0, 0, 0, 1, 2, 2, 1, 2, 2, 1, 1]) gParts tParts Tryd.underlying96 h
  intro i hi
  match i, hi with
  | 0, _ => exact k 0 _ rfl
  | 1, _ => exact k 1 _ rfl
  | 2, _ => exact k 2 _ rfl
  | 3, _ => exact k 3 _ rfl
  | 4, _ => exact k 4 _ rfl
  | 5, _ => exact k 5 _ rfl
  | 6, _ => exact k 6 _ rfl
  | 7, _ => exact k 7 _ rfl
  | 8, _ => exact k 8 _ rfl
  | 9, _ => exact k 9 _ rfl
  | 10, _ => exact k 10 _ rfl
  | i + 11, hi => omega
end Ls
end Go.Proofs.YtmdblokmplbpmaaDoor
