/-
  Plain mathematics of promise 11.1: routes, and which clash. Package route's maps of numbers, and of points, that 'among' makes: what is found in them, and how they grow.
-/
import Derived.Test.YtflonjbbolmelaaGreatDoorRows
import Derived.Test.YtflonjbbolmelaaGreatDoorRoBase
import Derived.Maps.OwnSet
import Derived.Maps.OwnOps
import Derived.Maps.Views
import Derived.DeepKeys4
namespace Go.Proofs.YtflonjbbolmelaaGreatDoor
section
namespace Ro
/-- a route: its sections, and its points with how they lie -/
structure Rt where
  secs : List Int
  pts : List (Int × Bool)
def clash (a b : Rt) : Bool := (b.secs.any fun s => a.secs.contains s) || (b.pts.any fun p => a.pts.contains (p.1, !p.2))
theorem clash_iff (a b : Rt) : clash a b = true ↔ (∃ s, s ∈ a.secs ∧ s ∈ b.secs) ∨ ∃ n o, (n, o) ∈ b.pts ∧ (n, !o) ∈ a.pts := by
  unfold clash
  rw [Bool.or_eq_true, List.any_eq_true, List.any_eq_true]
  constructor
  · rintro (⟨s, h1, h2⟩ | ⟨⟨n, o⟩, h1, h2⟩)
    · exact .inl ⟨s, by simpa using h2, h1⟩
    · exact .inr ⟨n, o, h1, by simpa using h2⟩
  · rintro (⟨s, h1, h2⟩ | ⟨n, o, h1, h2⟩)
    · exact .inl ⟨s, h2, by simpa using h1⟩
    · exact .inr ⟨(n, o), h1, by simpa using h2⟩
theorem clash_comm (a b : Rt) : clash a b = clash b a := by
  rw [Bool.eq_iff_iff, clash_iff, clash_iff]
  constructor
  · rintro (⟨s, h1, h2⟩ | ⟨n, o, h1, h2⟩)
    · exact .inl ⟨s, h2, h1⟩
    · exact .inr ⟨n, !o, h2, by rw [Bool.not_not]; exact h1⟩
  · rintro (⟨s, h1, h2⟩ | ⟨n, o, h1, h2⟩)
    · exact .inl ⟨s, h2, h1⟩
    · exact .inr ⟨n, !o, h2, by rw [Bool.not_not]; exact h1⟩
theorem clash_share (a b : Rt) (s : Int) (h1 : s ∈ a.secs) (h2 : s ∈ b.secs) : clash a b = true := (clash_iff a b).2 (.inl ⟨s, h1, h2⟩)
end Ro
end
section
namespace Ro
open Go.RowKit Go.Maps
theorem newB (w : World) (o : Obj) : Below w.heap.size w (w.alloc o) := (Below.refl _ _).alloc (Nat.le_refl _) _
/-- points, as a slice -/
def Pts (w : World) (sv : Value) (l : List (Int × Bool)) : Prop := ∃ a c, sv = .slice a l.length c ∧ l.length ≤ maxLen ∧ ∀ (k : Nat) x, l[k]? = some x → ∃ g o, a = some ⟨g, o, none⟩ ∧ l.length ≤ c ∧ w.cell? ⟨g, o + k * 2, none⟩ = some (.int .i64 x.1) ∧ w.cell? ⟨g, o + k * 2 + 1, none⟩ = some (.bool x.2) ∧ I64 x.1
theorem Pts.below {w w' : World} {sv : Value} {l : List (Int × Bool)} (h : Pts w sv l) (hb : Below w.heap.size w w') : Pts w' sv l := by
  obtain ⟨a, c, h1, h2, h3⟩ := h
  refine ⟨a, c, h1, h2, fun k x hx => ?_⟩
  obtain ⟨g, o, e1, e2, e3, e4, e5⟩ := h3 k x hx
  exact ⟨g, o, e1, e2, kept hb e3, kept hb e4, e5⟩
theorem Pts.slice {w : World} {sv : Value} {l : List (Int × Bool)} (h : Pts w sv l) : ∃ a c, sv = .slice a l.length c := by obtain ⟨a, c, h, _⟩ := h; exact ⟨a, c, h⟩
theorem Pts.len {w : World} {sv : Value} {l : List (Int × Bool)} (h : Pts w sv l) : l.length ≤ maxLen := by obtain ⟨a, c, _, h, _⟩ := h; exact h
theorem Pts.cell {w : World} {a : Option Addr} {n c : Nat} {l : List (Int × Bool)} (h : Pts w (.slice a n c) l) (k : Nat) (x : Int × Bool) (hx : l[k]? = some x) : ∃ g o, a = some ⟨g, o, none⟩ ∧ w.cell? ⟨g, o + k * 2, none⟩ = some (.int .i64 x.1) ∧ w.cell? ⟨g, o + k * 2 + 1, none⟩ = some (.bool x.2) ∧ I64 x.1 := by
  obtain ⟨a', c', h1, h2, h3⟩ := h
  obtain ⟨g, o, e1, e2, e3, e4, e5⟩ := h3 k x hx
  simp only [Value.slice.injEq] at h1
  exact ⟨g, o, by rw [h1.1]; exact e1, e3, e4, e5⟩
theorem Pts.i64 {w : World} {sv : Value} {l : List (Int × Bool)} (h : Pts w sv l) (x : Int × Bool) (hx : x ∈ l) : I64 x.1 := by
  obtain ⟨a, c, h1, h2, h3⟩ := h
  obtain ⟨k, hk⟩ := List.mem_iff_getElem?.1 hx
  obtain ⟨_, _, _, _, _, _, h⟩ := h3 k x hk
  exact h
theorem Ints.i64 {w : World} {sv : Value} {l : List Int} (h : Ints w sv l) (x : Int) (hx : x ∈ l) : I64 x := by
  obtain ⟨a, c, h1, h2, h3⟩ := h
  obtain ⟨k, hk⟩ := List.mem_iff_getElem?.1 hx
  obtain ⟨_, _, _, _, _, h⟩ := h3 k x hk
  exact h
def ptV (p : Int × Bool) : Value := .agg #[.int .i64 p.1, .bool p.2]
def ptK (p : Int × Bool) : Lit := .string (keyBytes [.int .i64 p.1, .bool p.2])
theorem lawI : Keyed Tryz.prog 3 := int_keyed Tryz.underlying3
theorem lawP : Keyed Tryz.prog 85 := Keyed.of_law (deep_law_laid (m := 9) (by kernel_rfl) (by decide) (of_decide_eq_true (by kernel_rfl)) (by kernel_rfl) (by kernel_rfl))
theorem zeroU (w : World) : (zeroValue 111).run Tryz.prog w = .ok (.agg #[]) w := by kernel_rfl
theorem wf64 {i : Int} (h : I64 i) : (Lit.int .i64 i).wf = true := WalkArith.wf_i64 h
theorem key_i {i : Int} (h : I64 i) : keyOf Tryz.prog 3 (.int .i64 i) = some (.int .i64 i) := keyOf_int_mk Tryz.underlying3 (wf64 h)
theorem lits_int (m : Nat) (x : Int) (h : (Lit.int .i64 x).wf = true) : Tryz.prog.keyLits (m + 1) 3 [.int .i64 x] = some [.int .i64 x] := by
  unfold Program.keyLits
  simp only [Tryz.underlying3]
  rw [h]
  rfl
theorem lits_bool (m : Nat) (x : Bool) : Tryz.prog.keyLits (m + 1) 4 [.bool x] = some [.bool x] := by
  unfold Program.keyLits
  simp only [Tryz.underlying4]
theorem key_p (p : Int × Bool) (h : I64 p.1) : keyOf Tryz.prog 85 (ptV p) = some (ptK p) := by
  obtain ⟨m, hm⟩ : ∃ m, Tryz.prog.types.size = m + 1 := ⟨Tryz.prog.types.size - 1, by kernel_rfl⟩
  have c1 : Tryz.prog.cellsOf 3 = 1 := by kernel_rfl
  have cb : Tryz.prog.cellsOf 4 = 1 := by kernel_rfl
  have c2 : Tryz.prog.cellsOf 85 = 2 := by kernel_rfl
  have kt : Tryz.prog.keyType 85 = true := by kernel_rfl
  unfold keyOf
  simp only [Tryz.underlying85]
  rw [kt]
  have hf : (ptV p).formed Tryz.prog 85 = true := by
    unfold ptV Value.formed
    simp only [Tryz.underlying85, c2]
    rfl
  rw [hf, hm]
  have hl : Tryz.prog.keyLits (m + 1 + 1) 85 (ptV p).cells.toList = some [.int .i64 p.1, .bool p.2] := by
    have e1 := lits_int m _ (wf64 h)
    have e2 := lits_bool m p.2
    unfold Program.keyLits
    simp only [Tryz.underlying85]
    rw [if_pos (by rw [c2]; exact ⟨rfl, by kernel_rfl⟩)]
    simp [ptV, Value.cells, c1, cb, e1, e2]
  rw [hl]
  rfl
theorem ptK_inj {p q : Int × Bool} (hp : I64 p.1) (hq : I64 q.1) (h : ptK p = ptK q) : p = q := by
  have h1 := lawP.inj (key_p p hp) ((key_p q hq).trans (congrArg some h.symm))
  have h1 := Value.agg.inj h1
  have e1 := congrArg (fun a : Array Value => a[0]?) h1
  have e2 := congrArg (fun a : Array Value => a[1]?) h1
  simp at e1 e2
  exact Prod.ext e1 e2
/-- how an element reads: as itself -/
def heldR (v : Value) : Option (DataW Value × List MemPlace) := some (.held v, [])
/-- a map in which those numbers are of which p holds -/
def IMap (W : World) (b n : Nat) (p : Int → Bool) : Prop := ∃ D : DataW Value, W.ownsMap Tryz.prog 3 heldR b n D ∧ ∀ i, I64 i → D.atKey (.int .i64 i) .nil = (match p i with | true => .held (.agg #[]) | false => .nil)
theorem IMap.made (W : World) : IMap (W.alloc (.map #[] 0)) W.heap.size 0 (fun _ => false) := ⟨_, World.ownsMap_made _ _ _ _, fun _ _ => rfl⟩
theorem IMap.lt {W : World} {b n : Nat} {p : Int → Bool} (h : IMap W b n p) : b < W.heap.size := by obtain ⟨_, h, _⟩ := h; exact h.lt
theorem IMap.kept {W W' : World} {b n : Nat} {p : Int → Bool} (h : IMap W b n p) (hb : W'.heap[b]? = W.heap[b]?) : IMap W' b n p := by
  obtain ⟨D, ⟨es, clock, h1, h2⟩, h3⟩ := h
  exact ⟨D, ⟨es, clock, hb.trans h1, h2⟩, h3⟩
theorem IMap.look {W : World} {b n : Nat} {p : Int → Bool} (h : IMap W b n p) (i : Int) (hi : I64 i) : (Instr.lookup 110 (.map (some b)) (.int .i64 i) true).run Tryz.prog W = .ok (.tuple #[.agg #[], .bool (p i)]) W := by
  obtain ⟨D, ⟨es, clock, hb, F, _, rfl⟩, h3⟩ := h
  have h4 := h3 i hi
  rcases Maps.fit_look true lawI Tryz.underlying110 (zeroU W) hb F (key_i hi) with ⟨hrun, _, hat⟩ | ⟨e0, y, _, _, hrun, hRv, hat, _⟩
  · rw [hat .nil] at h4
    cases hf : p i with
    | true => rw [hf] at h4; cases h4
    | false => rw [hrun]; rfl
  · rw [hat .nil] at h4
    obtain rfl : y = (.held e0.val, []) := (Option.some.inj hRv).symm
    cases hf : p i with
    | false => rw [hf] at h4; cases h4
    | true =>
      rw [hf] at h4
      have h5 : e0.val = .agg #[] := DataW.held.inj h4
      rw [hrun, h5]; rfl
theorem IMap.put {W : World} {b n : Nat} {p : Int → Bool} (h : IMap W b n p) (hn : n ≤ 1000000) (i : Int) (hi : I64 i) : ∃ W', (Instr.mapUpdate 110 (.map (some b)) (.int .i64 i) (.agg #[])).run Tryz.prog W = .ok () W' ∧ IMap W' b (n + 1) (fun j => p j || j == i) ∧ W.grownBy W' (some b) := by
  obtain ⟨D, ho, h3⟩ := h
  obtain ⟨W', hrun, ho', hg⟩ := ho.update lawI Tryz.underlying110 (by unfold maxLen; omega) (key_i hi) (show heldR (.agg #[]) = some (.held (.agg #[]), []) from rfl)
  refine ⟨W', hrun, ⟨_, ho', fun q hq => ?_⟩, hg⟩
  by_cases e : q = i
  · subst e
    rw [atKey_put_same ho.isMap (lawI.key (key_i hi))]
    simp
  · rw [atKey_put_other (by simp only [ne_eq, Lit.int.injEq, true_and]; exact e), h3 q hq]
    have : (q == i) = false := by simpa using e
    dsimp only
    rw [this, Bool.or_false]
/-- a map in which those points are of which p holds -/
def PMap (W : World) (b n : Nat) (p : Int × Bool → Bool) : Prop := ∃ D : DataW Value, W.ownsMap Tryz.prog 85 heldR b n D ∧ ∀ i, I64 i.1 → D.atKey (ptK i) .nil = (match p i with | true => .held (.agg #[]) | false => .nil)
theorem PMap.made (W : World) : PMap (W.alloc (.map #[] 0)) W.heap.size 0 (fun _ => false) := ⟨_, World.ownsMap_made _ _ _ _, fun _ _ => rfl⟩
theorem PMap.lt {W : World} {b n : Nat} {p : Int × Bool → Bool} (h : PMap W b n p) : b < W.heap.size := by obtain ⟨_, h, _⟩ := h; exact h.lt
theorem PMap.kept {W W' : World} {b n : Nat} {p : Int × Bool → Bool} (h : PMap W b n p) (hb : W'.heap[b]? = W.heap[b]?) : PMap W' b n p := by
  obtain ⟨D, ⟨es, clock, h1, h2⟩, h3⟩ := h
  exact ⟨D, ⟨es, clock, hb.trans h1, h2⟩, h3⟩
theorem PMap.look {W : World} {b n : Nat} {p : Int × Bool → Bool} (h : PMap W b n p) (i : Int × Bool) (hi : I64 i.1) : (Instr.lookup 113 (.map (some b)) (ptV i) true).run Tryz.prog W = .ok (.tuple #[.agg #[], .bool (p i)]) W := by
  obtain ⟨D, ⟨es, clock, hb, F, _, rfl⟩, h3⟩ := h
  have h4 := h3 i hi
  rcases Maps.fit_look true lawP Tryz.underlying113 (zeroU W) hb F (key_p i hi) with ⟨hrun, _, hat⟩ | ⟨e0, y, _, _, hrun, hRv, hat, _⟩
  · rw [hat .nil] at h4
    cases hf : p i with
    | true => rw [hf] at h4; cases h4
    | false => rw [hrun]; rfl
  · rw [hat .nil] at h4
    obtain rfl : y = (.held e0.val, []) := (Option.some.inj hRv).symm
    cases hf : p i with
    | false => rw [hf] at h4; cases h4
    | true =>
      rw [hf] at h4
      have h5 : e0.val = .agg #[] := DataW.held.inj h4
      rw [hrun, h5]; rfl
theorem PMap.put {W : World} {b n : Nat} {p : Int × Bool → Bool} (h : PMap W b n p) (hn : n ≤ 1000000) (i : Int × Bool) (hi : I64 i.1) : ∃ W', (Instr.mapUpdate 113 (.map (some b)) (ptV i) (.agg #[])).run Tryz.prog W = .ok () W' ∧ PMap W' b (n + 1) (fun j => p j || j == i) ∧ W.grownBy W' (some b) := by
  obtain ⟨D, ho, h3⟩ := h
  obtain ⟨W', hrun, ho', hg⟩ := ho.update lawP Tryz.underlying113 (by unfold maxLen; omega) (key_p i hi) (show heldR (.agg #[]) = some (.held (.agg #[]), []) from rfl)
  refine ⟨W', hrun, ⟨_, ho', fun q hq => ?_⟩, hg⟩
  by_cases e : q = i
  · subst e
    rw [atKey_put_same ho.isMap (lawP.key (key_p q hi))]
    simp
  · rw [atKey_put_other (fun h => e (ptK_inj hq hi h)), h3 q hq]
    have : (q == i) = false := by simpa using e
    dsimp only
    rw [this, Bool.or_false]
/-- what grew in a block that is new leaves all elder blocks -/
theorem below_grown1 {w W W' : World} {b : Nat} (hb : Below w.heap.size w W) (hg : W.grownBy W' (some b)) (hv : w.heap.size ≤ b) : Below w.heap.size w W' :=
  ⟨hg.os.trans hb.os, hg.tape.trans hb.tape, hg.output.trans hb.output, Nat.le_trans hb.size hg.size, fun k hk => (hg.block k (Nat.lt_of_lt_of_le hk hb.size) (by intro e; cases e; omega)).trans (hb.block k hk)⟩
end Ro
end
end Go.Proofs.YtflonjbbolmelaaGreatDoor
