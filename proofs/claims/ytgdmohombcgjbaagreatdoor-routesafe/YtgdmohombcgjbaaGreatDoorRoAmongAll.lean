/-
  Plain mathematics of promise 11.1: routes, and which clash. Package route's maps of numbers, and of points, that 'among' makes: what is found in them, and how they grow. The walks of package route's among, over numbers and over points, and of slices.IndexFunc and ContainsFunc over both.
-/
import Derived.Test.YtgdmohombcgjbaaGreatDoorRows
import Derived.Test.YtgdmohombcgjbaaGreatDoorRoBase
import Derived.Maps.OwnSet
import Derived.Maps.OwnOps
import Derived.Maps.Views
import Derived.DeepKeys4
namespace Go.Proofs.YtgdmohombcgjbaaGreatDoor
section
namespace Ro
/-- a route: its sections, and its points with how they lie -/
structure Rt where
  secs : List Int
  pts : List (Int × Bool)
def clash (a b : Rt) : Bool := (b.secs.any fun s => a.secs.contains s) || (b.pts.any fun p => a.pts.contains (p.1, !p.2))
theorem clash_iff (a b : Rt) : clash a b = true ↔ (∃ s, s ∈ a.secs ∧ s ∈ b.secs) ∨ ∃ n o, (n, o) ∈ b.pts ∧ (n, !o) ∈ a.pts := by
  unfold clash
  rw [Bool.or_eq_true, List.any_eq_true, List.any_eq_true]
  constructor
  · rintro (⟨s, h1, h2⟩ | ⟨⟨n, o⟩, h1, h2⟩)
    · exact .inl ⟨s, by simpa using h2, h1⟩
    · exact .inr ⟨n, o, h1, by simpa using h2⟩
  · rintro (⟨s, h1, h2⟩ | ⟨n, o, h1, h2⟩)
    · exact .inl ⟨s, h2, by simpa using h1⟩
    · exact .inr ⟨(n, o), h1, by simpa using h2⟩
theorem clash_comm (a b : Rt) : clash a b = clash b a := by
  rw [Bool.eq_iff_iff, clash_iff, clash_iff]
  constructor
  · rintro (⟨s, h1, h2⟩ | ⟨n, o, h1, h2⟩)
    · exact .inl ⟨s, h2, h1⟩
    · exact .inr ⟨n, !o, h2, by rw [Bool.not_not]; exact h1⟩
  · rintro (⟨s, h1, h2⟩ | ⟨n, o, h1, h2⟩)
    · exact .inl ⟨s, h2, h1⟩
    · exact .inr ⟨n, !o, h2, by rw [Bool.not_not]; exact h1⟩
theorem clash_share (a b : Rt) (s : Int) (h1 : s ∈ a.secs) (h2 : s ∈ b.secs) : clash a b = true := (clash_iff a b).2 (.inl ⟨s, h1, h2⟩)
end Ro
end
section
namespace Ro
open Go.RowKit Go.Maps
theorem newB (w : World) (o : Obj) : Below w.heap.size w (w.alloc o) := (Below.refl _ _).alloc (Nat.le_refl _) _
/-- points, as a slice -/
def Pts (w : World) (sv : Value) (l : List (Int × Bool)) : Prop := ∃ a c, sv = .slice a l.length c ∧ l.length ≤ maxLen ∧ ∀ (k : Nat) x, l[k]? = some x → ∃ g o, a = some ⟨g, o, none⟩ ∧ l.length ≤ c ∧ w.cell? ⟨g, o + k * 2, none⟩ = some (.int .i64 x.1) ∧ w.cell? ⟨g, o + k * 2 + 1, none⟩ = some (.bool x.2) ∧ I64 x.1
theorem Pts.below {w w' : World} {sv : Value} {l : List (Int × Bool)} (h : Pts w sv l) (hb : Below w.heap.size w w') : Pts w' sv l := by
  obtain ⟨a, c, h1, h2, h3⟩ := h
  refine ⟨a, c, h1, h2, fun k x hx => ?_⟩
  obtain ⟨g, o, e1, e2, e3, e4, e5⟩ := h3 k x hx
  exact ⟨g, o, e1, e2, kept hb e3, kept hb e4, e5⟩
theorem Pts.slice {w : World} {sv : Value} {l : List (Int × Bool)} (h : Pts w sv l) : ∃ a c, sv = .slice a l.length c := by obtain ⟨a, c, h, _⟩ := h; exact ⟨a, c, h⟩
theorem Pts.len {w : World} {sv : Value} {l : List (Int × Bool)} (h : Pts w sv l) : l.length ≤ maxLen := by obtain ⟨a, c, _, h, _⟩ := h; exact h
theorem Pts.cell {w : World} {a : Option Addr} {n c : Nat} {l : List (Int × Bool)} (h : Pts w (.slice a n c) l) (k : Nat) (x : Int × Bool) (hx : l[k]? = some x) : ∃ g o, a = some ⟨g, o, none⟩ ∧ w.cell? ⟨g, o + k * 2, none⟩ = some (.int .i64 x.1) ∧ w.cell? ⟨g, o + k * 2 + 1, none⟩ = some (.bool x.2) ∧ I64 x.1 := by
  obtain ⟨a', c', h1, h2, h3⟩ := h
  obtain ⟨g, o, e1, e2, e3, e4, e5⟩ := h3 k x hx
  simp only [Value.slice.injEq] at h1
  exact ⟨g, o, by rw [h1.1]; exact e1, e3, e4, e5⟩
theorem Pts.i64 {w : World} {sv : Value} {l : List (Int × Bool)} (h : Pts w sv l) (x : Int × Bool) (hx : x ∈ l) : I64 x.1 := by
  obtain ⟨a, c, h1, h2, h3⟩ := h
  obtain ⟨k, hk⟩ := List.mem_iff_getElem?.1 hx
  obtain ⟨_, _, _, _, _, _, h⟩ := h3 k x hk
  exact h
theorem Ints.i64 {w : World} {sv : Value} {l : List Int} (h : Ints w sv l) (x : Int) (hx : x ∈ l) : I64 x := by
  obtain ⟨a, c, h1, h2, h3⟩ := h
  obtain ⟨k, hk⟩ := List.mem_iff_getElem?.1 hx
  obtain ⟨_, _, _, _, _, h⟩ := h3 k x hk
  exact h
def ptV (p : Int × Bool) : Value := .agg #[.int .i64 p.1, .bool p.2]
def ptK (p : Int × Bool) : Lit := .string (keyBytes [.int .i64 p.1, .bool p.2])
theorem lawI : Keyed Tryz.prog 3 := int_keyed Tryz.underlying3
theorem lawP : Keyed Tryz.prog 61 := Keyed.of_law (deep_law_laid (m := 9) (by kernel_rfl) (by decide) (of_decide_eq_true (by kernel_rfl)) (by kernel_rfl) (by kernel_rfl))
theorem zeroU (w : World) : (zeroValue 146).run Tryz.prog w = .ok (.agg #[]) w := by kernel_rfl
theorem wf64 {i : Int} (h : I64 i) : (Lit.int .i64 i).wf = true := WalkArith.wf_i64 h
theorem key_i {i : Int} (h : I64 i) : keyOf Tryz.prog 3 (.int .i64 i) = some (.int .i64 i) := keyOf_int_mk Tryz.underlying3 (wf64 h)
theorem lits_int (m : Nat) (x : Int) (h : (Lit.int .i64 x).wf = true) : Tryz.prog.keyLits (m + 1) 3 [.int .i64 x] = some [.int .i64 x] := by
  unfold Program.keyLits
  simp only [Tryz.underlying3]
  rw [h]
  rfl
theorem lits_bool (m : Nat) (x : Bool) : Tryz.prog.keyLits (m + 1) 4 [.bool x] = some [.bool x] := by
  unfold Program.keyLits
  simp only [Tryz.underlying4]
theorem key_p (p : Int × Bool) (h : I64 p.1) : keyOf Tryz.prog 61 (ptV p) = some (ptK p) := by
  obtain ⟨m, hm⟩ : ∃ m, Tryz.prog.types.size = m + 1 := ⟨Tryz.prog.types.size - 1, by kernel_rfl⟩
  have c1 : Tryz.prog.cellsOf 3 = 1 := by kernel_rfl
  have cb : Tryz.prog.cellsOf 4 = 1 := by kernel_rfl
  have c2 : Tryz.prog.cellsOf 61 = 2 := by kernel_rfl
  have kt : Tryz.prog.keyType 61 = true := by kernel_rfl
  unfold keyOf
  simp only [Tryz.underlying61]
  rw [kt]
  have hf : (ptV p).formed Tryz.prog 61 = true := by
    unfold ptV Value.formed
    simp only [Tryz.underlying61, c2]
    rfl
  rw [hf, hm]
  have hl : Tryz.prog.keyLits (m + 1 + 1) 61 (ptV p).cells.toList = some [.int .i64 p.1, .bool p.2] := by
    have e1 := lits_int m _ (wf64 h)
    have e2 := lits_bool m p.2
    unfold Program.keyLits
    simp only [Tryz.underlying61]
    rw [if_pos (by rw [c2]; exact ⟨rfl, by kernel_rfl⟩)]
    simp [ptV, Value.cells, c1, cb, e1, e2]
  rw [hl]
  rfl
theorem ptK_inj {p q : Int × Bool} (hp : I64 p.1) (hq : I64 q.1) (h : ptK p = ptK q) : p = q := by
  have h1 := lawP.inj (key_p p hp) ((key_p q hq).trans (congrArg some h.symm))
  have h1 := Value.agg.inj h1
  have e1 := congrArg (fun a : Array Value => a[0]?) h1
  have e2 := congrArg (fun a : Array Value => a[1]?) h1
  simp at e1 e2
  exact Prod.ext e1 e2
/-- how an element reads: as itself -/
def heldR (v : Value) : Option (DataW Value × List MemPlace) := some (.held v, [])
/-- a map in which those numbers are of which p holds -/
def IMap (W : World) (b n : Nat) (p : Int → Bool) : Prop := ∃ D : DataW Value, W.ownsMap Tryz.prog 3 heldR b n D ∧ ∀ i, I64 i → D.atKey (.int .i64 i) .nil = (match p i with | true => .held (.agg #[]) | false => .nil)
theorem IMap.made (W : World) : IMap (W.alloc (.map #[] 0)) W.heap.size 0 (fun _ => false) := ⟨_, World.ownsMap_made _ _ _ _, fun _ _ => rfl⟩
theorem IMap.lt {W : World} {b n : Nat} {p : Int → Bool} (h : IMap W b n p) : b < W.heap.size := by obtain ⟨_, h, _⟩ := h; exact h.lt
theorem IMap.kept {W W' : World} {b n : Nat} {p : Int → Bool} (h : IMap W b n p) (hb : W'.heap[b]? = W.heap[b]?) : IMap W' b n p := by
  obtain ⟨D, ⟨es, clock, h1, h2⟩, h3⟩ := h
  exact ⟨D, ⟨es, clock, hb.trans h1, h2⟩, h3⟩
theorem IMap.look {W : World} {b n : Nat} {p : Int → Bool} (h : IMap W b n p) (i : Int) (hi : I64 i) : (Instr.lookup 145 (.map (some b)) (.int .i64 i) true).run Tryz.prog W = .ok (.tuple #[.agg #[], .bool (p i)]) W := by
  obtain ⟨D, ⟨es, clock, hb, F, _, rfl⟩, h3⟩ := h
  have h4 := h3 i hi
  rcases Maps.fit_look true lawI Tryz.underlying145 (zeroU W) hb F (key_i hi) with ⟨hrun, _, hat⟩ | ⟨e0, y, _, _, hrun, hRv, hat, _⟩
  · rw [hat .nil] at h4
    cases hf : p i with
    | true => rw [hf] at h4; cases h4
    | false => rw [hrun]; rfl
  · rw [hat .nil] at h4
    obtain rfl : y = (.held e0.val, []) := (Option.some.inj hRv).symm
    cases hf : p i with
    | false => rw [hf] at h4; cases h4
    | true =>
      rw [hf] at h4
      have h5 : e0.val = .agg #[] := DataW.held.inj h4
      rw [hrun, h5]; rfl
theorem IMap.put {W : World} {b n : Nat} {p : Int → Bool} (h : IMap W b n p) (hn : n ≤ 1000000) (i : Int) (hi : I64 i) : ∃ W', (Instr.mapUpdate 145 (.map (some b)) (.int .i64 i) (.agg #[])).run Tryz.prog W = .ok () W' ∧ IMap W' b (n + 1) (fun j => p j || j == i) ∧ W.grownBy W' (some b) := by
  obtain ⟨D, ho, h3⟩ := h
  obtain ⟨W', hrun, ho', hg⟩ := ho.update lawI Tryz.underlying145 (by unfold maxLen; omega) (key_i hi) (show heldR (.agg #[]) = some (.held (.agg #[]), []) from rfl)
  refine ⟨W', hrun, ⟨_, ho', fun q hq => ?_⟩, hg⟩
  by_cases e : q = i
  · subst e
    rw [atKey_put_same ho.isMap (lawI.key (key_i hi))]
    simp
  · rw [atKey_put_other (by simp only [ne_eq, Lit.int.injEq, true_and]; exact e), h3 q hq]
    have : (q == i) = false := by simpa using e
    dsimp only
    rw [this, Bool.or_false]
/-- a map in which those points are of which p holds -/
def PMap (W : World) (b n : Nat) (p : Int × Bool → Bool) : Prop := ∃ D : DataW Value, W.ownsMap Tryz.prog 61 heldR b n D ∧ ∀ i, I64 i.1 → D.atKey (ptK i) .nil = (match p i with | true => .held (.agg #[]) | false => .nil)
theorem PMap.made (W : World) : PMap (W.alloc (.map #[] 0)) W.heap.size 0 (fun _ => false) := ⟨_, World.ownsMap_made _ _ _ _, fun _ _ => rfl⟩
theorem PMap.lt {W : World} {b n : Nat} {p : Int × Bool → Bool} (h : PMap W b n p) : b < W.heap.size := by obtain ⟨_, h, _⟩ := h; exact h.lt
theorem PMap.kept {W W' : World} {b n : Nat} {p : Int × Bool → Bool} (h : PMap W b n p) (hb : W'.heap[b]? = W.heap[b]?) : PMap W' b n p := by
  obtain ⟨D, ⟨es, clock, h1, h2⟩, h3⟩ := h
  exact ⟨D, ⟨es, clock, hb.trans h1, h2⟩, h3⟩
theorem PMap.look {W : World} {b n : Nat} {p : Int × Bool → Bool} (h : PMap W b n p) (i : Int × Bool) (hi : I64 i.1) : (Instr.lookup 148 (.map (some b)) (ptV i) true).run Tryz.prog W = .ok (.tuple #[.agg #[], .bool (p i)]) W := by
  obtain ⟨D, ⟨es, clock, hb, F, _, rfl⟩, h3⟩ := h
  have h4 := h3 i hi
  rcases Maps.fit_look true lawP Tryz.underlying148 (zeroU W) hb F (key_p i hi) with ⟨hrun, _, hat⟩ | ⟨e0, y, _, _, hrun, hRv, hat, _⟩
  · rw [hat .nil] at h4
    cases hf : p i with
    | true => rw [hf] at h4; cases h4
    | false => rw [hrun]; rfl
  · rw [hat .nil] at h4
    obtain rfl : y = (.held e0.val, []) := (Option.some.inj hRv).symm
    cases hf : p i with
    | false => rw [hf] at h4; cases h4
    | true =>
      rw [hf] at h4
      have h5 : e0.val = .agg #[] := DataW.held.inj h4
      rw [hrun, h5]; rfl
theorem PMap.put {W : World} {b n : Nat} {p : Int × Bool → Bool} (h : PMap W b n p) (hn : n ≤ 1000000) (i : Int × Bool) (hi : I64 i.1) : ∃ W', (Instr.mapUpdate 148 (.map (some b)) (ptV i) (.agg #[])).run Tryz.prog W = .ok () W' ∧ PMap W' b (n + 1) (fun j => p j || j == i) ∧ W.grownBy W' (some b) := by
  obtain ⟨D, ho, h3⟩ := h
  obtain ⟨W', hrun, ho', hg⟩ := ho.update lawP Tryz.underlying148 (by unfold maxLen; omega) (key_p i hi) (show heldR (.agg #[]) = some (.held (.agg #[]), []) from rfl)
  refine ⟨W', hrun, ⟨_, ho', fun q hq => ?_⟩, hg⟩
  by_cases e : q = i
  · subst e
    rw [atKey_put_same ho.isMap (lawP.key (key_p q hi))]
    simp
  · rw [atKey_put_other (fun h => e (ptK_inj hq hi h)), h3 q hq]
    have : (q == i) = false := by simpa using e
    dsimp only
    rw [this, Bool.or_false]
/-- what grew in a block that is new leaves all elder blocks -/
theorem below_grown1 {w W W' : World} {b : Nat} (hb : Below w.heap.size w W) (hg : W.grownBy W' (some b)) (hv : w.heap.size ≤ b) : Below w.heap.size w W' :=
  ⟨hg.os.trans hb.os, hg.tape.trans hb.tape, hg.output.trans hb.output, Nat.le_trans hb.size hg.size, fun k hk => (hg.block k (Nat.lt_of_lt_of_le hk hb.size) (by intro e; cases e; omega)).trans (hb.block k hk)⟩
end Ro
end
section
namespace Ro
open Go.RowKit Go.Maps
/-- a function that tells something of a point -/
def QPred (w : World) (f : Value) (p : Int × Bool → Bool) : Prop := ∃ K c, f = .func (.func K) #[] #[c] ∧ (∀ args w, (callFunc K args).run Tryz.prog w = .ok (.enter K args) w) ∧ ∀ (x : Int × Bool) (W : World), Below w.heap.size w W → I64 x.1 → Calls Tryz.prog K #[ptV x, c] W fun e w' => e = .returned (.bool (p x)) ∧ Below W.heap.size W w'
theorem QPred.below {w w' : World} {f : Value} {p : Int × Bool → Bool} (h : QPred w f p) (hb : Below w.heap.size w w') : QPred w' f p := by
  obtain ⟨K, c, h1, h2, h3⟩ := h
  exact ⟨K, c, h1, h2, fun x W hW hx => h3 x W (hb.trans (hW.mono hb.size)) hx⟩
theorem contains_take {α : Type} [BEq α] [LawfulBEq α] (l : List α) (k : Nat) (h : k < l.length) (x : α) : (l.take (k + 1)).contains x = ((l.take k).contains x || x == l[k]) := by
  rw [Bool.eq_iff_iff, Bool.or_eq_true, List.contains_iff_mem, List.contains_iff_mem, beq_iff_eq, List.take_succ_eq_append_getElem h, List.mem_append, List.mem_singleton]
theorem madeI (n : Nat) (w : World) : (Instr.makeMap 145 (some (.int .i64 (n : Int)))).run Tryz.prog w = .ok (.map (some w.heap.size)) (w.alloc (.map #[] 0)) := by
  simp [Instr.makeMap, run_underlying Tryz.underlying145, asInt, asIntOf]
theorem madeP (n : Nat) (w : World) : (Instr.makeMap 148 (some (.int .i64 (n : Int)))).run Tryz.prog w = .ok (.map (some w.heap.size)) (w.alloc (.map #[] 0)) := by
  simp [Instr.makeMap, run_underlying Tryz.underlying148, asInt, asIntOf]
set_option maxHeartbeats 2000000 in
set_option maxRecDepth 100000 in
theorem amongI1_any (c b n : Nat) (p : Int → Bool) (x : Int) (hx : I64 x) (w : World) (c0 : w.cell? ⟨c, 0, none⟩ = some (.map (some b))) (hm : IMap w b n p) :
    Calls Tryz.prog 71 #[.int .i64 x, .pointer (some ⟨c, 0, none⟩)] w fun e w' => e = .returned (.bool (p x)) ∧ Below w.heap.size w w' := by
  have hl := hm.look x hx
  generalize p x = y at *
  clear hm
  go_enter Tryz.func71, Tryz.ntmps71
  go_wp2_with fail
  go_ret
  exact ⟨rfl, newB _ _⟩
set_option maxHeartbeats 2000000 in
set_option maxRecDepth 100000 in
theorem amongP1_any (c b n : Nat) (p : Int × Bool → Bool) (x : Int × Bool) (hx : I64 x.1) (w : World) (c0 : w.cell? ⟨c, 0, none⟩ = some (.map (some b))) (hm : PMap w b n p) :
    Calls Tryz.prog 72 #[ptV x, .pointer (some ⟨c, 0, none⟩)] w fun e w' => e = .returned (.bool (p x)) ∧ Below w.heap.size w w' := by
  obtain ⟨w1, hw1⟩ : ∃ w1, w1 = w.alloc (.cells #[.int .i64 x.1, .bool x.2] 61) := ⟨_, rfl⟩
  have HB : Hid (Below w.heap.size w w1) := by rw [hw1]; exact newB _ _
  have hl := (hm.kept (HB.out.block b hm.lt)).look x hx
  have c1 := kept HB.out c0
  have hbl := World.block_lt_of_cell? _ _ c0
  unfold ptV at hl ⊢
  generalize p x = y at *
  have HW := hide hw1
  clear hm hw1
  go_enter Tryz.func72, Tryz.ntmps72
  rw [HW.out] at hl c1
  go_wp2_with fail
  go_ret
  exact ⟨rfl, then_ (newB _ _) (newB _ _)⟩
/-- a question that 'among' made: is it in its map? -/
def AmI (q : Nat) (W : World) (f : Value) (p : Int → Bool) : Prop := ∃ c b n, f = .func (.func 71) #[] #[.pointer (some ⟨c, 0, none⟩)] ∧ q ≤ c ∧ q ≤ b ∧ W.cell? ⟨c, 0, none⟩ = some (.map (some b)) ∧ IMap W b n p
theorem AmI.below {q : Nat} {W W' : World} {f : Value} {p : Int → Bool} (h : AmI q W f p) (hb : Below W.heap.size W W') : AmI q W' f p := by
  obtain ⟨c, b, n, h1, h2, h3, h4, h5⟩ := h
  exact ⟨c, b, n, h1, h2, h3, kept hb h4, h5.kept (hb.block _ h5.lt)⟩
theorem AmI.set {q : Nat} {W : World} {f : Value} {p : Int → Bool} (h : AmI q W f p) (b0 i : Nat) (v : Value) (hb : b0 < q) : AmI q (W.setCell ⟨b0, i, none⟩ v) f p := by
  obtain ⟨c, b, n, h1, h2, h3, h4, h5⟩ := h
  exact ⟨c, b, n, h1, h2, h3, cell_set_block _ _ _ _ _ _ _ (by omega) h4, h5.kept (Below.heap_setCell _ _ _ _ (fun e => by have e2 : b = b0 := e; omega))⟩
theorem AmI.mono {q q' : Nat} {W : World} {f : Value} {p : Int → Bool} (h : AmI q W f p) (hq : q' ≤ q) : AmI q' W f p := by
  obtain ⟨c, b, n, h1, h2, h3, h4, h5⟩ := h
  exact ⟨c, b, n, h1, by omega, by omega, h4, h5⟩
theorem AmI.spred {q : Nat} {W : World} {f : Value} {p : Int → Bool} (h : AmI q W f p) : SPred W f I64 p := by
  obtain ⟨c, b, n, h1, h2, h3, h4, h5⟩ := h
  refine ⟨_, _, h1, .inl ⟨_, rfl⟩, fun args w => by kernel_rfl, fun x W hW hx => ?_⟩
  exact amongI1_any c b n _ x hx W (kept hW h4) (h5.kept (hW.block _ h5.lt))
/-- a question that 'among' made: is it in its map? -/
def AmP (q : Nat) (W : World) (f : Value) (p : Int × Bool → Bool) : Prop := ∃ c b n, f = .func (.func 72) #[] #[.pointer (some ⟨c, 0, none⟩)] ∧ q ≤ c ∧ q ≤ b ∧ W.cell? ⟨c, 0, none⟩ = some (.map (some b)) ∧ PMap W b n p
theorem AmP.below {q : Nat} {W W' : World} {f : Value} {p : Int × Bool → Bool} (h : AmP q W f p) (hb : Below W.heap.size W W') : AmP q W' f p := by
  obtain ⟨c, b, n, h1, h2, h3, h4, h5⟩ := h
  exact ⟨c, b, n, h1, h2, h3, kept hb h4, h5.kept (hb.block _ h5.lt)⟩
theorem AmP.set {q : Nat} {W : World} {f : Value} {p : Int × Bool → Bool} (h : AmP q W f p) (b0 i : Nat) (v : Value) (hb : b0 < q) : AmP q (W.setCell ⟨b0, i, none⟩ v) f p := by
  obtain ⟨c, b, n, h1, h2, h3, h4, h5⟩ := h
  exact ⟨c, b, n, h1, h2, h3, cell_set_block _ _ _ _ _ _ _ (by omega) h4, h5.kept (Below.heap_setCell _ _ _ _ (fun e => by have e2 : b = b0 := e; omega))⟩
theorem AmP.mono {q q' : Nat} {W : World} {f : Value} {p : Int × Bool → Bool} (h : AmP q W f p) (hq : q' ≤ q) : AmP q' W f p := by
  obtain ⟨c, b, n, h1, h2, h3, h4, h5⟩ := h
  exact ⟨c, b, n, h1, by omega, by omega, h4, h5⟩
theorem AmP.qpred {q : Nat} {W : World} {f : Value} {p : Int × Bool → Bool} (h : AmP q W f p) : QPred W f p := by
  obtain ⟨c, b, n, h1, h2, h3, h4, h5⟩ := h
  refine ⟨_, _, h1, fun args w => by kernel_rfl, fun x W hW hx => ?_⟩
  exact amongP1_any c b n _ x hx W (kept hW h4) (h5.kept (hW.block _ h5.lt))
set_option maxHeartbeats 4000000 in
set_option maxRecDepth 100000 in
theorem amongI_any (l : List Int) (sv : Value) (w : World) (h : Ints w sv l) (hl : l.length ≤ 1000) :
    Calls Tryz.prog 41 #[sv] w fun e w' => ∃ f, e = .returned f ∧ AmI w.heap.size w' f (fun x => l.contains x) ∧ Below w.heap.size w w' := by
  have HR := hide h
  obtain ⟨a, cp, rfl⟩ := h.slice
  obtain ⟨n, hn⟩ : ∃ n, n = l.length := ⟨_, rfl⟩
  have HN := hide hn
  rw [← hn] at hl HR ⊢
  clear h hn
  obtain ⟨wA, hwA⟩ : ∃ wA, wA = (w.alloc (.map #[] 0)).alloc (.cells #[.map (some w.heap.size)] 145) := ⟨_, rfl⟩
  have HBA : Hid (Below w.heap.size w wA) := by rw [hwA]; exact then_ (newB _ _) (newB _ _)
  have HCA : Hid (wA.cell? ⟨w.heap.size + 1, 0, none⟩ = some (.map (some w.heap.size))) := by
    show _ = _
    rw [hwA]
    have := (RowIs.new (w.alloc (.map #[] 0)) 145 [.map (some w.heap.size)]).cell 0 _ rfl
    rw [World.size_alloc] at this
    exact this
  have HMA : Hid (IMap wA w.heap.size 0 (fun x => (l.take 0).contains x)) := by
    have h := IMap.made w
    rw [hwA]
    exact h.kept (Below.heap_alloc _ _ _ h.lt)
  have HWA := hide hwA
  have hmk := madeI n w
  clear hwA
  go_enter Tryz.func41, Tryz.ntmps41
  go_wp2_with fail
  rw [← HWA.out]
  clear HWA
  go_loopw [11] (fun i wr => ∃ k : Nat, k ≤ n ∧ i = .int .i64 (k : Int) ∧ Hid (wr.cell? ⟨w.heap.size + 1, 0, none⟩ = some (.map (some w.heap.size))) ∧ Hid (IMap wr w.heap.size k (fun x => (l.take k).contains x)) ∧ Hid (Below w.heap.size w wr)) (fun i _ => n - (intOf i).toNat)
  case atStart => exact ⟨0, Nat.zero_le _, rfl, HCA.out, HMA.out, HBA.out⟩
  case round =>
    obtain ⟨k, hk, rfl, HC, HM, HB⟩ := hrel
    have c0 := HC.out
    by_cases hlt : k < n
    · have hkl : k < l.length := by rw [← HN.out]; exact hlt
      obtain ⟨g, o, rfl, cx, hi⟩ := (HR.out.below HB.out).cell k _ (List.getElem?_eq_getElem hkl)
      obtain ⟨W', hrun, hm', hg⟩ := HM.out.put (by omega) l[k] hi
      have HM' : Hid (IMap W' w.heap.size (k + 1) (fun x => (l.take (k + 1)).contains x)) := by
        have e : (fun x => (l.take (k + 1)).contains x) = (fun j => (l.take k).contains j || j == l[k]) := by
          funext x
          exact contains_take l k hkl x
        show IMap _ _ _ _
        rw [e]; exact hm'
      have HB' := hide (below_grown1 HB.out hg (Nat.le_refl _))
      have HC' : Hid (W'.cell? ⟨w.heap.size + 1, 0, none⟩ = some (.map (some w.heap.size))) := hg.cell c0 (by intro e; have e2 : w.heap.size + 1 = w.heap.size := Option.some.inj e; omega)
      have hji : (k : Int) < (n : Int) := by omega
      clear hi hm' hg
      generalize l[k] = x at *
      go_wp2_with fail
      go_roundw
      case rel => exact ⟨k + 1, by omega, by go_num, HC'.out, HM'.out, HB'.out⟩
      case measure => simp [intOf]; omega
    · have hkn : k = n := by omega
      have HS : Hid (AmI w.heap.size wr (.func (.func 71) #[] #[.pointer (some ⟨w.heap.size + 1, 0, none⟩)]) (fun x => l.contains x)) := by
        have hm := HM.out
        rw [List.take_of_length_le (by rw [← HN.out]; omega)] at hm
        exact ⟨_, _, _, rfl, Nat.le_succ _, Nat.le_refl _, HC.out, hm⟩
      clear c0 HC HM
      subst hkn
      go_wp2_with fail
      go_ret
      exact ⟨_, rfl, HS.out, HB.out⟩
set_option maxHeartbeats 4000000 in
set_option maxRecDepth 100000 in
theorem amongP_any (l : List (Int × Bool)) (sv : Value) (w : World) (h : Pts w sv l) (hl : l.length ≤ 1000) :
    Calls Tryz.prog 42 #[sv] w fun e w' => ∃ f, e = .returned f ∧ AmP w.heap.size w' f (fun x => l.contains x) ∧ Below w.heap.size w w' := by
  have HR := hide h
  obtain ⟨a, cp, rfl⟩ := h.slice
  obtain ⟨n, hn⟩ : ∃ n, n = l.length := ⟨_, rfl⟩
  have HN := hide hn
  rw [← hn] at hl HR ⊢
  clear h hn
  obtain ⟨wA, hwA⟩ : ∃ wA, wA = (w.alloc (.map #[] 0)).alloc (.cells #[.map (some w.heap.size)] 148) := ⟨_, rfl⟩
  have HBA : Hid (Below w.heap.size w wA) := by rw [hwA]; exact then_ (newB _ _) (newB _ _)
  have HCA : Hid (wA.cell? ⟨w.heap.size + 1, 0, none⟩ = some (.map (some w.heap.size))) := by
    show _ = _
    rw [hwA]
    have := (RowIs.new (w.alloc (.map #[] 0)) 148 [.map (some w.heap.size)]).cell 0 _ rfl
    rw [World.size_alloc] at this
    exact this
  have HMA : Hid (PMap wA w.heap.size 0 (fun x => (l.take 0).contains x)) := by
    have h := PMap.made w
    rw [hwA]
    exact h.kept (Below.heap_alloc _ _ _ h.lt)
  have HWA := hide hwA
  have hmk := madeP n w
  clear hwA
  go_enter Tryz.func42, Tryz.ntmps42
  go_wp2_with fail
  rw [← HWA.out]
  clear HWA
  go_loopw [11] (fun i wr => ∃ k : Nat, k ≤ n ∧ i = .int .i64 (k : Int) ∧ Hid (wr.cell? ⟨w.heap.size + 1, 0, none⟩ = some (.map (some w.heap.size))) ∧ Hid (PMap wr w.heap.size k (fun x => (l.take k).contains x)) ∧ Hid (Below w.heap.size w wr)) (fun i _ => n - (intOf i).toNat)
  case atStart => exact ⟨0, Nat.zero_le _, rfl, HCA.out, HMA.out, HBA.out⟩
  case round =>
    obtain ⟨k, hk, rfl, HC, HM, HB⟩ := hrel
    by_cases hlt : k < n
    · have hkl : k < l.length := by rw [← HN.out]; exact hlt
      obtain ⟨g, o, rfl, cx, cy, hi⟩ := (HR.out.below HB.out).cell k _ (List.getElem?_eq_getElem hkl)
      obtain ⟨wL, hwL⟩ : ∃ wL, wL = wr.alloc (.cells #[.int .i64 l[k].1, .bool l[k].2] 61) := ⟨_, rfl⟩
      have hbL : Below wr.heap.size wr wL := by rw [hwL]; exact newB _ _
      have c0 := kept hbL HC.out
      have hcl := World.block_lt_of_cell? _ _ HC.out
      obtain ⟨W', hrun, hm', hg⟩ := (HM.out.kept (hbL.block _ HM.out.lt)).put (by omega) l[k] hi
      have HM' : Hid (PMap W' w.heap.size (k + 1) (fun x => (l.take (k + 1)).contains x)) := by
        have e : (fun x => (l.take (k + 1)).contains x) = (fun j => (l.take k).contains j || j == l[k]) := by
          funext x
          exact contains_take l k hkl x
        show PMap _ _ _ _
        rw [e]; exact hm'
      have HB' := hide (below_grown1 (then_ HB.out hbL) hg (Nat.le_refl _))
      have HC' : Hid (W'.cell? ⟨w.heap.size + 1, 0, none⟩ = some (.map (some w.heap.size))) := hg.cell c0 (by intro e; have e2 : w.heap.size + 1 = w.heap.size := Option.some.inj e; omega)
      have hji : (k : Int) < (n : Int) := by omega
      unfold ptV at hrun
      rw [hwL] at hrun c0
      clear hi hm' hg hbL hwL
      generalize l[k] = x at *
      go_wp2_with fail
      go_roundw
      case rel => exact ⟨k + 1, by omega, by go_num, HC'.out, HM'.out, HB'.out⟩
      case measure => simp [intOf]; omega
    · have hkn : k = n := by omega
      have HS : Hid (AmP w.heap.size wr (.func (.func 72) #[] #[.pointer (some ⟨w.heap.size + 1, 0, none⟩)]) (fun x => l.contains x)) := by
        have hm := HM.out
        rw [List.take_of_length_le (by rw [← HN.out]; omega)] at hm
        exact ⟨_, _, _, rfl, Nat.le_succ _, Nat.le_refl _, HC.out, hm⟩
      clear HC HM
      subst hkn
      go_wp2_with fail
      go_ret
      exact ⟨_, rfl, HS.out, HB.out⟩
end Ro
end
end Go.Proofs.YtgdmohombcgjbaaGreatDoor
