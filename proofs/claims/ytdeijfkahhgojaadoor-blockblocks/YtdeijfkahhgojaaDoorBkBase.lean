/-
  What the walks of package block go by: rows of numbers, and lists of such rows, in memory; functions that tell something of numbers; errors.
-/
import Derived.Test.YtdeijfkahhgojaaDoorRows
import Derived.WalkKit
import Derived.WalkSpells
import Derived.WalkLawsBesides
import Derived.Deep.QuietTactic
import Derived.BigQuiet
import Derived.Deep.LoopGhost
import Derived.Deep.AppendLies
import Derived.Deep.RegionLaw
import Derived.Deep.RegionHeld3
import Derived.Laws.EntriesVeiled
import Derived.Laws.MakeOwn
import Derived.Laws.OwnMore
import Derived.Lib.AppendZeros
import Derived.OwnWalk
namespace Go.Proofs.YtdeijfkahhgojaaDoor
namespace Bk
open Go.RowKit
theorem hide {p : Prop} (h : p) : Hid p := h
theorem ret_bool {a b : Bool} (h : a = b) : Ending.returned (.bool a) = .returned (.bool b) := by rw [h]
theorem Tryd.infoInt : (Tryd.prog.info? 3).map (fun i => (i.zero, i.size, i.bytes)) = some (some (.int .i64 0), 1, 8) := by kernel_rfl
theorem Tryd.infoBool : (Tryd.prog.info? 4).map (fun i => (i.zero, i.size, i.bytes)) = some (some (.bool false), 1, 1) := by kernel_rfl
theorem Tryd.infoInts : (Tryd.prog.info? 31).map (fun i => (i.zero, i.size, i.bytes)) = some (some (.slice none 0 0), 1, 24) := by kernel_rfl
def I64 (n : Int) : Prop := -9223372036854775808 ≤ n ∧ n ≤ 9223372036854775807
theorem kept {W W' : World} (hb : Below W.heap.size W W') {p : Addr} {v : Value} (h : W.cell? p = some v) : W'.cell? p = some v := (hb.cell (World.block_lt_of_cell? _ _ h)).trans h
theorem drewB (w : World) : Below w.heap.size w w.drew := ⟨rfl, rfl, rfl, Nat.le_refl _, fun _ _ => rfl⟩
theorem then_ {a b c : World} (h : Below a.heap.size a b) (k : Below b.heap.size b c) : Below a.heap.size a c := h.trans (k.mono h.size)
/-- a row of numbers, as a slice -/
def Ints (w : World) (sv : Value) (l : List Int) : Prop := ∃ a c, sv = .slice a l.length c ∧ l.length ≤ maxLen ∧ ∀ (k : Nat) x, l[k]? = some x → ∃ g o, a = some ⟨g, o, none⟩ ∧ l.length ≤ c ∧ w.cell? ⟨g, o + k, none⟩ = some (.int .i64 x) ∧ I64 x
theorem Ints.below {w w' : World} {sv : Value} {l : List Int} (h : Ints w sv l) (hb : Below w.heap.size w w') : Ints w' sv l := by
  obtain ⟨a, c, h1, h2, h3⟩ := h
  refine ⟨a, c, h1, h2, fun k x hx => ?_⟩
  obtain ⟨g, o, e1, e2, e3, e4⟩ := h3 k x hx
  exact ⟨g, o, e1, e2, kept hb e3, e4⟩
theorem Ints.slice {w : World} {sv : Value} {l : List Int} (h : Ints w sv l) : ∃ a c, sv = .slice a l.length c := by obtain ⟨a, c, h, _⟩ := h; exact ⟨a, c, h⟩
theorem Ints.len {w : World} {sv : Value} {l : List Int} (h : Ints w sv l) : l.length ≤ maxLen := by obtain ⟨a, c, _, h, _⟩ := h; exact h
theorem Ints.cell {w : World} {a : Option Addr} {n c : Nat} {l : List Int} (h : Ints w (.slice a n c) l) (k : Nat) (x : Int) (hx : l[k]? = some x) : ∃ g o, a = some ⟨g, o, none⟩ ∧ w.cell? ⟨g, o + k, none⟩ = some (.int .i64 x) ∧ I64 x := by
  obtain ⟨a', c', h1, h2, h3⟩ := h
  obtain ⟨g, o, e1, e2, e3, e4⟩ := h3 k x hx
  simp only [Value.slice.injEq] at h1
  exact ⟨g, o, by rw [h1.1]; exact e1, e3, e4⟩
theorem Ints.nil (w : World) (a : Option Addr) (c : Nat) : Ints w (.slice a 0 c) [] := ⟨a, c, rfl, by simp, fun k x hx => by simp at hx⟩
/-- a list of rows of numbers -/
def Rows (w : World) (sv : Value) (L : List (List Int)) : Prop := ∃ a c, sv = .slice a L.length c ∧ L.length ≤ maxLen ∧ ∀ (k : Nat) r, L[k]? = some r → ∃ g o v, a = some ⟨g, o, none⟩ ∧ L.length ≤ c ∧ w.cell? ⟨g, o + k, none⟩ = some v ∧ Ints w v r
theorem Rows.below {w w' : World} {sv : Value} {l : List (List Int)} (h : Rows w sv l) (hb : Below w.heap.size w w') : Rows w' sv l := by
  obtain ⟨a, c, h1, h2, h3⟩ := h
  refine ⟨a, c, h1, h2, fun k x hx => ?_⟩
  obtain ⟨g, o, v, e1, e2, e3, e4⟩ := h3 k x hx
  exact ⟨g, o, v, e1, e2, kept hb e3, e4.below hb⟩
theorem Rows.slice {w : World} {sv : Value} {l : List (List Int)} (h : Rows w sv l) : ∃ a c, sv = .slice a l.length c := by obtain ⟨a, c, h, _⟩ := h; exact ⟨a, c, h⟩
theorem Rows.len {w : World} {sv : Value} {l : List (List Int)} (h : Rows w sv l) : l.length ≤ maxLen := by obtain ⟨a, c, _, h, _⟩ := h; exact h
theorem Rows.cell {w : World} {a : Option Addr} {n c : Nat} {l : List (List Int)} (h : Rows w (.slice a n c) l) (k : Nat) (r : List Int) (hx : l[k]? = some r) : ∃ g o, a = some ⟨g, o, none⟩ ∧ ∃ u d, w.cell? ⟨g, o + k, none⟩ = some (.slice u r.length d) ∧ Ints w (.slice u r.length d) r := by
  obtain ⟨a', c', h1, h2, h3⟩ := h
  obtain ⟨g, o, v, e1, e2, e3, e4⟩ := h3 k r hx
  simp only [Value.slice.injEq] at h1
  obtain ⟨u, d, hv⟩ := e4.slice
  rw [hv] at e3 e4
  exact ⟨g, o, by rw [h1.1]; exact e1, u, d, e3, e4⟩
/-- block b holds a table: where it leads, and what it tells -/
def Tab (w : World) (b : Nat) (nv tv : Value) : Prop := w.cell? ⟨b, 0, none⟩ = some nv ∧ w.cell? ⟨b, 1, none⟩ = some tv
theorem Tab.below {w w' : World} {b : Nat} {nv tv : Value} (h : Tab w b nv tv) (hb : Below w.heap.size w w') : Tab w' b nv tv := ⟨kept hb h.1, kept hb h.2⟩
theorem Tab.lt {w : World} {b : Nat} {nv tv : Value} (h : Tab w b nv tv) : b < w.heap.size := World.block_lt_of_cell? _ _ h.1
theorem Tab.new (w : World) (nv tv : Value) : Tab (w.alloc (.cells #[nv, tv] 24)) w.heap.size nv tv :=
  ⟨by rw [Lib.cell_of_heap (heap_alloc_new w _)]; rfl, by rw [Lib.cell_of_heap (heap_alloc_new w _)]; rfl⟩
/-- an error: none; a bare one; one at a place -/
def ErrIs (w : World) (v : Value) : Option (Nat × Option Nat) → Prop
  | none => v = .nilIface
  | some (e, none) => v = .iface 26 (.int .i64 (e : Int))
  | some (e, some p) => ∃ a, v = .iface 58 (.pointer (some ⟨a, 0, none⟩)) ∧ w.cell? ⟨a, 0, none⟩ = some (.int .i64 (e : Int)) ∧ w.cell? ⟨a, 1, none⟩ = some (.int .i64 (p : Int))
theorem ErrIs.below {w w' : World} {v : Value} (hb : Below w.heap.size w w') : ∀ {r : Option (Nat × Option Nat)}, ErrIs w v r → ErrIs w' v r
  | none, h => h
  | some (_, none), h => h
  | some (_, some _), ⟨a, h1, h2, h3⟩ => ⟨a, h1, kept hb h2, kept hb h3⟩
/-- a function that tells something of a number -/
def SPred (w : World) (f : Value) (D : Int → Prop) (p : Int → Bool) : Prop := ∃ K cs, f = .func (.func K) #[] cs ∧ ((∃ c, cs = #[c]) ∨ ∃ c d, cs = #[c, d]) ∧ (∀ args w, (callFunc K args).run Tryd.prog w = .ok (.enter K args) w) ∧ ∀ (x : Int) (W : World), Below w.heap.size w W → D x → Calls Tryd.prog K (#[.int .i64 x] ++ cs) W fun e w' => e = .returned (.bool (p x)) ∧ Below W.heap.size W w'
theorem SPred.below {w w' : World} {f : Value} {D : Int → Prop} {p : Int → Bool} (h : SPred w f D p) (hb : Below w.heap.size w w') : SPred w' f D p := by
  obtain ⟨K, cs, h1, h2, h3, h4⟩ := h
  exact ⟨K, cs, h1, h2, h3, fun x W hW hx => h4 x W (hb.trans (hW.mono hb.size)) hx⟩
/-- a function that tells something of two states -/
def PPred (w : World) (f : Value) (n : Nat) (p : Nat → Nat → Bool) : Prop := ∃ K cs, f = .func (.func K) #[] cs ∧ ((∃ c, cs = #[c]) ∨ ∃ c d, cs = #[c, d]) ∧ (∀ args w, (callFunc K args).run Tryd.prog w = .ok (.enter K args) w) ∧ ∀ (a b : Nat) (W : World), Below w.heap.size w W → a < n → b < n → Calls Tryd.prog K (#[.int .i64 (a : Int), .int .i64 (b : Int)] ++ cs) W fun e w' => e = .returned (.bool (p a b)) ∧ Below W.heap.size W w'
theorem PPred.below {w w' : World} {f : Value} {n : Nat} {p : Nat → Nat → Bool} (h : PPred w f n p) (hb : Below w.heap.size w w') : PPred w' f n p := by
  obtain ⟨K, cs, h1, h2, h3, h4⟩ := h
  exact ⟨K, cs, h1, h2, h3, fun x y W hW hx hy => h4 x y W (hb.trans (hW.mono hb.size)) hx hy⟩
/-- where a list's first one is of which something holds: -1: nowhere -/
def idx (p : Int → Bool) (l : List Int) : Int := (l.findIdx? p).elim (-1) fun j => (j : Int)
theorem idx_hit (p : Int → Bool) (l : List Int) (k : Nat) (h : k < l.length) (h1 : (l.take k).any p = false) (h2 : p l[k] = true) : idx p l = (k : Int) := by
  have : l.findIdx? p = some k := by
    rw [List.findIdx?_eq_some_iff_getElem]
    refine ⟨h, h2, fun j hj => ?_⟩
    rw [List.any_eq_false] at h1
    exact h1 _ (List.mem_take_iff_getElem.2 ⟨j, by omega, rfl⟩)
  rw [idx, this]; rfl
theorem idx_none (p : Int → Bool) (l : List Int) (h : l.any p = false) : idx p l = -1 := by
  have : l.findIdx? p = none := by
    rw [List.findIdx?_eq_none_iff]
    rw [List.any_eq_false] at h
    intro x hx
    simpa using h x hx
  rw [idx, this]; rfl
theorem idx_any (p : Int → Bool) (l : List Int) : decide (0 ≤ idx p l) = l.any p := by
  unfold idx
  cases h : l.findIdx? p with
  | none =>
    rw [List.findIdx?_eq_none_iff] at h
    have : l.any p = false := by rw [List.any_eq_false]; intro x hx; simpa using h x hx
    rw [this]; rfl
  | some j =>
    have : l.any p = true := by
      obtain ⟨h1, h2, _⟩ := List.findIdx?_eq_some_iff_getElem.1 h
      exact List.any_eq_true.2 ⟨_, List.getElem_mem h1, h2⟩
    rw [this]
    simp
theorem idx_lt (p : Int → Bool) (l : List Int) : -1 ≤ idx p l ∧ idx p l < l.length ∨ idx p l = -1 := by
  unfold idx
  cases h : l.findIdx? p with
  | none => exact .inr rfl
  | some j =>
    obtain ⟨h1, _, _⟩ := List.findIdx?_eq_some_iff_getElem.1 h
    refine .inl ⟨?_, ?_⟩
    · show -1 ≤ (j : Int); omega
    · show (j : Int) < _; omega
/-- block g is this row -/
def RowIs (W : World) (g : Nat) (t : TypeId) (l : List Value) : Prop := W.heap[g]? = some (.cells ⟨l⟩ t (0, 0))
theorem RowIs.lt {W : World} {g : Nat} {t : TypeId} {l : List Value} (h : RowIs W g t l) : g < W.heap.size := (Array.getElem?_eq_some_iff.1 h).1
theorem RowIs.below {W W' : World} {g : Nat} {t : TypeId} {l : List Value} (h : RowIs W g t l) (hb : Below W.heap.size W W') : RowIs W' g t l := (hb.block _ h.lt).trans h
theorem RowIs.cell {W : World} {g : Nat} {t : TypeId} {l : List Value} (h : RowIs W g t l) (i : Nat) (v : Value) (hi : l[i]? = some v) : W.cell? ⟨g, i, none⟩ = some v := by
  rw [Lib.cell_of_heap h]; simpa using hi
theorem RowIs.frozen {W : World} {g : Nat} {t : TypeId} {l : List Value} (h : RowIs W g t l) (i : Nat) : W.frozen? ⟨g, i, none⟩ = false := Lib.frozen_of_heap h i
theorem RowIs.set {W : World} {g : Nat} {t : TypeId} {l : List Value} (h : RowIs W g t l) (i : Nat) (v : Value) : RowIs (W.setCell ⟨g, i, none⟩ v) g t (l.set i v) := by
  unfold RowIs at *
  simp [World.setCell, Array.getElem?_modify, h]
theorem RowIs.other {W : World} {g : Nat} {t : TypeId} {l : List Value} (h : RowIs W g t l) (b i : Nat) (v : Value) (hb : g ≠ b) : RowIs (W.setCell ⟨b, i, none⟩ v) g t l := (Below.heap_setCell _ _ _ _ (fun e => hb e)).trans h
theorem RowIs.new (W : World) (t : TypeId) (l : List Value) : RowIs (W.alloc (.cells ⟨l⟩ t)) W.heap.size t l := heap_alloc_new _ _
theorem RowIs.alloc {W : World} {g : Nat} {t : TypeId} {l : List Value} (h : RowIs W g t l) (o : Obj) : RowIs (W.alloc o) g t l := (Below.heap_alloc _ _ _ h.lt).trans h
theorem fill_set {α : Type} (a : List α) (z v : α) (n : Nat) (h : a.length < n) : (a ++ List.replicate (n - a.length) z).set a.length v = (a ++ [v]) ++ List.replicate (n - (a ++ [v]).length) z := by
  obtain ⟨d, hd⟩ : ∃ d, n - a.length = d + 1 := ⟨n - a.length - 1, by omega⟩
  have e : n - (a ++ [v]).length = d := by simp; omega
  rw [e, hd, List.set_append_right _ _ (Nat.le_refl _), Nat.sub_self, List.replicate_succ, List.set_cons_zero]
  simp
theorem mcells_one (z : Value) (n : Nat) : madeCells #[z] (n * 1) = ⟨List.replicate n z⟩ := by
  apply Array.ext'
  simp only [madeCells, Nat.mul_one, Array.toList_map, Array.toList_range]
  apply List.ext_getElem
  · simp
  · intro i h1 h2
    simp [Nat.mod_one]
/-- 'make' of so many of one cell each -/
theorem make_one {t e : TypeId} {z : Value} {bytes : Nat} (hu : Tryd.prog.underlying t = some (.slice e)) (hinfo : (Tryd.prog.info? e).map (fun i => (i.zero, i.size, i.bytes)) = some (some z, 1, bytes)) (hz : z.cells = #[z]) (hb : bytes ≤ 1000) (n : Nat) (hn : n ≤ 1000000) (w : World) :
    (Instr.makeSlice t (.int .i64 (n : Int)) (.int .i64 (n : Int))).run Tryd.prog w = .ok (.slice (some ⟨w.heap.size, 0, none⟩) n n) (w.alloc (.cells ⟨List.replicate n z⟩ e)) := by
  obtain ⟨i0, hi0, hz0, hz1, hz2⟩ := info_parts hinfo
  have hbb : (i0.bytes : Int) * (n : Int) ≤ 281474976710656 := by
    rw [hz2]
    have : bytes * n ≤ 1000 * 1000000 := Nat.mul_le_mul hb hn
    have h2 : ((bytes * n : Nat) : Int) ≤ 1000 * 1000000 := by omega
    rw [Int.natCast_mul] at h2
    omega
  have h := run_makeSlice (P := Tryd.prog) w t e i0 z hu hi0 hz0 .i64 .i64 n n (by omega) (Int.le_refl _) (by rw [hz1]; omega) hbb (by omega)
  rw [hz, hz1, show ((n : Int)).toNat = n by omega, mcells_one] at h
  exact h
theorem makeBs (n : Nat) (hn : n ≤ 1000000) (w : World) : (Instr.makeSlice 83 (.int .i64 (n : Int)) (.int .i64 (n : Int))).run Tryd.prog w = .ok (.slice (some ⟨w.heap.size, 0, none⟩) n n) (w.alloc (.cells ⟨List.replicate n (.bool false)⟩ 4)) :=
  make_one Tryd.underlying83 Tryd.infoBool rfl (by decide) n hn w
theorem makeIs (n : Nat) (hn : n ≤ 1000000) (w : World) : (Instr.makeSlice 31 (.int .i64 (n : Int)) (.int .i64 (n : Int))).run Tryd.prog w = .ok (.slice (some ⟨w.heap.size, 0, none⟩) n n) (w.alloc (.cells ⟨List.replicate n (.int .i64 0)⟩ 3)) :=
  make_one Tryd.underlying31 Tryd.infoInt rfl (by decide) n hn w
theorem grown_below {W W' : World} (r : Option Nat) (h : Below W.heap.size W W') : W.grownBy W' r := ⟨h.os, h.tape, h.output, h.size, fun k hk _ => h.block k hk⟩
theorem own_below {W W' : World} {q : Nat} {e : TypeId} {s : Nat} {v : Value} {n : Nat} {xs : List Value} (h : W.ownsRow q e s v n xs) (hb : Below W.heap.size W W') : W'.ownsRow q e s v n xs :=
  h.kept (grown_below none hb) (by cases v.ownBlock with | none => exact .inl rfl | some g => exact .inr (by simp))
theorem own_mono {W : World} {q q' : Nat} {e : TypeId} {s : Nat} {v : Value} {n : Nat} {xs : List Value} (h : W.ownsRow q e s v n xs) (hq : q' ≤ q) : W.ownsRow q' e s v n xs := by
  refine ⟨h.1, ?_⟩
  rcases h.2 with h1 | ⟨g, cap, cur, h1, h2, h3⟩
  · exact .inl h1
  · exact .inr ⟨g, cap, cur, h1, Nat.le_trans hq h2, h3⟩
theorem own_slice {W : World} {q : Nat} {e : TypeId} {s : Nat} {v : Value} {n : Nat} {xs : List Value} (h : W.ownsRow q e s v n xs) : ∃ a c, v = .slice a n c := by
  rcases h.2 with ⟨h1, h2⟩ | ⟨g, cap, cur, h1, _⟩
  · exact ⟨none, 0, by rw [h1, h2]⟩
  · exact ⟨_, _, h1⟩
theorem row_cell {W : World} {g : Nat} {cur : Array Value} {t : TypeId} {fz : Nat × Nat} (h : W.heap[g]? = some (.cells cur t fz)) {m : Nat} {xs : List Value} (htk : cur.toList.take m = xs) {k : Nat} {u : Value} (hk : xs[k]? = some u) : W.cell? ⟨g, k, none⟩ = some u := by
  rw [← htk] at hk
  have hkm : k < m := by
    by_cases h : k < m
    · exact h
    · rw [List.getElem?_eq_none (by rw [List.length_take]; omega)] at hk; cases hk
  rw [List.getElem?_take_of_lt hkm] at hk
  rw [Lib.cell_of_heap h, ← Array.getElem?_toList]; exact hk
def intV (x : Int) : Value := .int .i64 x
theorem own_zero (W : World) (q : Nat) (e : TypeId) (s : Nat) (hq : q ≤ W.heap.size) : (W.alloc (.cells #[] e)).ownsRow q e s (.slice (some ⟨W.heap.size, 0, none⟩) 0 0) 0 [] :=
  ⟨by simp, .inr ⟨W.heap.size, 0, #[], rfl, hq, heap_alloc_new W _, Nat.le_refl _, by decide, by simp, by simp⟩⟩
theorem own_one (W : World) (q : Nat) (e : TypeId) (v : Value) (hq : q ≤ W.heap.size) : (W.alloc (.cells #[v] e)).ownsRow q e 1 (.slice (some ⟨W.heap.size, 0, none⟩) 1 1) 1 [v] :=
  ⟨by simp, .inr ⟨W.heap.size, 1, #[v], rfl, hq, heap_alloc_new W _, Nat.le_refl _, by decide, by simp, by simp⟩⟩
/-- a row of numbers that a call has built, as a slice -/
theorem ints_own {W : World} {q : Nat} {v : Value} {l : List Int} (h : W.ownsRow q 3 1 v l.length (l.map intV)) (hl : l.length ≤ maxLen) (hb : ∀ i, i ∈ l → I64 i) : Ints W v l := by
  rcases h.2 with ⟨hx, h0⟩ | ⟨g', cap, cur, hx, _, hcur, hcap, _, _, htk⟩
  · have : l = [] := List.length_eq_zero_iff.1 h0
    subst this
    rw [hx]
    exact Ints.nil _ _ _
  · refine ⟨_, _, hx, hl, fun k x hk => ⟨g', 0, rfl, hcap, ?_, hb x (List.mem_of_getElem? hk)⟩⟩
    rw [Nat.zero_add]
    exact row_cell hcur htk (by rw [List.getElem?_map, hk]; rfl)
theorem ints_row {W : World} {g : Nat} {l : List Int} (h : RowIs W g 3 (l.map intV)) (hl : l.length ≤ maxLen) (hb : ∀ x, x ∈ l → I64 x) : Ints W (.slice (some ⟨g, 0, none⟩) l.length l.length) l :=
  ⟨_, _, rfl, hl, fun k x hx => ⟨g, 0, rfl, Nat.le_refl _, by rw [Nat.zero_add]; exact h.cell k _ (by rw [List.getElem?_map, hx]; rfl), hb x (List.mem_of_getElem? hx)⟩⟩
def lenV : Value → Nat
  | .slice _ n _ => n
  | _ => 0
theorem wpOp_in {P : Program} {ops : Array Oper} {Q : Exit → Act → World → Prop} {i : Nat} {o : Oper} {K : Act → World → Prop} {a : Act} {w : World} (ho : ops[i]? = some o) (hw : Region.wanted o (yielded ops a.tmps) = true) (h : o.wp P a w K Q) : wpOp P ops Q i K a w := by
  unfold wpOp
  rw [ho]
  simp only [hw, if_true]
  exact .inl h
theorem wpOp_k {P : Program} {ops : Array Oper} {Q : Exit → Act → World → Prop} {i : Nat} {o : Oper} {K : Act → World → Prop} {a : Act} {w : World} (ho : ops[i]? = some o) (hw : Region.wanted o (yielded ops a.tmps) = true) (h : ∀ K' : Act → World → Prop, (∀ a w, K a w → K' a w) → o.wp P a w K' Q) : wpOp P ops Q i K a w := wpOp_in ho hw (h K fun _ _ h => h)
theorem take_at {P : Program} {md : Region.Mode} {ops : Array Oper} {Q : Exit → Act → World → Prop} {S : World → Prop} (i d : Nat) (v : Value) {oi : Oper} {fuel : Nat} {listed : Array Bool} {tm : Array Value} {df : _} {w : World} (hi : ops[i]? = some oi) (hd : oi.dst = some d) (hs : Region.noSelect ops = true) (hf : Region.free md ops listed i = true) (hr : (Region.ready md ops listed).contains i = true) (hQ : ∀ c a w, ¬ Q (.panic c) a w) (hS : S w) (hy : YieldsIf P ops S oi v ⟨tm, df⟩) (h : wpAnyH P md ops Q S fuel (listed.setIfInBounds i true) ⟨tm.setIfInBounds d v, df⟩ w) : wpAnyH P md ops Q S (fuel + 1) listed ⟨tm, df⟩ w := by
  refine wpAnyH_take hi hs hf hr (fun c a w h => (hQ c _ w h).elim) hy hS ?_
  rw [hd]
  exact h
theorem skip_at {P : Program} {md : Region.Mode} {ops : Array Oper} {Q : Exit → Act → World → Prop} {S : World → Prop} (i d j : Nat) (want : Bool) {oi : Oper} {fuel : Nat} {listed : Array Bool} {tm : Array Value} {df : _} {w : World} (hi : ops[i]? = some oi) (hd : oi.dst = some d) (hg : oi.guard = some (j, want)) (hj : yielded ops tm j = some (!want)) (hs : Region.noSelect ops = true) (hf : Region.free md ops listed i = true) (hr : (Region.ready md ops listed).contains i = true) (hQ : ∀ c a w, ¬ Q (.panic c) a w) (hS : S w) (h : wpAnyH P md ops Q S fuel (listed.setIfInBounds i true) ⟨tm.setIfInBounds d undef, df⟩ w) : wpAnyH P md ops Q S (fuel + 1) listed ⟨tm, df⟩ w := by
  refine take_at i d undef hi hd hs hf hr hQ hS (Or.inr ⟨?_, rfl⟩) h
  unfold Region.wanted
  rw [hg]
  show (yielded ops tm j == some want) = false
  rw [hj]
  cases want <;> rfl
theorem wpOp_skip {P : Program} {ops : Array Oper} {Q : Exit → Act → World → Prop} (i d j : Nat) (want : Bool) {o : Oper} {K : Act → World → Prop} {tm : Array Value} {df : _} {w : World} (ho : ops[i]? = some o) (hd : o.dst = some d) (hg : o.guard = some (j, want)) (hj : yielded ops tm j = some (!want)) (h : K ⟨tm.setIfInBounds d undef, df⟩ w) : wpOp P ops Q i K ⟨tm, df⟩ w := by
  have hw : Region.wanted o (yielded ops tm) = false := by
    unfold Region.wanted
    rw [hg]
    show (yielded ops tm j == some want) = false
    rw [hj]
    cases want <;> rfl
  unfold wpOp
  rw [ho]
  simp only [hw]
  rw [hd]
  exact h
theorem cell_set_other (W : World) (b i j : Nat) (x v : Value) (hij : i ≠ j) (h : W.cell? ⟨b, i, none⟩ = some v) : (W.setCell ⟨b, j, none⟩ x).cell? ⟨b, i, none⟩ = some v := (World.cell?_setCell_other W ⟨b, j, none⟩ ⟨b, i, none⟩ x (by intro e; exact hij (congrArg Addr.off e).symm)).trans h
theorem cell_alloc_keep (W : World) (o : Obj) (p : Addr) (v : Value) (h : W.cell? p = some v) : (W.alloc o).cell? p = some v := (World.cell?_alloc_some W p o (by rw [h]; rfl)).trans h
theorem cell_set_block (W : World) (b c i j : Nat) (x v : Value) (hbc : b ≠ c) (h : W.cell? ⟨b, i, none⟩ = some v) : (W.setCell ⟨c, j, none⟩ x).cell? ⟨b, i, none⟩ = some v := (World.cell?_setCell_other W ⟨c, j, none⟩ ⟨b, i, none⟩ x (by intro e; exact hbc (congrArg Addr.block e).symm)).trans h
theorem heap_cell {A B : World} {b : Nat} (o : Nat) (h : A.heap[b]? = B.heap[b]?) : A.cell? ⟨b, o, none⟩ = B.cell? ⟨b, o, none⟩ := by simp [World.cell?, h]
end Bk
end Go.Proofs.YtdeijfkahhgojaaDoor
