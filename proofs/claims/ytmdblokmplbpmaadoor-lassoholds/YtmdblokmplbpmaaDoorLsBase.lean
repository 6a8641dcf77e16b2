/-
  What the walks of package lasso go by: rows in memory; formulas; functions that tell something of times.
-/
import Derived.Test.YtmdblokmplbpmaaDoorRows
import Derived.Test.YtmdblokmplbpmaaDoorLsMath
import Derived.WalkKit
import Derived.WalkSpells
import Derived.WalkLawsBesides
import Derived.Deep.QuietTactic
import Derived.BigQuiet
import Derived.Deep.LoopGhost
import Derived.Deep.AppendLies
import Derived.Deep.RegionLaw
import Derived.Deep.RegionHeld3
import Derived.Laws.EntriesVeiled
import Derived.Laws.MakeOwn
import Derived.Laws.OwnMore
import Derived.Lib.AppendZeros
import Derived.OwnWalk
namespace Go.Proofs.YtmdblokmplbpmaaDoor
namespace Ls
open Go.RowKit
theorem hide {p : Prop} (h : p) : Hid p := h
theorem ret_bool {a b : Bool} (h : a = b) : Ending.returned (.bool a) = .returned (.bool b) := by rw [h]
theorem Tryd.infoInt : (Tryd.prog.info? 3).map (fun i => (i.zero, i.size, i.bytes)) = some (some (.int .i64 0), 1, 8) := by kernel_rfl
theorem Tryd.infoBool : (Tryd.prog.info? 4).map (fun i => (i.zero, i.size, i.bytes)) = some (some (.bool false), 1, 1) := by kernel_rfl
def I64 (n : Int) : Prop := -9223372036854775808 ≤ n ∧ n ≤ 9223372036854775807
theorem kept {W W' : World} (hb : Below W.heap.size W W') {p : Addr} {v : Value} (h : W.cell? p = some v) : W'.cell? p = some v := (hb.cell (World.block_lt_of_cell? _ _ h)).trans h
theorem drewB (w : World) : Below w.heap.size w w.drew := ⟨rfl, rfl, rfl, Nat.le_refl _, fun _ _ => rfl⟩
theorem then_ {a b c : World} (h : Below a.heap.size a b) (k : Below b.heap.size b c) : Below a.heap.size a c := h.trans (k.mono h.size)
/-- a row of names, as a slice -/
def Strs (w : World) (sv : Value) (l : List (List UInt8)) : Prop := ∃ a c, sv = .slice a l.length c ∧ l.length ≤ maxLen ∧ ∀ (k : Nat) x, l[k]? = some x → ∃ g o, a = some ⟨g, o, none⟩ ∧ l.length ≤ c ∧ w.cell? ⟨g, o + k, none⟩ = some (.string ⟨x.toArray⟩) ∧ x.length ≤ maxLen
theorem Strs.below {w w' : World} {sv : Value} {l : List (List UInt8)} (h : Strs w sv l) (hb : Below w.heap.size w w') : Strs w' sv l := by
  obtain ⟨a, c, h1, h2, h3⟩ := h
  refine ⟨a, c, h1, h2, fun k x hx => ?_⟩
  obtain ⟨g, o, e1, e2, e3, e4⟩ := h3 k x hx
  exact ⟨g, o, e1, e2, kept hb e3, e4⟩
theorem Strs.slice {w : World} {sv : Value} {l : List (List UInt8)} (h : Strs w sv l) : ∃ a c, sv = .slice a l.length c := by obtain ⟨a, c, h, _⟩ := h; exact ⟨a, c, h⟩
theorem Strs.len {w : World} {sv : Value} {l : List (List UInt8)} (h : Strs w sv l) : l.length ≤ maxLen := by obtain ⟨a, c, _, h, _⟩ := h; exact h
theorem Strs.cell {w : World} {a : Option Addr} {n c : Nat} {l : List (List UInt8)} (h : Strs w (.slice a n c) l) (k : Nat) (x : List UInt8) (hx : l[k]? = some x) : ∃ g o, a = some ⟨g, o, none⟩ ∧ w.cell? ⟨g, o + k, none⟩ = some (.string ⟨x.toArray⟩) ∧ x.length ≤ maxLen := by
  obtain ⟨a', c', h1, h2, h3⟩ := h
  obtain ⟨g, o, e1, e2, e3, e4⟩ := h3 k x hx
  simp only [Value.slice.injEq] at h1
  exact ⟨g, o, by rw [h1.1]; exact e1, e3, e4⟩
theorem Strs.nil (w : World) (a : Option Addr) (c : Nat) : Strs w (.slice a 0 c) [] := ⟨a, c, rfl, by simp, fun k x hx => by simp at hx⟩
/-- a list of rows of names -/
def Rows (w : World) (sv : Value) (L : List (List (List UInt8))) : Prop := ∃ a c, sv = .slice a L.length c ∧ L.length ≤ maxLen ∧ ∀ (k : Nat) r, L[k]? = some r → ∃ g o v, a = some ⟨g, o, none⟩ ∧ L.length ≤ c ∧ w.cell? ⟨g, o + k, none⟩ = some v ∧ Strs w v r
theorem Rows.below {w w' : World} {sv : Value} {l : List (List (List UInt8))} (h : Rows w sv l) (hb : Below w.heap.size w w') : Rows w' sv l := by
  obtain ⟨a, c, h1, h2, h3⟩ := h
  refine ⟨a, c, h1, h2, fun k x hx => ?_⟩
  obtain ⟨g, o, v, e1, e2, e3, e4⟩ := h3 k x hx
  exact ⟨g, o, v, e1, e2, kept hb e3, e4.below hb⟩
theorem Rows.slice {w : World} {sv : Value} {l : List (List (List UInt8))} (h : Rows w sv l) : ∃ a c, sv = .slice a l.length c := by obtain ⟨a, c, h, _⟩ := h; exact ⟨a, c, h⟩
theorem Rows.len {w : World} {sv : Value} {l : List (List (List UInt8))} (h : Rows w sv l) : l.length ≤ maxLen := by obtain ⟨a, c, _, h, _⟩ := h; exact h
theorem Rows.cell {w : World} {a : Option Addr} {n c : Nat} {l : List (List (List UInt8))} (h : Rows w (.slice a n c) l) (k : Nat) (r : List (List UInt8)) (hx : l[k]? = some r) : ∃ g o, a = some ⟨g, o, none⟩ ∧ ∃ u d, w.cell? ⟨g, o + k, none⟩ = some (.slice u r.length d) ∧ Strs w (.slice u r.length d) r := by
  obtain ⟨a', c', h1, h2, h3⟩ := h
  obtain ⟨g, o, v, e1, e2, e3, e4⟩ := h3 k r hx
  simp only [Value.slice.injEq] at h1
  obtain ⟨u, d, hv⟩ := e4.slice
  rw [hv] at e3 e4
  exact ⟨g, o, by rw [h1.1]; exact e1, u, d, e3, e4⟩
/-- the value of a formula's node: a block of three cells, the third one a row -/
def NodeIs (ok : Nat → Prop) (w : World) (k : Int) (nm : List UInt8) (n : Nat) (Ps : List (Value → Prop)) (v : Value) : Prop :=
  I64 k ∧ nm.length ≤ maxLen ∧ n ≤ maxLen ∧ ∃ b a c, ok b ∧ v = .pointer (some ⟨b, 0, none⟩) ∧ w.cell? ⟨b, 0, none⟩ = some (.int .i64 k) ∧ w.cell? ⟨b, 1, none⟩ = some (.string ⟨nm.toArray⟩) ∧ w.cell? ⟨b, 2, none⟩ = some (.slice a n c) ∧
  ∀ i P, Ps[i]? = some P → ∃ g o u, ok g ∧ a = some ⟨g, o, none⟩ ∧ n ≤ c ∧ w.cell? ⟨g, o + i, none⟩ = some u ∧ P u
/-- a formula in memory; 'ok' says which blocks it may lie in -/
def IsF (ok : Nat → Prop) (w : World) : Fm → Value → Prop
  | ⟨true, _, _, _⟩ => fun v => v = .pointer none
  | ⟨false, k, nm, l⟩ => fun v => NodeIs ok w k nm l.length (l.map fun x => IsF ok w x) v
theorem isF_node {ok : Nat → Prop} {w : World} {k : Int} {nm : List UInt8} {l : List Fm} {v : Value} : IsF ok w ⟨false, k, nm, l⟩ v ↔ I64 k ∧ nm.length ≤ maxLen ∧ l.length ≤ maxLen ∧ ∃ b a c, ok b ∧ v = .pointer (some ⟨b, 0, none⟩) ∧ w.cell? ⟨b, 0, none⟩ = some (.int .i64 k) ∧ w.cell? ⟨b, 1, none⟩ = some (.string ⟨nm.toArray⟩) ∧ w.cell? ⟨b, 2, none⟩ = some (.slice a l.length c) ∧ ∀ i x, l[i]? = some x → ∃ g o u, ok g ∧ a = some ⟨g, o, none⟩ ∧ l.length ≤ c ∧ w.cell? ⟨g, o + i, none⟩ = some u ∧ IsF ok w x u := by
  have e : IsF ok w ⟨false, k, nm, l⟩ v = NodeIs ok w k nm l.length (l.map fun x => IsF ok w x) v := by rw [IsF]
  rw [e]
  unfold NodeIs
  constructor
  · rintro ⟨h1, h2, h3, b, a, c, h4, h5, h6, h7, h8, h9⟩
    exact ⟨h1, h2, h3, b, a, c, h4, h5, h6, h7, h8, fun i x hx => h9 i _ (by rw [List.getElem?_map, hx]; rfl)⟩
  · rintro ⟨h1, h2, h3, b, a, c, h4, h5, h6, h7, h8, h9⟩
    refine ⟨h1, h2, h3, b, a, c, h4, h5, h6, h7, h8, fun i P hP => ?_⟩
    rw [List.getElem?_map] at hP
    cases hl : l[i]? with
    | none => rw [hl] at hP; cases hP
    | some x =>
      rw [hl] at hP
      simp only [Option.map_some, Option.some.injEq] at hP
      rw [← hP]
      exact h9 i x hl
theorem isF_nil {ok : Nat → Prop} {w : World} {k : Int} {nm : List UInt8} {l : List Fm} {v : Value} : IsF ok w ⟨true, k, nm, l⟩ v ↔ v = .pointer none := by rw [IsF]
/-- a formula stands where its cells do -/
theorem IsF.stay {ok ok' : Nat → Prop} {w w' : World} (hs : ∀ g i u, ok g → w.cell? ⟨g, i, none⟩ = some u → w'.cell? ⟨g, i, none⟩ = some u) (hok : ∀ g, ok g → ok' g) : ∀ (x : Fm) (v : Value), IsF ok w x v → IsF ok' w' x v := by
  intro x
  induction x using Fm.ind with
  | h z k nm l ih =>
    intro v h
    cases z with
    | true => exact isF_nil.2 (isF_nil.1 h)
    | false =>
      obtain ⟨h1, h2, h3, b, a, c, h4, h5, h6, h7, h8, h9⟩ := isF_node.1 h
      refine isF_node.2 ⟨h1, h2, h3, b, a, c, hok b h4, h5, hs _ _ _ h4 h6, hs _ _ _ h4 h7, hs _ _ _ h4 h8, fun i x hx => ?_⟩
      obtain ⟨g, o, u, e1, e2, e3, e4, e5⟩ := h9 i x hx
      exact ⟨g, o, u, hok g e1, e2, e3, hs _ _ _ e1 e4, ih x (List.mem_of_getElem? hx) u e5⟩
theorem IsF.below {ok : Nat → Prop} {w w' : World} {x : Fm} {v : Value} (h : IsF ok w x v) (hb : Below w.heap.size w w') : IsF ok w' x v := IsF.stay (fun _ _ _ _ hc => kept hb hc) (fun _ h => h) x v h
theorem IsF.weak {ok ok' : Nat → Prop} {w : World} {x : Fm} {v : Value} (h : IsF ok w x v) (hok : ∀ g, ok g → ok' g) : IsF ok' w x v := IsF.stay (fun _ _ _ _ hc => hc) hok x v h
theorem IsF.ptr {ok : Nat → Prop} {w : World} {x : Fm} {v : Value} (h : IsF ok w x v) : ∃ p, v = .pointer p := by
  obtain ⟨z, k, nm, l⟩ := x
  cases z with
  | true => exact ⟨_, isF_nil.1 h⟩
  | false => obtain ⟨_, _, _, b, _, _, _, h5, _⟩ := isF_node.1 h; exact ⟨_, h5⟩
/-- blocks of which ok holds stand as they stood -/
def Stay (ok : Nat → Prop) (w W : World) : Prop := w.heap.size ≤ W.heap.size ∧ ∀ b, b < w.heap.size → ok b → W.heap[b]? = w.heap[b]?
theorem Stay.refl (ok : Nat → Prop) (w : World) : Stay ok w w := ⟨Nat.le_refl _, fun _ _ _ => rfl⟩
theorem Stay.of_below {ok : Nat → Prop} {w W : World} (h : Below w.heap.size w W) : Stay ok w W := ⟨h.size, fun b hb _ => h.block b hb⟩
theorem Stay.trans {ok : Nat → Prop} {a b c : World} (h : Stay ok a b) (k : Stay ok b c) : Stay ok a c := ⟨Nat.le_trans h.1 k.1, fun x hx ho => (k.2 x (Nat.lt_of_lt_of_le hx h.1) ho).trans (h.2 x hx ho)⟩
theorem Stay.mono {ok ok' : Nat → Prop} {w W : World} (h : Stay ok w W) (hk : ∀ b, ok' b → ok b) : Stay ok' w W := ⟨h.1, fun b hb ho => h.2 b hb (hk b ho)⟩
theorem Stay.cell {ok : Nat → Prop} {w W : World} (h : Stay ok w W) {b i : Nat} {v : Value} (ho : ok b) (hc : w.cell? ⟨b, i, none⟩ = some v) : W.cell? ⟨b, i, none⟩ = some v := by
  have hb := World.block_lt_of_cell? _ _ hc
  rw [← hc]
  simp only [World.cell?]
  rw [h.2 b hb ho]
theorem Stay.set {ok : Nat → Prop} {w W : World} (h : Stay ok w W) {b i : Nat} (v : Value) (hb : ¬ ok b) : Stay ok w (W.setCell ⟨b, i, none⟩ v) :=
  ⟨by simpa using h.1, fun x hx ho => (Below.heap_setCell _ _ _ _ (fun e => hb (by have e2 : x = b := e; rw [← e2]; exact ho))).trans (h.2 x hx ho)⟩
/-- a function that tells of each time whether something is so, where the blocks of which ok holds stand; it changes nothing that stands -/
def IsSo (ok : Nat → Prop) (w : World) (f : Value) (n : Nat) (p : Nat → Bool) : Prop := ∃ K cs, f = .func (.func K) #[] cs ∧ (cs = #[] ∨ (∃ c, cs = #[c]) ∨ ∃ c d, cs = #[c, d]) ∧ (∀ args w, (callFunc K args).run Tryd.prog w = .ok (.enter K args) w) ∧ ∀ (t : Nat) (W : World), Stay ok w W → t < n → Calls Tryd.prog K (#[.int .i64 (t : Int)] ++ cs) W fun e w' => e = .returned (.bool (p t)) ∧ Below W.heap.size W w'
theorem IsSo.stay {ok : Nat → Prop} {w w' : World} {f : Value} {n : Nat} {p : Nat → Bool} (h : IsSo ok w f n p) (hb : Stay ok w w') : IsSo ok w' f n p := by
  obtain ⟨K, cs, h1, h2, h3, h4⟩ := h
  exact ⟨K, cs, h1, h2, h3, fun x W hW hx => h4 x W (hb.trans hW) hx⟩
theorem IsSo.below {ok : Nat → Prop} {w w' : World} {f : Value} {n : Nat} {p : Nat → Bool} (h : IsSo ok w f n p) (hb : Below w.heap.size w w') : IsSo ok w' f n p := h.stay (.of_below hb)
theorem IsSo.mono {ok ok' : Nat → Prop} {w : World} {f : Value} {n : Nat} {p : Nat → Bool} (h : IsSo ok w f n p) (hk : ∀ b, ok b → ok' b) : IsSo ok' w f n p := by
  obtain ⟨K, cs, h1, h2, h3, h4⟩ := h
  exact ⟨K, cs, h1, h2, h3, fun x W hW hx => h4 x W (hW.mono hk) hx⟩
theorem IsSo.congr {ok : Nat → Prop} {w : World} {f : Value} {n : Nat} {p q : Nat → Bool} (h : IsSo ok w f n p) (hb : ∀ t, t < n → p t = q t) : IsSo ok w f n q := by
  obtain ⟨K, cs, h1, h2, h3, h4⟩ := h
  exact ⟨K, cs, h1, h2, h3, fun x W hW hx => by rw [← hb x hx]; exact h4 x W hW hx⟩
/-- the table of how many parts there are, in memory -/
def PT (w : World) : Prop := ∀ k : Nat, k ≤ 10 → w.cell? ⟨0, k, none⟩ = some (.int .i64 (partsOf (k : Int) : Int))
theorem PT.below {w w' : World} (h : PT w) (hb : Below w.heap.size w w') : PT w' := fun k hk => kept hb (h k hk)
/-- block g is this row -/
def RowIs (W : World) (g : Nat) (t : TypeId) (l : List Value) : Prop := W.heap[g]? = some (.cells ⟨l⟩ t (0, 0))
theorem RowIs.lt {W : World} {g : Nat} {t : TypeId} {l : List Value} (h : RowIs W g t l) : g < W.heap.size := (Array.getElem?_eq_some_iff.1 h).1
theorem RowIs.below {W W' : World} {g : Nat} {t : TypeId} {l : List Value} (h : RowIs W g t l) (hb : Below W.heap.size W W') : RowIs W' g t l := (hb.block _ h.lt).trans h
theorem RowIs.cell {W : World} {g : Nat} {t : TypeId} {l : List Value} (h : RowIs W g t l) (i : Nat) (v : Value) (hi : l[i]? = some v) : W.cell? ⟨g, i, none⟩ = some v := by
  rw [Lib.cell_of_heap h]; simpa using hi
theorem RowIs.frozen {W : World} {g : Nat} {t : TypeId} {l : List Value} (h : RowIs W g t l) (i : Nat) : W.frozen? ⟨g, i, none⟩ = false := Lib.frozen_of_heap h i
theorem RowIs.set {W : World} {g : Nat} {t : TypeId} {l : List Value} (h : RowIs W g t l) (i : Nat) (v : Value) : RowIs (W.setCell ⟨g, i, none⟩ v) g t (l.set i v) := by
  unfold RowIs at *
  simp [World.setCell, Array.getElem?_modify, h]
theorem RowIs.other {W : World} {g : Nat} {t : TypeId} {l : List Value} (h : RowIs W g t l) (b i : Nat) (v : Value) (hb : g ≠ b) : RowIs (W.setCell ⟨b, i, none⟩ v) g t l := (Below.heap_setCell _ _ _ _ (fun e => hb e)).trans h
theorem RowIs.new (W : World) (t : TypeId) (l : List Value) : RowIs (W.alloc (.cells ⟨l⟩ t)) W.heap.size t l := heap_alloc_new _ _
theorem RowIs.alloc {W : World} {g : Nat} {t : TypeId} {l : List Value} (h : RowIs W g t l) (o : Obj) : RowIs (W.alloc o) g t l := (Below.heap_alloc _ _ _ h.lt).trans h
theorem fill_set {α : Type} (a : List α) (z v : α) (n : Nat) (h : a.length < n) : (a ++ List.replicate (n - a.length) z).set a.length v = (a ++ [v]) ++ List.replicate (n - (a ++ [v]).length) z := by
  obtain ⟨d, hd⟩ : ∃ d, n - a.length = d + 1 := ⟨n - a.length - 1, by omega⟩
  have e : n - (a ++ [v]).length = d := by simp; omega
  rw [e, hd, List.set_append_right _ _ (Nat.le_refl _), Nat.sub_self, List.replicate_succ, List.set_cons_zero]
  simp
theorem mcells_one (z : Value) (n : Nat) : madeCells #[z] (n * 1) = ⟨List.replicate n z⟩ := by
  apply Array.ext'
  simp only [madeCells, Nat.mul_one, Array.toList_map, Array.toList_range]
  apply List.ext_getElem
  · simp
  · intro i h1 h2
    simp [Nat.mod_one]
/-- 'make' of so many of one cell each -/
theorem make_one {t e : TypeId} {z : Value} {bytes : Nat} (hu : Tryd.prog.underlying t = some (.slice e)) (hinfo : (Tryd.prog.info? e).map (fun i => (i.zero, i.size, i.bytes)) = some (some z, 1, bytes)) (hz : z.cells = #[z]) (hb : bytes ≤ 1000) (n : Nat) (hn : n ≤ 1000000) (w : World) :
    (Instr.makeSlice t (.int .i64 (n : Int)) (.int .i64 (n : Int))).run Tryd.prog w = .ok (.slice (some ⟨w.heap.size, 0, none⟩) n n) (w.alloc (.cells ⟨List.replicate n z⟩ e)) := by
  obtain ⟨i0, hi0, hz0, hz1, hz2⟩ := info_parts hinfo
  have hbb : (i0.bytes : Int) * (n : Int) ≤ 281474976710656 := by
    rw [hz2]
    have : bytes * n ≤ 1000 * 1000000 := Nat.mul_le_mul hb hn
    have h2 : ((bytes * n : Nat) : Int) ≤ 1000 * 1000000 := by omega
    rw [Int.natCast_mul] at h2
    omega
  have h := run_makeSlice (P := Tryd.prog) w t e i0 z hu hi0 hz0 .i64 .i64 n n (by omega) (Int.le_refl _) (by rw [hz1]; omega) hbb (by omega)
  rw [hz, hz1, show ((n : Int)).toNat = n by omega, mcells_one] at h
  exact h
theorem makeBs (n : Nat) (hn : n ≤ 1000000) (w : World) : (Instr.makeSlice 37 (.int .i64 (n : Int)) (.int .i64 (n : Int))).run Tryd.prog w = .ok (.slice (some ⟨w.heap.size, 0, none⟩) n n) (w.alloc (.cells ⟨List.replicate n (.bool false)⟩ 4)) :=
  make_one Tryd.underlying37 Tryd.infoBool rfl (by decide) n hn w
theorem grown_below {W W' : World} (r : Option Nat) (h : Below W.heap.size W W') : W.grownBy W' r := ⟨h.os, h.tape, h.output, h.size, fun k hk _ => h.block k hk⟩
theorem own_below {W W' : World} {q : Nat} {e : TypeId} {s : Nat} {v : Value} {n : Nat} {xs : List Value} (h : W.ownsRow q e s v n xs) (hb : Below W.heap.size W W') : W'.ownsRow q e s v n xs :=
  h.kept (grown_below none hb) (by cases v.ownBlock with | none => exact .inl rfl | some g => exact .inr (by simp))
theorem own_mono {W : World} {q q' : Nat} {e : TypeId} {s : Nat} {v : Value} {n : Nat} {xs : List Value} (h : W.ownsRow q e s v n xs) (hq : q' ≤ q) : W.ownsRow q' e s v n xs := by
  refine ⟨h.1, ?_⟩
  rcases h.2 with h1 | ⟨g, cap, cur, h1, h2, h3⟩
  · exact .inl h1
  · exact .inr ⟨g, cap, cur, h1, Nat.le_trans hq h2, h3⟩
theorem own_slice {W : World} {q : Nat} {e : TypeId} {s : Nat} {v : Value} {n : Nat} {xs : List Value} (h : W.ownsRow q e s v n xs) : ∃ a c, v = .slice a n c := by
  rcases h.2 with ⟨h1, h2⟩ | ⟨g, cap, cur, h1, _⟩
  · exact ⟨none, 0, by rw [h1, h2]⟩
  · exact ⟨_, _, h1⟩
theorem row_cell {W : World} {g : Nat} {cur : Array Value} {t : TypeId} {fz : Nat × Nat} (h : W.heap[g]? = some (.cells cur t fz)) {m : Nat} {xs : List Value} (htk : cur.toList.take m = xs) {k : Nat} {u : Value} (hk : xs[k]? = some u) : W.cell? ⟨g, k, none⟩ = some u := by
  rw [← htk] at hk
  have hkm : k < m := by
    by_cases h : k < m
    · exact h
    · rw [List.getElem?_eq_none (by rw [List.length_take]; omega)] at hk; cases hk
  rw [List.getElem?_take_of_lt hkm] at hk
  rw [Lib.cell_of_heap h, ← Array.getElem?_toList]; exact hk
theorem own_zero (W : World) (q : Nat) (e : TypeId) (s : Nat) (hq : q ≤ W.heap.size) : (W.alloc (.cells #[] e)).ownsRow q e s (.slice (some ⟨W.heap.size, 0, none⟩) 0 0) 0 [] :=
  ⟨by simp, .inr ⟨W.heap.size, 0, #[], rfl, hq, heap_alloc_new W _, Nat.le_refl _, by decide, by simp, by simp⟩⟩
theorem own_one (W : World) (q : Nat) (e : TypeId) (v : Value) (hq : q ≤ W.heap.size) : (W.alloc (.cells #[v] e)).ownsRow q e 1 (.slice (some ⟨W.heap.size, 0, none⟩) 1 1) 1 [v] :=
  ⟨by simp, .inr ⟨W.heap.size, 1, #[v], rfl, hq, heap_alloc_new W _, Nat.le_refl _, by decide, by simp, by simp⟩⟩
def lenV : Value → Nat
  | .slice _ n _ => n
  | _ => 0
theorem wpOp_in {P : Program} {ops : Array Oper} {Q : Exit → Act → World → Prop} {i : Nat} {o : Oper} {K : Act → World → Prop} {a : Act} {w : World} (ho : ops[i]? = some o) (hw : Region.wanted o (yielded ops a.tmps) = true) (h : o.wp P a w K Q) : wpOp P ops Q i K a w := by
  unfold wpOp
  rw [ho]
  simp only [hw, if_true]
  exact .inl h
theorem wpOp_k {P : Program} {ops : Array Oper} {Q : Exit → Act → World → Prop} {i : Nat} {o : Oper} {K : Act → World → Prop} {a : Act} {w : World} (ho : ops[i]? = some o) (hw : Region.wanted o (yielded ops a.tmps) = true) (h : ∀ K' : Act → World → Prop, (∀ a w, K a w → K' a w) → o.wp P a w K' Q) : wpOp P ops Q i K a w := wpOp_in ho hw (h K fun _ _ h => h)
theorem take_at {P : Program} {md : Region.Mode} {ops : Array Oper} {Q : Exit → Act → World → Prop} {S : World → Prop} (i d : Nat) (v : Value) {oi : Oper} {fuel : Nat} {listed : Array Bool} {tm : Array Value} {df : _} {w : World} (hi : ops[i]? = some oi) (hd : oi.dst = some d) (hs : Region.noSelect ops = true) (hf : Region.free md ops listed i = true) (hr : (Region.ready md ops listed).contains i = true) (hQ : ∀ c a w, ¬ Q (.panic c) a w) (hS : S w) (hy : YieldsIf P ops S oi v ⟨tm, df⟩) (h : wpAnyH P md ops Q S fuel (listed.setIfInBounds i true) ⟨tm.setIfInBounds d v, df⟩ w) : wpAnyH P md ops Q S (fuel + 1) listed ⟨tm, df⟩ w := by
  refine wpAnyH_take hi hs hf hr (fun c a w h => (hQ c _ w h).elim) hy hS ?_
  rw [hd]
  exact h
theorem skip_at {P : Program} {md : Region.Mode} {ops : Array Oper} {Q : Exit → Act → World → Prop} {S : World → Prop} (i d j : Nat) (want : Bool) {oi : Oper} {fuel : Nat} {listed : Array Bool} {tm : Array Value} {df : _} {w : World} (hi : ops[i]? = some oi) (hd : oi.dst = some d) (hg : oi.guard = some (j, want)) (hj : yielded ops tm j = some (!want)) (hs : Region.noSelect ops = true) (hf : Region.free md ops listed i = true) (hr : (Region.ready md ops listed).contains i = true) (hQ : ∀ c a w, ¬ Q (.panic c) a w) (hS : S w) (h : wpAnyH P md ops Q S fuel (listed.setIfInBounds i true) ⟨tm.setIfInBounds d undef, df⟩ w) : wpAnyH P md ops Q S (fuel + 1) listed ⟨tm, df⟩ w := by
  refine take_at i d undef hi hd hs hf hr hQ hS (Or.inr ⟨?_, rfl⟩) h
  unfold Region.wanted
  rw [hg]
  show (yielded ops tm j == some want) = false
  rw [hj]
  cases want <;> rfl
theorem wpOp_skip {P : Program} {ops : Array Oper} {Q : Exit → Act → World → Prop} (i d j : Nat) (want : Bool) {o : Oper} {K : Act → World → Prop} {tm : Array Value} {df : _} {w : World} (ho : ops[i]? = some o) (hd : o.dst = some d) (hg : o.guard = some (j, want)) (hj : yielded ops tm j = some (!want)) (h : K ⟨tm.setIfInBounds d undef, df⟩ w) : wpOp P ops Q i K ⟨tm, df⟩ w := by
  have hw : Region.wanted o (yielded ops tm) = false := by
    unfold Region.wanted
    rw [hg]
    show (yielded ops tm j == some want) = false
    rw [hj]
    cases want <;> rfl
  unfold wpOp
  rw [ho]
  simp only [hw]
  rw [hd]
  exact h
theorem cell_set_other (W : World) (b i j : Nat) (x v : Value) (hij : i ≠ j) (h : W.cell? ⟨b, i, none⟩ = some v) : (W.setCell ⟨b, j, none⟩ x).cell? ⟨b, i, none⟩ = some v := (World.cell?_setCell_other W ⟨b, j, none⟩ ⟨b, i, none⟩ x (by intro e; exact hij (congrArg Addr.off e).symm)).trans h
theorem cell_alloc_keep (W : World) (o : Obj) (p : Addr) (v : Value) (h : W.cell? p = some v) : (W.alloc o).cell? p = some v := (World.cell?_alloc_some W p o (by rw [h]; rfl)).trans h
theorem cell_set_block (W : World) (b c i j : Nat) (x v : Value) (hbc : b ≠ c) (h : W.cell? ⟨b, i, none⟩ = some v) : (W.setCell ⟨c, j, none⟩ x).cell? ⟨b, i, none⟩ = some v := (World.cell?_setCell_other W ⟨c, j, none⟩ ⟨b, i, none⟩ x (by intro e; exact hbc (congrArg Addr.block e).symm)).trans h
theorem heap_cell {A B : World} {b : Nat} (o : Nat) (h : A.heap[b]? = B.heap[b]?) : A.cell? ⟨b, o, none⟩ = B.cell? ⟨b, o, none⟩ := by simp [World.cell?, h]
end Ls
end Go.Proofs.YtmdblokmplbpmaaDoor
