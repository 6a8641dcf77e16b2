/-
  Rows of rungs in memory that package route builds: each rung's kind, name, and what it asks.
-/
import Derived.Test.YtjnmeacblefkgaaDoorRoWanting
import Derived.Maps.AppendAt
namespace Go.Proofs.YtjnmeacblefkgaaDoor
namespace Ro
open Go.RowKit
theorem Tryd.infoRung : (Tryd.prog.info? 52).map (fun i => (i.zero, i.size, i.bytes)) = some (some (.agg #[.int .i64 0, .string ⟨#[]⟩, .nilIface]), 3, 40) := by kernel_rfl
theorem Tryd.infoName : (Tryd.prog.info? 78).map (fun i => (i.zero, i.size, i.bytes)) = some (some (.agg #[.string ⟨#[]⟩, .int .i64 0, .int .i64 0]), 3, 32) := by kernel_rfl
/-- an append whose run is known, at a step of a region that draws its order -/
theorem step_append_run {P : Program} (w : World) {ops : Array Oper} {o : Oper} {a : Act} {K : Act → World → Prop} {Q : Exit → Act → World → Prop} {E : Prop} (hgd : o.guard = none) (s x : Operand) (t tn : TypeId)
    (ho : o.op = .call { callee := .builtin .append, args := #[s, x], argTypes := #[t, tn] }) (vs vx : Value) (hs : a.eval s = vs) (hx : a.eval x = vx)
    (v' : Value) (w' : World) (hr : (Builtin.append_ #[t, tn] o.type #[vs, vx]).run P w = .ok v' w') (h : K (a.put o.dst v') w') : if Region.wanted o (yielded ops a.tmps) = true then Oper.wp P o a w K Q else E := by
  have hw : Region.wanted o (yielded ops a.tmps) = true := by simp [Region.wanted, hgd]
  rw [if_pos hw]
  exact Lib.wp_append_run w s x t tn ho vs vx hs hx v' w' hr h
/-- nothing is appended -/
theorem append_zero {W : World} (base : Nat) (t ty e : TypeId) (i : TypeInfo) (size : Nat) (ht : Tryd.prog.underlying t = some (.slice e)) (hi : Tryd.prog.info? e = some i) (v : Value) (n : Nat) (xs : List Value) (hown : W.ownsRow base e size v n xs) (a : Option Addr) (c : Nat) :
    (Builtin.append_ #[t, t] ty #[v, .slice a 0 c]).run Tryd.prog W = .ok v W := by
  rcases hown.2 with ⟨rfl, rfl⟩ | ⟨g, cap, cur, rfl, _, _, hnc, _⟩
  · cases a <;> simp [Builtin.append_, run_underlying ht, sizeOf, typeInfo, hi, Builtin.lenOf, Builtin.firstCells, loadCells, loadCellsFrom]
  · cases a <;> simp [Builtin.append_, run_underlying ht, sizeOf, typeInfo, hi, Builtin.lenOf, Builtin.firstCells, hnc, storeCells, loadCells, loadCellsFrom]
/-- one row of interfaces is appended to an own one -/
theorem append_own2 {W : World} (base base2 : Nat) (ty : TypeId) (v sv : Value) (xs us : List Value) (hown : W.ownsRow base 50 1 v xs.length xs) (hs : W.ownsRow base2 50 1 sv us.length us) (hone : ∀ u, u ∈ us → u.oneCell' = true) (hb : base ≤ W.heap.size) (hx : xs.length ≤ 1000) (hu : us.length ≤ 1000) :
    ∃ v' W', (Builtin.append_ #[69, 69] ty #[v, sv]).run Tryd.prog W = .ok v' W' ∧ W'.ownsRow base 50 1 v' (xs ++ us).length (xs ++ us) ∧ W.grownBy W' v.ownBlock := by
  obtain ⟨i0, hi0, hz0, hz1, hz2⟩ := info_parts Tryd.infoExpr
  rcases hs.2 with ⟨rfl, h0⟩ | ⟨g, cap, cur, rfl, _, hcur, hcap, _, _, htk⟩
  · have : us = [] := List.length_eq_zero_iff.1 h0
    subst this
    exact ⟨v, W, append_zero base _ ty _ i0 1 Tryd.underlying69 hi0 v _ _ hown none 0, by simpa using hown, ⟨rfl, rfl, rfl, Nat.le_refl _, fun _ _ _ => rfl⟩⟩
  · cases us with
    | nil => exact ⟨v, W, append_zero base _ ty _ i0 1 Tryd.underlying69 hi0 v _ _ hown _ _, by simpa using hown, ⟨rfl, rfl, rfl, Nat.le_refl _, fun _ _ _ => rfl⟩⟩
    | cons u0 ur =>
      obtain ⟨v', W', h1, h2, h3, _⟩ := run_append_own_at (P := Tryd.prog) W base 69 ty 50 i0 _ 1 16 Tryd.underlying69 hi0 hz0 hz1 hz2 rfl (by decide) v xs.length xs hown ⟨g, 0, none⟩ (u0 :: ur).length cap (u0 :: ur) (by simp) (fun j u hj => by
          have := row_cell hcur (by simpa using htk) hj
          cases j <;> simpa [Addr.add] using this) hone (by unfold maxLen; omega) (by omega) hb
      exact ⟨v', W', h1, by rw [List.length_append]; exact h2, h3⟩
/-- what a rung asks, as a value: one part alone, or a row of them -/
def CondV (ok : Nat → Prop) (W : World) (ty : TypeId) (us : List Value) (v : Value) : Prop := (∃ t x, us = [v] ∧ v = .iface t x) ∨ (2 ≤ us.length ∧ us.length ≤ 1000 ∧ ∃ g cap, v = .iface ty (.slice (some ⟨g, 0, none⟩) us.length cap) ∧ us.length ≤ cap ∧ ok g ∧ ∀ (k : Nat) u, us[k]? = some u → W.cell? ⟨g, k, none⟩ = some u)
theorem CondV.stay {ok ok' : Nat → Prop} {W W' : World} {ty : TypeId} {us : List Value} {v : Value} (h : CondV ok W ty us v) (hs : ∀ g k u, ok g → W.cell? ⟨g, k, none⟩ = some u → W'.cell? ⟨g, k, none⟩ = some u) (hk : ∀ g, ok g → ok' g) : CondV ok' W' ty us v := by
  rcases h with h | ⟨h1, h2, g, cap, h3, h4, h5, h6⟩
  · exact .inl h
  · exact .inr ⟨h1, h2, g, cap, h3, h4, hk g h5, fun k u hu => hs g k u h5 (h6 k u hu)⟩
theorem CondV.lt {ok : Nat → Prop} {W : World} {ty : TypeId} {us : List Value} {v : Value} (h : CondV ok W ty us v) : CondV (fun g => ok g ∧ g < W.heap.size) W ty us v := by
  rcases h with h | ⟨h1, h2, g, cap, h3, h4, h5, h6⟩
  · exact .inl h
  · exact .inr ⟨h1, h2, g, cap, h3, h4, ⟨h5, World.block_lt_of_cell? _ _ (h6 0 us[0] (List.getElem?_eq_getElem (by omega)))⟩, h6⟩
theorem CondV.iface {ok : Nat → Prop} {W : World} {ty : TypeId} {us : List Value} {v : Value} (h : CondV ok W ty us v) : ∃ t x, v = .iface t x := by
  rcases h with ⟨t, x, _, h⟩ | ⟨_, _, g, cap, h, _⟩
  · exact ⟨t, x, h⟩
  · exact ⟨_, _, h⟩
/-- a rung: its kind, its name's letter and number, what puts its parts together, its parts -/
structure Rg where
  kind : Int
  c : UInt8
  i : Nat
  ty : TypeId
  us : List Value
/-- three cells a rung -/
def rg3 (x : Rg × Value) : List Value := [.int .i64 x.1.kind, nmV x.1.c x.1.i, x.2]
def fl (l : List (Rg × Value)) : List Value := l.flatMap rg3
theorem fl_append (l m : List (Rg × Value)) : fl (l ++ m) = fl l ++ fl m := by unfold fl; simp
theorem fl_len : ∀ (l : List (Rg × Value)), (fl l).length = l.length * 3
  | [] => rfl
  | x :: r => by
    have h := fl_len r
    unfold fl at *
    rw [List.flatMap_cons, List.length_append, h, List.length_cons]
    show 3 + _ = _
    omega
/-- an own row of rungs -/
def RR (q : Nat) (W : World) (v : Value) (l : List (Rg × Value)) : Prop := W.ownsRow q 52 3 v l.length (fl l) ∧ ∀ x, x ∈ l → CondV (fun g => (q ≤ g ∧ g < W.heap.size) ∧ some g ≠ v.ownBlock) W x.1.ty x.1.us x.2
theorem RR.below {q : Nat} {W W' : World} {v : Value} {l : List (Rg × Value)} (h : RR q W v l) (hb : Below W.heap.size W W') : RR q W' v l :=
  ⟨own_below h.1 hb, fun x hx => (h.2 x hx).stay (fun _ _ _ _ hc => kept hb hc) fun _ hg => ⟨⟨hg.1.1, Nat.lt_of_lt_of_le hg.1.2 hb.size⟩, hg.2⟩⟩
theorem RR.nil (q : Nat) (W : World) : RR q W (.slice none 0 0) [] := ⟨World.ownsRow_nil _ _ _ _, fun x hx => by simp at hx⟩
/-- one more rung -/
theorem RR.push {q : Nat} {wr W wC : World} {v : Value} {l : List (Rg × Value)} {x : Rg × Value} {g cap : Nat} {o : Obj} (h : RR q wr v l) (hq : q ≤ wr.heap.size) (hb : Below wr.heap.size wr W) (hx : CondV (fun b => wr.heap.size ≤ b) W x.1.ty x.1.us x.2) (ho : wC.ownsRow q 52 3 (.slice (some ⟨g, 0, none⟩) (l.length + 1) cap) (l.length + 1) (fl l ++ rg3 x)) (hg : (W.alloc o).grownBy wC v.ownBlock) (hat : v.ownBlock = some g ∨ g = W.heap.size + 1) :
    RR q wC (.slice (some ⟨g, 0, none⟩) (l.length + 1) cap) (l ++ [x]) := by
  have hvb := ownBlock_new h.1
  have hgs := hg.size
  rw [World.size_alloc] at hgs
  have hbs := hb.size
  have hown : ∀ b, v.ownBlock = some b → b < wr.heap.size := fun b hb' => by
    rcases h.1.2 with ⟨e, _⟩ | ⟨g', cap', cur, e, _, hcur, _⟩
    · rw [e] at hb'; cases hb'
    · rw [e] at hb'
      have : g' = b := Option.some.inj hb'
      rw [← this]
      exact (Array.getElem?_eq_some_iff.1 hcur).1
  refine ⟨?_, fun y hy => ?_⟩
  · rw [List.length_append, fl_append]
    have : fl [x] = rg3 x := by unfold fl; simp
    rw [this]
    exact ho
  · rcases List.mem_append.1 hy with hy | hy
    · refine (h.2 y hy).stay (fun b k u hb' hc => hg.cell (cell_alloc_keep _ _ _ _ (kept hb hc)) hb'.2) fun b hb' => ⟨⟨hb'.1.1, by omega⟩, ?_⟩
      show some b ≠ some g
      intro e
      cases e
      rcases hat with h1 | h1
      · exact hb'.2 h1.symm
      · omega
    · obtain rfl := List.mem_singleton.1 hy
      refine hx.lt.stay (fun b k u hb' hc => hg.cell (cell_alloc_keep _ _ _ _ hc) ?_) fun b hb' => ⟨⟨by omega, by omega⟩, ?_⟩
      · intro e
        have := hown b e.symm
        omega
      · show some b ≠ some g
        intro e
        cases e
        rcases hat with h1 | h1
        · have := hown _ h1
          omega
        · omega
end Ro
end Go.Proofs.YtjnmeacblefkgaaDoor
