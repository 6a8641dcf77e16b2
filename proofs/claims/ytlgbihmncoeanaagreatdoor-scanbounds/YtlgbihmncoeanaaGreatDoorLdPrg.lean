/-
  What was read is a program; the walks of package ladder's lines and inText.
-/
import Derived.Test.YtlgbihmncoeanaaGreatDoorLdTakeR
import Derived.Test.YtlgbihmncoeanaaGreatDoorLdLines
namespace Go.Proofs.YtlgbihmncoeanaaGreatDoor
open Go.RowKit
theorem flat3 {α : Type} (f : α → List Value) (hf : ∀ a, (f a).length = 3) : ∀ (l : List α) (i : Nat) (a : α), l[i]? = some a → ∀ j, j < 3 → (l.flatMap f)[i * 3 + j]? = (f a)[j]?
  | [], i, a, h, _, _ => by simp at h
  | b :: r, 0, a, h, j, hj => by
    simp only [List.getElem?_cons_zero, Option.some.injEq] at h
    subst h
    rw [List.flatMap_cons, List.getElem?_append_left (by rw [hf]; omega)]
    congr 1
    omega
  | b :: r, i + 1, a, h, j, hj => by
    simp only [List.getElem?_cons_succ] at h
    have ih := flat3 f hf r i a h j hj
    rw [List.flatMap_cons, List.getElem?_append_right (by rw [hf]; omega), hf]
    have : (i + 1) * 3 + j - 3 = i * 3 + j := by omega
    rw [this]; exact ih
/-- a cell of a row -/
theorem row_cell {W : World} {g : Nat} {cur : Array Value} {t : TypeId} {fz : Nat × Nat} (h : W.heap[g]? = some (.cells cur t fz)) {m : Nat} {xs : List Value} (htk : cur.toList.take m = xs) {k : Nat} {u : Value} (hk : xs[k]? = some u) : W.cell? ⟨g, k, none⟩ = some u := by
  rw [← htk] at hk
  have hkm : k < m := by
    by_cases h : k < m
    · exact h
    · rw [List.getElem?_eq_none (by rw [List.length_take]; omega)] at hk; cases hk
  rw [List.getElem?_take_of_lt hkm] at hk
  rw [Lib.cell_of_heap h, ← Array.getElem?_toList]; exact hk
theorem RdX.prg {b q : Nat} {w0 : World} {r : Ld.Rdg} {nv rv sv : Value} {vs : List Value} {W : World} (h : RdX b q w0 r nv rv sv vs W) (hn : r.names.length ≤ 1000000) (hr : r.rungs.length ≤ 1000000) : IsPrg W ⟨r.names, r.rungs⟩ (.agg #[nv, rv]) := by
  refine ⟨nv, rv, rfl, ?_, ?_⟩
  · rcases h.on.2 with ⟨rfl, h0⟩ | ⟨g, cap, cur, rfl, _, hcur, hcap, _, _, htk⟩
    · exact .inl ⟨List.length_eq_zero_iff.1 h0, _, _, rfl⟩
    · refine .inr ⟨g, cap, rfl, hcap, hn, ?_⟩
      intro i n hi
      have hc := fun j hj => flat3 nmCells (fun _ => rfl) r.names i n hi j hj
      have hb := h.bn n (List.mem_of_getElem? hi)
      exact ⟨row_cell hcur htk (hc 0 (by omega)), row_cell hcur htk (hc 1 (by omega)), row_cell hcur htk (hc 2 (by omega)), by unfold maxLen; omega, hb.2⟩
  · rcases h.org.2 with ⟨rfl, h0⟩ | ⟨g, cap, cur, rfl, _, hcur, hcap, _, _, htk⟩
    · exact .inl ⟨List.length_eq_zero_iff.1 h0, _, _, rfl⟩
    · refine .inr ⟨g, cap, rfl, hcap, hr, ?_⟩
      intro i gr hi
      have hil : i < r.rungs.length := (List.getElem?_eq_some_iff.1 hi).1
      have hvi : vs[i]? = some (vs[i]'(by rw [h.len]; exact hil)) := List.getElem?_eq_getElem _
      generalize vs[i]'(by rw [h.len]; exact hil) = v at hvi
      have hz : (r.rungs.zip vs)[i]? = some (gr, v) := by rw [List.getElem?_zip_eq_some]; exact ⟨hi, hvi⟩
      have hc := fun j hj => flat3 rgCells (fun _ => rfl) (r.rungs.zip vs) i (gr, v) hz j hj
      have hb := h.br gr (List.mem_of_getElem? hi)
      obtain ⟨x, l, e1, e2, e3⟩ := h.ex i gr v hi hvi
      have hbd := Ex.parse_bnd l x e2
      refine ⟨v, row_cell hcur htk (hc 0 (by omega)), row_cell hcur htk (hc 1 (by omega)), row_cell hcur htk (hc 2 (by omega)), by unfold maxLen; omega, hb.2, ?_⟩
      rw [e1]
      exact ⟨IsEx.stay (fun _ _ _ _ hc => hc) (fun _ _ => trivial) x v e3, by omega, by omega⟩
theorem RdX.parsed {b q : Nat} {w0 : World} {r : Ld.Rdg} {nv rv sv : Value} {vs : List Value} {W : World} (h : RdX b q w0 r nv rv sv vs W) : ∀ g, g ∈ r.rungs → ∀ x, g.cond = some x → ∃ l, Ex.parse l = .inr x := by
  intro g hg x hx
  obtain ⟨i, hi, rfl⟩ := List.getElem_of_mem hg
  obtain ⟨y, l, e1, e2, _⟩ := h.ex i _ (vs[i]'(by rw [h.len]; exact hi)) (List.getElem?_eq_getElem hi) (List.getElem?_eq_getElem _)
  rw [hx] at e1
  cases e1
  exact ⟨l, e2⟩
namespace Ld
theorem takeN_len (r r' : Rdg) (st : Nat) (line : List UInt8) (h : takeN r st line = .inr r') : r'.names.length + r'.rungs.length = r.names.length + r.rungs.length + 1 ∧ r'.starts = r.starts := by
  unfold takeN at h
  split at h
  · cases h
  · split at h
    · cases h; simp; omega
    · cases h
theorem takeR_len (r r' : Rdg) (st : Nat) (hd t : List UInt8) (h : takeR r st hd t = .inr r') : r'.names.length + r'.rungs.length = r.names.length + r.rungs.length + 1 ∧ r'.starts = r.starts := by
  unfold takeR at h
  split at h
  · cases h
  · split at h
    · cases h
    · cases h; simp; omega
theorem take_len (r r' : Rdg) (st : Nat) (line : List UInt8) (h : take r st line = .inr r') : r'.names.length + r'.rungs.length = r.names.length + r.rungs.length + 1 ∧ r'.starts.length = r.starts.length + 1 := by
  rw [take_is] at h
  split at h
  · have := takeN_len _ _ _ _ h
    exact ⟨this.1, by rw [this.2]; simp⟩
  · have := takeR_len _ _ _ _ _ h
    exact ⟨this.1, by rw [this.2]; simp⟩
theorem takes_snoc (p : Nat × List UInt8) : ∀ (l : List (Nat × List UInt8)) (r : Rdg), takes r (l ++ [p]) = match takes r l with
    | .inl e => .inl e
    | .inr r' => take r' p.1 p.2
  | [], r => by
    simp only [List.nil_append, takes]
    cases take r p.1 p.2 <;> rfl
  | a :: t, r => by
    rw [List.cons_append, takes, takes]
    cases take r a.1 a.2 with
    | inl e => rfl
    | inr r' => exact takes_snoc p t r'
theorem takes_app (b : List (Nat × List UInt8)) : ∀ (l : List (Nat × List UInt8)) (r : Rdg) (e : Nat × Nat), takes r l = .inl e → takes r (l ++ b) = .inl e
  | [], r, e, h => by simp [takes] at h
  | a :: t, r, e, h => by
    rw [takes] at h
    rw [List.cons_append, takes]
    cases ht : take r a.1 a.2 with
    | inl q => rw [ht] at h; exact h
    | inr r' => rw [ht] at h; exact takes_app b t r' e h
theorem check_place (p : Prg) (e i : Nat) (h : check p = some (e, some i)) : i < p.names.length + p.rungs.length := by
  unfold check at h
  split at h
  · cases h
  · split at h
    · rename_i q hq
      simp only [Option.some.injEq, Prod.mk.injEq] at h
      have := bad_lt _ _ _ _ hq
      omega
    · split at h
      · rename_i q hq
        simp only [Option.some.injEq, Prod.mk.injEq] at h
        have := bad_lt _ _ _ _ hq
        omega
      · cases h
end Ld
theorem lines_any (s : List UInt8) (w : World) : Calls Tryz.prog 97 #[.string ⟨s.toArray⟩] w fun e w' => e = .returned (.func (.func 152) #[] #[.pointer (some ⟨w.heap.size, 0, none⟩)]) ∧ w' = w.alloc (.cells #[.string ⟨s.toArray⟩] 9) := by
  have hmf : ∀ (fn : Fn) (first cap : Array Value) (w : World), (Instr.makeFunc fn first cap).run Tryz.prog w = .ok (.func fn first cap) w := fun _ _ _ _ => rfl
  go_enter Tryz.func97, Tryz.ntmps97
  go_wp2_with fail
  go_ret
  exact ⟨rfl, rfl⟩
set_option maxHeartbeats 2000000 in
set_option maxRecDepth 100000 in
theorem inText_any (b q : Nat) (w0 : World) (r : Ld.Rdg) (v : Value) (er : Nat) (pl : Option Nat) (W : World) (h : Rdm b q w0 r W) (hv : ErrIs W v (some (er, pl))) (hp : ∀ i, pl = some i → i < r.starts.length) (_hl : r.starts.length ≤ 1000000) :
    Calls Tryz.prog 99 #[.pointer (some ⟨b, 0, none⟩), v] W fun e W' => ∃ u, e = .returned u ∧ ErrIs W' u (some (er, pl.map fun i => r.starts.getD i 0)) ∧ Below W.heap.size W W' := by
  cases pl with
  | none =>
    obtain rfl : v = .iface 47 (.int .i64 (er : Int)) := hv
    have sE := ErAs.atE
    clear h
    go_enter Tryz.func99, Tryz.ntmps99
    go_wp2_with fail
    go_ret
    exact ⟨_, rfl, rfl, Below.refl _ _⟩
  | some i =>
    obtain ⟨a, rfl, h0, h1⟩ := hv
    have hi := hp i rfl
    obtain ⟨nv, rv, sv, vs, hx⟩ := h
    have b2 : W.cell? ⟨b, 2, none⟩ = some sv := by rw [Lib.cell_of_heap hx.blk]; rfl
    have sA := ErAs.atA
    have halt : a < W.heap.size := World.block_lt_of_cell? _ _ h0
    have hblt := hx.lt
    rcases hx.os.2 with ⟨_, h00⟩ | ⟨g, cap, cur, rfl, _, hcur, hcap, _, _, htk⟩
    · omega
    have hsi : W.cell? ⟨g, i, none⟩ = some (.int .i64 ((r.starts.getD i 0 : Nat) : Int)) := by
      refine row_cell hcur htk ?_
      rw [List.getElem?_map, List.getElem?_eq_getElem hi]
      simp [intV, List.getD_eq_getElem?_getD, List.getElem?_eq_getElem hi]
    have hglt : g < W.heap.size := World.block_lt_of_cell? _ _ hsi
    obtain ⟨stv, hstv⟩ : ∃ stv, stv = r.starts.getD i 0 := ⟨_, rfl⟩
    rw [← hstv] at hsi
    have HSTV := hide hstv
    clear hstv
    generalize r.starts.length = n at *
    clear hx hcur htk hp
    go_enter Tryz.func99, Tryz.ntmps99
    go_wp2_with fail
    go_region_held3 (fun W => W.cell? ⟨a, 0, none⟩ = some (.int .i64 (er : Int)) ∧ W.cell? ⟨a, 1, none⟩ = some (.int .i64 (i : Int)) ∧ W.cell? ⟨b, 2, none⟩ = some (.slice (some ⟨g, 0, none⟩) n cap) ∧ W.cell? ⟨g, i, none⟩ = some (.int .i64 (stv : Int))) (go_keep) (fail)
    all_goals go_wp2_with fail
    all_goals go_ret
    all_goals
      refine ⟨_, rfl, ?_, ⟨rfl, rfl, rfl, by simp, fun k hk => Below.heap_alloc _ _ _ hk⟩⟩
      show ErrIs _ _ (some (er, some (r.starts.getD i 0)))
      rw [← HSTV.out]
      exact ⟨W.heap.size, rfl, by simp [go_sem], by simp [go_sem]⟩
end Go.Proofs.YtlgbihmncoeanaaGreatDoor
