/-
  The gathering with one part more.
-/
import Derived.Test.YtpidknogiiclfaaGreatDoorTdAddA
import Derived.Deep.AppendLies
namespace Go.Proofs.YtpidknogiiclfaaGreatDoor
open Go.RowKit Go.Maps
section
variable {ok : Nat → Prop} {B C mb gb sb k : Nat} {tb more : List (List UInt8)} {U : List Ex} {d : Bool} {pv pv' : Value} {w W : World}
theorem Tbl.block {w w' : World} (h : Tbl mb tb w) (e : w'.heap[mb]? = w.heap[mb]?) : Tbl mb tb w' := by
  obtain ⟨D, h1, h2⟩ := h.ex
  exact ⟨⟨D, ownsMap_block h1 e, h2⟩, h.nodup⟩
theorem Gs.own (h : Gs ok B C mb gb sb k tb U d pv w) : ∀ b, pv.ownBlock = some b → C ≤ b ∧ b < w.heap.size := by
  obtain ⟨ts, _, ho, _⟩ := h.rows
  exact ho.lt
theorem Gs.push {x : Ex} {v : Value} {n : Nat} {q : Value} {ts : List (Value × Nat × Value)} {D : DataW Unit} (h : Gs ok B C mb gb sb k tb U d pv w) (hf : Gf mb gb sb pv pv' w W) (hT : Tbl mb tb W) (hx : IsTv (okp ok C pv) tb w x v n q) (ht : Ex.Td x) (h2 : 2 ≤ x.kind) (hk : x.kind ≠ k)
    (htl : ts.length = U.length) (hxs : ∀ (i : Nat) (x : Ex) (t : Value × Nat × Value), U[i]? = some x → ts[i]? = some t → IsTv (okp ok C pv) tb w x t.1 t.2.1 t.2.2) (hD : w.ownsMap Tryz.prog 3 (unitElem (H := Unit)) sb U.length D) (hm : ∀ m : Nat, Maps.has D (.int .i64 (m : Int)) = Decidable.decide (m ∈ ts.map fun t => t.2.1))
    (hc : W.heap[gb]? = some (.cells #[.map (some mb), .bool (Decidable.decide (k = 6)), pv', .map (some sb), .bool d] 114 (0, 0))) (ho : W.ownsRow C 66 3 pv' (U.length + 1) (flat3 (ts ++ [(v, n, q)]))) (hD' : W.ownsMap Tryz.prog 3 (unitElem (H := Unit)) sb (U.length + 1) (D.put (.int .i64 (n : Int)) (.agg []))) :
    Gs ok B C mb gb sb k tb (U ++ [x]) d pv' W := by
  have e1 := h.gbB; have e2 := h.gbC; have e3 := h.sbB; have e4 := h.sbC; have e5 := h.mbB; have e6 := h.size; have e7 := h.powB; have e8 := h.ne
  have hpc := Lib.TabIs.cell h.pow gPow 0 (by decide)
  have hpw : Pow W := h.pow.block (hf.block _ h.pow.lt (h.tbl.ne hpc) (by omega) (by omega) (fun e => by have := (h.own _ e.symm).1; omega))
  refine ⟨hT, hpw, h.powB, h.mbB, h.gbB, h.gbC, h.sbB, h.sbC, h.ne, Nat.le_trans h.size hf.size, h.okB, hc, ⟨ts ++ [(v, n, q)], by simp [htl], by simpa using ho, ?_, D.put (.int .i64 (n : Int)) (.agg []), by simpa using hD', ?_⟩, ?_⟩
  · intro i y t hi hti
    by_cases hiU : i < U.length
    · rw [List.getElem?_append_left hiU] at hi
      rw [List.getElem?_append_left (by omega)] at hti
      have := h.keep hf [] (hxs i y t hi hti)
      rwa [List.append_nil] at this
    · have hie : i = U.length := by
        by_cases e : i = U.length
        · exact e
        · rw [List.getElem?_eq_none (by simp; omega)] at hi; cases hi
      subst hie
      rw [List.getElem?_append_right (Nat.le_refl _)] at hi
      rw [List.getElem?_append_right (by omega)] at hti
      simp only [Nat.sub_self, List.getElem?_cons_zero, Option.some.injEq] at hi
      rw [htl] at hti
      simp only [Nat.sub_self, List.getElem?_cons_zero, Option.some.injEq] at hti
      subst hi hti
      have := h.keep hf [] hx
      rwa [List.append_nil] at this
  · intro m
    have ht := hD.tidy keyedInt
    by_cases e : m = n
    · subst e
      rw [Maps.has_put_same ht.isMap (show WideAt.IsKeyLit (.int .i64 (m : Int)) from trivial)]
      simp
    · rw [Maps.has_put_other (by simp; omega), hm]
      simp [e]
  · intro y hy
    rcases List.mem_append.1 hy with hy | hy
    · exact h.td y hy
    · rw [List.mem_singleton.1 hy]; exact ⟨ht, h2, hk⟩
end
/-- three cells at a row's end -/
theorem flat3_put (ts : List (Value × Nat × Value)) (v : Value) (n : Nat) (q : Value) (z0 z1 z2 : Value) : (((flat3 ts ++ [z0, z1, z2]).set (ts.length * 3) v).set (ts.length * 3 + 1) (.int .i64 (n : Int))).set (ts.length * 3 + 2) q = flat3 (ts ++ [(v, n, q)]) := by
  rw [flat3_snoc, List.set_append_right _ _ (by rw [flat3_len]; omega), List.set_append_right _ _ (by rw [flat3_len]; omega), List.set_append_right _ _ (by rw [flat3_len]; omega), flat3_len]
  simp
/-- the row's last three cells are set -/
theorem row_put {w : World} {C g cap : Nat} {ts : List (Value × Nat × Value)} {z0 z1 z2 : Value} {N : Nat} (hN : N = ts.length) (h : w.ownsRow C 66 3 (.slice (some ⟨g, 0, none⟩) (N + 1) cap) (N + 1) (flat3 ts ++ [z0, z1, z2])) (v : Value) (n : Nat) (q : Value) :
    (((w.setCell ⟨g, N * 3, none⟩ v).setCell ⟨g, N * 3 + 1, none⟩ (.int .i64 (n : Int))).setCell ⟨g, N * 3 + 2, none⟩ q).ownsRow C 66 3 (.slice (some ⟨g, 0, none⟩) (N + 1) cap) (N + 1) (flat3 (ts ++ [(v, n, q)])) ∧
    w.grownBy (((w.setCell ⟨g, N * 3, none⟩ v).setCell ⟨g, N * 3 + 1, none⟩ (.int .i64 (n : Int))).setCell ⟨g, N * 3 + 2, none⟩ q) (some g) := by
  obtain ⟨a1, b1⟩ := h.stored (N * 3) v
  obtain ⟨a2, b2⟩ := a1.stored (N * 3 + 1) (.int .i64 (n : Int))
  obtain ⟨a3, b3⟩ := a2.stored (N * 3 + 2) q
  subst hN
  rw [flat3_put] at a3
  exact ⟨a3, (b1.trans b2).trans b3⟩
end Go.Proofs.YtpidknogiiclfaaGreatDoor
