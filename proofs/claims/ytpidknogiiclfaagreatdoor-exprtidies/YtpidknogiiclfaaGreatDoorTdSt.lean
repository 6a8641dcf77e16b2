/-
  The gathering of a list's parts, in memory: the struct 'gathered', the row of its parts, the set of their numbers; what stays while it turns.
-/
import Derived.Test.YtpidknogiiclfaaGreatDoorTdLeaf
import Derived.Test.YtpidknogiiclfaaGreatDoorTdGth
namespace Go.Proofs.YtpidknogiiclfaaGreatDoor
open Go.RowKit Go.Maps
/-- the rows of what was made tidy lie in blocks that are there -/
theorem IsTv.lt {ok : Nat → Prop} {tb : List (List UInt8)} {w : World} (x : Ex) : ∀ v n pv, IsTv ok tb w x v n pv → IsTv (fun g => ok g ∧ g < w.heap.size) tb w x v n pv := by
  induction x using Ex.ind with
  | h k nm l ih =>
    intro v n pv h
    rw [IsTv.def] at h ⊢
    obtain ⟨h1, h2, h3⟩ := h
    refine ⟨IsEx.lt _ v h1, h2, ?_⟩
    rcases h3 with h3 | ⟨h4, g, o, cap, h5, h6, hg, h7⟩
    · exact .inl h3
    · have hl : 0 < l.length := by
        have h8 := IsEx.le7 _ v h1
        match k, h1 with
        | 5, h1 => simp only [IsEx] at h1; omega
        | 6, h1 => simp only [IsEx] at h1; have := h1.2.1; omega
        | 7, h1 => simp only [IsEx] at h1; have := h1.2.1; omega
        | 0, _ => omega
        | 1, _ => omega
        | 2, _ => omega
        | 3, _ => omega
        | 4, _ => omega
        | n + 8, _ => simp only at h8; omega
      have hgl : g < w.heap.size := by
        obtain ⟨u, m, qv, c1, _⟩ := h7 0 l[0] (List.getElem?_eq_getElem hl)
        exact World.block_lt_of_cell? _ _ c1
      refine .inr ⟨h4, g, o, cap, h5, h6, ⟨hg, hgl⟩, fun i y hy => ?_⟩
      obtain ⟨u, m, qv, c1, c2, c3, hq⟩ := h7 i y hy
      exact ⟨u, m, qv, c1, c2, c3, ih y (List.mem_of_getElem? hy) u m qv hq⟩
theorem IsTv.num {ok : Nat → Prop} {tb : List (List UInt8)} {w : World} {x : Ex} {v : Value} {n : Nat} {pv : Value} (h : IsTv ok tb w x v n pv) : Ex.Num tb x n := by
  obtain ⟨k, nm, l⟩ := x
  rw [IsTv.def] at h
  exact h.2.1
theorem IsTv.ex {ok : Nat → Prop} {tb : List (List UInt8)} {w : World} {x : Ex} {v : Value} {n : Nat} {pv : Value} (h : IsTv ok tb w x v n pv) : IsEx ok w x v := by
  obtain ⟨k, nm, l⟩ := x
  rw [IsTv.def] at h
  exact h.1
theorem IsTv.slice {ok : Nat → Prop} {tb : List (List UInt8)} {w : World} {x : Ex} {v : Value} {n : Nat} {pv : Value} (h : IsTv ok tb w x v n pv) : ∃ a b c, pv = .slice a b c := by
  obtain ⟨k, nm, l⟩ := x
  rw [IsTv.def] at h
  rcases h.2.2 with ⟨_, h⟩ | ⟨_, g, o, cap, h, _⟩
  · exact ⟨_, _, _, h⟩
  · exact ⟨_, _, _, h⟩
theorem num_lt {tb : List (List UInt8)} {x : Ex} {n : Nat} (h : Ex.Num tb x n) : n < tb.length := by
  obtain ⟨k, nm, l⟩ := x
  rw [Ex.Num.def] at h
  obtain ⟨ns, _, _, h3⟩ := h
  by_cases hn : n < tb.length
  · exact hn
  · rw [List.getElem?_eq_none (by omega)] at h3; simp at h3
/-- what was made tidy, three cells each -/
def flat3 (ts : List (Value × Nat × Value)) : List Value := (ts.map fun t => [t.1, Value.int .i64 (t.2.1 : Int), t.2.2]).flatten
theorem flat3_len (ts : List (Value × Nat × Value)) : (flat3 ts).length = ts.length * 3 := by
  induction ts with
  | nil => rfl
  | cons a r ih => simp only [flat3, List.map_cons, List.flatten_cons, List.length_append, List.length_cons, List.length_nil] at *; omega
theorem flat3_snoc (ts : List (Value × Nat × Value)) (t : Value × Nat × Value) : flat3 (ts ++ [t]) = flat3 ts ++ [t.1, Value.int .i64 (t.2.1 : Int), t.2.2] := by simp [flat3]
theorem flat3_get : ∀ (ts : List (Value × Nat × Value)) (i : Nat) (t : Value × Nat × Value), ts[i]? = some t → (flat3 ts)[i * 3]? = some t.1 ∧ (flat3 ts)[i * 3 + 1]? = some (.int .i64 (t.2.1 : Int)) ∧ (flat3 ts)[i * 3 + 2]? = some t.2.2 := by
  intro ts
  induction ts with
  | nil => intro i t h; simp at h
  | cons a r ih =>
    intro i t h
    match i, h with
    | 0, h =>
      simp only [List.getElem?_cons_zero, Option.some.injEq] at h
      subst h
      exact ⟨rfl, rfl, rfl⟩
    | i + 1, h =>
      rw [List.getElem?_cons_succ] at h
      obtain ⟨h1, h2, h3⟩ := ih i t h
      have e : flat3 (a :: r) = a.1 :: Value.int .i64 (a.2.1 : Int) :: a.2.2 :: flat3 r := rfl
      rw [e, show (i + 1) * 3 = i * 3 + 1 + 1 + 1 by omega, show i * 3 + 1 + 1 + 1 + 1 = (i * 3 + 1) + 1 + 1 + 1 by omega, show i * 3 + 1 + 1 + 1 + 2 = (i * 3 + 2) + 1 + 1 + 1 by omega]
      simp only [List.getElem?_cons_succ]
      exact ⟨h1, h2, h3⟩
/-- which blocks the parts may lie in: those of what came in, and new ones, but not the row of the parts itself -/
def okp (ok : Nat → Prop) (C : Nat) (pv : Value) (g : Nat) : Prop := (ok g ∨ C ≤ g) ∧ some g ≠ pv.ownBlock
/-- the gathering -/
structure Gs (ok : Nat → Prop) (B C mb gb sb k : Nat) (tb : List (List UInt8)) (U : List Ex) (d : Bool) (pv : Value) (w : World) : Prop where
  tbl : Tbl mb tb w
  pow : Pow w
  powB : 2 < B
  mbB : mb < B
  gbB : B ≤ gb
  gbC : gb < C
  sbB : B ≤ sb
  sbC : sb < C
  ne : gb ≠ sb
  size : C ≤ w.heap.size
  okB : ∀ g, ok g → g < B
  cells : w.heap[gb]? = some (.cells #[.map (some mb), .bool (decide (k = 6)), pv, .map (some sb), .bool d] 114 (0, 0))
  rows : ∃ ts : List (Value × Nat × Value), ts.length = U.length ∧ w.ownsRow C 66 3 pv U.length (flat3 ts) ∧ (∀ (i : Nat) (x : Ex) (t : Value × Nat × Value), U[i]? = some x → ts[i]? = some t → IsTv (okp ok C pv) tb w x t.1 t.2.1 t.2.2) ∧
    ∃ D : DataW Unit, w.ownsMap Tryz.prog 3 (unitElem (H := Unit)) sb U.length D ∧ ∀ m : Nat, Maps.has D (.int .i64 (m : Int)) = decide (m ∈ ts.map fun t => t.2.1)
  td : ∀ x, x ∈ U → Ex.Td x ∧ 2 ≤ x.kind ∧ x.kind ≠ k
/-- what stays while it turns -/
structure Gf (mb gb sb : Nat) (pv pv' : Value) (w w' : World) : Prop where
  os : w'.os = w.os
  tape : w'.tape = w.tape
  output : w'.output = w.output
  size : w.heap.size ≤ w'.heap.size
  block : ∀ g, g < w.heap.size → g ≠ mb → g ≠ gb → g ≠ sb → some g ≠ pv.ownBlock → w'.heap[g]? = w.heap[g]?
  lies : pv'.ownBlock = pv.ownBlock ∨ ∃ b, pv'.ownBlock = some b ∧ w.heap.size ≤ b
namespace Gf
variable {mb gb sb : Nat} {pv pv' pv'' : Value} {w w' w'' : World}
theorem refl (mb gb sb : Nat) (pv : Value) (w : World) : Gf mb gb sb pv pv w w := ⟨rfl, rfl, rfl, Nat.le_refl _, fun _ _ _ _ _ _ => rfl, .inl rfl⟩
theorem trans (h : Gf mb gb sb pv pv' w w') (k : Gf mb gb sb pv' pv'' w' w'') : Gf mb gb sb pv pv'' w w'' := by
  refine ⟨k.os.trans h.os, k.tape.trans h.tape, k.output.trans h.output, Nat.le_trans h.size k.size, fun g hg h1 h2 h3 h4 => ?_, ?_⟩
  · refine (k.block g (Nat.lt_of_lt_of_le hg h.size) h1 h2 h3 ?_).trans (h.block g hg h1 h2 h3 h4)
    rcases h.lies with e | ⟨b, e, hb⟩
    · rw [e]; exact h4
    · rw [e]; intro e2; simp only [Option.some.injEq] at e2; omega
  · rcases k.lies with e | ⟨b, e, hb⟩
    · rw [e]; exact h.lies
    · exact .inr ⟨b, e, Nat.le_trans h.size hb⟩
theorem grown (h : w.grownBy w' (some mb)) : Gf mb gb sb pv pv w w' := ⟨h.os, h.tape, h.output, h.size, fun g hg h1 _ _ _ => h.block g hg (by simpa using h1), .inl rfl⟩
theorem below (h : Below w.heap.size w w') : Gf mb gb sb pv pv w w' := ⟨h.os, h.tape, h.output, h.size, fun g hg _ _ _ _ => h.block g hg, .inl rfl⟩
end Gf
/-- a block that has cells is not the table's -/
theorem Tbl.ne {mb : Nat} {tb : List (List UInt8)} {w : World} (ht : Tbl mb tb w) {p : Addr} {v : Value} (h : w.cell? p = some v) : p.block ≠ mb := by
  intro e
  obtain ⟨D, ⟨es, clock, hb, _⟩, _⟩ := ht.ex
  rw [← e] at hb
  simp [World.cell?, hb] at h
theorem Pow.turned {mb : Nat} {tb : List (List UInt8)} {w w' : World} (hp : Pow w) (ht : Tbl mb tb w) (hg : w.grownBy w' (some mb)) : Pow w' := by
  have hc := Lib.TabIs.cell hp gPow 0 (by decide)
  have hne := ht.ne hc
  exact hp.block (hg.block _ hp.lt (by simpa using hne))
section
variable {ok : Nat → Prop} {B C mb gb sb k : Nat} {tb more : List (List UInt8)} {U : List Ex} {d : Bool} {pv pv' : Value} {w w' : World}
theorem Gs.stay (h : Gs ok B C mb gb sb k tb U d pv w) (hf : Gf mb gb sb pv pv' w w') : Stay (fun g => okp ok C pv g ∧ g < w.heap.size) w w' := by
  intro g i u hg hc
  obtain ⟨⟨h1, h2⟩, h3⟩ := hg
  have hne := h.tbl.ne hc
  have hgb : g ≠ gb ∧ g ≠ sb := by
    have e1 := h.gbB; have e2 := h.gbC; have e3 := h.sbB; have e4 := h.sbC
    rcases h1 with h1 | h1
    · have := h.okB g h1; omega
    · omega
  unfold World.cell? at *
  rw [hf.block g h3 hne hgb.1 hgb.2 h2]
  exact hc
theorem okp_turn (hf : Gf mb gb sb pv pv' w w') : ∀ g, okp ok C pv g ∧ g < w.heap.size → okp ok C pv' g := by
  rintro g ⟨⟨h1, h2⟩, h3⟩
  refine ⟨h1, ?_⟩
  rcases hf.lies with e | ⟨b, e, hb⟩
  · rw [e]; exact h2
  · rw [e]; intro e2; simp only [Option.some.injEq] at e2; omega
/-- what was made tidy stays, where the gathering turns -/
theorem Gs.keep (h : Gs ok B C mb gb sb k tb U d pv w) (hf : Gf mb gb sb pv pv' w w') (more : List (List UInt8)) {x : Ex} {v : Value} {n : Nat} {q : Value} (hx : IsTv (okp ok C pv) tb w x v n q) : IsTv (okp ok C pv') (tb ++ more) w' x v n q :=
  IsTv.stay more (h.stay hf) (okp_turn (ok := ok) (C := C) hf) x v n q (IsTv.lt x v n q hx)
/-- what came in stays -/
theorem Gs.input (h : Gs ok B C mb gb sb k tb U d pv w) (hf : Gf mb gb sb pv pv' w w') : Stay ok w w' := by
  intro g i u hg hc
  refine h.stay hf g i u ⟨⟨.inl hg, ?_⟩, World.block_lt_of_cell? _ _ hc⟩ hc
  obtain ⟨ts, _, ho, _⟩ := h.rows
  intro e
  have h1 := (ho.lt g e.symm).1
  have h2 := h.okB g hg
  have h3 := h.gbB
  have h4 := h.gbC
  omega
theorem Gs.grown (h : Gs ok B C mb gb sb k tb U d pv w) (hg : w.grownBy w' (some mb)) (ht : Tbl mb (tb ++ more) w') : Gs ok B C mb gb sb k (tb ++ more) U d pv w' := by
  have e1 := h.gbB; have e2 := h.gbC; have e3 := h.sbB; have e4 := h.sbC; have e5 := h.mbB; have e6 := h.size
  have hf : Gf mb gb sb pv pv w w' := Gf.grown hg
  obtain ⟨ts, hl, ho, hx, D, hD, hm⟩ := h.rows
  refine ⟨ht, h.pow.turned h.tbl hg, h.powB, h.mbB, h.gbB, h.gbC, h.sbB, h.sbC, h.ne, Nat.le_trans h.size hg.size, h.okB, (hg.block gb (by omega) (by simp; omega)).trans h.cells, ⟨ts, hl, ?_, fun i x t hi ht => h.keep hf more (hx i x t hi ht), D, hD.kept hg (by simp; omega), hm⟩, h.td⟩
  refine ho.kept hg ?_
  cases hv : pv.ownBlock with
  | none => exact .inl rfl
  | some b => right; intro e; simp only [Option.some.injEq] at e; have := (ho.lt b hv).1; omega
theorem Gs.c0 (h : Gs ok B C mb gb sb k tb U d pv w) : w.cell? ⟨gb, 0, none⟩ = some (.map (some mb)) := by rw [Lib.cell_of_heap h.cells]; rfl
theorem Gs.c1 (h : Gs ok B C mb gb sb k tb U d pv w) : w.cell? ⟨gb, 1, none⟩ = some (.bool (decide (k = 6))) := by rw [Lib.cell_of_heap h.cells]; rfl
theorem Gs.c2 (h : Gs ok B C mb gb sb k tb U d pv w) : w.cell? ⟨gb, 2, none⟩ = some pv := by rw [Lib.cell_of_heap h.cells]; rfl
theorem Gs.c3 (h : Gs ok B C mb gb sb k tb U d pv w) : w.cell? ⟨gb, 3, none⟩ = some (.map (some sb)) := by rw [Lib.cell_of_heap h.cells]; rfl
theorem Gs.c4 (h : Gs ok B C mb gb sb k tb U d pv w) : w.cell? ⟨gb, 4, none⟩ = some (.bool d) := by rw [Lib.cell_of_heap h.cells]; rfl
theorem five_set4 {w : World} {b : Nat} {x0 x1 x2 x3 x4 : Value} {T : TypeId} (h : w.heap[b]? = some (.cells #[x0, x1, x2, x3, x4] T (0, 0))) (v : Value) : (w.setCell ⟨b, 4, none⟩ v).heap[b]? = some (.cells #[x0, x1, x2, x3, v] T (0, 0)) := by
  simp [World.setCell, Array.getElem?_modify, h]
theorem five_set2 {w : World} {b : Nat} {x0 x1 x2 x3 x4 : Value} {T : TypeId} (h : w.heap[b]? = some (.cells #[x0, x1, x2, x3, x4] T (0, 0))) (v : Value) : (w.setCell ⟨b, 2, none⟩ v).heap[b]? = some (.cells #[x0, x1, v, x3, x4] T (0, 0)) := by
  simp [World.setCell, Array.getElem?_modify, h]
theorem Gf.set (mb gb sb : Nat) (pv : Value) (w : World) (j : Nat) (v : Value) : Gf mb gb sb pv pv w (w.setCell ⟨gb, j, none⟩ v) :=
  ⟨rfl, rfl, rfl, by simp [World.setCell], fun g _ _ h2 _ _ => Below.heap_setCell _ _ _ _ (by simpa using h2), .inl rfl⟩
/-- it is decided, or not -/
theorem Gs.decide (h : Gs ok B C mb gb sb k tb U d pv w) (d' : Bool) : Gs ok B C mb gb sb k tb U d' pv (w.setCell ⟨gb, 4, none⟩ (.bool d')) := by
  have e1 := h.gbB; have e2 := h.gbC; have e3 := h.sbB; have e4 := h.sbC; have e5 := h.mbB; have e6 := h.size; have e7 := h.powB; have e8 := h.ne
  have hf : Gf mb gb sb pv pv w (w.setCell ⟨gb, 4, none⟩ (.bool d')) := Gf.set mb gb sb pv w 4 _
  have hb : ∀ g, g ≠ gb → (w.setCell ⟨gb, 4, none⟩ (.bool d')).heap[g]? = w.heap[g]? := fun g hg => Below.heap_setCell _ _ _ _ (by simpa using hg)
  have hg : w.grownBy (w.setCell ⟨gb, 4, none⟩ (.bool d')) (some gb) := ⟨rfl, rfl, rfl, by simp [World.setCell], fun g _ hne => hb g (by simpa using hne)⟩
  obtain ⟨ts, hl, ho, hx, D, hD, hm⟩ := h.rows
  refine ⟨h.tbl.kept hg (by simp; omega), h.pow.block (hb _ (by omega)), h.powB, h.mbB, h.gbB, h.gbC, h.sbB, h.sbC, h.ne, by simpa [World.setCell] using h.size, h.okB, five_set4 h.cells _, ⟨ts, hl, ?_, fun i x t hi ht => ?_, D, hD.kept hg (by simp; omega), hm⟩, h.td⟩
  · refine ho.kept hg ?_
    cases hv : pv.ownBlock with
    | none => exact .inl rfl
    | some b => right; intro e; simp only [Option.some.injEq] at e; have := (ho.lt b hv).1; omega
  · have := h.keep hf [] (hx i x t hi ht)
    rwa [List.append_nil] at this
/-- a part is there just if its number is -/
theorem Gs.there (h : Gs ok B C mb gb sb k tb U d pv w) {ts : List (Value × Nat × Value)} (hl : ts.length = U.length) (hx : ∀ (i : Nat) (x : Ex) (t : Value × Nat × Value), U[i]? = some x → ts[i]? = some t → IsTv (okp ok C pv) tb w x t.1 t.2.1 t.2.2) {y : Ex} {m : Nat} (hy : Ex.Td y) (hm : Ex.Num tb y m) : m ∈ (ts.map fun t => t.2.1) ↔ y ∈ U := by
  constructor
  · intro hin
    obtain ⟨t, ht, e⟩ := List.mem_map.1 hin
    obtain ⟨i, hi, hti⟩ := List.getElem_of_mem ht
    have hiU : i < U.length := by omega
    have hq := hx i U[i] t (List.getElem?_eq_getElem hiU) (by rw [List.getElem?_eq_getElem hi, hti])
    have hn := hq.num
    rw [e] at hn
    have := Ex.Num.inj tb y U[i] m (Ex.Td.wf y hy) (Ex.Td.wf _ (h.td _ (List.getElem_mem hiU)).1) hm hn
    rw [this]
    exact List.getElem_mem hiU
  · intro hin
    obtain ⟨i, hi, hyi⟩ := List.getElem_of_mem hin
    have hit : i < ts.length := by omega
    have hq := hx i U[i] ts[i] (List.getElem?_eq_getElem hi) (List.getElem?_eq_getElem hit)
    have hn := hq.num
    rw [hyi] at hn
    have := Ex.Num.one tb h.tbl.nodup y _ _ hm hn
    rw [this]
    exact List.mem_map.2 ⟨ts[i], List.getElem_mem hit, rfl⟩
end
end Go.Proofs.YtpidknogiiclfaaGreatDoor
