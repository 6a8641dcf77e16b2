/-
  The walk of add: a constant. The walk of add: a part that is there already. The walk of add: a part whose other side is there. The gathering with one part more. The walk of add: a part that is new. The walk of add, all its ways together.
-/
import Derived.Test.YtdlcelbbelcfkaaGreatDoorTdNewAll
import Derived.Deep.AppendLies
import Derived.Deep.Cut
import Derived.Deep.RegionHeld3
import Derived.Deep.RegionLaw
namespace Go.Proofs.YtdlcelbbelcfkaaGreatDoor
section
open Go.RowKit Go.Maps
/-- what adding a part comes to -/
def Added (ok : Nat → Prop) (B C mb gb sb k : Nat) (tb : List (List UInt8)) (U : List Ex) (d : Bool) (pv : Value) (x : Ex) (w : World) (e : Ending) (w' : World) : Prop :=
  e = .returned (.tuple #[]) ∧ ∃ more pv', Gs ok B C mb gb sb k (tb ++ more) (Ex.addS k U d x).1 (Ex.addS k U d x).2 pv' w' ∧ more.length ≤ 1 ∧ Gf mb gb sb pv pv' w w'
section
variable {ok : Nat → Prop} {B C mb gb sb k : Nat} {tb more : List (List UInt8)} {U : List Ex} {d : Bool} {pv pv' : Value} {w w' : World}
theorem Gs.below (h : Gs ok B C mb gb sb k tb U d pv w) (hb : Below w.heap.size w w') : Gs ok B C mb gb sb k tb U d pv w' := by
  have := h.grown (more := []) (grown_of_below hb _) (by rw [List.append_nil]; exact h.tbl.kept (row := none) (grown_of_below hb _) (by simp))
  rwa [List.append_nil] at this
theorem Gs.f (h : Gs ok B C mb gb sb k tb U d pv w) (j : Nat) : w.frozen? ⟨gb, j, none⟩ = false := Lib.frozen_of_heap h.cells j
theorem Gs.lt (h : Gs ok B C mb gb sb k tb U d pv w) : gb < w.heap.size := World.block_lt_of_cell? _ _ h.c0
end
set_option maxHeartbeats 4000000 in
set_option maxRecDepth 100000 in
theorem add_const (ok : Nat → Prop) (B C mb gb sb k : Nat) (hk : k = 6 ∨ k = 7) (tb : List (List UInt8)) (U : List Ex) (d : Bool) (pv : Value) (c : Bool) (n : Nat) (w : World) (h : Gs ok B C mb gb sb k tb U d pv w) :
    Calls Tryz.prog 159 #[.pointer (some ⟨gb, 0, none⟩), .agg #[.iface 132 (.bool c), .int .i64 (n : Int), .slice none 0 0]] w (Added ok B C mb gb sb k tb U d pv ⟨if c then 1 else 0, [], []⟩ w) := by
  obtain ⟨o1, ho1⟩ : ∃ o1, o1 = (.cells #[.iface 132 (.bool c), .int .i64 (n : Int), .slice none 0 0] 130 : Obj) := ⟨_, rfl⟩
  have hb1 : Below w.heap.size w (w.alloc o1) := (Below.refl _ _).alloc (Nat.le_refl _) _
  have h1 := h.below hb1
  have e4 := h1.c4
  have e1 := h1.c1
  have f4 := h1.f 4
  have hlt := h.lt
  have HEND : Hid (∀ d' : Bool, d' = (d || decide ((if c then 1 else 0) = Ex.allK k)) → Added ok B C mb gb sb k tb U d pv ⟨if c then 1 else 0, [], []⟩ w (.returned (.tuple #[])) ((w.setCell ⟨gb, 4, none⟩ (.bool d')).alloc o1)) := by
    intro d' hd
    have hb2 : Below (w.setCell ⟨gb, 4, none⟩ (.bool d')).heap.size (w.setCell ⟨gb, 4, none⟩ (.bool d')) ((w.setCell ⟨gb, 4, none⟩ (.bool d')).alloc o1) := (Below.refl _ _).alloc (Nat.le_refl _) _
    refine ⟨rfl, [], pv, ?_, by simp, (Gf.set mb gb sb pv w 4 _).trans (Gf.below hb2)⟩
    rw [Ex.addS_const k U d _ (by cases c <;> simp), List.append_nil]
    show Gs ok B C mb gb sb k tb U _ pv _
    rw [← hd]
    exact (h.decide d').below hb2
  rw [ho1] at *
  clear ho1 o1 h1 h hb1
  rcases hk with rfl | rfl <;> cases d <;> cases c
  all_goals
    simp only [decide_true, show decide (7 = 6) = false from rfl] at e1
    go_enter Tryz.func159, Tryz.ntmps159
    go_wp2_with fail
    go_end0
    first
      | exact HEND.out true (by decide)
      | exact HEND.out false (by decide)
theorem keyedInt : Keyed Tryz.prog 3 := int_keyed Tryz.underlying3
theorem keyInt (m : Nat) (h : m ≤ 1000000) : keyOf Tryz.prog 3 (.int .i64 (m : Int)) = some (.int .i64 (m : Int)) := Go.Maps.keyOf_int_mk Tryz.underlying3 (WalkArith.wf_i64 (by omega))
theorem zeroUnit (w : World) : (zeroValue 274).run Tryz.prog w = .ok (.agg #[]) w := by kernel_rfl
theorem ownsMap_block {H : Type} {P : Program} {k : TypeId} {R : Value → Option (DataW H × List MemPlace)} {w w' : World} {b n : Nat} {D : DataW H} (h : w.ownsMap P k R b n D) (e : w'.heap[b]? = w.heap[b]?) : w'.ownsMap P k R b n D := by
  obtain ⟨es, clock, hb, r⟩ := h
  exact ⟨es, clock, e.trans hb, r⟩
/-- asking the set of numbers -/
theorem look_set {w : World} {sb N : Nat} {D : DataW Unit} {ns : List Nat} (hD : w.ownsMap Tryz.prog 3 (unitElem (H := Unit)) sb N D) (hm : ∀ m : Nat, Maps.has D (.int .i64 (m : Int)) = decide (m ∈ ns)) (m : Nat) (h : m ≤ 1000000) :
    (Instr.lookup 201 (.map (some sb)) (.int .i64 (m : Int)) true).run Tryz.prog w = .ok (.tuple #[.agg #[], .bool (decide (m ∈ ns))]) w := by
  obtain ⟨v, ps, hrun, hv⟩ := hD.look_ok keyedInt Tryz.underlying201 (zeroUnit w) (unitElem_mk (H := Unit)) (keyInt m h)
  obtain ⟨rfl, _⟩ := unitElem_inv hv
  rw [hrun, hm]
set_option maxHeartbeats 4000000 in
set_option maxRecDepth 100000 in
theorem add_there (ok : Nat → Prop) (B C mb gb sb k : Nat) (tb : List (List UInt8)) (U : List Ex) (d : Bool) (pv : Value) (x : Ex) (v : Value) (n : Nat) (q : Value) (w : World) (h : Gs ok B C mb gb sb k tb U d pv w) (hl : tb.length ≤ 1000000) (hx : IsTv (okp ok C pv) tb w x v n q) (ht : Ex.Td x) (h2 : 2 ≤ x.kind) (hin : x ∈ U) :
    Calls Tryz.prog 159 #[.pointer (some ⟨gb, 0, none⟩), .agg #[v, .int .i64 (n : Int), q]] w (Added ok B C mb gb sb k tb U d pv x w) := by
  have hA2 := as_noConst x v hx.ex h2
  have hnl := num_lt hx.num
  obtain ⟨tu, yu, hiu⟩ := IsEx.iface x v hx.ex
  obtain ⟨pa, pb, pc, hps⟩ := hx.slice
  subst hiu hps
  obtain ⟨ts, htl, ho, hxs, D, hD, hm⟩ := h.rows
  have hin' := (h.there htl hxs ht hx.num).2 hin
  obtain ⟨o1, ho1⟩ : ∃ o1, o1 = (.cells #[.iface tu yu, .int .i64 (n : Int), .slice pa pb pc] 130 : Obj) := ⟨_, rfl⟩
  obtain ⟨w1, hw1⟩ : ∃ w1, w1 = w.alloc o1 := ⟨_, rfl⟩
  have hb1 : Below w.heap.size w w1 := by rw [hw1]; exact (Below.refl _ _).alloc (Nat.le_refl _) _
  have hr1 : w1.heap[w.heap.size]? = some (.cells #[.iface tu yu, .int .i64 (n : Int), .slice pa pb pc] 130 (0, 0)) := by rw [hw1, ho1]; exact heap_alloc_new w _
  have h1 := h.below hb1
  have e3 := h1.c3
  have d1 : w1.cell? ⟨w.heap.size, 1, none⟩ = some (.int .i64 (n : Int)) := by rw [Lib.cell_of_heap hr1]; rfl
  have hlt := h.lt
  have hsb : sb < w.heap.size := hD.lt
  have hs1 : w1.heap.size = w.heap.size + 1 := by rw [hw1]; simp
  have hb2 : Below w.heap.size w ((w1.alloc (.cells #[] 274)).drew) := (hb1.alloc hb1.size _).drew
  have hL1 := look_set (ns := ts.map fun t => t.2.1) (w := w1.drew) (ownsMap_block hD (hb1.drew.block sb hsb)) hm n (by omega)
  have hL2 := look_set (ns := ts.map fun t => t.2.1) (w := (w1.alloc (.cells #[] 274)).drew) (ownsMap_block hD (hb2.block sb hsb)) hm n (by omega)
  rw [decide_eq_true hin'] at hL1 hL2
  have HEND : Hid (Added ok B C mb gb sb k tb U d pv x w (.returned (.tuple #[])) ((w1.alloc (.cells #[] 274)).drew)) := by
    refine ⟨rfl, [], pv, ?_, by simp, Gf.below hb2⟩
    rw [Ex.addS_mem k U d x h2 hin, List.append_nil]
    exact h.below hb2
  have HW1 := hide hw1
  rw [ho1] at HW1
  have HNE := hide hs1
  clear ho1 hw1 o1 h1 h hb1 hb2 hr1 hD ho hxs hm htl hx ht hin hin' hs1
  go_enter Tryz.func159, Tryz.ntmps159
  go_wp2_with fail
  rw [← HW1.out]
  go_region_held3 (fun W => W.cell? ⟨gb, 3, none⟩ = some (.map (some sb)) ∧ W.cell? ⟨w.heap.size, 1, none⟩ = some (.int .i64 (n : Int))) (go_keep) (fail)
  all_goals go_wp2_with fail
  all_goals go_end0
  all_goals exact HEND.out
theorem Added.below {ok : Nat → Prop} {B C mb gb sb k : Nat} {tb : List (List UInt8)} {U : List Ex} {d : Bool} {pv : Value} {x : Ex} {w : World} {e : Ending} {w' w'' : World} (h : Added ok B C mb gb sb k tb U d pv x w e w') (hb : Below w'.heap.size w' w'') : Added ok B C mb gb sb k tb U d pv x w e w'' := by
  obtain ⟨he, more, pv', hg, hm, hf⟩ := h
  exact ⟨he, more, pv', hg.below hb, hm, hf.trans (Gf.below hb)⟩
/-- behind otherSide: the set is asked for the other side's number -/
theorem Gs.afterOther {ok : Nat → Prop} {B C mb gb sb k : Nat} {tb more : List (List UInt8)} {U : List Ex} {d : Bool} {pv : Value} {W w4 : World} {x : Ex} {v : Value} {n m : Nat} {q : Value} (h : Gs ok B C mb gb sb k tb U d pv W) (hl : tb.length < 1000000) (hx : IsTv (okp ok C pv) tb W x v n q) (ht : Ex.Td x) (h2 : 2 ≤ x.kind) (hq1 : Tbl mb (tb ++ more) w4) (hq2 : Ex.Num (tb ++ more) (Ex.other x) m) (hq3 : more.length ≤ 1) (hq4 : W.grownBy w4 (some mb)) (b : Bool) (hb : b = true ↔ Ex.other x ∈ U) :
    Gs ok B C mb gb sb k (tb ++ more) U d pv w4 ∧ IsTv (okp ok C pv) (tb ++ more) w4 x v n q ∧ (Instr.lookup 201 (.map (some sb)) (.int .i64 (m : Int)) true).run Tryz.prog w4 = .ok (.tuple #[.agg #[], .bool b]) w4 ∧
    (Instr.lookup 201 (.map (some sb)) (.int .i64 (m : Int)) true).run Tryz.prog (w4.alloc (.cells #[] 274)) = .ok (.tuple #[.agg #[], .bool b]) (w4.alloc (.cells #[] 274)) := by
  have h4 := h.grown hq4 hq1
  have hml := num_lt hq2
  rw [List.length_append] at hml
  obtain ⟨ts, htl, ho, hxs, D, hD, hm⟩ := h4.rows
  have hin := h4.there htl hxs (Ex.td_other ht h2).1 hq2
  have e : Decidable.decide (m ∈ ts.map fun t => t.2.1) = b := by
    rw [Bool.eq_iff_iff, decide_eq_true_eq, hin, hb]
  refine ⟨h4, h.keep (Gf.grown hq4) more hx, ?_, ?_⟩
  · rw [← e]; exact look_set hD hm m (by omega)
  · rw [← e]; exact look_set (hD.alloc _) hm m (by omega)
set_option maxHeartbeats 4000000 in
set_option maxRecDepth 100000 in
theorem add_other (ok : Nat → Prop) (B C mb gb sb k : Nat) (tb : List (List UInt8)) (U : List Ex) (d : Bool) (pv : Value) (x : Ex) (v : Value) (n : Nat) (q : Value) (w : World) (h : Gs ok B C mb gb sb k tb U d pv w) (hl : tb.length < 1000000) (hx : IsTv (okp ok C pv) tb w x v n q) (ht : Ex.Td x) (h2 : 2 ≤ x.kind) (hin : x ∉ U) (hio : Ex.other x ∈ U) :
    Calls Tryz.prog 159 #[.pointer (some ⟨gb, 0, none⟩), .agg #[v, .int .i64 (n : Int), q]] w (Added ok B C mb gb sb k tb U d pv x w) := by
  have hA2 := as_noConst x v hx.ex h2
  have hnl := num_lt hx.num
  obtain ⟨tu, yu, hiu⟩ := IsEx.iface x v hx.ex
  obtain ⟨pa, pb, pc, hps⟩ := hx.slice
  subst hiu hps
  obtain ⟨ts, htl, ho, hxs, D, hD, hm⟩ := h.rows
  have hin' : ¬ _ := fun e => hin ((h.there htl hxs ht hx.num).1 e)
  obtain ⟨o1, ho1⟩ : ∃ o1, o1 = (.cells #[.iface tu yu, .int .i64 (n : Int), .slice pa pb pc] 130 : Obj) := ⟨_, rfl⟩
  obtain ⟨w1, hw1⟩ : ∃ w1, w1 = w.alloc o1 := ⟨_, rfl⟩
  have hb1 : Below w.heap.size w w1 := by rw [hw1]; exact (Below.refl _ _).alloc (Nat.le_refl _) _
  have hr1 : w1.heap[w.heap.size]? = some (.cells #[.iface tu yu, .int .i64 (n : Int), .slice pa pb pc] 130 (0, 0)) := by rw [hw1, ho1]; exact heap_alloc_new w _
  have h1 := h.below hb1
  have e3 := h1.c3
  have d1 : w1.cell? ⟨w.heap.size, 1, none⟩ = some (.int .i64 (n : Int)) := by rw [Lib.cell_of_heap hr1]; rfl
  have hlt := h.lt
  have hsb : sb < w.heap.size := hD.lt
  have hs1 : w1.heap.size = w.heap.size + 1 := by rw [hw1]; simp
  obtain ⟨w2, hw2⟩ : ∃ w2, w2 = (w1.alloc (.cells #[] 274)).drew := ⟨_, rfl⟩
  have hb2 : Below w.heap.size w w2 := by rw [hw2]; exact (hb1.alloc hb1.size _).drew
  have hs2 : w2.heap.size = w.heap.size + 2 := by rw [hw2]; show (w1.alloc _).heap.size = _; simp; omega
  have hr2 : w2.heap[w.heap.size]? = some (.cells #[.iface tu yu, .int .i64 (n : Int), .slice pa pb pc] 130 (0, 0)) := by
    rw [hw2]; show (w1.alloc _).heap[w.heap.size]? = _
    rw [heap_alloc_old _ _ (by omega)]; exact hr1
  have hL1 := look_set (ns := ts.map fun t => t.2.1) (w := w1.drew) (ownsMap_block hD (hb1.drew.block sb hsb)) hm n (by omega)
  have hL2 := look_set (ns := ts.map fun t => t.2.1) (w := w2) (ownsMap_block hD (hb2.block sb hsb)) hm n (by omega)
  rw [hw2] at hL2
  rw [decide_eq_false hin'] at hL1 hL2
  have HC : Hid (∀ W, Below w.heap.size w W → Calls Tryz.prog 185 #[.pointer (some ⟨gb, 0, none⟩), .agg #[.iface tu yu, .int .i64 (n : Int), .slice pa pb pc]] W (Numbers mb tb (Ex.other x) W)) := by
    intro W hW
    exact otherSide_any _ mb gb tb x _ n _ W (h.below hW).tbl hl (h.below hW).pow (IsTv.stay [] (Stay.below hW) (fun _ h => h) x _ n _ hx |> fun h => by rw [List.append_nil] at h; exact h) ht (h.below hW).c0
  have HAFT : Hid (∀ W w4 m more, Below w2.heap.size w2 W → Tbl mb (tb ++ more) w4 → Ex.Num (tb ++ more) (Ex.other x) m → more.length ≤ 1 → W.grownBy w4 (some mb) → Gs ok B C mb gb sb k (tb ++ more) U d pv w4 ∧ Gf mb gb sb pv pv w w4 ∧ (w4.cell? ⟨w.heap.size, 0, none⟩ = some (.iface tu yu) ∧ w4.cell? ⟨w.heap.size, 1, none⟩ = some (.int .i64 (n : Int)) ∧ w4.cell? ⟨w.heap.size, 2, none⟩ = some (.slice pa pb pc)) ∧ (Instr.lookup 201 (.map (some sb)) (.int .i64 (m : Int)) true).run Tryz.prog w4 = .ok (.tuple #[.agg #[], .bool true]) w4 ∧
    (Instr.lookup 201 (.map (some sb)) (.int .i64 (m : Int)) true).run Tryz.prog (w4.alloc (.cells #[] 274)) = .ok (.tuple #[.agg #[], .bool true]) (w4.alloc (.cells #[] 274))) := by
    intro W w4 m more hW hq1 hq2 hq3 hq4
    have hbW : Below w.heap.size w W := hb2.trans (hW.mono hb2.size)
    have hxW : IsTv (okp ok C pv) tb W x (.iface tu yu) n (.slice pa pb pc) := (IsTv.stay [] (Stay.below hbW) (fun _ h => h) x _ n _ hx |> fun h => by rw [List.append_nil] at h; exact h)
    obtain ⟨g1, _, g3, g4⟩ := (h.below hbW).afterOther hl hxW ht h2 hq1 hq2 hq3 hq4 true (by simpa using hio)
    have hmb := h.mbB; have hgb := h.gbB; have hgc := h.gbC; have hss := h.size; have hsW := hW.size
    have e := (hq4.block w.heap.size (by omega) (by simp; omega)).trans ((hW.block _ (by omega)).trans hr2)
    exact ⟨g1, (Gf.below hbW).trans (Gf.grown hq4), ⟨by rw [Lib.cell_of_heap e]; rfl, by rw [Lib.cell_of_heap e]; rfl, by rw [Lib.cell_of_heap e]; rfl⟩, g3, g4⟩
  have HEND : Hid (∀ w4 more, Gs ok B C mb gb sb k (tb ++ more) U d pv w4 → more.length ≤ 1 → Gf mb gb sb pv pv w w4 → Added ok B C mb gb sb k tb U d pv x w (.returned (.tuple #[])) (w4.setCell ⟨gb, 4, none⟩ (.bool true))) := by
    intro w4 more h4 hml hf
    refine ⟨rfl, more, pv, ?_, hml, hf.trans (Gf.set mb gb sb pv w4 4 _)⟩
    rw [Ex.addS_other k U d x h2 hin hio]
    exact h4.decide true
  have c3 : w2.cell? ⟨gb, 3, none⟩ = some (.map (some sb)) := (h.below hb2).c3
  have d20 : w2.cell? ⟨w.heap.size, 0, none⟩ = some (.iface tu yu) := by rw [Lib.cell_of_heap hr2]; rfl
  have d21 : w2.cell? ⟨w.heap.size, 1, none⟩ = some (.int .i64 (n : Int)) := by rw [Lib.cell_of_heap hr2]; rfl
  have d22 : w2.cell? ⟨w.heap.size, 2, none⟩ = some (.slice pa pb pc) := by rw [Lib.cell_of_heap hr2]; rfl
  have HBA : Hid (Below w2.heap.size w2 w2.drew) := (Below.refl _ _).drew
  have HBB : Hid (Below w2.heap.size w2 (w2.alloc (.cells #[] 274)).drew) := ((Below.refl _ _).alloc (Nat.le_refl _) _).drew
  have HB2 := hide hb2
  have HW1 := hide hw1
  have HW2 := hide hw2
  rw [ho1] at HW1
  clear ho1 hw1 hw2 o1 h1 h hb1 hb2 hr1 hr2 hD ho hxs hm htl hx ht hin hin' hs1 hs2
  go_enter Tryz.func159, Tryz.ntmps159
  go_wp2_with fail
  rw [← HW1.out]
  go_region_held3 (fun W => W.cell? ⟨gb, 3, none⟩ = some (.map (some sb)) ∧ W.cell? ⟨w.heap.size, 1, none⟩ = some (.int .i64 (n : Int))) (go_keep) (fail)
  all_goals go_wp2_with fail
  all_goals rw [← HW2.out]
  all_goals clear hL1 hL2 e3 d1
  all_goals go_region_held3 (fun W => W.cell? ⟨gb, 3, none⟩ = some (.map (some sb)) ∧ W.cell? ⟨w.heap.size, 0, none⟩ = some (.iface tu yu) ∧ W.cell? ⟨w.heap.size, 1, none⟩ = some (.int .i64 (n : Int)) ∧ W.cell? ⟨w.heap.size, 2, none⟩ = some (.slice pa pb pc)) (go_keep)
    ((go_at_call 185; first
      | ((with_reducible refine (HC.out w2.drew (HB2.out.trans (HBA.out.mono HB2.out.size))).mono ?_); rintro e w4 ⟨m, more, rfl, hq1, hq2, hq3, hq4⟩; obtain ⟨g1, g2, ⟨g3, g4, g5⟩, g6, g7⟩ := HAFT.out _ _ _ _ HBA.out hq1 hq2 hq3 hq4; have g8 := g1.c3; have g9 := g1.c4; have g10 := g1.f 4; have hgl := g1.lt; have G1 := hide g1; clear g1)
      | ((with_reducible refine (HC.out (w2.alloc (.cells #[] 274)).drew (HB2.out.trans (HBB.out.mono HB2.out.size))).mono ?_); rintro e w4 ⟨m, more, rfl, hq1, hq2, hq3, hq4⟩; obtain ⟨g1, g2, ⟨g3, g4, g5⟩, g6, g7⟩ := HAFT.out _ _ _ _ HBB.out hq1 hq2 hq3 hq4; have g8 := g1.c3; have g9 := g1.c4; have g10 := g1.f 4; have hgl := g1.lt; have G1 := hide g1; clear g1)))
  all_goals go_wp2_with fail
  all_goals go_end0
  all_goals first
    | exact HEND.out w4 more G1.out hq3 g2
    | exact (HEND.out w4 more G1.out hq3 g2).below ((Below.refl _ _).alloc (Nat.le_refl _) _)
end
section
open Go.RowKit Go.Maps
section
variable {ok : Nat → Prop} {B C mb gb sb k : Nat} {tb more : List (List UInt8)} {U : List Ex} {d : Bool} {pv pv' : Value} {w W : World}
theorem Tbl.block {w w' : World} (h : Tbl mb tb w) (e : w'.heap[mb]? = w.heap[mb]?) : Tbl mb tb w' := by
  obtain ⟨D, h1, h2⟩ := h.ex
  exact ⟨⟨D, ownsMap_block h1 e, h2⟩, h.nodup⟩
theorem Gs.own (h : Gs ok B C mb gb sb k tb U d pv w) : ∀ b, pv.ownBlock = some b → C ≤ b ∧ b < w.heap.size := by
  obtain ⟨ts, _, ho, _⟩ := h.rows
  exact ho.lt
theorem Gs.push {x : Ex} {v : Value} {n : Nat} {q : Value} {ts : List (Value × Nat × Value)} {D : DataW Unit} (h : Gs ok B C mb gb sb k tb U d pv w) (hf : Gf mb gb sb pv pv' w W) (hT : Tbl mb tb W) (hx : IsTv (okp ok C pv) tb w x v n q) (ht : Ex.Td x) (h2 : 2 ≤ x.kind) (hk : x.kind ≠ k)
    (htl : ts.length = U.length) (hxs : ∀ (i : Nat) (x : Ex) (t : Value × Nat × Value), U[i]? = some x → ts[i]? = some t → IsTv (okp ok C pv) tb w x t.1 t.2.1 t.2.2) (hD : w.ownsMap Tryz.prog 3 (unitElem (H := Unit)) sb U.length D) (hm : ∀ m : Nat, Maps.has D (.int .i64 (m : Int)) = Decidable.decide (m ∈ ts.map fun t => t.2.1))
    (hc : W.heap[gb]? = some (.cells #[.map (some mb), .bool (Decidable.decide (k = 6)), pv', .map (some sb), .bool d] 203 (0, 0))) (ho : W.ownsRow C 130 3 pv' (U.length + 1) (tflat3 (ts ++ [(v, n, q)]))) (hD' : W.ownsMap Tryz.prog 3 (unitElem (H := Unit)) sb (U.length + 1) (D.put (.int .i64 (n : Int)) (.agg []))) :
    Gs ok B C mb gb sb k tb (U ++ [x]) d pv' W := by
  have e1 := h.gbB; have e2 := h.gbC; have e3 := h.sbB; have e4 := h.sbC; have e5 := h.mbB; have e6 := h.size; have e7 := h.powB; have e8 := h.ne
  have hpc := Lib.TabIs.cell h.pow gPow 0 (by decide)
  have hpw : Pow W := h.pow.block (hf.block _ h.pow.lt (h.tbl.ne hpc) (by omega) (by omega) (fun e => by have := (h.own _ e.symm).1; omega))
  refine ⟨hT, hpw, h.powB, h.mbB, h.gbB, h.gbC, h.sbB, h.sbC, h.ne, Nat.le_trans h.size hf.size, h.okB, hc, ⟨ts ++ [(v, n, q)], by simp [htl], by simpa using ho, ?_, D.put (.int .i64 (n : Int)) (.agg []), by simpa using hD', ?_⟩, ?_⟩
  · intro i y t hi hti
    by_cases hiU : i < U.length
    · rw [List.getElem?_append_left hiU] at hi
      rw [List.getElem?_append_left (by omega)] at hti
      have := h.keep hf [] (hxs i y t hi hti)
      rwa [List.append_nil] at this
    · have hie : i = U.length := by
        by_cases e : i = U.length
        · exact e
        · rw [List.getElem?_eq_none (by simp; omega)] at hi; cases hi
      subst hie
      rw [List.getElem?_append_right (Nat.le_refl _)] at hi
      rw [List.getElem?_append_right (by omega)] at hti
      simp only [Nat.sub_self, List.getElem?_cons_zero, Option.some.injEq] at hi
      rw [htl] at hti
      simp only [Nat.sub_self, List.getElem?_cons_zero, Option.some.injEq] at hti
      subst hi hti
      have := h.keep hf [] hx
      rwa [List.append_nil] at this
  · intro m
    have ht := hD.tidy keyedInt
    by_cases e : m = n
    · subst e
      rw [Maps.has_put_same ht.isMap (show WideAt.IsKeyLit (.int .i64 (m : Int)) from trivial)]
      simp
    · rw [Maps.has_put_other (by simp; omega), hm]
      simp [e]
  · intro y hy
    rcases List.mem_append.1 hy with hy | hy
    · exact h.td y hy
    · rw [List.mem_singleton.1 hy]; exact ⟨ht, h2, hk⟩
end
/-- three cells at a row's end -/
theorem flat3_put (ts : List (Value × Nat × Value)) (v : Value) (n : Nat) (q : Value) (z0 z1 z2 : Value) : (((tflat3 ts ++ [z0, z1, z2]).set (ts.length * 3) v).set (ts.length * 3 + 1) (.int .i64 (n : Int))).set (ts.length * 3 + 2) q = tflat3 (ts ++ [(v, n, q)]) := by
  rw [flat3_snoc, List.set_append_right _ _ (by rw [flat3_len]; omega), List.set_append_right _ _ (by rw [flat3_len]; omega), List.set_append_right _ _ (by rw [flat3_len]; omega), flat3_len]
  simp
/-- the row's last three cells are set -/
theorem row_put {w : World} {C g cap : Nat} {ts : List (Value × Nat × Value)} {z0 z1 z2 : Value} {N : Nat} (hN : N = ts.length) (h : w.ownsRow C 130 3 (.slice (some ⟨g, 0, none⟩) (N + 1) cap) (N + 1) (tflat3 ts ++ [z0, z1, z2])) (v : Value) (n : Nat) (q : Value) :
    (((w.setCell ⟨g, N * 3, none⟩ v).setCell ⟨g, N * 3 + 1, none⟩ (.int .i64 (n : Int))).setCell ⟨g, N * 3 + 2, none⟩ q).ownsRow C 130 3 (.slice (some ⟨g, 0, none⟩) (N + 1) cap) (N + 1) (tflat3 (ts ++ [(v, n, q)])) ∧
    w.grownBy (((w.setCell ⟨g, N * 3, none⟩ v).setCell ⟨g, N * 3 + 1, none⟩ (.int .i64 (n : Int))).setCell ⟨g, N * 3 + 2, none⟩ q) (some g) := by
  obtain ⟨a1, b1⟩ := h.stored (N * 3) v
  obtain ⟨a2, b2⟩ := a1.stored (N * 3 + 1) (.int .i64 (n : Int))
  obtain ⟨a3, b3⟩ := a2.stored (N * 3 + 2) q
  subst hN
  rw [flat3_put] at a3
  exact ⟨a3, (b1.trans b2).trans b3⟩
end
section
open Go.RowKit Go.Maps
theorem Tryz.infoTidied : (Tryz.prog.info? 130).map (fun i => (i.zero, i.size, i.bytes)) = some (some (.agg #[.nilIface, .int .i64 0, .slice none 0 0]), 3, 48) := by kernel_rfl
/-- what stands behind the two questions -/
structure Asked (ok : Nat → Prop) (B C mb gb sb k : Nat) (tb : List (List UInt8)) (U : List Ex) (d : Bool) (pv : Value) (x : Ex) (v : Value) (n : Nat) (q : Value) (p : Nat) (w wx : World) (more : List (List UInt8)) : Prop where
  gs : Gs ok B C mb gb sb k (tb ++ more) U d pv wx
  gf : Gf mb gb sb pv pv w wx
  tv : IsTv (okp ok C pv) (tb ++ more) wx x v n q
  row : wx.heap[p]? = some (.cells #[v, .int .i64 (n : Int), q] 130 (0, 0))
  len : more.length ≤ 1
theorem Asked.below {ok : Nat → Prop} {B C mb gb sb k : Nat} {tb : List (List UInt8)} {U : List Ex} {d : Bool} {pv : Value} {x : Ex} {v : Value} {n : Nat} {q : Value} {p : Nat} {w wx wy : World} {more : List (List UInt8)} (h : Asked ok B C mb gb sb k tb U d pv x v n q p w wx more) (hb : Below wx.heap.size wx wy) : Asked ok B C mb gb sb k tb U d pv x v n q p w wy more := by
  refine ⟨h.gs.below hb, h.gf.trans (Gf.below hb), ?_, (hb.block p (Array.getElem?_eq_some_iff.1 h.row).1).trans h.row, h.len⟩
  have := IsTv.stay [] (Stay.below hb) (fun _ h => h) x v n q h.tv
  rwa [List.append_nil] at this
/-- the end of it: the row has the part, the struct the row -/
theorem add_end {ok : Nat → Prop} {B C mb gb sb k : Nat} {tb : List (List UInt8)} {U : List Ex} {d : Bool} {pv : Value} {x : Ex} {v : Value} {n : Nat} {q : Value} {p : Nat} {w wc w5 w6 W : World} {more : List (List UInt8)} {ts : List (Value × Nat × Value)} {D : DataW Unit} {g cap : Nat} {o : Obj}
    (hA : Asked ok B C mb gb sb k tb U d pv x v n q p w wc more) (ht : Ex.Td x) (h2 : 2 ≤ x.kind) (hk : x.kind ≠ k) (hin : x ∉ U) (hio : Ex.other x ∉ U)
    (htl : ts.length = U.length) (hxs : ∀ (i : Nat) (x : Ex) (t : Value × Nat × Value), U[i]? = some x → ts[i]? = some t → IsTv (okp ok C pv) (tb ++ more) wc x t.1 t.2.1 t.2.2) (hD : wc.ownsMap Tryz.prog 3 (unitElem (H := Unit)) sb U.length D) (hm : ∀ m : Nat, Maps.has D (.int .i64 (m : Int)) = decide (m ∈ ts.map fun t => t.2.1))
    (hD5 : w5.ownsMap Tryz.prog 3 (unitElem (H := Unit)) sb (U.length + 1) (D.put (.int .i64 (n : Int)) (.agg []))) (hf5 : Gf mb gb sb pv pv wc w5) (hmb5 : w5.heap[mb]? = wc.heap[mb]?) (hg6 : (w5.alloc o).drew.grownBy w6 pv.ownBlock) (hat : pv.ownBlock = some g ∨ g = w5.heap.size + 1)
    (hos : W.os = w6.os) (htp : W.tape = w6.tape) (hout : W.output = w6.output) (hsz : w6.heap.size ≤ W.heap.size) (hWo : ∀ b, b ≠ gb → b ≠ g → W.heap[b]? = w6.heap[b]?)
    (hc : W.heap[gb]? = some (.cells #[.map (some mb), .bool (decide (k = 6)), .slice (some ⟨g, 0, none⟩) (U.length + 1) cap, .map (some sb), .bool d] 203 (0, 0))) (ho : W.ownsRow C 130 3 (.slice (some ⟨g, 0, none⟩) (U.length + 1) cap) (U.length + 1) (tflat3 (ts ++ [(v, n, q)]))) :
    Added ok B C mb gb sb k tb U d pv x w (.returned (.tuple #[])) W := by
  have q1 := hA.gs.gbB; have q2 := hA.gs.gbC; have q3 := hA.gs.sbB; have q4 := hA.gs.sbC; have q5 := hA.gs.mbB; have q6 := hA.gs.size; have q7 := hA.gs.ne
  have hown := hA.gs.own
  have hs5 := hf5.size
  have hs6 : w5.heap.size + 1 ≤ w6.heap.size := by have := hg6.size; simpa [World.drew] using this
  have hgC : C ≤ g := by
    rcases hat with e | e
    · exact (hown g e).1
    · omega
  have h56 : ∀ b, b < w5.heap.size → some b ≠ pv.ownBlock → w6.heap[b]? = w5.heap[b]? := fun b hb hne => by
    have h1 : (w5.alloc o).drew.heap[b]? = w5.heap[b]? := heap_alloc_old w5 _ hb
    rw [← h1]
    exact hg6.block b (by show b < (w5.alloc o).heap.size; simp; omega) hne
  have hlow : ∀ b, b < C → some b ≠ pv.ownBlock := fun b hb e => by have := (hown b e.symm).1; omega
  have hfW : Gf mb gb sb pv (.slice (some ⟨g, 0, none⟩) (U.length + 1) cap) wc W := by
    refine ⟨by rw [hos, hg6.os]; exact hf5.os, by rw [htp, hg6.tape]; exact hf5.tape, by rw [hout, hg6.output]; exact hf5.output, by omega, fun b hb h1 h2 h3 h4 => ?_, ?_⟩
    · rw [hWo b h2 (fun e => by
        rcases hat with e2 | e2
        · exact h4 (by rw [e2, e])
        · omega), h56 b (by omega) h4]
      exact hf5.block b hb h1 h2 h3 h4
    · show some g = _ ∨ _
      rcases hat with e | e
      · exact .inl e.symm
      · exact .inr ⟨g, rfl, by omega⟩
  have hTW : Tbl mb (tb ++ more) W := hA.gs.tbl.block (by rw [hWo mb (by omega) (by omega), h56 mb (by omega) (hlow mb (by omega)), hmb5])
  have hDW := ownsMap_block (w' := W) hD5 (by rw [hWo sb (fun e => q7 e.symm) (by omega), h56 sb (by omega) (hlow sb q4)])
  refine ⟨rfl, more, _, ?_, hA.len, hA.gf.trans hfW⟩
  rw [Ex.addS_new k U d x h2 hin hio]
  exact hA.gs.push hfW hTW hA.tv ht h2 hk htl hxs hD hm hc ho hDW
set_option maxHeartbeats 8000000 in
set_option maxRecDepth 100000 in
theorem add_new (ok : Nat → Prop) (B C mb gb sb k : Nat) (tb : List (List UInt8)) (U : List Ex) (d : Bool) (pv : Value) (x : Ex) (v : Value) (n : Nat) (q : Value) (w : World) (h : Gs ok B C mb gb sb k tb U d pv w) (hl : tb.length < 1000000) (hU : U.length < 1000000) (hx : IsTv (okp ok C pv) tb w x v n q) (ht : Ex.Td x) (h2 : 2 ≤ x.kind) (hxk : x.kind ≠ k) (hin : x ∉ U) (hio : Ex.other x ∉ U) :
    Calls Tryz.prog 159 #[.pointer (some ⟨gb, 0, none⟩), .agg #[v, .int .i64 (n : Int), q]] w (Added ok B C mb gb sb k tb U d pv x w) := by
  have hA2 := as_noConst x v hx.ex h2
  have hnl := num_lt hx.num
  obtain ⟨tu, yu, hiu⟩ := IsEx.iface x v hx.ex
  obtain ⟨pa, pb, pc, hps⟩ := hx.slice
  subst hiu hps
  obtain ⟨ts, htl, ho, hxs, D, hD, hm⟩ := h.rows
  have hin' : ¬ _ := fun e => hin ((h.there htl hxs ht hx.num).1 e)
  obtain ⟨o1, ho1⟩ : ∃ o1, o1 = (.cells #[.iface tu yu, .int .i64 (n : Int), .slice pa pb pc] 130 : Obj) := ⟨_, rfl⟩
  obtain ⟨w1, hw1⟩ : ∃ w1, w1 = w.alloc o1 := ⟨_, rfl⟩
  have hb1 : Below w.heap.size w w1 := by rw [hw1]; exact (Below.refl _ _).alloc (Nat.le_refl _) _
  have hr1 : w1.heap[w.heap.size]? = some (.cells #[.iface tu yu, .int .i64 (n : Int), .slice pa pb pc] 130 (0, 0)) := by rw [hw1, ho1]; exact heap_alloc_new w _
  have h1 := h.below hb1
  have e3 := h1.c3
  have d1 : w1.cell? ⟨w.heap.size, 1, none⟩ = some (.int .i64 (n : Int)) := by rw [Lib.cell_of_heap hr1]; rfl
  have hlt := h.lt
  have hsb : sb < w.heap.size := hD.lt
  have hs1 : w1.heap.size = w.heap.size + 1 := by rw [hw1]; simp
  obtain ⟨w2, hw2⟩ : ∃ w2, w2 = (w1.alloc (.cells #[] 274)).drew := ⟨_, rfl⟩
  have hb2 : Below w.heap.size w w2 := by rw [hw2]; exact (hb1.alloc hb1.size _).drew
  have hs2 : w2.heap.size = w.heap.size + 2 := by rw [hw2]; show (w1.alloc _).heap.size = _; simp; omega
  have hr2 : w2.heap[w.heap.size]? = some (.cells #[.iface tu yu, .int .i64 (n : Int), .slice pa pb pc] 130 (0, 0)) := by
    rw [hw2]; show (w1.alloc _).heap[w.heap.size]? = _
    rw [heap_alloc_old _ _ (by omega)]; exact hr1
  have hL1 := look_set (ns := ts.map fun t => t.2.1) (w := w1.drew) (ownsMap_block hD (hb1.drew.block sb hsb)) hm n (by omega)
  have hL2 := look_set (ns := ts.map fun t => t.2.1) (w := w2) (ownsMap_block hD (hb2.block sb hsb)) hm n (by omega)
  rw [hw2] at hL2
  rw [decide_eq_false hin'] at hL1 hL2
  have HC : Hid (∀ W, Below w.heap.size w W → Calls Tryz.prog 185 #[.pointer (some ⟨gb, 0, none⟩), .agg #[.iface tu yu, .int .i64 (n : Int), .slice pa pb pc]] W (Numbers mb tb (Ex.other x) W)) := by
    intro W hW
    exact otherSide_any _ mb gb tb x _ n _ W (h.below hW).tbl hl (h.below hW).pow (IsTv.stay [] (Stay.below hW) (fun _ h => h) x _ n _ hx |> fun h => by rw [List.append_nil] at h; exact h) ht (h.below hW).c0
  have HAFT : Hid (∀ W w4 m more, Below w2.heap.size w2 W → Tbl mb (tb ++ more) w4 → Ex.Num (tb ++ more) (Ex.other x) m → more.length ≤ 1 → W.grownBy w4 (some mb) → Asked ok B C mb gb sb k tb U d pv x (.iface tu yu) n (.slice pa pb pc) w.heap.size w w4 more ∧ (Instr.lookup 201 (.map (some sb)) (.int .i64 (m : Int)) true).run Tryz.prog w4 = .ok (.tuple #[.agg #[], .bool false]) w4 ∧
    (Instr.lookup 201 (.map (some sb)) (.int .i64 (m : Int)) true).run Tryz.prog (w4.alloc (.cells #[] 274)) = .ok (.tuple #[.agg #[], .bool false]) (w4.alloc (.cells #[] 274))) := by
    intro W w4 m more hW hq1 hq2 hq3 hq4
    have hbW : Below w.heap.size w W := hb2.trans (hW.mono hb2.size)
    have hxW : IsTv (okp ok C pv) tb W x (.iface tu yu) n (.slice pa pb pc) := (IsTv.stay [] (Stay.below hbW) (fun _ h => h) x _ n _ hx |> fun h => by rw [List.append_nil] at h; exact h)
    obtain ⟨g1, g2, g3, g4⟩ := (h.below hbW).afterOther hl hxW ht h2 hq1 hq2 hq3 hq4 false (by simpa using hio)
    have hmb := h.mbB; have hgb := h.gbB; have hgc := h.gbC; have hss := h.size; have hsW := hW.size
    have e := (hq4.block w.heap.size (by omega) (by simp; omega)).trans ((hW.block _ (by omega)).trans hr2)
    exact ⟨⟨g1, (Gf.below hbW).trans (Gf.grown hq4), g2, e, hq3⟩, g3, g4⟩
  have c3 : w2.cell? ⟨gb, 3, none⟩ = some (.map (some sb)) := (h.below hb2).c3
  have d20 : w2.cell? ⟨w.heap.size, 0, none⟩ = some (.iface tu yu) := by rw [Lib.cell_of_heap hr2]; rfl
  have d21 : w2.cell? ⟨w.heap.size, 1, none⟩ = some (.int .i64 (n : Int)) := by rw [Lib.cell_of_heap hr2]; rfl
  have d22 : w2.cell? ⟨w.heap.size, 2, none⟩ = some (.slice pa pb pc) := by rw [Lib.cell_of_heap hr2]; rfl
  have HBA : Hid (Below w2.heap.size w2 w2.drew) := (Below.refl _ _).drew
  have HBB : Hid (Below w2.heap.size w2 (w2.alloc (.cells #[] 274)).drew) := ((Below.refl _ _).alloc (Nat.le_refl _) _).drew
  have HB2 := hide hb2
  have HW1 := hide hw1
  have HW2 := hide hw2
  have HTD := hide ht
  have HIN := hide hin
  have HIO := hide hio
  have HOWN := hide h.own
  rw [ho1] at HW1
  clear ho1 hw1 hw2 o1 h1 h hb1 hb2 hr1 hr2 hD ho hxs hm htl hx ht hin hin' hs1 hs2 hio
  go_enter Tryz.func159, Tryz.ntmps159
  go_upto_region 4 with fail
  rw [← HW1.out]
  go_cut [7] from 10 (fun t wx => t = .bool false ∧ wx = (w1.alloc (.cells #[] 274)).drew)
  case first =>
    go_region_held3 (fun W => W.cell? ⟨gb, 3, none⟩ = some (.map (some sb)) ∧ W.cell? ⟨w.heap.size, 1, none⟩ = some (.int .i64 (n : Int))) (go_keep) (fail)
    all_goals (go_wp2_with fail; go_meet; exact ⟨rfl, rfl⟩)
  case rest =>
  obtain ⟨rfl, rfl⟩ := hcut
  rw [← HW2.out]
  clear hL1 hL2 e3 d1
  go_upto_region 6 with fail
  go_cut [9] from 10 (fun t wx => t = .bool false ∧ ∃ more, Hid (Asked ok B C mb gb sb k tb U d pv x (.iface tu yu) n (.slice pa pb pc) w.heap.size w wx more))
  case first =>
    go_region_held3 (fun W => W.cell? ⟨gb, 3, none⟩ = some (.map (some sb)) ∧ W.cell? ⟨w.heap.size, 0, none⟩ = some (.iface tu yu) ∧ W.cell? ⟨w.heap.size, 1, none⟩ = some (.int .i64 (n : Int)) ∧ W.cell? ⟨w.heap.size, 2, none⟩ = some (.slice pa pb pc)) (go_keep)
      ((go_at_call 185; first
        | ((with_reducible refine (HC.out w2.drew (HB2.out.trans (HBA.out.mono HB2.out.size))).mono ?_); rintro e w4 ⟨m, more, rfl, hq1, hq2, hq3, hq4⟩; obtain ⟨g1, g6, g7⟩ := HAFT.out _ _ _ _ HBA.out hq1 hq2 hq3 hq4; have g8 := g1.gs.c3; have g9 : w4.cell? ⟨w.heap.size, 0, none⟩ = some (.iface tu yu) := (by rw [Lib.cell_of_heap g1.row]; rfl); have g10 : w4.cell? ⟨w.heap.size, 1, none⟩ = some (.int .i64 (n : Int)) := (by rw [Lib.cell_of_heap g1.row]; rfl); have g11 : w4.cell? ⟨w.heap.size, 2, none⟩ = some (.slice pa pb pc) := (by rw [Lib.cell_of_heap g1.row]; rfl); have G1 := hide g1; clear g1)
        | ((with_reducible refine (HC.out (w2.alloc (.cells #[] 274)).drew (HB2.out.trans (HBB.out.mono HB2.out.size))).mono ?_); rintro e w4 ⟨m, more, rfl, hq1, hq2, hq3, hq4⟩; obtain ⟨g1, g6, g7⟩ := HAFT.out _ _ _ _ HBB.out hq1 hq2 hq3 hq4; have g8 := g1.gs.c3; have g9 : w4.cell? ⟨w.heap.size, 0, none⟩ = some (.iface tu yu) := (by rw [Lib.cell_of_heap g1.row]; rfl); have g10 : w4.cell? ⟨w.heap.size, 1, none⟩ = some (.int .i64 (n : Int)) := (by rw [Lib.cell_of_heap g1.row]; rfl); have g11 : w4.cell? ⟨w.heap.size, 2, none⟩ = some (.slice pa pb pc) := (by rw [Lib.cell_of_heap g1.row]; rfl); have G1 := hide g1; clear g1)))
    all_goals
      go_wp2_with fail
      go_meet
      first
        | exact ⟨rfl, more, G1.out⟩
        | exact ⟨rfl, more, G1.out.below ((Below.refl _ _).alloc (Nat.le_refl _) _)⟩
  case rest =>
  obtain ⟨rfl, more, HAS⟩ := hcut
  clear c3 d20 d21 d22 HC HAFT HBA HBB HB2 HW1 HW2
  obtain ⟨ts, htl, ho, hxs, D, hD, hm⟩ := HAS.out.gs.rows
  obtain ⟨i0, hi0, hz0, hz1, hz2⟩ := info_parts Tryz.infoTidied
  obtain ⟨pva, pvc, hpv⟩ : ∃ a c, pv = .slice a U.length c := by
    rcases ho.2 with ⟨hv, hn⟩ | ⟨g, cap, cur, hv, _⟩
    · exact ⟨_, _, by rw [hv, hn]⟩
    · exact ⟨_, _, hv⟩
  obtain ⟨w5, hupd, hD5, hg5⟩ := (show wc.drew.ownsMap _ _ _ _ _ _ from hD).update keyedInt Tryz.underlying201 (by unfold maxLen; omega) (keyInt n (by omega)) (unitElem_mk (H := Unit))
  have hg5' : wc.grownBy w5 (some sb) := ⟨hg5.os, hg5.tape, hg5.output, hg5.size, hg5.block⟩
  have hws : wc.heap.size ≤ w5.heap.size := hg5.size
  have hgf5 : Gf mb gb sb pv pv wc w5 := ⟨hg5.os, hg5.tape, hg5.output, hg5.size, fun g hg _ _ h3 _ => hg5.block g hg (by simpa using h3), .inl rfl⟩
  have q1 := HAS.out.gs.gbB; have q2 := HAS.out.gs.gbC; have q3 := HAS.out.gs.sbB; have q4 := HAS.out.gs.sbC; have q5 := HAS.out.gs.mbB; have q6 := HAS.out.gs.size; have q7 := HAS.out.gs.ne; have q8 := HAS.out.gf.size
  have hplt : w.heap.size < wc.heap.size := (Array.getElem?_eq_some_iff.1 HAS.out.row).1
  have c3 := HAS.out.gs.c3
  have d1 : wc.cell? ⟨w.heap.size, 1, none⟩ = some (.int .i64 (n : Int)) := by rw [Lib.cell_of_heap HAS.out.row]; rfl
  have hgb5 : w5.heap[gb]? = some (.cells #[.map (some mb), .bool (decide (k = 6)), pv, .map (some sb), .bool d] 203 (0, 0)) := (hg5.block gb HAS.out.gs.lt (by simp; omega)).trans HAS.out.gs.cells
  have hp5 : w5.heap[w.heap.size]? = some (.cells #[.iface tu yu, .int .i64 (n : Int), .slice pa pb pc] 130 (0, 0)) := (hg5.block _ hplt (by simp; omega)).trans HAS.out.row
  have HD5 := hide hD5
  have HG5 := hide hg5
  have HF5 := hide hgf5
  have HGB5 := hide hgb5
  have HP5 := hide hp5
  have HO := hide ho
  have HTL := hide htl
  have HXS := hide hxs
  have HDD := hide hD
  have HMM := hide hm
  have HPV := hide hpv
  have k3 : w5.cell? ⟨gb, 3, none⟩ = some (.map (some sb)) := by rw [Lib.cell_of_heap hgb5]; rfl
  have f0 : w5.cell? ⟨w.heap.size, 0, none⟩ = some (.iface tu yu) := by rw [Lib.cell_of_heap hp5]; rfl
  have f1 : w5.cell? ⟨w.heap.size, 1, none⟩ = some (.int .i64 (n : Int)) := by rw [Lib.cell_of_heap hp5]; rfl
  have f2 : w5.cell? ⟨w.heap.size, 2, none⟩ = some (.slice pa pb pc) := by rw [Lib.cell_of_heap hp5]; rfl
  have hgl5 : gb < w5.heap.size := (Array.getElem?_eq_some_iff.1 hgb5).1
  have hpl5 : w.heap.size < w5.heap.size := (Array.getElem?_eq_some_iff.1 hp5).1
  have ho5 : w5.ownsRow C 130 3 pv U.length (tflat3 ts) := ho.kept hg5' (by
    cases hv : pv.ownBlock with
    | none => exact .inl rfl
    | some b => right; intro e; simp only [Option.some.injEq] at e; have := (ho.lt b hv).1; omega)
  have HO5 := hide ho5
  have e2 : w5.cell? ⟨gb, 2, none⟩ = some (.slice pva U.length pvc) := by rw [Lib.cell_of_heap hgb5, ← hpv]; rfl
  have e2a : (w5.alloc (.cells #[.nilIface, .int .i64 0, .slice none 0 0] 130)).cell? ⟨gb, 2, none⟩ = some (.slice pva U.length pvc) := by rw [World.cell?_alloc_lt _ _ ⟨gb, 2, none⟩ hgl5]; exact e2
  have f0a : (w5.alloc (.cells #[.nilIface, .int .i64 0, .slice none 0 0] 130)).cell? ⟨w.heap.size, 0, none⟩ = some (.iface tu yu) := by rw [World.cell?_alloc_lt _ _ ⟨w.heap.size, 0, none⟩ hpl5]; exact f0
  have f1a : (w5.alloc (.cells #[.nilIface, .int .i64 0, .slice none 0 0] 130)).cell? ⟨w.heap.size, 1, none⟩ = some (.int .i64 (n : Int)) := by rw [World.cell?_alloc_lt _ _ ⟨w.heap.size, 1, none⟩ hpl5]; exact f1
  have f2a : (w5.alloc (.cells #[.nilIface, .int .i64 0, .slice none 0 0] 130)).cell? ⟨w.heap.size, 2, none⟩ = some (.slice pa pb pc) := by rw [World.cell?_alloc_lt _ _ ⟨w.heap.size, 2, none⟩ hpl5]; exact f2
  have HZ : Hid (∀ j u, [Value.nilIface, .int .i64 0, .slice none 0 0][j]? = some u → (w5.alloc (.cells #[.nilIface, .int .i64 0, .slice none 0 0] 130)).drew.cell? ((⟨w5.heap.size, 0, none⟩ : Addr).add j) = some u) := by
    have hr := heap_alloc_new w5 (.cells #[.nilIface, .int .i64 0, .slice none 0 0] 130)
    intro j u hj
    have := World.news_of_block (w := w5.alloc (.cells #[.nilIface, .int .i64 0, .slice none 0 0] 130)) hr j u (by simpa using hj)
    exact this
  have HAPP : Hid (∀ g cap w6, w6.ownsRow C 130 3 (.slice (some ⟨g, 0, none⟩) (U.length + 1) cap) (U.length + 1) (tflat3 ts ++ [.nilIface, .int .i64 0, .slice none 0 0]) → (w5.alloc (.cells #[.nilIface, .int .i64 0, .slice none 0 0] 130)).drew.grownBy w6 pv.ownBlock → (pv.ownBlock = some g ∨ g = w5.heap.size + 1) →
      (g ≠ gb ∧ g ≠ w.heap.size ∧ C ≤ g) ∧ (w6.cell? ⟨w.heap.size, 0, none⟩ = some (.iface tu yu) ∧ w6.cell? ⟨w.heap.size, 1, none⟩ = some (.int .i64 (n : Int)) ∧ w6.cell? ⟨w.heap.size, 2, none⟩ = some (.slice pa pb pc)) ∧ (w6.cell? ⟨gb, 2, none⟩ = some (.slice pva U.length pvc) ∧ w6.frozen? ⟨gb, 2, none⟩ = false) ∧
      (w6.cell? ⟨g, U.length * 3, none⟩ = some .nilIface ∧ w6.cell? ⟨g, U.length * 3 + 1, none⟩ = some (.int .i64 0) ∧ w6.cell? ⟨g, U.length * 3 + 2, none⟩ = some (.slice none 0 0)) ∧ (∀ j, w6.frozen? ⟨g, j, none⟩ = false)) := by
    intro g cap w6 ho6 hg6 hat
    have hown := HOWN.out
    have hg0 : C ≤ g := by
      rcases hat with e | e
      · exact (hown g e).1
      · omega
    have hgp : g ≠ w.heap.size := by
      rcases hat with e | e
      · have := (hown g e).2; omega
      · omega
    have hne : ∀ b, b < w5.heap.size → (b = gb ∨ b = w.heap.size) → w6.heap[b]? = w5.heap[b]? := by
      intro b hb hbe
      have h1 : (w5.alloc (.cells #[.nilIface, .int .i64 0, .slice none 0 0] 130)).drew.heap[b]? = w5.heap[b]? := heap_alloc_old w5 _ hb
      rw [← h1]
      refine hg6.block b (by show b < (w5.alloc _).heap.size; simp; omega) (fun e => ?_)
      have h2 := hown b e.symm
      omega
    have r1 := (hne gb hgl5 (.inl rfl)).trans hgb5
    have r2 := (hne _ hpl5 (.inr rfl)).trans hp5
    have hfl := flat3_len ts
    have hcell : ∀ j, j < 3 → w6.cell? ⟨g, U.length * 3 + j, none⟩ = [Value.nilIface, .int .i64 0, .slice none 0 0][j]? := by
      intro j hj
      rw [ho6.cellAt (U.length * 3 + j) (by omega), List.getElem?_append_right (by omega), show U.length * 3 + j - (tflat3 ts).length = j by omega]
    exact ⟨⟨by omega, hgp, hg0⟩, ⟨by rw [Lib.cell_of_heap r2]; rfl, by rw [Lib.cell_of_heap r2]; rfl, by rw [Lib.cell_of_heap r2]; rfl⟩, ⟨by rw [Lib.cell_of_heap r1, ← hpv]; rfl, Lib.frozen_of_heap r1 2⟩, ⟨hcell 0 (by omega), hcell 1 (by omega), hcell 2 (by omega)⟩, fun j => ho6.frozenAt j⟩
  have HEND : Hid (∀ g cap w6, w6.ownsRow C 130 3 (.slice (some ⟨g, 0, none⟩) (U.length + 1) cap) (U.length + 1) (tflat3 ts ++ [.nilIface, .int .i64 0, .slice none 0 0]) → (w5.alloc (.cells #[.nilIface, .int .i64 0, .slice none 0 0] 130)).drew.grownBy w6 pv.ownBlock → (pv.ownBlock = some g ∨ g = w5.heap.size + 1) →
      Added ok B C mb gb sb k tb U d pv x w (.returned (.tuple #[])) ((((w6.setCell ⟨g, U.length * 3, none⟩ (.iface tu yu)).setCell ⟨g, U.length * 3 + 1, none⟩ (.int .i64 (n : Int))).setCell ⟨g, U.length * 3 + 2, none⟩ (.slice pa pb pc)).setCell ⟨gb, 2, none⟩ (.slice (some ⟨g, 0, none⟩) (U.length + 1) cap)) ∧
      Added ok B C mb gb sb k tb U d pv x w (.returned (.tuple #[])) ((((w6.setCell ⟨gb, 2, none⟩ (.slice (some ⟨g, 0, none⟩) (U.length + 1) cap)).setCell ⟨g, U.length * 3, none⟩ (.iface tu yu)).setCell ⟨g, U.length * 3 + 1, none⟩ (.int .i64 (n : Int))).setCell ⟨g, U.length * 3 + 2, none⟩ (.slice pa pb pc))) := by
    intro g cap w6 ho6 hg6 hat6
    have x16 : gb ≠ g := fun e => (HAPP.out g cap w6 ho6 hg6 hat6).1.1 e.symm
    have hgb6 : w6.heap[gb]? = some (.cells #[.map (some mb), .bool (decide (k = 6)), pv, .map (some sb), .bool d] 203 (0, 0)) := by
      have h1 : (w5.alloc (.cells #[.nilIface, .int .i64 0, .slice none 0 0] 130)).drew.heap[gb]? = w5.heap[gb]? := heap_alloc_old w5 _ hgl5
      rw [← hgb5, ← h1]
      exact hg6.block gb (by show gb < (w5.alloc _).heap.size; simp; omega) (fun e => by have := HOWN.out gb e.symm; omega)
    have hmb5 : w5.heap[mb]? = wc.heap[mb]? := hg5'.block mb HAS.out.gs.tbl.lt (by simp; omega)
    constructor
    · obtain ⟨r1, r2⟩ := row_put htl.symm ho6 (.iface tu yu) n (.slice pa pb pc)
      refine add_end (cap := cap) HAS.out HTD.out h2 hxk HIN.out HIO.out htl hxs hD hm hD5 hgf5 hmb5 hg6 hat6 rfl rfl rfl (by simp [World.setCell]) ?_ ?_ ?_
      · intro b hb1 hb2
        rw [Below.heap_setCell _ _ _ _ (by simpa using hb1), Below.heap_setCell _ _ _ _ (by simpa using hb2), Below.heap_setCell _ _ _ _ (by simpa using hb2), Below.heap_setCell _ _ _ _ (by simpa using hb2)]
      · exact five_set2 ((r2.block gb (Array.getElem?_eq_some_iff.1 hgb6).1 (by simpa using x16)).trans hgb6) _
      · exact ownsRow_setCell_below r1 (by simpa using q2) _
    · have ho7 := ownsRow_setCell_below ho6 (a := ⟨gb, 2, none⟩) (by simpa using q2) (.slice (some ⟨g, 0, none⟩) (U.length + 1) cap)
      obtain ⟨r1, r2⟩ := row_put htl.symm ho7 (.iface tu yu) n (.slice pa pb pc)
      refine add_end (cap := cap) HAS.out HTD.out h2 hxk HIN.out HIO.out htl hxs hD hm hD5 hgf5 hmb5 hg6 hat6 rfl rfl rfl (by simp [World.setCell]) ?_ ?_ r1
      · intro b hb1 hb2
        rw [Below.heap_setCell _ _ _ _ (by simpa using hb2), Below.heap_setCell _ _ _ _ (by simpa using hb2), Below.heap_setCell _ _ _ _ (by simpa using hb2), Below.heap_setCell _ _ _ _ (by simpa using hb1)]
      · have r3 := five_set2 hgb6 (.slice (some ⟨g, 0, none⟩) (U.length + 1) cap)
        exact (r2.block gb (Array.getElem?_eq_some_iff.1 r3).1 (by simpa using x16)).trans r3
  have hi1 : (0 : Int) ≤ (U.length : Int) := by omega
  have hi2 : (U.length : Int) < (U.length : Int) + 1 := by omega
  clear hD5 hg5 hg5' hgf5 hgb5 hp5 ho htl hxs hD hm ho5 hpv HD5 HG5 HF5 HGB5 HP5 HO HXS HDD HMM HTD HIN HIO HTL q1 q3 q4 q5 q7 q8 hplt
  go_wp2_with fail
  go_region_held3 (fun W => W.cell? ⟨gb, 3, none⟩ = some (.map (some sb)) ∧ W.cell? ⟨w.heap.size, 1, none⟩ = some (.int .i64 (n : Int))) (go_keep) (fail)
  go_wp2_with fail
  clear c3 d1 hupd k3
  go_region_law
    ((refine step_append_lies _ rfl (.tmp 68) (.tmp 71) 128 rfl C 130 i0 (.agg #[.nilIface, .int .i64 0, .slice none 0 0]) 3 48 Tryz.underlying128 hi0 hz0 hz1 hz2 rfl (by decide) pv U.length (tflat3 ts) HPV.out.symm (HO5.out.alloc _) ⟨w5.heap.size, 0, none⟩ 1 1 [.nilIface, .int .i64 0, .slice none 0 0] rfl rfl HZ.out (by simp [Value.oneCell']) (by decide) (by unfold maxLen; omega) (by omega) (by show C ≤ (w5.alloc _).heap.size; simp; omega) (w5.heap.size + 1) (by show (w5.alloc _).heap.size = _; simp) ?_; intro g cap w6 ho6 hg6 hat6 hgl6; obtain ⟨⟨x1, x2, x3⟩, ⟨x4, x5, x6⟩, ⟨x7, x8⟩, ⟨x9, x10, x11⟩, x12⟩ := HAPP.out g cap w6 ho6 hg6 hat6; have x13 := x12 (U.length * 3); have x14 := x12 (U.length * 3 + 1); have x15 := x12 (U.length * 3 + 2); have x16 : gb ≠ g := Ne.symm x1; have x17 : w.heap.size ≠ g := Ne.symm x2; have y4 := (World.cell?_setCell_far w6 ⟨gb, 2, none⟩ ⟨w.heap.size, 0, none⟩ (.slice (some ⟨g, 0, none⟩) (U.length + 1) cap) (by dsimp only; omega)).trans x4; have y5 := (World.cell?_setCell_far w6 ⟨gb, 2, none⟩ ⟨w.heap.size, 1, none⟩ (.slice (some ⟨g, 0, none⟩) (U.length + 1) cap) (by dsimp only; omega)).trans x5; have y6 := (World.cell?_setCell_far w6 ⟨gb, 2, none⟩ ⟨w.heap.size, 2, none⟩ (.slice (some ⟨g, 0, none⟩) (U.length + 1) cap) (by dsimp only; omega)).trans x6))
  all_goals go_wp2_with fail
  all_goals go_end0
  all_goals
    obtain ⟨hEA, hEB⟩ := HEND.out g cap w6 ho6 hg6 hat6
    first
      | with_reducible exact hEA
      | with_reducible exact hEB
theorem add_any (ok : Nat → Prop) (B C mb gb sb k : Nat) (hk : k = 6 ∨ k = 7) (tb : List (List UInt8)) (U : List Ex) (d : Bool) (pv : Value) (x : Ex) (v : Value) (n : Nat) (q : Value) (w : World) (h : Gs ok B C mb gb sb k tb U d pv w) (hl : tb.length < 1000000) (hU : U.length < 1000000) (hx : IsTv (okp ok C pv) tb w x v n q) (ht : Ex.Td x) (hxk : x.kind ≠ k) :
    Calls Tryz.prog 159 #[.pointer (some ⟨gb, 0, none⟩), .agg #[v, .int .i64 (n : Int), q]] w (Added ok B C mb gb sb k tb U d pv x w) := by
  by_cases h2 : 2 ≤ x.kind
  · by_cases hin : x ∈ U
    · exact add_there ok B C mb gb sb k tb U d pv x v n q w h (by omega) hx ht h2 hin
    · by_cases hio : Ex.other x ∈ U
      · exact add_other ok B C mb gb sb k tb U d pv x v n q w h hl hx ht h2 hin hio
      · exact add_new ok B C mb gb sb k tb U d pv x v n q w h hl hU hx ht h2 hxk hin hio
  · obtain ⟨j, nm, l⟩ := x
    rw [IsTv.def] at hx
    obtain ⟨h1, _, h3⟩ := hx
    have hpv : q = .slice none 0 0 := by
      rcases h3 with h3 | h3
      · exact h3.2
      · simp only at h2; omega
    subst hpv
    match j, h1 with
    | 0, h1 =>
      simp only [IsEx] at h1
      obtain ⟨rfl, rfl, rfl⟩ := h1
      exact add_const ok B C mb gb sb k hk tb U d pv false n w h
    | 1, h1 =>
      simp only [IsEx] at h1
      obtain ⟨rfl, rfl, rfl⟩ := h1
      exact add_const ok B C mb gb sb k hk tb U d pv true n w h
    | j + 2, _ => simp at h2
end
end Go.Proofs.YtdlcelbbelcfkaaGreatDoor
