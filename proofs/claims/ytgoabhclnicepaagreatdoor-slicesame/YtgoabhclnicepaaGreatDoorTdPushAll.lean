/-
  The walk of add: a constant. The walk of add: a part that is there already. The walk of add: a part whose other side is there. The gathering with one part more.
-/
import Derived.Test.YtgoabhclnicepaaGreatDoorTdNewAll
import Derived.Deep.AppendLies
namespace Go.Proofs.YtgoabhclnicepaaGreatDoor
section
open Go.RowKit Go.Maps
/-- what adding a part comes to -/
def Added (ok : Nat → Prop) (B C mb gb sb k : Nat) (tb : List (List UInt8)) (U : List Ex) (d : Bool) (pv : Value) (x : Ex) (w : World) (e : Ending) (w' : World) : Prop :=
  e = .returned (.tuple #[]) ∧ ∃ more pv', Gs ok B C mb gb sb k (tb ++ more) (Ex.addS k U d x).1 (Ex.addS k U d x).2 pv' w' ∧ more.length ≤ 1 ∧ Gf mb gb sb pv pv' w w'
section
variable {ok : Nat → Prop} {B C mb gb sb k : Nat} {tb more : List (List UInt8)} {U : List Ex} {d : Bool} {pv pv' : Value} {w w' : World}
theorem Gs.below (h : Gs ok B C mb gb sb k tb U d pv w) (hb : Below w.heap.size w w') : Gs ok B C mb gb sb k tb U d pv w' := by
  have := h.grown (more := []) (grown_of_below hb _) (by rw [List.append_nil]; exact h.tbl.kept (row := none) (grown_of_below hb _) (by simp))
  rwa [List.append_nil] at this
theorem Gs.f (h : Gs ok B C mb gb sb k tb U d pv w) (j : Nat) : w.frozen? ⟨gb, j, none⟩ = false := Lib.frozen_of_heap h.cells j
theorem Gs.lt (h : Gs ok B C mb gb sb k tb U d pv w) : gb < w.heap.size := World.block_lt_of_cell? _ _ h.c0
end
set_option maxHeartbeats 4000000 in
set_option maxRecDepth 100000 in
theorem add_const (ok : Nat → Prop) (B C mb gb sb k : Nat) (hk : k = 6 ∨ k = 7) (tb : List (List UInt8)) (U : List Ex) (d : Bool) (pv : Value) (c : Bool) (n : Nat) (w : World) (h : Gs ok B C mb gb sb k tb U d pv w) :
    Calls Tryz.prog 121 #[.pointer (some ⟨gb, 0, none⟩), .agg #[.iface 113 (.bool c), .int .i64 (n : Int), .slice none 0 0]] w (Added ok B C mb gb sb k tb U d pv ⟨if c then 1 else 0, [], []⟩ w) := by
  obtain ⟨o1, ho1⟩ : ∃ o1, o1 = (.cells #[.iface 113 (.bool c), .int .i64 (n : Int), .slice none 0 0] 111 : Obj) := ⟨_, rfl⟩
  have hb1 : Below w.heap.size w (w.alloc o1) := (Below.refl _ _).alloc (Nat.le_refl _) _
  have h1 := h.below hb1
  have e4 := h1.c4
  have e1 := h1.c1
  have f4 := h1.f 4
  have hlt := h.lt
  have HEND : Hid (∀ d' : Bool, d' = (d || decide ((if c then 1 else 0) = Ex.allK k)) → Added ok B C mb gb sb k tb U d pv ⟨if c then 1 else 0, [], []⟩ w (.returned (.tuple #[])) ((w.setCell ⟨gb, 4, none⟩ (.bool d')).alloc o1)) := by
    intro d' hd
    have hb2 : Below (w.setCell ⟨gb, 4, none⟩ (.bool d')).heap.size (w.setCell ⟨gb, 4, none⟩ (.bool d')) ((w.setCell ⟨gb, 4, none⟩ (.bool d')).alloc o1) := (Below.refl _ _).alloc (Nat.le_refl _) _
    refine ⟨rfl, [], pv, ?_, by simp, (Gf.set mb gb sb pv w 4 _).trans (Gf.below hb2)⟩
    rw [Ex.addS_const k U d _ (by cases c <;> simp), List.append_nil]
    show Gs ok B C mb gb sb k tb U _ pv _
    rw [← hd]
    exact (h.decide d').below hb2
  rw [ho1] at *
  clear ho1 o1 h1 h hb1
  rcases hk with rfl | rfl <;> cases d <;> cases c
  all_goals
    simp only [decide_true, show decide (7 = 6) = false from rfl] at e1
    go_enter Tryz.func121, Tryz.ntmps121
    go_wp2_with fail
    go_end0
    first
      | exact HEND.out true (by decide)
      | exact HEND.out false (by decide)
theorem keyedInt : Keyed Tryz.prog 3 := int_keyed Tryz.underlying3
theorem keyInt (m : Nat) (h : m ≤ 1000000) : keyOf Tryz.prog 3 (.int .i64 (m : Int)) = some (.int .i64 (m : Int)) := Go.Maps.keyOf_int_mk Tryz.underlying3 (WalkArith.wf_i64 (by omega))
theorem zeroUnit (w : World) : (zeroValue 209).run Tryz.prog w = .ok (.agg #[]) w := by kernel_rfl
theorem ownsMap_block {H : Type} {P : Program} {k : TypeId} {R : Value → Option (DataW H × List MemPlace)} {w w' : World} {b n : Nat} {D : DataW H} (h : w.ownsMap P k R b n D) (e : w'.heap[b]? = w.heap[b]?) : w'.ownsMap P k R b n D := by
  obtain ⟨es, clock, hb, r⟩ := h
  exact ⟨es, clock, e.trans hb, r⟩
/-- asking the set of numbers -/
theorem look_set {w : World} {sb N : Nat} {D : DataW Unit} {ns : List Nat} (hD : w.ownsMap Tryz.prog 3 (unitElem (H := Unit)) sb N D) (hm : ∀ m : Nat, Maps.has D (.int .i64 (m : Int)) = decide (m ∈ ns)) (m : Nat) (h : m ≤ 1000000) :
    (Instr.lookup 167 (.map (some sb)) (.int .i64 (m : Int)) true).run Tryz.prog w = .ok (.tuple #[.agg #[], .bool (decide (m ∈ ns))]) w := by
  obtain ⟨v, ps, hrun, hv⟩ := hD.look_ok keyedInt Tryz.underlying167 (zeroUnit w) (unitElem_mk (H := Unit)) (keyInt m h)
  obtain ⟨rfl, _⟩ := unitElem_inv hv
  rw [hrun, hm]
set_option maxHeartbeats 4000000 in
set_option maxRecDepth 100000 in
theorem add_there (ok : Nat → Prop) (B C mb gb sb k : Nat) (tb : List (List UInt8)) (U : List Ex) (d : Bool) (pv : Value) (x : Ex) (v : Value) (n : Nat) (q : Value) (w : World) (h : Gs ok B C mb gb sb k tb U d pv w) (hl : tb.length ≤ 1000000) (hx : IsTv (okp ok C pv) tb w x v n q) (ht : Ex.Td x) (h2 : 2 ≤ x.kind) (hin : x ∈ U) :
    Calls Tryz.prog 121 #[.pointer (some ⟨gb, 0, none⟩), .agg #[v, .int .i64 (n : Int), q]] w (Added ok B C mb gb sb k tb U d pv x w) := by
  have hA2 := as_noConst x v hx.ex h2
  have hnl := num_lt hx.num
  obtain ⟨tu, yu, hiu⟩ := IsEx.iface x v hx.ex
  obtain ⟨pa, pb, pc, hps⟩ := hx.slice
  subst hiu hps
  obtain ⟨ts, htl, ho, hxs, D, hD, hm⟩ := h.rows
  have hin' := (h.there htl hxs ht hx.num).2 hin
  obtain ⟨o1, ho1⟩ : ∃ o1, o1 = (.cells #[.iface tu yu, .int .i64 (n : Int), .slice pa pb pc] 111 : Obj) := ⟨_, rfl⟩
  obtain ⟨w1, hw1⟩ : ∃ w1, w1 = w.alloc o1 := ⟨_, rfl⟩
  have hb1 : Below w.heap.size w w1 := by rw [hw1]; exact (Below.refl _ _).alloc (Nat.le_refl _) _
  have hr1 : w1.heap[w.heap.size]? = some (.cells #[.iface tu yu, .int .i64 (n : Int), .slice pa pb pc] 111 (0, 0)) := by rw [hw1, ho1]; exact heap_alloc_new w _
  have h1 := h.below hb1
  have e3 := h1.c3
  have d1 : w1.cell? ⟨w.heap.size, 1, none⟩ = some (.int .i64 (n : Int)) := by rw [Lib.cell_of_heap hr1]; rfl
  have hlt := h.lt
  have hsb : sb < w.heap.size := hD.lt
  have hs1 : w1.heap.size = w.heap.size + 1 := by rw [hw1]; simp
  have hb2 : Below w.heap.size w ((w1.alloc (.cells #[] 209)).drew) := (hb1.alloc hb1.size _).drew
  have hL1 := look_set (ns := ts.map fun t => t.2.1) (w := w1.drew) (ownsMap_block hD (hb1.drew.block sb hsb)) hm n (by omega)
  have hL2 := look_set (ns := ts.map fun t => t.2.1) (w := (w1.alloc (.cells #[] 209)).drew) (ownsMap_block hD (hb2.block sb hsb)) hm n (by omega)
  rw [decide_eq_true hin'] at hL1 hL2
  have HEND : Hid (Added ok B C mb gb sb k tb U d pv x w (.returned (.tuple #[])) ((w1.alloc (.cells #[] 209)).drew)) := by
    refine ⟨rfl, [], pv, ?_, by simp, Gf.below hb2⟩
    rw [Ex.addS_mem k U d x h2 hin, List.append_nil]
    exact h.below hb2
  have HW1 := hide hw1
  rw [ho1] at HW1
  have HNE := hide hs1
  clear ho1 hw1 o1 h1 h hb1 hb2 hr1 hD ho hxs hm htl hx ht hin hin' hs1
  go_enter Tryz.func121, Tryz.ntmps121
  go_wp2_with fail
  rw [← HW1.out]
  go_region_held3 (fun W => W.cell? ⟨gb, 3, none⟩ = some (.map (some sb)) ∧ W.cell? ⟨w.heap.size, 1, none⟩ = some (.int .i64 (n : Int))) (go_keep) (fail)
  all_goals go_wp2_with fail
  all_goals go_end0
  all_goals exact HEND.out
theorem Added.below {ok : Nat → Prop} {B C mb gb sb k : Nat} {tb : List (List UInt8)} {U : List Ex} {d : Bool} {pv : Value} {x : Ex} {w : World} {e : Ending} {w' w'' : World} (h : Added ok B C mb gb sb k tb U d pv x w e w') (hb : Below w'.heap.size w' w'') : Added ok B C mb gb sb k tb U d pv x w e w'' := by
  obtain ⟨he, more, pv', hg, hm, hf⟩ := h
  exact ⟨he, more, pv', hg.below hb, hm, hf.trans (Gf.below hb)⟩
/-- behind otherSide: the set is asked for the other side's number -/
theorem Gs.afterOther {ok : Nat → Prop} {B C mb gb sb k : Nat} {tb more : List (List UInt8)} {U : List Ex} {d : Bool} {pv : Value} {W w4 : World} {x : Ex} {v : Value} {n m : Nat} {q : Value} (h : Gs ok B C mb gb sb k tb U d pv W) (hl : tb.length < 1000000) (hx : IsTv (okp ok C pv) tb W x v n q) (ht : Ex.Td x) (h2 : 2 ≤ x.kind) (hq1 : Tbl mb (tb ++ more) w4) (hq2 : Ex.Num (tb ++ more) (Ex.other x) m) (hq3 : more.length ≤ 1) (hq4 : W.grownBy w4 (some mb)) (b : Bool) (hb : b = true ↔ Ex.other x ∈ U) :
    Gs ok B C mb gb sb k (tb ++ more) U d pv w4 ∧ IsTv (okp ok C pv) (tb ++ more) w4 x v n q ∧ (Instr.lookup 167 (.map (some sb)) (.int .i64 (m : Int)) true).run Tryz.prog w4 = .ok (.tuple #[.agg #[], .bool b]) w4 ∧
    (Instr.lookup 167 (.map (some sb)) (.int .i64 (m : Int)) true).run Tryz.prog (w4.alloc (.cells #[] 209)) = .ok (.tuple #[.agg #[], .bool b]) (w4.alloc (.cells #[] 209)) := by
  have h4 := h.grown hq4 hq1
  have hml := num_lt hq2
  rw [List.length_append] at hml
  obtain ⟨ts, htl, ho, hxs, D, hD, hm⟩ := h4.rows
  have hin := h4.there htl hxs (Ex.td_other ht h2).1 hq2
  have e : Decidable.decide (m ∈ ts.map fun t => t.2.1) = b := by
    rw [Bool.eq_iff_iff, decide_eq_true_eq, hin, hb]
  refine ⟨h4, h.keep (Gf.grown hq4) more hx, ?_, ?_⟩
  · rw [← e]; exact look_set hD hm m (by omega)
  · rw [← e]; exact look_set (hD.alloc _) hm m (by omega)
set_option maxHeartbeats 4000000 in
set_option maxRecDepth 100000 in
theorem add_other (ok : Nat → Prop) (B C mb gb sb k : Nat) (tb : List (List UInt8)) (U : List Ex) (d : Bool) (pv : Value) (x : Ex) (v : Value) (n : Nat) (q : Value) (w : World) (h : Gs ok B C mb gb sb k tb U d pv w) (hl : tb.length < 1000000) (hx : IsTv (okp ok C pv) tb w x v n q) (ht : Ex.Td x) (h2 : 2 ≤ x.kind) (hin : x ∉ U) (hio : Ex.other x ∈ U) :
    Calls Tryz.prog 121 #[.pointer (some ⟨gb, 0, none⟩), .agg #[v, .int .i64 (n : Int), q]] w (Added ok B C mb gb sb k tb U d pv x w) := by
  have hA2 := as_noConst x v hx.ex h2
  have hnl := num_lt hx.num
  obtain ⟨tu, yu, hiu⟩ := IsEx.iface x v hx.ex
  obtain ⟨pa, pb, pc, hps⟩ := hx.slice
  subst hiu hps
  obtain ⟨ts, htl, ho, hxs, D, hD, hm⟩ := h.rows
  have hin' : ¬ _ := fun e => hin ((h.there htl hxs ht hx.num).1 e)
  obtain ⟨o1, ho1⟩ : ∃ o1, o1 = (.cells #[.iface tu yu, .int .i64 (n : Int), .slice pa pb pc] 111 : Obj) := ⟨_, rfl⟩
  obtain ⟨w1, hw1⟩ : ∃ w1, w1 = w.alloc o1 := ⟨_, rfl⟩
  have hb1 : Below w.heap.size w w1 := by rw [hw1]; exact (Below.refl _ _).alloc (Nat.le_refl _) _
  have hr1 : w1.heap[w.heap.size]? = some (.cells #[.iface tu yu, .int .i64 (n : Int), .slice pa pb pc] 111 (0, 0)) := by rw [hw1, ho1]; exact heap_alloc_new w _
  have h1 := h.below hb1
  have e3 := h1.c3
  have d1 : w1.cell? ⟨w.heap.size, 1, none⟩ = some (.int .i64 (n : Int)) := by rw [Lib.cell_of_heap hr1]; rfl
  have hlt := h.lt
  have hsb : sb < w.heap.size := hD.lt
  have hs1 : w1.heap.size = w.heap.size + 1 := by rw [hw1]; simp
  obtain ⟨w2, hw2⟩ : ∃ w2, w2 = (w1.alloc (.cells #[] 209)).drew := ⟨_, rfl⟩
  have hb2 : Below w.heap.size w w2 := by rw [hw2]; exact (hb1.alloc hb1.size _).drew
  have hs2 : w2.heap.size = w.heap.size + 2 := by rw [hw2]; show (w1.alloc _).heap.size = _; simp; omega
  have hr2 : w2.heap[w.heap.size]? = some (.cells #[.iface tu yu, .int .i64 (n : Int), .slice pa pb pc] 111 (0, 0)) := by
    rw [hw2]; show (w1.alloc _).heap[w.heap.size]? = _
    rw [heap_alloc_old _ _ (by omega)]; exact hr1
  have hL1 := look_set (ns := ts.map fun t => t.2.1) (w := w1.drew) (ownsMap_block hD (hb1.drew.block sb hsb)) hm n (by omega)
  have hL2 := look_set (ns := ts.map fun t => t.2.1) (w := w2) (ownsMap_block hD (hb2.block sb hsb)) hm n (by omega)
  rw [hw2] at hL2
  rw [decide_eq_false hin'] at hL1 hL2
  have HC : Hid (∀ W, Below w.heap.size w W → Calls Tryz.prog 143 #[.pointer (some ⟨gb, 0, none⟩), .agg #[.iface tu yu, .int .i64 (n : Int), .slice pa pb pc]] W (Numbers mb tb (Ex.other x) W)) := by
    intro W hW
    exact otherSide_any _ mb gb tb x _ n _ W (h.below hW).tbl hl (h.below hW).pow (IsTv.stay [] (Stay.below hW) (fun _ h => h) x _ n _ hx |> fun h => by rw [List.append_nil] at h; exact h) ht (h.below hW).c0
  have HAFT : Hid (∀ W w4 m more, Below w2.heap.size w2 W → Tbl mb (tb ++ more) w4 → Ex.Num (tb ++ more) (Ex.other x) m → more.length ≤ 1 → W.grownBy w4 (some mb) → Gs ok B C mb gb sb k (tb ++ more) U d pv w4 ∧ Gf mb gb sb pv pv w w4 ∧ (w4.cell? ⟨w.heap.size, 0, none⟩ = some (.iface tu yu) ∧ w4.cell? ⟨w.heap.size, 1, none⟩ = some (.int .i64 (n : Int)) ∧ w4.cell? ⟨w.heap.size, 2, none⟩ = some (.slice pa pb pc)) ∧ (Instr.lookup 167 (.map (some sb)) (.int .i64 (m : Int)) true).run Tryz.prog w4 = .ok (.tuple #[.agg #[], .bool true]) w4 ∧
    (Instr.lookup 167 (.map (some sb)) (.int .i64 (m : Int)) true).run Tryz.prog (w4.alloc (.cells #[] 209)) = .ok (.tuple #[.agg #[], .bool true]) (w4.alloc (.cells #[] 209))) := by
    intro W w4 m more hW hq1 hq2 hq3 hq4
    have hbW : Below w.heap.size w W := hb2.trans (hW.mono hb2.size)
    have hxW : IsTv (okp ok C pv) tb W x (.iface tu yu) n (.slice pa pb pc) := (IsTv.stay [] (Stay.below hbW) (fun _ h => h) x _ n _ hx |> fun h => by rw [List.append_nil] at h; exact h)
    obtain ⟨g1, _, g3, g4⟩ := (h.below hbW).afterOther hl hxW ht h2 hq1 hq2 hq3 hq4 true (by simpa using hio)
    have hmb := h.mbB; have hgb := h.gbB; have hgc := h.gbC; have hss := h.size; have hsW := hW.size
    have e := (hq4.block w.heap.size (by omega) (by simp; omega)).trans ((hW.block _ (by omega)).trans hr2)
    exact ⟨g1, (Gf.below hbW).trans (Gf.grown hq4), ⟨by rw [Lib.cell_of_heap e]; rfl, by rw [Lib.cell_of_heap e]; rfl, by rw [Lib.cell_of_heap e]; rfl⟩, g3, g4⟩
  have HEND : Hid (∀ w4 more, Gs ok B C mb gb sb k (tb ++ more) U d pv w4 → more.length ≤ 1 → Gf mb gb sb pv pv w w4 → Added ok B C mb gb sb k tb U d pv x w (.returned (.tuple #[])) (w4.setCell ⟨gb, 4, none⟩ (.bool true))) := by
    intro w4 more h4 hml hf
    refine ⟨rfl, more, pv, ?_, hml, hf.trans (Gf.set mb gb sb pv w4 4 _)⟩
    rw [Ex.addS_other k U d x h2 hin hio]
    exact h4.decide true
  have c3 : w2.cell? ⟨gb, 3, none⟩ = some (.map (some sb)) := (h.below hb2).c3
  have d20 : w2.cell? ⟨w.heap.size, 0, none⟩ = some (.iface tu yu) := by rw [Lib.cell_of_heap hr2]; rfl
  have d21 : w2.cell? ⟨w.heap.size, 1, none⟩ = some (.int .i64 (n : Int)) := by rw [Lib.cell_of_heap hr2]; rfl
  have d22 : w2.cell? ⟨w.heap.size, 2, none⟩ = some (.slice pa pb pc) := by rw [Lib.cell_of_heap hr2]; rfl
  have HBA : Hid (Below w2.heap.size w2 w2.drew) := (Below.refl _ _).drew
  have HBB : Hid (Below w2.heap.size w2 (w2.alloc (.cells #[] 209)).drew) := ((Below.refl _ _).alloc (Nat.le_refl _) _).drew
  have HB2 := hide hb2
  have HW1 := hide hw1
  have HW2 := hide hw2
  rw [ho1] at HW1
  clear ho1 hw1 hw2 o1 h1 h hb1 hb2 hr1 hr2 hD ho hxs hm htl hx ht hin hin' hs1 hs2
  go_enter Tryz.func121, Tryz.ntmps121
  go_wp2_with fail
  rw [← HW1.out]
  go_region_held3 (fun W => W.cell? ⟨gb, 3, none⟩ = some (.map (some sb)) ∧ W.cell? ⟨w.heap.size, 1, none⟩ = some (.int .i64 (n : Int))) (go_keep) (fail)
  all_goals go_wp2_with fail
  all_goals rw [← HW2.out]
  all_goals clear hL1 hL2 e3 d1
  all_goals go_region_held3 (fun W => W.cell? ⟨gb, 3, none⟩ = some (.map (some sb)) ∧ W.cell? ⟨w.heap.size, 0, none⟩ = some (.iface tu yu) ∧ W.cell? ⟨w.heap.size, 1, none⟩ = some (.int .i64 (n : Int)) ∧ W.cell? ⟨w.heap.size, 2, none⟩ = some (.slice pa pb pc)) (go_keep)
    ((go_at_call 143; first
      | ((with_reducible refine (HC.out w2.drew (HB2.out.trans (HBA.out.mono HB2.out.size))).mono ?_); rintro e w4 ⟨m, more, rfl, hq1, hq2, hq3, hq4⟩; obtain ⟨g1, g2, ⟨g3, g4, g5⟩, g6, g7⟩ := HAFT.out _ _ _ _ HBA.out hq1 hq2 hq3 hq4; have g8 := g1.c3; have g9 := g1.c4; have g10 := g1.f 4; have hgl := g1.lt; have G1 := hide g1; clear g1)
      | ((with_reducible refine (HC.out (w2.alloc (.cells #[] 209)).drew (HB2.out.trans (HBB.out.mono HB2.out.size))).mono ?_); rintro e w4 ⟨m, more, rfl, hq1, hq2, hq3, hq4⟩; obtain ⟨g1, g2, ⟨g3, g4, g5⟩, g6, g7⟩ := HAFT.out _ _ _ _ HBB.out hq1 hq2 hq3 hq4; have g8 := g1.c3; have g9 := g1.c4; have g10 := g1.f 4; have hgl := g1.lt; have G1 := hide g1; clear g1)))
  all_goals go_wp2_with fail
  all_goals go_end0
  all_goals first
    | exact HEND.out w4 more G1.out hq3 g2
    | exact (HEND.out w4 more G1.out hq3 g2).below ((Below.refl _ _).alloc (Nat.le_refl _) _)
end
section
open Go.RowKit Go.Maps
section
variable {ok : Nat → Prop} {B C mb gb sb k : Nat} {tb more : List (List UInt8)} {U : List Ex} {d : Bool} {pv pv' : Value} {w W : World}
theorem Tbl.block {w w' : World} (h : Tbl mb tb w) (e : w'.heap[mb]? = w.heap[mb]?) : Tbl mb tb w' := by
  obtain ⟨D, h1, h2⟩ := h.ex
  exact ⟨⟨D, ownsMap_block h1 e, h2⟩, h.nodup⟩
theorem Gs.own (h : Gs ok B C mb gb sb k tb U d pv w) : ∀ b, pv.ownBlock = some b → C ≤ b ∧ b < w.heap.size := by
  obtain ⟨ts, _, ho, _⟩ := h.rows
  exact ho.lt
theorem Gs.push {x : Ex} {v : Value} {n : Nat} {q : Value} {ts : List (Value × Nat × Value)} {D : DataW Unit} (h : Gs ok B C mb gb sb k tb U d pv w) (hf : Gf mb gb sb pv pv' w W) (hT : Tbl mb tb W) (hx : IsTv (okp ok C pv) tb w x v n q) (ht : Ex.Td x) (h2 : 2 ≤ x.kind) (hk : x.kind ≠ k)
    (htl : ts.length = U.length) (hxs : ∀ (i : Nat) (x : Ex) (t : Value × Nat × Value), U[i]? = some x → ts[i]? = some t → IsTv (okp ok C pv) tb w x t.1 t.2.1 t.2.2) (hD : w.ownsMap Tryz.prog 3 (unitElem (H := Unit)) sb U.length D) (hm : ∀ m : Nat, Maps.has D (.int .i64 (m : Int)) = Decidable.decide (m ∈ ts.map fun t => t.2.1))
    (hc : W.heap[gb]? = some (.cells #[.map (some mb), .bool (Decidable.decide (k = 6)), pv', .map (some sb), .bool d] 169 (0, 0))) (ho : W.ownsRow C 111 3 pv' (U.length + 1) (tflat3 (ts ++ [(v, n, q)]))) (hD' : W.ownsMap Tryz.prog 3 (unitElem (H := Unit)) sb (U.length + 1) (D.put (.int .i64 (n : Int)) (.agg []))) :
    Gs ok B C mb gb sb k tb (U ++ [x]) d pv' W := by
  have e1 := h.gbB; have e2 := h.gbC; have e3 := h.sbB; have e4 := h.sbC; have e5 := h.mbB; have e6 := h.size; have e7 := h.powB; have e8 := h.ne
  have hpc := Lib.TabIs.cell h.pow gPow 0 (by decide)
  have hpw : Pow W := h.pow.block (hf.block _ h.pow.lt (h.tbl.ne hpc) (by omega) (by omega) (fun e => by have := (h.own _ e.symm).1; omega))
  refine ⟨hT, hpw, h.powB, h.mbB, h.gbB, h.gbC, h.sbB, h.sbC, h.ne, Nat.le_trans h.size hf.size, h.okB, hc, ⟨ts ++ [(v, n, q)], by simp [htl], by simpa using ho, ?_, D.put (.int .i64 (n : Int)) (.agg []), by simpa using hD', ?_⟩, ?_⟩
  · intro i y t hi hti
    by_cases hiU : i < U.length
    · rw [List.getElem?_append_left hiU] at hi
      rw [List.getElem?_append_left (by omega)] at hti
      have := h.keep hf [] (hxs i y t hi hti)
      rwa [List.append_nil] at this
    · have hie : i = U.length := by
        by_cases e : i = U.length
        · exact e
        · rw [List.getElem?_eq_none (by simp; omega)] at hi; cases hi
      subst hie
      rw [List.getElem?_append_right (Nat.le_refl _)] at hi
      rw [List.getElem?_append_right (by omega)] at hti
      simp only [Nat.sub_self, List.getElem?_cons_zero, Option.some.injEq] at hi
      rw [htl] at hti
      simp only [Nat.sub_self, List.getElem?_cons_zero, Option.some.injEq] at hti
      subst hi hti
      have := h.keep hf [] hx
      rwa [List.append_nil] at this
  · intro m
    have ht := hD.tidy keyedInt
    by_cases e : m = n
    · subst e
      rw [Maps.has_put_same ht.isMap (show WideAt.IsKeyLit (.int .i64 (m : Int)) from trivial)]
      simp
    · rw [Maps.has_put_other (by simp; omega), hm]
      simp [e]
  · intro y hy
    rcases List.mem_append.1 hy with hy | hy
    · exact h.td y hy
    · rw [List.mem_singleton.1 hy]; exact ⟨ht, h2, hk⟩
end
/-- three cells at a row's end -/
theorem flat3_put (ts : List (Value × Nat × Value)) (v : Value) (n : Nat) (q : Value) (z0 z1 z2 : Value) : (((tflat3 ts ++ [z0, z1, z2]).set (ts.length * 3) v).set (ts.length * 3 + 1) (.int .i64 (n : Int))).set (ts.length * 3 + 2) q = tflat3 (ts ++ [(v, n, q)]) := by
  rw [flat3_snoc, List.set_append_right _ _ (by rw [flat3_len]; omega), List.set_append_right _ _ (by rw [flat3_len]; omega), List.set_append_right _ _ (by rw [flat3_len]; omega), flat3_len]
  simp
/-- the row's last three cells are set -/
theorem row_put {w : World} {C g cap : Nat} {ts : List (Value × Nat × Value)} {z0 z1 z2 : Value} {N : Nat} (hN : N = ts.length) (h : w.ownsRow C 111 3 (.slice (some ⟨g, 0, none⟩) (N + 1) cap) (N + 1) (tflat3 ts ++ [z0, z1, z2])) (v : Value) (n : Nat) (q : Value) :
    (((w.setCell ⟨g, N * 3, none⟩ v).setCell ⟨g, N * 3 + 1, none⟩ (.int .i64 (n : Int))).setCell ⟨g, N * 3 + 2, none⟩ q).ownsRow C 111 3 (.slice (some ⟨g, 0, none⟩) (N + 1) cap) (N + 1) (tflat3 (ts ++ [(v, n, q)])) ∧
    w.grownBy (((w.setCell ⟨g, N * 3, none⟩ v).setCell ⟨g, N * 3 + 1, none⟩ (.int .i64 (n : Int))).setCell ⟨g, N * 3 + 2, none⟩ q) (some g) := by
  obtain ⟨a1, b1⟩ := h.stored (N * 3) v
  obtain ⟨a2, b2⟩ := a1.stored (N * 3 + 1) (.int .i64 (n : Int))
  obtain ⟨a3, b3⟩ := a2.stored (N * 3 + 2) q
  subst hN
  rw [flat3_put] at a3
  exact ⟨a3, (b1.trans b2).trans b3⟩
end
end Go.Proofs.YtgoabhclnicepaaGreatDoor
