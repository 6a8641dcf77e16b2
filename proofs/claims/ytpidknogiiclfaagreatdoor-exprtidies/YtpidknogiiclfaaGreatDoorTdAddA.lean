/-
  The walk of add: a constant. The walk of add: a part that is there already. The walk of add: a part whose other side is there.
-/
import Derived.Test.YtpidknogiiclfaaGreatDoorTdNew
namespace Go.Proofs.YtpidknogiiclfaaGreatDoor
open Go.RowKit Go.Maps
/-- what adding a part comes to -/
def Added (ok : Nat → Prop) (B C mb gb sb k : Nat) (tb : List (List UInt8)) (U : List Ex) (d : Bool) (pv : Value) (x : Ex) (w : World) (e : Ending) (w' : World) : Prop :=
  e = .returned (.tuple #[]) ∧ ∃ more pv', Gs ok B C mb gb sb k (tb ++ more) (Ex.addS k U d x).1 (Ex.addS k U d x).2 pv' w' ∧ more.length ≤ 1 ∧ Gf mb gb sb pv pv' w w'
section
variable {ok : Nat → Prop} {B C mb gb sb k : Nat} {tb more : List (List UInt8)} {U : List Ex} {d : Bool} {pv pv' : Value} {w w' : World}
theorem Gs.below (h : Gs ok B C mb gb sb k tb U d pv w) (hb : Below w.heap.size w w') : Gs ok B C mb gb sb k tb U d pv w' := by
  have := h.grown (more := []) (grown_of_below hb _) (by rw [List.append_nil]; exact h.tbl.kept (row := none) (grown_of_below hb _) (by simp))
  rwa [List.append_nil] at this
theorem Gs.f (h : Gs ok B C mb gb sb k tb U d pv w) (j : Nat) : w.frozen? ⟨gb, j, none⟩ = false := Lib.frozen_of_heap h.cells j
theorem Gs.lt (h : Gs ok B C mb gb sb k tb U d pv w) : gb < w.heap.size := World.block_lt_of_cell? _ _ h.c0
end
set_option maxHeartbeats 4000000 in
set_option maxRecDepth 100000 in
theorem add_const (ok : Nat → Prop) (B C mb gb sb k : Nat) (hk : k = 6 ∨ k = 7) (tb : List (List UInt8)) (U : List Ex) (d : Bool) (pv : Value) (c : Bool) (n : Nat) (w : World) (h : Gs ok B C mb gb sb k tb U d pv w) :
    Calls Tryz.prog 86 #[.pointer (some ⟨gb, 0, none⟩), .agg #[.iface 81 (.bool c), .int .i64 (n : Int), .slice none 0 0]] w (Added ok B C mb gb sb k tb U d pv ⟨if c then 1 else 0, [], []⟩ w) := by
  obtain ⟨o1, ho1⟩ : ∃ o1, o1 = (.cells #[.iface 81 (.bool c), .int .i64 (n : Int), .slice none 0 0] 66 : Obj) := ⟨_, rfl⟩
  have hb1 : Below w.heap.size w (w.alloc o1) := (Below.refl _ _).alloc (Nat.le_refl _) _
  have h1 := h.below hb1
  have e4 := h1.c4
  have e1 := h1.c1
  have f4 := h1.f 4
  have hlt := h.lt
  have HEND : Hid (∀ d' : Bool, d' = (d || decide ((if c then 1 else 0) = Ex.allK k)) → Added ok B C mb gb sb k tb U d pv ⟨if c then 1 else 0, [], []⟩ w (.returned (.tuple #[])) ((w.setCell ⟨gb, 4, none⟩ (.bool d')).alloc o1)) := by
    intro d' hd
    have hb2 : Below (w.setCell ⟨gb, 4, none⟩ (.bool d')).heap.size (w.setCell ⟨gb, 4, none⟩ (.bool d')) ((w.setCell ⟨gb, 4, none⟩ (.bool d')).alloc o1) := (Below.refl _ _).alloc (Nat.le_refl _) _
    refine ⟨rfl, [], pv, ?_, by simp, (Gf.set mb gb sb pv w 4 _).trans (Gf.below hb2)⟩
    rw [Ex.addS_const k U d _ (by cases c <;> simp), List.append_nil]
    show Gs ok B C mb gb sb k tb U _ pv _
    rw [← hd]
    exact (h.decide d').below hb2
  rw [ho1] at *
  clear ho1 o1 h1 h hb1
  rcases hk with rfl | rfl <;> cases d <;> cases c
  all_goals
    simp only [decide_true, show decide (7 = 6) = false from rfl] at e1
    go_enter Tryz.func86, Tryz.ntmps86
    go_wp2_with fail
    go_end0
    first
      | exact HEND.out true (by decide)
      | exact HEND.out false (by decide)
theorem keyedInt : Keyed Tryz.prog 3 := int_keyed Tryz.underlying3
theorem keyInt (m : Nat) (h : m ≤ 1000000) : keyOf Tryz.prog 3 (.int .i64 (m : Int)) = some (.int .i64 (m : Int)) := Go.Maps.keyOf_int_mk Tryz.underlying3 (WalkArith.wf_i64 (by omega))
theorem zeroUnit (w : World) : (zeroValue 150).run Tryz.prog w = .ok (.agg #[]) w := by kernel_rfl
theorem ownsMap_block {H : Type} {P : Program} {k : TypeId} {R : Value → Option (DataW H × List MemPlace)} {w w' : World} {b n : Nat} {D : DataW H} (h : w.ownsMap P k R b n D) (e : w'.heap[b]? = w.heap[b]?) : w'.ownsMap P k R b n D := by
  obtain ⟨es, clock, hb, r⟩ := h
  exact ⟨es, clock, e.trans hb, r⟩
/-- asking the set of numbers -/
theorem look_set {w : World} {sb N : Nat} {D : DataW Unit} {ns : List Nat} (hD : w.ownsMap Tryz.prog 3 (unitElem (H := Unit)) sb N D) (hm : ∀ m : Nat, Maps.has D (.int .i64 (m : Int)) = decide (m ∈ ns)) (m : Nat) (h : m ≤ 1000000) :
    (Instr.lookup 112 (.map (some sb)) (.int .i64 (m : Int)) true).run Tryz.prog w = .ok (.tuple #[.agg #[], .bool (decide (m ∈ ns))]) w := by
  obtain ⟨v, ps, hrun, hv⟩ := hD.look_ok keyedInt Tryz.underlying112 (zeroUnit w) (unitElem_mk (H := Unit)) (keyInt m h)
  obtain ⟨rfl, _⟩ := unitElem_inv hv
  rw [hrun, hm]
set_option maxHeartbeats 4000000 in
set_option maxRecDepth 100000 in
theorem add_there (ok : Nat → Prop) (B C mb gb sb k : Nat) (tb : List (List UInt8)) (U : List Ex) (d : Bool) (pv : Value) (x : Ex) (v : Value) (n : Nat) (q : Value) (w : World) (h : Gs ok B C mb gb sb k tb U d pv w) (hl : tb.length ≤ 1000000) (hx : IsTv (okp ok C pv) tb w x v n q) (ht : Ex.Td x) (h2 : 2 ≤ x.kind) (hin : x ∈ U) :
    Calls Tryz.prog 86 #[.pointer (some ⟨gb, 0, none⟩), .agg #[v, .int .i64 (n : Int), q]] w (Added ok B C mb gb sb k tb U d pv x w) := by
  have hA2 := as_noConst x v hx.ex h2
  have hnl := num_lt hx.num
  obtain ⟨tu, yu, hiu⟩ := IsEx.iface x v hx.ex
  obtain ⟨pa, pb, pc, hps⟩ := hx.slice
  subst hiu hps
  obtain ⟨ts, htl, ho, hxs, D, hD, hm⟩ := h.rows
  have hin' := (h.there htl hxs ht hx.num).2 hin
  obtain ⟨o1, ho1⟩ : ∃ o1, o1 = (.cells #[.iface tu yu, .int .i64 (n : Int), .slice pa pb pc] 66 : Obj) := ⟨_, rfl⟩
  obtain ⟨w1, hw1⟩ : ∃ w1, w1 = w.alloc o1 := ⟨_, rfl⟩
  have hb1 : Below w.heap.size w w1 := by rw [hw1]; exact (Below.refl _ _).alloc (Nat.le_refl _) _
  have hr1 : w1.heap[w.heap.size]? = some (.cells #[.iface tu yu, .int .i64 (n : Int), .slice pa pb pc] 66 (0, 0)) := by rw [hw1, ho1]; exact heap_alloc_new w _
  have h1 := h.below hb1
  have e3 := h1.c3
  have d1 : w1.cell? ⟨w.heap.size, 1, none⟩ = some (.int .i64 (n : Int)) := by rw [Lib.cell_of_heap hr1]; rfl
  have hlt := h.lt
  have hsb : sb < w.heap.size := hD.lt
  have hs1 : w1.heap.size = w.heap.size + 1 := by rw [hw1]; simp
  have hb2 : Below w.heap.size w ((w1.alloc (.cells #[] 150)).drew) := (hb1.alloc hb1.size _).drew
  have hL1 := look_set (ns := ts.map fun t => t.2.1) (w := w1.drew) (ownsMap_block hD (hb1.drew.block sb hsb)) hm n (by omega)
  have hL2 := look_set (ns := ts.map fun t => t.2.1) (w := (w1.alloc (.cells #[] 150)).drew) (ownsMap_block hD (hb2.block sb hsb)) hm n (by omega)
  rw [decide_eq_true hin'] at hL1 hL2
  have HEND : Hid (Added ok B C mb gb sb k tb U d pv x w (.returned (.tuple #[])) ((w1.alloc (.cells #[] 150)).drew)) := by
    refine ⟨rfl, [], pv, ?_, by simp, Gf.below hb2⟩
    rw [Ex.addS_mem k U d x h2 hin, List.append_nil]
    exact h.below hb2
  have HW1 := hide hw1
  rw [ho1] at HW1
  have HNE := hide hs1
  clear ho1 hw1 o1 h1 h hb1 hb2 hr1 hD ho hxs hm htl hx ht hin hin' hs1
  go_enter Tryz.func86, Tryz.ntmps86
  go_wp2_with fail
  rw [← HW1.out]
  go_region_held3 (fun W => W.cell? ⟨gb, 3, none⟩ = some (.map (some sb)) ∧ W.cell? ⟨w.heap.size, 1, none⟩ = some (.int .i64 (n : Int))) (go_keep) (fail)
  all_goals go_wp2_with fail
  all_goals go_end0
  all_goals exact HEND.out
theorem Added.below {ok : Nat → Prop} {B C mb gb sb k : Nat} {tb : List (List UInt8)} {U : List Ex} {d : Bool} {pv : Value} {x : Ex} {w : World} {e : Ending} {w' w'' : World} (h : Added ok B C mb gb sb k tb U d pv x w e w') (hb : Below w'.heap.size w' w'') : Added ok B C mb gb sb k tb U d pv x w e w'' := by
  obtain ⟨he, more, pv', hg, hm, hf⟩ := h
  exact ⟨he, more, pv', hg.below hb, hm, hf.trans (Gf.below hb)⟩
/-- behind otherSide: the set is asked for the other side's number -/
theorem Gs.afterOther {ok : Nat → Prop} {B C mb gb sb k : Nat} {tb more : List (List UInt8)} {U : List Ex} {d : Bool} {pv : Value} {W w4 : World} {x : Ex} {v : Value} {n m : Nat} {q : Value} (h : Gs ok B C mb gb sb k tb U d pv W) (hl : tb.length < 1000000) (hx : IsTv (okp ok C pv) tb W x v n q) (ht : Ex.Td x) (h2 : 2 ≤ x.kind) (hq1 : Tbl mb (tb ++ more) w4) (hq2 : Ex.Num (tb ++ more) (Ex.other x) m) (hq3 : more.length ≤ 1) (hq4 : W.grownBy w4 (some mb)) (b : Bool) (hb : b = true ↔ Ex.other x ∈ U) :
    Gs ok B C mb gb sb k (tb ++ more) U d pv w4 ∧ IsTv (okp ok C pv) (tb ++ more) w4 x v n q ∧ (Instr.lookup 112 (.map (some sb)) (.int .i64 (m : Int)) true).run Tryz.prog w4 = .ok (.tuple #[.agg #[], .bool b]) w4 ∧
    (Instr.lookup 112 (.map (some sb)) (.int .i64 (m : Int)) true).run Tryz.prog (w4.alloc (.cells #[] 150)) = .ok (.tuple #[.agg #[], .bool b]) (w4.alloc (.cells #[] 150)) := by
  have h4 := h.grown hq4 hq1
  have hml := num_lt hq2
  rw [List.length_append] at hml
  obtain ⟨ts, htl, ho, hxs, D, hD, hm⟩ := h4.rows
  have hin := h4.there htl hxs (Ex.td_other ht h2).1 hq2
  have e : Decidable.decide (m ∈ ts.map fun t => t.2.1) = b := by
    rw [Bool.eq_iff_iff, decide_eq_true_eq, hin, hb]
  refine ⟨h4, h.keep (Gf.grown hq4) more hx, ?_, ?_⟩
  · rw [← e]; exact look_set hD hm m (by omega)
  · rw [← e]; exact look_set (hD.alloc _) hm m (by omega)
set_option maxHeartbeats 4000000 in
set_option maxRecDepth 100000 in
theorem add_other (ok : Nat → Prop) (B C mb gb sb k : Nat) (tb : List (List UInt8)) (U : List Ex) (d : Bool) (pv : Value) (x : Ex) (v : Value) (n : Nat) (q : Value) (w : World) (h : Gs ok B C mb gb sb k tb U d pv w) (hl : tb.length < 1000000) (hx : IsTv (okp ok C pv) tb w x v n q) (ht : Ex.Td x) (h2 : 2 ≤ x.kind) (hin : x ∉ U) (hio : Ex.other x ∈ U) :
    Calls Tryz.prog 86 #[.pointer (some ⟨gb, 0, none⟩), .agg #[v, .int .i64 (n : Int), q]] w (Added ok B C mb gb sb k tb U d pv x w) := by
  have hA2 := as_noConst x v hx.ex h2
  have hnl := num_lt hx.num
  obtain ⟨tu, yu, hiu⟩ := IsEx.iface x v hx.ex
  obtain ⟨pa, pb, pc, hps⟩ := hx.slice
  subst hiu hps
  obtain ⟨ts, htl, ho, hxs, D, hD, hm⟩ := h.rows
  have hin' : ¬ _ := fun e => hin ((h.there htl hxs ht hx.num).1 e)
  obtain ⟨o1, ho1⟩ : ∃ o1, o1 = (.cells #[.iface tu yu, .int .i64 (n : Int), .slice pa pb pc] 66 : Obj) := ⟨_, rfl⟩
  obtain ⟨w1, hw1⟩ : ∃ w1, w1 = w.alloc o1 := ⟨_, rfl⟩
  have hb1 : Below w.heap.size w w1 := by rw [hw1]; exact (Below.refl _ _).alloc (Nat.le_refl _) _
  have hr1 : w1.heap[w.heap.size]? = some (.cells #[.iface tu yu, .int .i64 (n : Int), .slice pa pb pc] 66 (0, 0)) := by rw [hw1, ho1]; exact heap_alloc_new w _
  have h1 := h.below hb1
  have e3 := h1.c3
  have d1 : w1.cell? ⟨w.heap.size, 1, none⟩ = some (.int .i64 (n : Int)) := by rw [Lib.cell_of_heap hr1]; rfl
  have hlt := h.lt
  have hsb : sb < w.heap.size := hD.lt
  have hs1 : w1.heap.size = w.heap.size + 1 := by rw [hw1]; simp
  obtain ⟨w2, hw2⟩ : ∃ w2, w2 = (w1.alloc (.cells #[] 150)).drew := ⟨_, rfl⟩
  have hb2 : Below w.heap.size w w2 := by rw [hw2]; exact (hb1.alloc hb1.size _).drew
  have hs2 : w2.heap.size = w.heap.size + 2 := by rw [hw2]; show (w1.alloc _).heap.size = _; simp; omega
  have hr2 : w2.heap[w.heap.size]? = some (.cells #[.iface tu yu, .int .i64 (n : Int), .slice pa pb pc] 66 (0, 0)) := by
    rw [hw2]; show (w1.alloc _).heap[w.heap.size]? = _
    rw [heap_alloc_old _ _ (by omega)]; exact hr1
  have hL1 := look_set (ns := ts.map fun t => t.2.1) (w := w1.drew) (ownsMap_block hD (hb1.drew.block sb hsb)) hm n (by omega)
  have hL2 := look_set (ns := ts.map fun t => t.2.1) (w := w2) (ownsMap_block hD (hb2.block sb hsb)) hm n (by omega)
  rw [hw2] at hL2
  rw [decide_eq_false hin'] at hL1 hL2
  have HC : Hid (∀ W, Below w.heap.size w W → Calls Tryz.prog 110 #[.pointer (some ⟨gb, 0, none⟩), .agg #[.iface tu yu, .int .i64 (n : Int), .slice pa pb pc]] W (Numbers mb tb (Ex.other x) W)) := by
    intro W hW
    exact otherSide_any _ mb gb tb x _ n _ W (h.below hW).tbl hl (h.below hW).pow (IsTv.stay [] (Stay.below hW) (fun _ h => h) x _ n _ hx |> fun h => by rw [List.append_nil] at h; exact h) ht (h.below hW).c0
  have HAFT : Hid (∀ W w4 m more, Below w2.heap.size w2 W → Tbl mb (tb ++ more) w4 → Ex.Num (tb ++ more) (Ex.other x) m → more.length ≤ 1 → W.grownBy w4 (some mb) → Gs ok B C mb gb sb k (tb ++ more) U d pv w4 ∧ Gf mb gb sb pv pv w w4 ∧ (w4.cell? ⟨w.heap.size, 0, none⟩ = some (.iface tu yu) ∧ w4.cell? ⟨w.heap.size, 1, none⟩ = some (.int .i64 (n : Int)) ∧ w4.cell? ⟨w.heap.size, 2, none⟩ = some (.slice pa pb pc)) ∧ (Instr.lookup 112 (.map (some sb)) (.int .i64 (m : Int)) true).run Tryz.prog w4 = .ok (.tuple #[.agg #[], .bool true]) w4 ∧
    (Instr.lookup 112 (.map (some sb)) (.int .i64 (m : Int)) true).run Tryz.prog (w4.alloc (.cells #[] 150)) = .ok (.tuple #[.agg #[], .bool true]) (w4.alloc (.cells #[] 150))) := by
    intro W w4 m more hW hq1 hq2 hq3 hq4
    have hbW : Below w.heap.size w W := hb2.trans (hW.mono hb2.size)
    have hxW : IsTv (okp ok C pv) tb W x (.iface tu yu) n (.slice pa pb pc) := (IsTv.stay [] (Stay.below hbW) (fun _ h => h) x _ n _ hx |> fun h => by rw [List.append_nil] at h; exact h)
    obtain ⟨g1, _, g3, g4⟩ := (h.below hbW).afterOther hl hxW ht h2 hq1 hq2 hq3 hq4 true (by simpa using hio)
    have hmb := h.mbB; have hgb := h.gbB; have hgc := h.gbC; have hss := h.size; have hsW := hW.size
    have e := (hq4.block w.heap.size (by omega) (by simp; omega)).trans ((hW.block _ (by omega)).trans hr2)
    exact ⟨g1, (Gf.below hbW).trans (Gf.grown hq4), ⟨by rw [Lib.cell_of_heap e]; rfl, by rw [Lib.cell_of_heap e]; rfl, by rw [Lib.cell_of_heap e]; rfl⟩, g3, g4⟩
  have HEND : Hid (∀ w4 more, Gs ok B C mb gb sb k (tb ++ more) U d pv w4 → more.length ≤ 1 → Gf mb gb sb pv pv w w4 → Added ok B C mb gb sb k tb U d pv x w (.returned (.tuple #[])) (w4.setCell ⟨gb, 4, none⟩ (.bool true))) := by
    intro w4 more h4 hml hf
    refine ⟨rfl, more, pv, ?_, hml, hf.trans (Gf.set mb gb sb pv w4 4 _)⟩
    rw [Ex.addS_other k U d x h2 hin hio]
    exact h4.decide true
  have c3 : w2.cell? ⟨gb, 3, none⟩ = some (.map (some sb)) := (h.below hb2).c3
  have d20 : w2.cell? ⟨w.heap.size, 0, none⟩ = some (.iface tu yu) := by rw [Lib.cell_of_heap hr2]; rfl
  have d21 : w2.cell? ⟨w.heap.size, 1, none⟩ = some (.int .i64 (n : Int)) := by rw [Lib.cell_of_heap hr2]; rfl
  have d22 : w2.cell? ⟨w.heap.size, 2, none⟩ = some (.slice pa pb pc) := by rw [Lib.cell_of_heap hr2]; rfl
  have HBA : Hid (Below w2.heap.size w2 w2.drew) := (Below.refl _ _).drew
  have HBB : Hid (Below w2.heap.size w2 (w2.alloc (.cells #[] 150)).drew) := ((Below.refl _ _).alloc (Nat.le_refl _) _).drew
  have HB2 := hide hb2
  have HW1 := hide hw1
  have HW2 := hide hw2
  rw [ho1] at HW1
  clear ho1 hw1 hw2 o1 h1 h hb1 hb2 hr1 hr2 hD ho hxs hm htl hx ht hin hin' hs1 hs2
  go_enter Tryz.func86, Tryz.ntmps86
  go_wp2_with fail
  rw [← HW1.out]
  go_region_held3 (fun W => W.cell? ⟨gb, 3, none⟩ = some (.map (some sb)) ∧ W.cell? ⟨w.heap.size, 1, none⟩ = some (.int .i64 (n : Int))) (go_keep) (fail)
  all_goals go_wp2_with fail
  all_goals rw [← HW2.out]
  all_goals clear hL1 hL2 e3 d1
  all_goals go_region_held3 (fun W => W.cell? ⟨gb, 3, none⟩ = some (.map (some sb)) ∧ W.cell? ⟨w.heap.size, 0, none⟩ = some (.iface tu yu) ∧ W.cell? ⟨w.heap.size, 1, none⟩ = some (.int .i64 (n : Int)) ∧ W.cell? ⟨w.heap.size, 2, none⟩ = some (.slice pa pb pc)) (go_keep)
    ((go_at_call 110; first
      | ((with_reducible refine (HC.out w2.drew (HB2.out.trans (HBA.out.mono HB2.out.size))).mono ?_); rintro e w4 ⟨m, more, rfl, hq1, hq2, hq3, hq4⟩; obtain ⟨g1, g2, ⟨g3, g4, g5⟩, g6, g7⟩ := HAFT.out _ _ _ _ HBA.out hq1 hq2 hq3 hq4; have g8 := g1.c3; have g9 := g1.c4; have g10 := g1.f 4; have hgl := g1.lt; have G1 := hide g1; clear g1)
      | ((with_reducible refine (HC.out (w2.alloc (.cells #[] 150)).drew (HB2.out.trans (HBB.out.mono HB2.out.size))).mono ?_); rintro e w4 ⟨m, more, rfl, hq1, hq2, hq3, hq4⟩; obtain ⟨g1, g2, ⟨g3, g4, g5⟩, g6, g7⟩ := HAFT.out _ _ _ _ HBB.out hq1 hq2 hq3 hq4; have g8 := g1.c3; have g9 := g1.c4; have g10 := g1.f 4; have hgl := g1.lt; have G1 := hide g1; clear g1)))
  all_goals go_wp2_with fail
  all_goals go_end0
  all_goals first
    | exact HEND.out w4 more G1.out hq3 g2
    | exact (HEND.out w4 more G1.out hq3 g2).below ((Below.refl _ _).alloc (Nat.le_refl _) _)
end Go.Proofs.YtpidknogiiclfaaGreatDoor
