/-
  The walk of the law's own track: a table, as the document has it.
-/
import Derived.Test.YtmniiclmimidjaaDoorRjClash
namespace Go.Proofs.YtmniiclmimidjaaDoor
namespace Ro
open Go.RowKit
theorem ownBlock_newT {W : World} {q : Nat} {e : TypeId} {s : Nat} {v : Value} {n : Nat} {xs : List Value} (h : W.ownsRow q e s v n xs) : v.ownBlock = none ∨ ∃ g, v.ownBlock = some g ∧ q ≤ g := by
  rcases h.2 with ⟨h1, _⟩ | ⟨g, cap, cur, h1, h2, _⟩
  · exact .inl (by rw [h1]; rfl)
  · exact .inr ⟨g, by rw [h1]; rfl, h2⟩
theorem own_lt {W : World} {q : Nat} {e : TypeId} {s : Nat} {v : Value} {n : Nat} {xs : List Value} (h : W.ownsRow q e s v n xs) (b : Nat) (hb : v.ownBlock = some b) : b < W.heap.size := by
  rcases h.2 with ⟨e, _⟩ | ⟨g', cap', cur, e, _, hcur, _⟩
  · rw [e] at hb; cases hb
  · rw [e] at hb
    have : g' = b := Option.some.inj hb
    rw [← this]
    exact (Array.getElem?_eq_some_iff.1 hcur).1
theorem below_grownT {w W W' : World} {v : Value} (hb : Below w.heap.size w W) (hg : W.grownBy W' v.ownBlock) (hv : v.ownBlock = none ∨ ∃ g, v.ownBlock = some g ∧ w.heap.size ≤ g) : Below w.heap.size w W' := by
  refine ⟨hg.os.trans hb.os, hg.tape.trans hb.tape, hg.output.trans hb.output, Nat.le_trans hb.size hg.size, fun k hk => ?_⟩
  refine (hg.block k (Nat.lt_of_lt_of_le hk hb.size) ?_).trans (hb.block k hk)
  rcases hv with h | ⟨g, h, hgl⟩
  · rw [h]; intro e; cases e
  · rw [h]; intro e; cases e; omega
theorem own_setT {W : World} {q : Nat} {e : TypeId} {s : Nat} {v : Value} {n : Nat} {xs : List Value} (h : W.ownsRow q e s v n xs) (b i : Nat) (u : Value) (hb : b < q) : (W.setCell ⟨b, i, none⟩ u).ownsRow q e s v n xs := by
  refine ⟨h.1, ?_⟩
  rcases h.2 with e | ⟨g', cap', cur, e1, e2, e3, e4⟩
  · exact .inl e
  · refine .inr ⟨g', cap', cur, e1, e2, ?_, e4⟩
    rw [Below.heap_setCell _ _ _ _ (fun e => by have e2' : g' = b := e; omega)]
    exact e3
theorem Tryd.infoRef : (Tryd.prog.info? 45).map (fun i => (i.zero, i.size, i.bytes)) = some (some (.agg #[.slice none 0 0, .slice none 0 0]), 2, 48) := by kernel_rfl
/-- a row of numbers in a block from q on that is not the block of v -/
def CodesAt (q : Nat) (W : World) (v u : Value) (l : List Int) : Prop := ∃ a c, u = .slice a l.length c ∧ ∀ (k : Nat) x, l[k]? = some x → ∃ g, a = some ⟨g, 0, none⟩ ∧ l.length ≤ c ∧ q ≤ g ∧ g < W.heap.size ∧ some g ≠ v.ownBlock ∧ W.cell? ⟨g, k, none⟩ = some (.int .i64 x)
/-- one route's points, while they are appended -/
structure LC (wI w : World) (sv v : Value) (n : Nat) (cs : List Int) : Prop where
  bel : Below wI.heap.size wI w
  cell : RowIs w wI.heap.size 45 [sv, v]
  row : w.ownsRow (wI.heap.size + 1) 3 1 v n (cs.map intV)
theorem LC.push {wI wr wC : World} {sv v : Value} {n : Nat} {cs : List Int} {x : Int} {g cap : Nat} {o : Obj} (h : LC wI wr sv v n cs) (ho : wC.ownsRow (wI.heap.size + 1) 3 1 (.slice (some ⟨g, 0, none⟩) (n + 1) cap) (n + 1) (cs.map intV ++ [.int .i64 x])) (hg : (wr.alloc o).grownBy wC v.ownBlock) :
    LC wI (wC.setCell ⟨wI.heap.size, 1, none⟩ (.slice (some ⟨g, 0, none⟩) (n + 1) cap)) sv (.slice (some ⟨g, 0, none⟩) (n + 1) cap) (n + 1) (cs ++ [x]) ∧ wC.cell? ⟨wI.heap.size, 1, none⟩ = some v ∧ wC.frozen? ⟨wI.heap.size, 1, none⟩ = false ∧ wI.heap.size < wC.heap.size := by
  have hlt := h.cell.lt
  have hvb := ownBlock_newT h.row
  have hne : some wI.heap.size ≠ v.ownBlock := by
    rcases hvb with e | ⟨g', e, hl⟩
    · rw [e]; intro e; cases e
    · rw [e]; intro e; cases e; omega
  have hcell : RowIs wC wI.heap.size 45 [sv, v] := (hg.block _ (by rw [World.size_alloc]; omega) hne).trans (h.cell.alloc _)
  refine ⟨⟨?_, hcell.set 1 _, ?_⟩, hcell.cell 1 _ rfl, hcell.frozen 1, hcell.lt⟩
  · refine (below_grownT (then_ h.bel (newB _ _)) hg ?_).setCell (Nat.le_refl _) _
    exact hvb.imp id fun ⟨g', e, hl⟩ => ⟨g', e, by omega⟩
  · have e : (cs ++ [x]).map intV = cs.map intV ++ [.int .i64 x] := by rw [List.map_append]; rfl
    rw [e]
    exact own_setT ho _ _ _ (by omega)
/-- the track, while its routes are appended -/
structure LT (wB wT w : World) (s p : Int) (v : Value) (k : Nat) (us : List Value) (l : List Rr) : Prop where
  bel : Below wT.heap.size wT w
  cell : RowIs w wT.heap.size 27 [.int .i64 s, .int .i64 p, v]
  row : w.ownsRow (wT.heap.size + 1) 45 2 v k us
  len : l.length = k
  each : ∀ (i : Nat) r, l[i]? = some r → ∃ u u', us[i * 2]? = some u ∧ us[i * 2 + 1]? = some u' ∧ Ints wB u r.secs ∧ CodesAt (wT.heap.size + 1) w v u' r.pts
theorem LT.below {wB wT w w' : World} {s p : Int} {v : Value} {k : Nat} {us : List Value} {l : List Rr} (h : LT wB wT w s p v k us l) (hb : Below w.heap.size w w') : LT wB wT w' s p v k us l := by
  refine ⟨then_ h.bel hb, h.cell.below hb, own_below h.row hb, h.len, fun i r hr => ?_⟩
  obtain ⟨u, u', e1, e2, e3, a, c, e4, e5⟩ := h.each i r hr
  refine ⟨u, u', e1, e2, e3, a, c, e4, fun k x hx => ?_⟩
  obtain ⟨g, f1, f2, f3, f4, f5, f6⟩ := e5 k x hx
  exact ⟨g, f1, f2, f3, Nat.lt_of_lt_of_le f4 hb.size, f5, kept hb f6⟩
theorem LT.push {wB wT wr W wC : World} {s p : Int} {v u u' : Value} {k : Nat} {us : List Value} {l : List Rr} {r : Rr} {g cap : Nat} {o : Obj} (h : LT wB wT wr s p v k us l) (hb : Below wr.heap.size wr W) (hu : Ints wB u r.secs) (hc : CodesAt wr.heap.size W (.slice none 0 0) u' r.pts) (ho : wC.ownsRow (wT.heap.size + 1) 45 2 (.slice (some ⟨g, 0, none⟩) (k + 1) cap) (k + 1) (us ++ [u, u'])) (hg : (W.alloc o).grownBy wC v.ownBlock) (hat : v.ownBlock = some g ∨ g = W.heap.size + 1) :
    LT wB wT (wC.setCell ⟨wT.heap.size, 2, none⟩ (.slice (some ⟨g, 0, none⟩) (k + 1) cap)) s p (.slice (some ⟨g, 0, none⟩) (k + 1) cap) (k + 1) (us ++ [u, u']) (l ++ [r]) ∧ wC.cell? ⟨wT.heap.size, 2, none⟩ = some v ∧ wC.frozen? ⟨wT.heap.size, 2, none⟩ = false ∧ wT.heap.size < wC.heap.size := by
  have hlt := h.cell.lt
  have hvb := ownBlock_newT h.row
  have hne : some wT.heap.size ≠ v.ownBlock := by
    rcases hvb with e | ⟨g', e, hl⟩
    · rw [e]; intro e; cases e
    · rw [e]; intro e; cases e; omega
  have hbs := hb.size
  have hgs := hg.size
  rw [World.size_alloc] at hgs
  have hcell : RowIs wC wT.heap.size 27 [.int .i64 s, .int .i64 p, v] := (hg.block _ (by rw [World.size_alloc]; omega) hne).trans ((h.cell.below hb).alloc _)
  have hul : us.length = k * 2 := h.row.1
  refine ⟨⟨?_, hcell.set 2 _, own_setT ho _ _ _ (by omega), by rw [List.length_append, h.len]; rfl, fun i r' hr => ?_⟩, hcell.cell 2 _ rfl, hcell.frozen 2, hcell.lt⟩
  · refine (below_grownT (then_ (then_ h.bel hb) (newB _ _)) hg ?_).setCell (Nat.le_refl _) _
    exact hvb.imp id fun ⟨g', e, hl⟩ => ⟨g', e, by omega⟩
  · by_cases hi : i < k
    · rw [List.getElem?_append_left (by rw [h.len]; exact hi)] at hr
      obtain ⟨u1, u2, e1, e2, e3, a, c, e4, e5⟩ := h.each i r' hr
      refine ⟨u1, u2, by rw [List.getElem?_append_left (by omega)]; exact e1, by rw [List.getElem?_append_left (by omega)]; exact e2, e3, a, c, e4, fun j x hx => ?_⟩
      obtain ⟨g', f1, f2, f3, f4, f5, f6⟩ := e5 j x hx
      refine ⟨g', f1, f2, f3, by rw [World.size_setCell]; omega, ?_, cell_set_block _ _ _ _ _ _ _ (by omega) (hg.cell (cell_alloc_keep _ _ _ _ (kept hb f6)) f5)⟩
      show some g' ≠ some g
      intro e
      cases e
      rcases hat with h1 | h1
      · exact f5 h1.symm
      · omega
    · have hil := (List.getElem?_eq_some_iff.1 hr).1
      rw [List.length_append, h.len, List.length_singleton] at hil
      have hik : i = k := by omega
      subst hik
      rw [List.getElem?_append_right (by rw [h.len]; omega), h.len, Nat.sub_self] at hr
      cases hr
      obtain ⟨a, c, e4, e5⟩ := hc
      refine ⟨u, u', by rw [List.getElem?_append_right (by omega), hul, Nat.sub_self]; rfl, by rw [List.getElem?_append_right (by omega), hul, Nat.add_sub_cancel_left]; rfl, hu, a, c, e4, fun j x hx => ?_⟩
      obtain ⟨g', f1, f2, f3, f4, f5, f6⟩ := e5 j x hx
      refine ⟨g', f1, f2, by omega, by rw [World.size_setCell]; omega, ?_, cell_set_block _ _ _ _ _ _ _ (by omega) (hg.cell (cell_alloc_keep _ _ _ _ f6) ?_)⟩
      · show some g' ≠ some g
        intro e
        cases e
        rcases hat with h1 | h1
        · have := own_lt h.row g h1
          omega
        · omega
      · intro e
        have := own_lt h.row g' e.symm
        omega
/-- what track comes to -/
def Tracked (t : Tbl) (w : World) (e : Ending) (w' : World) : Prop := Below w.heap.size w w' ∧ ((∃ a n c, e = .returned (.tuple #[.agg #[.int .i64 t.secs, .int .i64 t.pts, .slice a n c], .bool false])) ∨ ∃ v, e = .returned (.tuple #[.agg #[.int .i64 t.secs, .int .i64 t.pts, v], .bool true]) ∧ Rrs w' v (t.rts.map refR) ∧ t.rts.length ≤ 8 ∧ ∀ r, r ∈ t.rts → r.secs.length ≤ 20 ∧ r.pts.length ≤ 20)
theorem codes_own {q : Nat} {W : World} {v : Value} {l : List Int} (h : W.ownsRow q 3 1 v l.length (l.map intV)) : CodesAt q W (.slice none 0 0) v l := by
  rcases h.2 with ⟨hx, h0⟩ | ⟨g', cap, cur, hx, hq, hcur, hcap, _, _, htk⟩
  · have : l = [] := List.length_eq_zero_iff.1 h0
    subst this
    exact ⟨none, 0, hx, fun k x hk => by simp at hk⟩
  · refine ⟨_, _, hx, fun k x hk => ⟨g', rfl, hcap, hq, (Array.getElem?_eq_some_iff.1 hcur).1, (by intro e; cases e), row_cell hcur (by simpa using htk) (by rw [List.getElem?_map, hk]; rfl)⟩⟩
theorem LT.rrs {wB wT w W : World} {s p : Int} {v : Value} {us : List Value} {l : List Rr} (h : LT wB wT w s p v l.length us l) (hl : l.length ≤ 8) (hb : Below wB.heap.size wB W) (hs : ∀ g k u, wT.heap.size + 1 ≤ g → w.cell? ⟨g, k, none⟩ = some u → W.cell? ⟨g, k, none⟩ = some u) (hc : ∀ r, r ∈ l → r.pts.length ≤ 1000 ∧ ∀ c, c ∈ r.pts → I64 c) : Rrs W v l := by
  have hE := h.each
  rcases h.row.2 with ⟨e1, e2⟩ | ⟨g, cap, cur, e1, e2, e3, e4, _, _, e5⟩
  · have : l = [] := List.length_eq_zero_iff.1 e2
    subst this
    exact ⟨none, 0, e1, by simp, fun k r hr => by simp at hr⟩
  · refine ⟨some ⟨g, 0, none⟩, cap, e1, by unfold maxLen; omega, fun k r hr => ?_⟩
    obtain ⟨u, u', f1, f2, f3, a, c, f4, f5⟩ := hE k r hr
    obtain ⟨hp, hi⟩ := hc r (List.mem_of_getElem? hr)
    refine ⟨g, 0, u, u', rfl, e4, by rw [Nat.zero_add]; exact hs _ _ _ e2 (row_cell e3 e5 f1), by rw [Nat.zero_add]; exact hs _ _ _ e2 (row_cell e3 e5 f2), f3.below hb, a, c, f4, by unfold maxLen; omega, fun j x hx => ?_⟩
    obtain ⟨g', h1, h2, h3, _, _, h6⟩ := f5 j x hx
    exact ⟨g', 0, h1, h2, by rw [Nat.zero_add]; exact hs _ _ _ h3 h6, hi x (List.mem_of_getElem? hx)⟩
set_option maxHeartbeats 16000000 in
set_option maxRecDepth 100000 in
theorem track_any (t : Tbl) (rv : Value) (w : World) (hr : Rts w rv t.rts) : Calls Tryd.prog 4 #[.agg #[.int .i64 t.secs, .int .i64 t.pts, rv]] w (Tracked t w) := by
  obtain ⟨i0, hi0, hz0, hz1, hz2⟩ := info_parts Tryd.infoInt
  obtain ⟨i1, hi1, hy0, hy1, hy2⟩ := info_parts Tryd.infoRef
  obtain ⟨ra, rc, rfl⟩ := hr.slice
  have hlen := hr.len
  unfold maxLen at hlen
  obtain ⟨n, hn⟩ : ∃ n, n = t.rts.length := ⟨_, rfl⟩
  have HN := hide hn
  obtain ⟨wT, hwT⟩ : ∃ wT, wT = (w.alloc (.cells #[.int .i64 t.secs, .int .i64 t.pts, .slice ra n rc] 24)).alloc (.cells #[.int .i64 0, .int .i64 0, .slice none 0 0] 27) := ⟨_, rfl⟩
  have hbT : Below w.heap.size w wT := by rw [hwT]; exact then_ (newB _ _) (newB _ _)
  have hsT : wT.heap.size = w.heap.size + 1 + 1 := by rw [hwT]; simp
  have rT : RowIs wT w.heap.size 24 [.int .i64 t.secs, .int .i64 t.pts, .slice ra n rc] := by rw [hwT]; exact (RowIs.new _ _ _).alloc _
  have rR : RowIs wT (w.heap.size + 1) 27 [.int .i64 0, .int .i64 0, .slice none 0 0] := by
    rw [hwT]
    have := RowIs.new (w.alloc (.cells #[.int .i64 t.secs, .int .i64 t.pts, .slice ra n rc] 24)) 27 [.int .i64 0, .int .i64 0, .slice none 0 0]
    rw [World.size_alloc] at this
    exact this
  obtain ⟨w0, hw0⟩ : ∃ w0, w0 = wT.alloc (.cells #[.int .i64 t.secs, .int .i64 t.pts, .slice none 0 0] 27) := ⟨_, rfl⟩
  have HL0 : Hid (LT w wT w0 t.secs t.pts (.slice none 0 0) 0 [] []) := by
    rw [hw0]
    exact ⟨newB _ _, RowIs.new _ _ _, World.ownsRow_nil _ _ _ _, rfl, fun i r hr => by simp at hr⟩
  have HRT := hide (hr.below hbT)
  have HR0 := hide hr
  rw [← hn] at HRT HR0 hlen ⊢
  have HKT : Hid (∀ W, Below wT.heap.size wT W → W.cell? ⟨w.heap.size, 0, none⟩ = some (.int .i64 t.secs) ∧ W.cell? ⟨w.heap.size, 1, none⟩ = some (.int .i64 t.pts) ∧ W.cell? ⟨w.heap.size, 2, none⟩ = some (.slice ra n rc)) := fun W hW => ⟨kept hW (rT.cell 0 _ rfl), kept hW (rT.cell 1 _ rfl), kept hW (rT.cell 2 _ rfl)⟩
  have HPC : Hid (∀ W, Below wT.heap.size wT W → W.cell? ⟨w.heap.size + 1, 0, none⟩ = some (.int .i64 0) ∧ W.cell? ⟨w.heap.size + 1, 1, none⟩ = some (.int .i64 0) ∧ W.cell? ⟨w.heap.size + 1, 2, none⟩ = some (.slice none 0 0) ∧ W.frozen? ⟨w.heap.size + 1, 0, none⟩ = false ∧ W.frozen? ⟨w.heap.size + 1, 1, none⟩ = false ∧ W.frozen? ⟨w.heap.size + 1, 2, none⟩ = false ∧ w.heap.size + 1 < W.heap.size) := fun W hW => by
    have h := rR.below hW
    exact ⟨h.cell 0 _ rfl, h.cell 1 _ rfl, h.cell 2 _ rfl, h.frozen 0, h.frozen 1, h.frozen 2, h.lt⟩
  have HFIN : Hid (∀ W, Below wT.heap.size wT W → ∀ x y z : Value, (((W.setCell ⟨w.heap.size + 1, 0, none⟩ x).setCell ⟨w.heap.size + 1, 1, none⟩ y).setCell ⟨w.heap.size + 1, 2, none⟩ z).cell? ⟨w.heap.size + 1, 0, none⟩ = some x ∧ (((W.setCell ⟨w.heap.size + 1, 0, none⟩ x).setCell ⟨w.heap.size + 1, 1, none⟩ y).setCell ⟨w.heap.size + 1, 2, none⟩ z).cell? ⟨w.heap.size + 1, 1, none⟩ = some y ∧ (((W.setCell ⟨w.heap.size + 1, 0, none⟩ x).setCell ⟨w.heap.size + 1, 1, none⟩ y).setCell ⟨w.heap.size + 1, 2, none⟩ z).cell? ⟨w.heap.size + 1, 2, none⟩ = some z ∧ Below w.heap.size w (((W.setCell ⟨w.heap.size + 1, 0, none⟩ x).setCell ⟨w.heap.size + 1, 1, none⟩ y).setCell ⟨w.heap.size + 1, 2, none⟩ z)) := fun W hW x y z => by
    have h := rR.below hW
    exact ⟨cell_set_other _ _ _ _ _ _ (by decide) (cell_set_other _ _ _ _ _ _ (by decide) (World.cell?_setCell_same _ _ _ (h.cell 0 _ rfl))), cell_set_other _ _ _ _ _ _ (by decide) (World.cell?_setCell_same _ _ _ (cell_set_other _ _ _ _ _ _ (by decide) (h.cell 1 _ rfl))), World.cell?_setCell_same _ _ _ (cell_set_other _ _ _ _ _ _ (by decide) (cell_set_other _ _ _ _ _ _ (by decide) (h.cell 2 _ rfl))), (((then_ hbT hW).setCell (Nat.le_succ _) _).setCell (Nat.le_succ _) _).setCell (Nat.le_succ _) _⟩
  have HW : Hid (wT = (w.alloc (.cells #[.int .i64 t.secs, .int .i64 t.pts, .slice ra n rc] 24)).alloc (.cells #[.int .i64 0, .int .i64 0, .slice none 0 0] 27)) := hwT
  have HW0 := hide hw0
  have HBT := hide hbT
  have HSTT := hide hsT
  obtain ⟨x0, x1, x2⟩ := HKT.out wT (Below.refl _ _)
  have hwl : w.heap.size + 1 < wT.heap.size := rR.lt
  clear hwT hbT rT rR hr hn hw0 hsT
  go_enter Tryd.func4, Tryd.ntmps4
  rw [HW.out] at x0 x1
  go_upto_region 2 with fail
  rw [← HSTT.out, ← HW.out, ← HW0.out]
  clear HW HW0 x0 x1 x2
  obtain ⟨x0, x1, x2⟩ := HKT.out w0 HL0.out.bel
  obtain ⟨v0, v1, v2⟩ : w0.cell? ⟨wT.heap.size, 0, none⟩ = some (.int .i64 t.secs) ∧ w0.cell? ⟨wT.heap.size, 1, none⟩ = some (.int .i64 t.pts) ∧ w0.cell? ⟨wT.heap.size, 2, none⟩ = some (.slice none 0 0) := ⟨HL0.out.cell.cell 0 _ rfl, HL0.out.cell.cell 1 _ rfl, HL0.out.cell.cell 2 _ rfl⟩
  by_cases h8 : 8 < n
  · have h8i : (8 : Int) < (n : Int) := by omega
    obtain ⟨z0, z1, z2, z3⟩ := HFIN.out w0 HL0.out.bel (.int .i64 t.secs) (.int .i64 t.pts) (.slice none 0 0)
    obtain ⟨f0, f1, f2, f3, f4, f5, f6⟩ := HPC.out w0 HL0.out.bel
    go_wp2_with fail
    refine bodyPost_ret_by (v := .tuple #[.agg #[.int .i64 t.secs, .int .i64 t.pts, .slice none 0 0], .bool false]) ?_ rfl ?_
    · simp [results, Tryd.results4, go_sem, z0, z1, z2]
    · exact ⟨z3, .inl ⟨_, _, _, rfl⟩⟩
  · have h8i : ¬ (8 : Int) < (n : Int) := by omega
    have hn8 : n ≤ 8 := by omega
    clear h8
    go_wp2_with fail
    clear h8i x0 x1 x2 v0 v1 v2
    go_loopw [5] (fun iv wr => ∃ (k : Nat) (a : Option Addr) (c : Nat) (us : List Value), k ≤ n ∧ iv = .int .i64 (k : Int) ∧ Hid (LT w wT wr t.secs t.pts (.slice a k c) k us ((t.rts.map refR).take k)) ∧ Hid (∀ r, r ∈ t.rts.take k → r.secs.length ≤ 20 ∧ r.pts.length ≤ 20)) (fun iv _ => n - (intOf iv).toNat)
    case atStart => exact ⟨0, none, 0, [], Nat.zero_le _, rfl, HL0.out, fun r hr => by simp at hr⟩
    case round =>
      obtain ⟨k, a, c, us, hk, rfl, HY, HSM⟩ := hrel
      obtain ⟨x0, x1, x2⟩ := HKT.out wr HY.out.bel
      by_cases hlt : k < n
      · have hkl : k < t.rts.length := by rw [← HN.out]; exact hlt
        obtain ⟨g, o, sa, sc, pa, pc, rfl, c0, c1, hIs, hPs, _⟩ := (HRT.out.below HY.out.bel).cell k _ (List.getElem?_eq_getElem hkl)
        obtain ⟨g', o', sa', sc', pa', pc', hgo, d0, _, hIsT, _, _⟩ := HR0.out.cell k _ (List.getElem?_eq_getElem hkl)
        simp only [Option.some.injEq, Addr.mk.injEq, and_true] at hgo
        obtain ⟨rfl, rfl⟩ := hgo
        have hsame := c0.symm.trans (kept (then_ HBT.out HY.out.bel) d0)
        simp only [Option.some.injEq, Value.slice.injEq, true_and] at hsame
        obtain ⟨rfl, rfl⟩ := hsame
        have hki : (k : Int) < (n : Int) := by omega
        have HIT := hide hIsT
        have HMT : Hid ((t.rts.map refR).take (k + 1) = (t.rts.map refR).take k ++ [refR t.rts[k]]) := by
          show _ = _
          rw [List.take_succ_eq_append_getElem (by rw [List.length_map]; exact hkl), List.getElem_map]
        have HST : Hid (t.rts[k].secs.length ≤ 20 ∧ t.rts[k].pts.length ≤ 20 → ∀ r, r ∈ t.rts.take (k + 1) → r.secs.length ≤ 20 ∧ r.pts.length ≤ 20) := fun h r hr => by
          rw [List.take_succ_eq_append_getElem hkl] at hr
          rcases List.mem_append.1 hr with hr | hr
          · exact HSM.out r hr
          · obtain rfl := List.mem_singleton.1 hr
            exact h
        obtain ⟨wI, hwI⟩ : ∃ wI, wI = wr.alloc (.cells #[.slice sa t.rts[k].secs.length sc, .slice pa t.rts[k].pts.length pc] 42) := ⟨_, rfl⟩
        have hbI : Below wr.heap.size wr wI := by rw [hwI]; exact newB _ _
        have hsI : wI.heap.size = wr.heap.size + 1 := by rw [hwI]; simp
        have rI : RowIs wI wr.heap.size 42 [.slice sa t.rts[k].secs.length sc, .slice pa t.rts[k].pts.length pc] := by rw [hwI]; exact RowIs.new _ _ _
        obtain ⟨wX, hwX⟩ : ∃ wX, wX = wI.alloc (.cells #[.slice sa t.rts[k].secs.length sc, .slice none 0 0] 45) := ⟨_, rfl⟩
        have HLX : Hid (LC wI wX (.slice sa t.rts[k].secs.length sc) (.slice none 0 0) 0 []) := by
          rw [hwX]
          exact ⟨newB _ _, RowIs.new _ _ _, World.ownsRow_nil _ _ _ _⟩
        have HPS := hide (hPs.below hbI)
        have HBI := hide hbI
        have l1 := hIs.len
        have l2 := hPs.len
        unfold maxLen at l1 l2
        have HWI := hide hwI
        have HWX := hide hwX
        have HSI := hide hsI
        have HRF : Hid (refR t.rts[k] = ⟨t.rts[k].secs, t.rts[k].pts.map code⟩) := rfl
        have HKI : Hid (∀ W, Below wI.heap.size wI W → W.cell? ⟨wr.heap.size, 0, none⟩ = some (.slice sa t.rts[k].secs.length sc) ∧ W.cell? ⟨wr.heap.size, 1, none⟩ = some (.slice pa t.rts[k].pts.length pc)) := fun W hW => ⟨kept hW (rI.cell 0 _ rfl), kept hW (rI.cell 1 _ rfl)⟩
        clear hIs hPs hIsT d0 hbI rI hwI hwX hsI
        generalize refR t.rts[k] = rr at *
        generalize t.rts[k] = r at *
        obtain ⟨secs, pts⟩ := r
        simp only at c0 c1 HIT HST HWI HWX HLX HPS HRF HKI l1 l2
        obtain ⟨n1, hn1⟩ : ∃ n1, n1 = secs.length := ⟨_, rfl⟩
        obtain ⟨n2, hn2⟩ : ∃ n2, n2 = pts.length := ⟨_, rfl⟩
        have HN1 := hide hn1
        have HN2 := hide hn2
        rw [← hn1] at c0 HIT HST HWI HWX HLX HKI l1
        rw [← hn2] at c1 HST HWI HPS HKI l2
        clear hn1 hn2
        have hwr : wT.heap.size < wr.heap.size := HY.out.cell.lt
        go_upto_region 9 with fail
        rw [← HSI.out, ← HWI.out, ← HWX.out]
        obtain ⟨wO, rfl⟩ : ∃ wO, wO = wr := ⟨_, rfl⟩
        clear HWI HWX x0 x1 x2 c0 c1
        obtain ⟨y0, y1⟩ := HKI.out wX HLX.out.bel
        have HBX : Hid (Below wO.heap.size wO wX) := then_ HBI.out HLX.out.bel
        have HYX := hide (HY.out.below HBX.out)
        obtain ⟨v0, v1, v2⟩ : wX.cell? ⟨wT.heap.size, 0, none⟩ = some (.int .i64 t.secs) ∧ wX.cell? ⟨wT.heap.size, 1, none⟩ = some (.int .i64 t.pts) ∧ wX.cell? ⟨wT.heap.size, 2, none⟩ = some (.slice a k c) := ⟨HYX.out.cell.cell 0 _ rfl, HYX.out.cell.cell 1 _ rfl, HYX.out.cell.cell 2 _ rfl⟩
        by_cases h20 : 20 < n1
        · have h20i : (20 : Int) < (n1 : Int) := by omega
          obtain ⟨z0, z1, z2, z3⟩ := HFIN.out wX HYX.out.bel (.int .i64 t.secs) (.int .i64 t.pts) (.slice a k c)
          obtain ⟨f0, f1, f2, f3, f4, f5, f6⟩ := HPC.out wX HYX.out.bel
          go_wp2_with fail
          refine bodyPost_ret_by (v := .tuple #[.agg #[.int .i64 t.secs, .int .i64 t.pts, .slice a k c], .bool false]) ?_ rfl ?_
          · simp [results, Tryd.results4, go_sem, z0, z1, z2]
          · exact ⟨z3, .inl ⟨_, _, _, rfl⟩⟩
        have h20i : ¬ (20 : Int) < (n1 : Int) := by omega
        by_cases h21 : 20 < n2
        · have h21i : (20 : Int) < (n2 : Int) := by omega
          obtain ⟨z0, z1, z2, z3⟩ := HFIN.out wX HYX.out.bel (.int .i64 t.secs) (.int .i64 t.pts) (.slice a k c)
          obtain ⟨f0, f1, f2, f3, f4, f5, f6⟩ := HPC.out wX HYX.out.bel
          go_wp2_with fail
          refine bodyPost_ret_by (v := .tuple #[.agg #[.int .i64 t.secs, .int .i64 t.pts, .slice a k c], .bool false]) ?_ rfl ?_
          · simp [results, Tryd.results4, go_sem, z0, z1, z2]
          · exact ⟨z3, .inl ⟨_, _, _, rfl⟩⟩
        have h21i : ¬ (20 : Int) < (n2 : Int) := by omega
        have HSN := hide (HST.out ⟨by omega, by omega⟩)
        have hn20 : n2 ≤ 20 := by omega
        go_wp2_with fail
        clear h20 h21 h20i h21i y0 y1 v0 v1 v2 HST
        have HYO := HY
        go_loopw [8] (fun iv wx => ∃ (j : Nat) (v : Value), j ≤ n2 ∧ iv = .int .i64 (j : Int) ∧ Hid (LC wI wx (.slice sa n1 sc) v j ((pts.take j).map code))) (fun iv _ => n2 - (intOf iv).toNat)
        case atStart => exact ⟨0, _, Nat.zero_le _, rfl, HLX.out⟩
        case round =>
          obtain ⟨j, v, hj, rfl, HLY⟩ := hrel
          obtain ⟨va, vc, hv⟩ := own_slice HLY.out.row
          subst hv
          have HY := HLY
          obtain ⟨y0, y1⟩ := HKI.out wr HLY.out.bel
          have u0 := HLY.out.cell.cell 0 _ rfl
          have u1 := HLY.out.cell.cell 1 _ rfl
          have hwI := HLY.out.cell.lt
          by_cases hjl : j < n2
          · have hjp : j < pts.length := by rw [← HN2.out]; exact hjl
            obtain ⟨g1, o1, rfl, d1, d2, _⟩ := (HPS.out.below HLY.out.bel).cell j _ (List.getElem?_eq_getElem hjp)
            have hji : (j : Int) < (n2 : Int) := by omega
            have HTK : Hid ((pts.take (j + 1)).map code = (pts.take j).map code ++ [code pts[j]]) := by show _ = _; rw [List.take_succ_eq_append_getElem hjp, List.map_append]; rfl
            have HOWN : Hid (∀ o, (wr.alloc o).ownsRow (wI.heap.size + 1) 3 1 (.slice va j vc) j (((pts.take j).map code).map intV)) := fun o => own_below HLY.out.row (newB _ _)
            have HONE : Hid (∀ x : Int, ∀ u ∈ [Value.int .i64 x], u.oneCell' = true) := fun x u hu => by obtain rfl := List.mem_singleton.1 hu; rfl
            generalize pts[j] = pp at *
            obtain ⟨x, b⟩ := pp
            simp only at d1 d2
            cases b with
            | true =>
              by_cases hx0 : x < 0
              · have hcd : code (x, true) = 1001 := by
                  have hc : cutN x = 1000 := by unfold cutN; rw [if_pos (.inl hx0)]
                  show (if (true : Bool) = true then cutN x + 1 else -(cutN x + 1)) = _
                  rw [hc]; rfl
                go_wp2_with (at_builtin; refine wpList_append_lies _ rfl (.tmp 77) (.tmp 79) 39 rfl (wI.heap.size + 1) 3 i0 _ 1 8 Tryd.underlying39 hi0 hz0 hz1 hz2 rfl (by decide) (.slice va j vc) j (((pts.take j).map code).map intV) rfl (HOWN.out _) ⟨wr.heap.size, 0, none⟩ 1 1 [.int .i64 (1001)] rfl rfl (World.news_of_block (heap_alloc_new wr _)) (HONE.out _) (by decide) (by unfold maxLen; omega) (by omega) (by simp; omega) (wr.heap.size + 1) (by simp) ?_; intro g2 cap2 wC hown hgrow hat hltg; obtain ⟨hlc, wd0, wdf, wdl⟩ := LC.push (x := 1001) HY.out hown hgrow; have HLC := hide hlc; clear hown hgrow hat hlc)
                go_roundw
                case rel => exact ⟨j + 1, _, by omega, by go_num, by rw [HTK.out, hcd]; exact HLC.out⟩
                case measure => simp [intOf]; omega
              · by_cases hx1 : 1000 < x
                · have hcd : code (x, true) = 1001 := by
                    have hc : cutN x = 1000 := by unfold cutN; rw [if_pos (.inr hx1)]
                    show (if (true : Bool) = true then cutN x + 1 else -(cutN x + 1)) = _
                    rw [hc]; rfl
                  go_wp2_with (at_builtin; refine wpList_append_lies _ rfl (.tmp 77) (.tmp 79) 39 rfl (wI.heap.size + 1) 3 i0 _ 1 8 Tryd.underlying39 hi0 hz0 hz1 hz2 rfl (by decide) (.slice va j vc) j (((pts.take j).map code).map intV) rfl (HOWN.out _) ⟨wr.heap.size, 0, none⟩ 1 1 [.int .i64 (1001)] rfl rfl (World.news_of_block (heap_alloc_new wr _)) (HONE.out _) (by decide) (by unfold maxLen; omega) (by omega) (by simp; omega) (wr.heap.size + 1) (by simp) ?_; intro g2 cap2 wC hown hgrow hat hltg; obtain ⟨hlc, wd0, wdf, wdl⟩ := LC.push (x := 1001) HY.out hown hgrow; have HLC := hide hlc; clear hown hgrow hat hlc)
                  go_roundw
                  case rel => exact ⟨j + 1, _, by omega, by go_num, by rw [HTK.out, hcd]; exact HLC.out⟩
                  case measure => simp [intOf]; omega
                · have hcd : code (x, true) = x + 1 := by
                    have hc : cutN x = x := by unfold cutN; rw [if_neg (by omega)]
                    show (if (true : Bool) = true then cutN x + 1 else -(cutN x + 1)) = _
                    rw [hc]; rfl
                  go_wp2_with (at_builtin; refine wpList_append_lies _ rfl (.tmp 77) (.tmp 79) 39 rfl (wI.heap.size + 1) 3 i0 _ 1 8 Tryd.underlying39 hi0 hz0 hz1 hz2 rfl (by decide) (.slice va j vc) j (((pts.take j).map code).map intV) rfl (HOWN.out _) ⟨wr.heap.size, 0, none⟩ 1 1 [.int .i64 (x + 1)] rfl rfl (World.news_of_block (heap_alloc_new wr _)) (HONE.out _) (by decide) (by unfold maxLen; omega) (by omega) (by simp; omega) (wr.heap.size + 1) (by simp) ?_; intro g2 cap2 wC hown hgrow hat hltg; obtain ⟨hlc, wd0, wdf, wdl⟩ := LC.push (x := x + 1) HY.out hown hgrow; have HLC := hide hlc; clear hown hgrow hat hlc)
                  go_roundw
                  case rel => exact ⟨j + 1, _, by omega, by go_num, by rw [HTK.out, hcd]; exact HLC.out⟩
                  case measure => simp [intOf]; omega
            | false =>
              by_cases hx0 : x < 0
              · have hcd : code (x, false) = -1001 := by
                  have hc : cutN x = 1000 := by unfold cutN; rw [if_pos (.inl hx0)]
                  show (if (false : Bool) = true then cutN x + 1 else -(cutN x + 1)) = _
                  rw [hc]; rfl
                go_wp2_with (at_builtin; refine wpList_append_lies _ rfl (.tmp 77) (.tmp 79) 39 rfl (wI.heap.size + 1) 3 i0 _ 1 8 Tryd.underlying39 hi0 hz0 hz1 hz2 rfl (by decide) (.slice va j vc) j (((pts.take j).map code).map intV) rfl (HOWN.out _) ⟨wr.heap.size, 0, none⟩ 1 1 [.int .i64 (-1001)] rfl rfl (World.news_of_block (heap_alloc_new wr _)) (HONE.out _) (by decide) (by unfold maxLen; omega) (by omega) (by simp; omega) (wr.heap.size + 1) (by simp) ?_; intro g2 cap2 wC hown hgrow hat hltg; obtain ⟨hlc, wd0, wdf, wdl⟩ := LC.push (x := -1001) HY.out hown hgrow; have HLC := hide hlc; clear hown hgrow hat hlc)
                go_roundw
                case rel => exact ⟨j + 1, _, by omega, by go_num, by rw [HTK.out, hcd]; exact HLC.out⟩
                case measure => simp [intOf]; omega
              · by_cases hx1 : 1000 < x
                · have hcd : code (x, false) = -1001 := by
                    have hc : cutN x = 1000 := by unfold cutN; rw [if_pos (.inr hx1)]
                    show (if (false : Bool) = true then cutN x + 1 else -(cutN x + 1)) = _
                    rw [hc]; rfl
                  go_wp2_with (at_builtin; refine wpList_append_lies _ rfl (.tmp 77) (.tmp 79) 39 rfl (wI.heap.size + 1) 3 i0 _ 1 8 Tryd.underlying39 hi0 hz0 hz1 hz2 rfl (by decide) (.slice va j vc) j (((pts.take j).map code).map intV) rfl (HOWN.out _) ⟨wr.heap.size, 0, none⟩ 1 1 [.int .i64 (-1001)] rfl rfl (World.news_of_block (heap_alloc_new wr _)) (HONE.out _) (by decide) (by unfold maxLen; omega) (by omega) (by simp; omega) (wr.heap.size + 1) (by simp) ?_; intro g2 cap2 wC hown hgrow hat hltg; obtain ⟨hlc, wd0, wdf, wdl⟩ := LC.push (x := -1001) HY.out hown hgrow; have HLC := hide hlc; clear hown hgrow hat hlc)
                  go_roundw
                  case rel => exact ⟨j + 1, _, by omega, by go_num, by rw [HTK.out, hcd]; exact HLC.out⟩
                  case measure => simp [intOf]; omega
                · have hcd : code (x, false) = -(x + 1) := by
                    have hc : cutN x = x := by unfold cutN; rw [if_neg (by omega)]
                    show (if (false : Bool) = true then cutN x + 1 else -(cutN x + 1)) = _
                    rw [hc]; rfl
                  go_wp2_with (at_builtin; refine wpList_append_lies _ rfl (.tmp 77) (.tmp 79) 39 rfl (wI.heap.size + 1) 3 i0 _ 1 8 Tryd.underlying39 hi0 hz0 hz1 hz2 rfl (by decide) (.slice va j vc) j (((pts.take j).map code).map intV) rfl (HOWN.out _) ⟨wr.heap.size, 0, none⟩ 1 1 [.int .i64 (-(x + 1))] rfl rfl (World.news_of_block (heap_alloc_new wr _)) (HONE.out _) (by decide) (by unfold maxLen; omega) (by omega) (by simp; omega) (wr.heap.size + 1) (by simp) ?_; intro g2 cap2 wC hown hgrow hat hltg; obtain ⟨hlc, wd0, wdf, wdl⟩ := LC.push (x := -(x + 1)) HY.out hown hgrow; have HLC := hide hlc; clear hown hgrow hat hlc)
                  go_roundw
                  case rel => exact ⟨j + 1, _, by omega, by go_num, by rw [HTK.out, hcd]; exact HLC.out⟩
                  case measure => simp [intOf]; omega
          · have hjn : j = n2 := by omega
            have hpt : pts.take j = pts := List.take_of_length_le (by rw [← HN2.out]; omega)
            have HCO : Hid (CodesAt wO.heap.size wr (.slice none 0 0) (.slice va n2 vc) rr.pts) := by
              have h := HLY.out.row
              rw [hpt, hjn] at h
              have h2 : wr.ownsRow (wI.heap.size + 1) 3 1 (.slice va n2 vc) (pts.map code).length ((pts.map code).map intV) := by rw [List.length_map, ← HN2.out]; exact h
              obtain ⟨a', c', e1, e2⟩ := codes_own h2
              rw [HRF.out]
              refine ⟨a', c', e1, fun i x hx => ?_⟩
              obtain ⟨g', f1, f2, f3, f4⟩ := e2 i x hx
              exact ⟨g', f1, f2, by have := HBI.out.size; omega, f4⟩
            obtain rfl := hjn.symm
            have HBW : Hid (Below wO.heap.size wO wr) := then_ HBI.out HLY.out.bel
            have HYR := hide (HYO.out.below HBW.out)
            have v2 := HYR.out.cell.cell 2 _ rfl
            have hwT := HYR.out.cell.lt
            have HUI : Hid (Ints w (.slice sa n1 sc) rr.secs) := by rw [HRF.out]; exact HIT.out
            have HOWN : Hid (∀ o, (wr.alloc o).ownsRow (wT.heap.size + 1) 45 2 (.slice a k c) k us) := fun o => own_below HYR.out.row (newB _ _)
            have HONE : Hid (∀ u ∈ [Value.slice sa n1 sc, .slice va n2 vc], u.oneCell' = true) := fun u hu => by
              simp only [List.mem_cons, List.not_mem_nil, or_false] at hu
              rcases hu with rfl | rfl <;> rfl
            have HNEW : Hid ((wr.alloc (.cells #[.slice sa n1 sc, .slice va n2 vc] 45)).heap[wr.heap.size]? = some (.cells #[.slice sa n1 sc, .slice va n2 vc] 45 (0, 0))) := heap_alloc_new _ _
            have HFI : Hid (∀ (g2 cap2 : Nat) (wC : World), wC.ownsRow (wT.heap.size + 1) 45 2 (.slice (some ⟨g2, 0, none⟩) (k + 1) cap2) (k + 1) (us ++ [.slice sa n1 sc, .slice va n2 vc]) → (wr.alloc (.cells #[.slice sa n1 sc, .slice va n2 vc] 45)).grownBy wC (Value.slice a k c).ownBlock → ((Value.slice a k c).ownBlock = some g2 ∨ g2 = wr.heap.size + 1) → LT w wT (wC.setCell ⟨wT.heap.size, 2, none⟩ (.slice (some ⟨g2, 0, none⟩) (k + 1) cap2)) t.secs t.pts (.slice (some ⟨g2, 0, none⟩) (k + 1) cap2) (k + 1) (us ++ [.slice sa n1 sc, .slice va n2 vc]) ((t.rts.map refR).take (k + 1)) ∧ wC.cell? ⟨wT.heap.size, 2, none⟩ = some (.slice a k c) ∧ wC.frozen? ⟨wT.heap.size, 2, none⟩ = false ∧ wT.heap.size < wC.heap.size) := fun g2 cap2 wC ho hg hat => by
              rw [HMT.out]
              exact LT.push HYO.out HBW.out HUI.out HCO.out ho hg hat
            go_wp2_with (at_builtin; refine wpList_append_lies _ rfl (.tmp 83) (.tmp 85) 25 rfl (wT.heap.size + 1) 45 i1 _ 2 48 Tryd.underlying25 hi1 hy0 hy1 hy2 rfl (by decide) (.slice a k c) k us rfl (HOWN.out _) ⟨wr.heap.size, 0, none⟩ 1 1 [.slice sa n1 sc, .slice va n2 vc] rfl rfl (World.news_of_block HNEW.out) HONE.out (by decide) (by unfold maxLen; omega) (by omega) (by simp; omega) (wr.heap.size + 1) (by simp) ?_; intro g2 cap2 wC hown hgrow hat hltg; obtain ⟨hlt', wd0, wdf, wdl⟩ := HFI.out g2 cap2 wC hown hgrow hat; have HLT := hide hlt'; clear hown hgrow hat hlt')
            go_roundw
            case rel => exact ⟨k + 1, _, _, _, by omega, by go_num, HLT.out, HSN.out⟩
            case measure => simp [intOf]; omega
      · have hkn : k = n := by omega
        have hall : (t.rts.map refR).take k = t.rts.map refR := List.take_of_length_le (by rw [List.length_map, ← HN.out]; omega)
        have HSA : Hid (∀ r, r ∈ t.rts → r.secs.length ≤ 20 ∧ r.pts.length ≤ 20) := by
          have h := HSM.out
          rw [List.take_of_length_le (by rw [← HN.out]; omega)] at h
          exact h
        have HLF : Hid (LT w wT wr t.secs t.pts (.slice a n c) (t.rts.map refR).length us (t.rts.map refR)) := by
          have h := HY.out
          rw [hall, hkn] at h
          rw [List.length_map, ← HN.out]
          exact h
        obtain ⟨v0, v1, v2⟩ : wr.cell? ⟨wT.heap.size, 0, none⟩ = some (.int .i64 t.secs) ∧ wr.cell? ⟨wT.heap.size, 1, none⟩ = some (.int .i64 t.pts) ∧ wr.cell? ⟨wT.heap.size, 2, none⟩ = some (.slice a k c) := ⟨HY.out.cell.cell 0 _ rfl, HY.out.cell.cell 1 _ rfl, HY.out.cell.cell 2 _ rfl⟩
        obtain rfl := hkn.symm
        obtain ⟨z0, z1, z2, z3⟩ := HFIN.out wr HY.out.bel (.int .i64 t.secs) (.int .i64 t.pts) (.slice a n c)
        obtain ⟨f0, f1, f2, f3, f4, f5, f6⟩ := HPC.out wr HY.out.bel
        have HCB : Hid (∀ r, r ∈ t.rts.map refR → r.pts.length ≤ 1000 ∧ ∀ c, c ∈ r.pts → I64 c) := fun r hr => by
          obtain ⟨q, hq, rfl⟩ := List.mem_map.1 hr
          have h := HSA.out q hq
          refine ⟨by show (q.pts.map code).length ≤ 1000; rw [List.length_map]; omega, fun c hc => ?_⟩
          obtain ⟨y, _, rfl⟩ := List.mem_map.1 hc
          have := code_bd y
          unfold I64
          omega
        go_wp2_with fail
        refine bodyPost_ret_by (v := .tuple #[.agg #[.int .i64 t.secs, .int .i64 t.pts, .slice a n c], .bool true]) ?_ rfl ?_
        · simp [results, Tryd.results4, go_sem, z0, z1, z2]
        · refine ⟨z3, .inr ⟨_, rfl, LT.rrs HLF.out (by rw [List.length_map, ← HN.out]; exact hn8) z3 (fun g k u hg hc => ?_) HCB.out, by rw [← HN.out]; exact hn8, HSA.out⟩⟩
          have := HSTT.out
          exact cell_set_block _ _ _ _ _ _ _ (by omega) (cell_set_block _ _ _ _ _ _ _ (by omega) (cell_set_block _ _ _ _ _ _ _ (by omega) hc))
end Ro
end Go.Proofs.YtmniiclmimidjaaDoor
