/-
  Formulas that LassoRights makes: a node with a name and parts that are appended one by one, then wrapped in Not.
-/
import Derived.Test.YtafohdcfcaiddaaDoorLsPushN
import Derived.Test.YtafohdcfcaiddaaDoorLsForm
import Derived.Test.YtafohdcfcaiddaaDoorLsRightsM
namespace Go.Proofs.YtafohdcfcaiddaaDoor
namespace Ls
open Go.RowKit
/-- a node with a name, whose third cell is an own row of parts so far -/
structure PR (w wr : World) (k : Int) (nm : List UInt8) (v : Value) (us : List Value) (xs : List Fm) : Prop where
  bel : Below w.heap.size w wr
  own : wr.ownsRow (w.heap.size + 1) 40 1 v us.length us
  len : us.length = xs.length
  node : RowIs wr w.heap.size 54 [.int .i64 k, .string ⟨nm.toArray⟩, v]
  each : ∀ (i : Nat) u x, us[i]? = some u → xs[i]? = some x → IsF (fun b => (w.heap.size < b ∧ b < wr.heap.size) ∧ some b ≠ v.ownBlock) wr x u
/-- one more is appended, and the node told of it -/
theorem PR.grow {w wr W wC : World} {k : Int} {nm : List UInt8} {v p : Value} {us : List Value} {xs : List Fm} {x : Fm} {g cap : Nat} (h : PR w wr k nm v us xs) (hb : Below wr.heap.size wr W) (hp : IsF (fun b => wr.heap.size ≤ b) W x p) (ho : wC.ownsRow (w.heap.size + 1) 40 1 (.slice (some ⟨g, 0, none⟩) (us.length + 1) cap) (us.length + 1) (us ++ [p])) (hg : (W.alloc (.cells #[p] 40)).grownBy wC v.ownBlock) (hat : v.ownBlock = some g ∨ g = W.heap.size + 1) :
    PR w (wC.setCell ⟨w.heap.size, 2, none⟩ (.slice (some ⟨g, 0, none⟩) (us.length + 1) cap)) k nm (.slice (some ⟨g, 0, none⟩) (us.length + 1) cap) (us ++ [p]) (xs ++ [x]) := by
  obtain ⟨h1, h2, h3, h4, h5⟩ := h
  have hwl := h4.lt
  have hsz : (W.alloc (.cells #[p] 40)).heap.size = W.heap.size + 1 := by simp
  have hgs := hg.size
  rw [hsz] at hgs
  have hbs := hb.size
  have hvb : v.ownBlock = none ∨ ∃ g, v.ownBlock = some g ∧ w.heap.size + 1 ≤ g := ownBlock_new h2
  have hne : some w.heap.size ≠ v.ownBlock := by
    rcases hvb with h | ⟨g', h, hl⟩
    · rw [h]; intro e; cases e
    · rw [h]; intro e; cases e; omega
  have hgw : w.heap.size + 1 ≤ g := by
    rcases ho.2 with ⟨h, _⟩ | ⟨g', cap', cur, h, hl, _⟩
    · cases h
    · simp only [Value.slice.injEq, Option.some.injEq, Addr.mk.injEq, and_true] at h
      omega
  have hnode : RowIs wC w.heap.size 54 [.int .i64 k, .string ⟨nm.toArray⟩, v] := (hg.block _ (by omega) hne).trans (((h4.below hb).alloc _))
  have hst : ∀ b i u, (w.heap.size < b ∧ b < W.heap.size) ∧ some b ≠ v.ownBlock → W.cell? ⟨b, i, none⟩ = some u → (wC.setCell ⟨w.heap.size, 2, none⟩ (.slice (some ⟨g, 0, none⟩) (us.length + 1) cap)).cell? ⟨b, i, none⟩ = some u := fun b i u hb' hc =>
    cell_set_block _ _ _ _ _ _ _ (by omega) (hg.cell (cell_alloc_keep _ _ _ _ hc) hb'.2)
  have hok : ∀ b, (w.heap.size < b ∧ b < W.heap.size) ∧ some b ≠ v.ownBlock → (w.heap.size < b ∧ b < (wC.setCell ⟨w.heap.size, 2, none⟩ (.slice (some ⟨g, 0, none⟩) (us.length + 1) cap)).heap.size) ∧ some b ≠ (Value.slice (some ⟨g, 0, none⟩) (us.length + 1) cap).ownBlock := fun b hb' => by
    refine ⟨⟨hb'.1.1, by rw [World.size_setCell]; omega⟩, ?_⟩
    show some b ≠ some g
    intro e
    cases e
    rcases hat with h | h
    · exact hb'.2 h.symm
    · omega
  refine ⟨?_, ?_, by rw [List.length_append, List.length_append, h3]; rfl, ?_, fun i u y hu hy => ?_⟩
  · exact (below_grown (h1.trans ((then_ hb (newB _ _)).mono h1.size)) hg (hvb.imp id fun ⟨g', h, hl⟩ => ⟨g', h, by omega⟩)).setCell (Nat.le_refl _) _
  · rw [List.length_append]
    refine ⟨ho.1, ?_⟩
    rcases ho.2 with h | ⟨g', cap', cur, e1, e2, e3, e4⟩
    · exact .inl h
    · refine .inr ⟨g', cap', cur, e1, e2, ?_, e4⟩
      rw [Below.heap_setCell _ _ _ _ (fun e => by have e2' : g' = w.heap.size := e; omega)]
      exact e3
  · exact hnode.set 2 _
  · by_cases hi : i < us.length
    · rw [List.getElem?_append_left hi] at hu
      rw [List.getElem?_append_left (by omega)] at hy
      have k1 := h5 i u y hu hy
      have k2 : IsF (fun b => (w.heap.size < b ∧ b < W.heap.size) ∧ some b ≠ v.ownBlock) W y u := IsF.stay (fun b i u _ hc => kept hb hc) (fun b hb' => ⟨⟨hb'.1.1, by omega⟩, hb'.2⟩) y u k1
      exact IsF.stay hst hok y u k2
    · rw [List.getElem?_append_right (by omega)] at hu hy
      have hz : i - us.length = 0 := by
        have := (List.getElem?_eq_some_iff.1 hu).1
        simp at this; omega
      rw [hz] at hu
      rw [← h3, hz] at hy
      cases hu; cases hy
      refine IsF.stay hst hok x p ((IsF.bound x p hp).weak fun b hb' => ⟨⟨by omega, hb'.2⟩, ?_⟩)
      rcases h2.2 with ⟨h, _⟩ | ⟨g', cap', cur, h, _, hcur, _⟩
      · rw [h]; intro e; cases e
      · have hl : g' < wr.heap.size := (Array.getElem?_eq_some_iff.1 hcur).1
        rw [h]
        show some b ≠ some g'
        intro e
        cases e
        omega
/-- the node before any part -/
theorem PR.first (w : World) (k : Int) (nm : List UInt8) : PR w (w.alloc (.cells #[.int .i64 k, .string ⟨nm.toArray⟩, .slice none 0 0] 54)) k nm (.slice none 0 0) [] [] :=
  ⟨newB _ _, ⟨by simp, .inl ⟨rfl, rfl⟩⟩, rfl, RowIs.new w 54 [.int .i64 k, .string ⟨nm.toArray⟩, .slice none 0 0], fun i u x hu => by simp at hu⟩
/-- the node is the formula -/
theorem PR.isF {w wr : World} {k : Int} {nm : List UInt8} {v : Value} {us : List Value} {xs : List Fm} (hp : PR w wr k nm v us xs) (hk : I64 k) (hn : nm.length ≤ maxLen) (hx : xs.length ≤ maxLen) : IsF (fun _ => True) wr ⟨false, k, nm, xs⟩ (.pointer (some ⟨w.heap.size, 0, none⟩)) := by
  obtain ⟨va, vc, hv⟩ := own_slice hp.own
  subst hv
  have hul : us.length = xs.length := hp.len
  refine isF_node.2 ⟨hk, hn, hx, w.heap.size, va, vc, trivial, rfl, hp.node.cell 0 _ rfl, hp.node.cell 1 _ rfl, by rw [← hul]; exact hp.node.cell 2 _ rfl, fun i x hx => ?_⟩
  have hil := (List.getElem?_eq_some_iff.1 hx).1
  obtain ⟨u, hu⟩ : ∃ u, us[i]? = some u := ⟨_, List.getElem?_eq_getElem (by rw [hul]; exact hil)⟩
  rcases hp.own.2 with ⟨_, h0⟩ | ⟨gr, cap, cur, e1, e2, e3, e4, _, _, e5⟩
  · rw [hul] at h0; omega
  · simp only [Value.slice.injEq] at e1
    obtain ⟨rfl, _, rfl⟩ := e1
    exact ⟨gr, 0, u, trivial, rfl, by rw [← hul]; exact e4, by rw [Nat.zero_add]; exact row_cell e3 (by simpa using e5) hu, (hp.each i u x hu hx).weak fun b hb => trivial⟩
/-- wrapped in Not -/
theorem wrapped {W : World} {n : Nat} {x : Fm} {v : Value} (h : IsF (fun _ => True) W (nots n x) v) :
    IsF (fun _ => True) ((W.alloc (.cells #[v] 40)).alloc (.cells #[.int .i64 3, .string ⟨#[]⟩, .slice (some ⟨W.heap.size, 0, none⟩) 1 1] 54)) (nots (n + 1) x) (.pointer (some ⟨W.heap.size + 1, 0, none⟩)) ∧
      Below W.heap.size W ((W.alloc (.cells #[v] 40)).alloc (.cells #[.int .i64 3, .string ⟨#[]⟩, .slice (some ⟨W.heap.size, 0, none⟩) 1 1] 54)) := by
  have hb := then_ (newB W (.cells #[v] 40)) (newB _ (.cells #[.int .i64 3, .string ⟨#[]⟩, .slice (some ⟨W.heap.size, 0, none⟩) 1 1] 54))
  refine ⟨isF_n1 (x := nots n x) trivial trivial (by unfold I64; omega) ?_ ((RowIs.new W 40 [v]).alloc _) (h.below hb), hb⟩
  have := RowIs.new (W.alloc (.cells #[v] 40)) 54 [.int .i64 3, .string ⟨#[]⟩, .slice (some ⟨W.heap.size, 0, none⟩) 1 1]
  simpa using this
end Ls
end Go.Proofs.YtafohdcfcaiddaaDoor
