/-
  A walker in memory; the walks of hasLeft and path. The walk of follow: one goes a leg. The walks of slices.IndexFunc and ContainsFunc with hasLeft of a walker.
-/
import Derived.Test.YtglmpkpcbafgdaaGreatDoorExRepAll
import Derived.Test.YtglmpkpcbafgdaaGreatDoorMcRowAll
import Derived.Test.YtglmpkpcbafgdaaGreatDoorShelf3
import Derived.Sort.OwnSortedInts
import Derived.BigQuiet
import Derived.Deep.RegionHeld3
import Derived.Deep.DeepCutAuto
namespace Go.Proofs.YtglmpkpcbafgdaaGreatDoor
section
namespace Tr
open Go.RowKit Go.Sort
def natV (i : Nat) : Value := .int .i64 (i : Int)
/-- the rows of a table: from each state, by each input -/
def RowsAt (W : World) (gN S I : Nat) (next : Nat → List Nat) (uN : List Nat) : Prop := uN.length = S ∧ ∀ (s b : Nat), uN[s]? = some b → W.cell? ⟨gN, s, none⟩ = some (.slice (some ⟨b, 0, none⟩) I I) ∧ ∀ (i x : Nat), (next s)[i]? = some x → W.cell? ⟨b, i, none⟩ = some (.int .i64 (x : Int))
theorem RowsAt.below {W W' : World} {gN S I : Nat} {next : Nat → List Nat} {uN : List Nat} (h : RowsAt W gN S I next uN) (hb : Below W.heap.size W W') : RowsAt W' gN S I next uN :=
  have key : ∀ (p : Addr) v, W.cell? p = some v → W'.cell? p = some v := fun _ _ hv => (hb.cell (World.block_lt_of_cell? _ _ hv)).trans hv
  ⟨h.1, fun s b hs => ⟨key _ _ (h.2 s b hs).1, fun i x hx => key _ _ ((h.2 s b hs).2 i x hx)⟩⟩
/-- a walker -/
structure Wk (W : World) (bw gN gG S I : Nat) (next : Nat → List Nat) (uN : List Nat) (G : List Nat) (a : Nat) : Prop where
  it : W.heap[bw]? = some (.cells #[.slice (some ⟨gN, 0, none⟩) S S, .slice (some ⟨gG, 0, none⟩) S S, .int .i64 (a : Int)] 66 (0, 0))
  rows : RowsAt W gN S I next uN
  gone : RowIs W gG 3 (G.map natV)
  len : G.length = S
theorem Wk.below {W W' : World} {bw gN gG S I : Nat} {next : Nat → List Nat} {uN : List Nat} {G : List Nat} {a : Nat} (h : Wk W bw gN gG S I next uN G a) (hb : Below W.heap.size W W') : Wk W' bw gN gG S I next uN G a :=
  ⟨(hb.block _ (Array.getElem?_eq_some_iff.1 h.it).1).trans h.it, h.rows.below hb, h.gone.below hb, h.len⟩
theorem three_cells {W : World} {b : Nat} {x y z : Value} {t : TypeId} (h : W.heap[b]? = some (.cells #[x, y, z] t (0, 0))) : W.cell? ⟨b, 0, none⟩ = some x ∧ W.cell? ⟨b, 1, none⟩ = some y ∧ W.cell? ⟨b, 2, none⟩ = some z ∧ ∀ i, W.frozen? ⟨b, i, none⟩ = false :=
  ⟨by rw [Lib.cell_of_heap h]; rfl, by rw [Lib.cell_of_heap h]; rfl, by rw [Lib.cell_of_heap h]; rfl, fun i => Lib.frozen_of_heap h i⟩
theorem Wk.cells {W : World} {bw gN gG S I : Nat} {next : Nat → List Nat} {uN : List Nat} {G : List Nat} {a : Nat} (h : Wk W bw gN gG S I next uN G a) : W.cell? ⟨bw, 0, none⟩ = some (.slice (some ⟨gN, 0, none⟩) S S) ∧ W.cell? ⟨bw, 1, none⟩ = some (.slice (some ⟨gG, 0, none⟩) S S) ∧ W.cell? ⟨bw, 2, none⟩ = some (.int .i64 (a : Int)) := by
  obtain ⟨h1, h2, h3, _⟩ := three_cells h.it
  exact ⟨h1, h2, h3⟩
theorem Wk.goneAt {W : World} {bw gN gG S I : Nat} {next : Nat → List Nat} {uN : List Nat} {G : List Nat} {a : Nat} (h : Wk W bw gN gG S I next uN G a) (s : Nat) (hs : s < S) : W.cell? ⟨gG, s, none⟩ = some (.int .i64 ((G.getD s 0 : Nat) : Int)) := by
  have hl : s < G.length := by rw [h.len]; exact hs
  have e : G.getD s 0 = G[s] := by rw [List.getD_eq_getElem?_getD, List.getElem?_eq_getElem hl]; rfl
  rw [e]
  exact h.gone.cell s _ (by rw [List.getElem?_map, List.getElem?_eq_getElem hl]; rfl)
theorem Wk.row {W : World} {bw gN gG S I : Nat} {next : Nat → List Nat} {uN : List Nat} {G : List Nat} {a : Nat} (h : Wk W bw gN gG S I next uN G a) (s : Nat) (hs : s < S) : ∃ b, W.cell? ⟨gN, s, none⟩ = some (.slice (some ⟨b, 0, none⟩) I I) ∧ ∀ (i x : Nat), (next s)[i]? = some x → W.cell? ⟨b, i, none⟩ = some (.int .i64 (x : Int)) := by
  have hl : s < uN.length := by rw [h.rows.1]; exact hs
  exact ⟨uN[s], h.rows.2 s _ (List.getElem?_eq_getElem hl)⟩
theorem drewN_low {B : Nat} {w w' : World} (h : Below B w w') (n : Nat) : Below B w (w'.drewN n) := ⟨h.os, h.tape, h.output, h.size, h.block⟩
theorem drewB (w : World) : Below w.heap.size w w.drew := ⟨rfl, rfl, rfl, Nat.le_refl _, fun _ _ => rfl⟩
set_option maxHeartbeats 2000000 in
set_option maxRecDepth 100000 in
theorem hasLeft_any (bw gN gG S I : Nat) (next : Nat → List Nat) (uN G : List Nat) (a s : Nat) (w : World) (h : Wk w bw gN gG S I next uN G a) (hs : s < S) (_hS : S ≤ 100000) (_hI : I ≤ 100000) :
    Calls Tryz.prog 18 #[.pointer (some ⟨bw, 0, none⟩), .int .i64 (s : Int)] w fun e w' => e = .returned (.bool (decide (G.getD s 0 < I))) ∧ Below w.heap.size w w' := by
  obtain ⟨c0, c1, c2⟩ := h.cells
  have c3 := h.goneAt s hs
  obtain ⟨b, c4, _⟩ := h.row s hs
  generalize G.getD s 0 = x at *
  clear h
  go_enter Tryz.func18, Tryz.ntmps18
  go_upto_region 1 with fail
  go_quiet (fail)
  go_wp2_with fail
  go_ret
  exact ⟨ret_bool (by simp), drewN_low (Below.refl _ _) _⟩
theorem rev_any (base : Nat) (v : Value) (l : List Nat) (w : World) (h : w.ownsRow base 3 1 v l.length (l.map natV)) (hl : l.length ≤ 1000000) :
    Calls Tryz.prog 67 #[v] w fun e w' => e = .returned (.tuple #[]) ∧ w'.ownsRow base 3 1 v l.length (l.reverse.map natV) ∧ w.grownBy w' v.ownBlock := by
  have hm : ∀ l : List Nat, l.map natV = (l.map fun i : Nat => (i : Int)).map (Value.int .i64) := fun l => by rw [List.map_map]; rfl
  rcases h with ⟨h1, ⟨rfl, h2⟩ | ⟨g, cap, cur, rfl, hg, hb, hn, hcap, hcur, ht⟩⟩
  · refine (Tryz.slices_Reverse_int_empty none 0 w).mono ?_
    rintro e w' ⟨rfl, rfl⟩
    have hl0 : l = [] := List.length_eq_zero_iff.1 h2
    subst hl0
    exact ⟨rfl, ⟨rfl, .inl ⟨rfl, rfl⟩⟩, rfl, rfl, rfl, Nat.le_refl _, fun _ _ _ => rfl⟩
  · have hH := holds_of_blockI (ss := l.map fun i : Nat => (i : Int)) hb (by rw [List.length_map, ← hm]; simpa using ht)
    have hc := Tryz.slices_Reverse_int g 0 cap (l.map fun i : Nat => (i : Int)) w hH (by simp; omega)
    rw [List.length_map] at hc
    refine hc.mono ?_
    rintro e w' ⟨rfl, n, rfl⟩
    refine ⟨rfl, ?_, ?_⟩
    · have h3 := ownsRow_sortedI (w := w) (base := base) (g := g) (cap := cap) (n := n) (e := 3) (os := #[]) (cur := cur) (ss := l.map fun i : Nat => (i : Int)) (ts := (l.map fun i : Nat => (i : Int)).reverse) (by simp) hg hb (by simpa using hn) hcap hcur
      rw [grow_empty, List.length_map] at h3
      rw [hm, List.map_reverse]
      exact h3
    · have h3 := grownBy_sortedI (w := w) (g := g) (n := n) (os := #[]) (l.map fun i : Nat => (i : Int)).reverse.toArray
      rw [grow_empty] at h3
      exact h3
/-- a step, as it lies in memory -/
def mtCells (m : Mt) : List Value := [.int .i64 (m.s : Int), .int .i64 (m.frm : Int), .int .i64 (m.by_ : Int)]
/-- a row of steps -/
def MetAt (W : World) (g : Nat) (l : List Mt) : Prop := ∀ (k : Nat) m, l[k]? = some m → W.cell? ⟨g, k * 3, none⟩ = some (.int .i64 (m.s : Int)) ∧ W.cell? ⟨g, k * 3 + 1, none⟩ = some (.int .i64 (m.frm : Int)) ∧ W.cell? ⟨g, k * 3 + 2, none⟩ = some (.int .i64 (m.by_ : Int))
theorem MetAt.below {W W' : World} {g : Nat} {l : List Mt} (h : MetAt W g l) (hb : Below W.heap.size W W') : MetAt W' g l := fun k m hm => by
  obtain ⟨a1, a2, a3⟩ := h k m hm
  exact ⟨(hb.cell (World.block_lt_of_cell? _ _ a1)).trans a1, (hb.cell (World.block_lt_of_cell? _ _ a2)).trans a2, (hb.cell (World.block_lt_of_cell? _ _ a3)).trans a3⟩
/-- what path comes to -/
def Pth (w : World) (next : Nat → List Nat) (I : Nat) (G : List Nat) (met : List Mt) (K t : Nat) (e : Ending) (w' : World) : Prop := ∃ r a c, e = .returned (.slice a r.length c) ∧ w'.ownsRow w.heap.size 3 1 (.slice a r.length c) r.length (r.reverse.map natV) ∧ Way next I G met K t 0 r ∧ Below w.heap.size w w'
set_option maxHeartbeats 4000000 in
set_option maxRecDepth 100000 in
theorem path_any (next : Nat → List Nat) (I S : Nat) (G : List Nat) (a : Nat) (met : List Mt) (seen : List Bool) (k K g c : Nat) (m : Mt) (w : World) (hn : Near next I S G a met seen k) (hK : met[K]? = some m) (hS : S ≤ 100000) (hm : MetAt w g met) (_hc : met.length ≤ c) :
    Calls Tryz.prog 38 #[.slice (some ⟨g, 0, none⟩) met.length c, .int .i64 (K : Int)] w (Pth w next I G met K m.s) := by
  obtain ⟨i0, hi0, hz0, hz1, hz2⟩ := info_parts Tryz.infoInt
  have HN := hide hn
  have HM := hide hm
  have hfew := hn.few
  have hKl : K < met.length := (List.getElem?_eq_some_iff.1 hK).1
  have HW0 := hide (Way.start next I G met K m hK)
  obtain ⟨L, hL⟩ : ∃ L, L = met.length := ⟨_, rfl⟩
  have HL := hide hL
  rw [← hL] at hfew hKl ⊢
  clear hn hm hK hL
  go_enter Tryz.func38, Tryz.ntmps38
  go_wp2_with fail
  go_loopw [1, 5] (fun kv v wr => ∃ j r a c, kv = .int .i64 ((j : Nat) : Int) ∧ v = .slice a r.length c ∧ Hid (Way next I G met K m.s j r) ∧ Hid (wr.ownsRow w.heap.size 3 1 (.slice a r.length c) r.length (r.map natV)) ∧ Hid (Below w.heap.size w wr)) (fun kv _ _ => (intOf kv).toNat)
  case atStart => exact ⟨K, [], none, 0, rfl, rfl, HW0.out, World.ownsRow_nil _ _ _ _, Below.refl _ _⟩
  case round =>
    obtain ⟨j, r, ra, rc, rfl, rfl, HY, HO, HB⟩ := hrel
    have hfw := HY.out.few
    have hrl : r.length ≤ 1000000 := by omega
    by_cases hj0 : 0 < j
    · obtain ⟨m2, hm2⟩ : ∃ m2, met[j]? = some m2 := ⟨_, List.getElem?_eq_getElem (by have := HL.out; omega)⟩
      have HWK := hide (HY.out.back HN.out hj0 m2 hm2)
      obtain ⟨f, hfj, _⟩ := HN.out.par j m2 hj0 hm2
      have HKM : Hid (∀ W, Below w.heap.size w W → W.cell? ⟨g, j * 3 + 1, none⟩ = some (.int .i64 (m2.frm : Int)) ∧ W.cell? ⟨g, j * 3 + 2, none⟩ = some (.int .i64 (m2.by_ : Int))) := fun W hW => ⟨(HM.out.below hW j m2 hm2).2.1, (HM.out.below hW j m2 hm2).2.2⟩
      obtain ⟨d1, d2⟩ := HKM.out wr HB.out
      have HOWN : Hid (∀ o, (wr.alloc o).ownsRow w.heap.size 3 1 (.slice ra r.length rc) r.length (r.map natV)) := fun o => HO.out.alloc o
      have HONE : Hid (∀ u ∈ [Value.int .i64 (m2.by_ : Int)], u.oneCell' = true) := by
        intro u hu
        simp only [List.mem_cons, List.not_mem_nil, or_false] at hu
        subst hu; rfl
      have HFIN : Hid (∀ (o : Obj) (g cap : Nat) (wC : World), wC.ownsRow w.heap.size 3 1 (.slice (some ⟨g, 0, none⟩) (r.length + 1) cap) (r.length + 1) (r.map natV ++ [.int .i64 (m2.by_ : Int)]) → (wr.alloc o).grownBy wC (Value.slice ra r.length rc).ownBlock →
          wC.ownsRow w.heap.size 3 1 (.slice (some ⟨g, 0, none⟩) (r ++ [m2.by_]).length cap) (r ++ [m2.by_]).length ((r ++ [m2.by_]).map natV) ∧ Below w.heap.size w wC) := fun o g cap wC h1 h2 =>
        ⟨by rw [List.map_append, List.length_append]; exact h1, (HB.out.alloc HB.out.size o).grown h2 (by have := HB.out.size; simp; omega) (fun k e => (HO.out.lt k e).1)⟩
      have hzr := HB.out.size
      generalize m2.by_ = mi at *
      generalize m2.frm = mf at *
      clear hm2
      go_wp2_with (at_builtin; refine wpList_append_lies _ rfl (.tmp 8) (.tmp 14) 26 rfl w.heap.size 3 i0 _ 1 8 Tryz.underlying26 hi0 hz0 hz1 hz2 rfl (by decide) (.slice ra r.length rc) r.length (r.map natV) rfl (HOWN.out _) ⟨wr.heap.size, 0, none⟩ 1 1 [.int .i64 (mi : Int)] rfl rfl (World.news_of_block (heap_alloc_new wr _)) (HONE.out) (by decide) (by unfold maxLen; omega) (by omega) (by simp; omega) (wr.heap.size + 1) (by simp) ?_; intro g2 cap2 wC hown hgrow hat hltg; obtain ⟨hoC, hbC⟩ := HFIN.out _ g2 cap2 wC hown hgrow; obtain ⟨x1, x2⟩ := HKM.out wC hbC; have HOC := hide hoC; have HBC := hide hbC; clear hoC hbC hown hgrow hat)
      go_roundw
      case rel => exact ⟨mf, r ++ [mi], some ⟨g2, 0, none⟩, cap2, rfl, by simp, HWK.out, HOC.out, HBC.out⟩
      case measure => simp [intOf]; omega
    · obtain rfl : j = 0 := by omega
      have HR := hide (rev_any w.heap.size _ r wr HO.out hrl)
      have HFN : Hid (∀ W, W.ownsRow w.heap.size 3 1 (.slice ra r.length rc) r.length (r.reverse.map natV) → wr.grownBy W (Value.slice ra r.length rc).ownBlock → Pth w next I G met K m.s (.returned (.slice ra r.length rc)) W) := fun W h1 h2 =>
        ⟨r, ra, rc, rfl, h1, HY.out, HB.out.grown h2 HB.out.size (fun k e => (HO.out.lt k e).1)⟩
      go_wp2_with fail
      refine HR.out.mono ?_
      rintro e w1 ⟨rfl, ho1, hg1⟩
      have HE := hide (HFN.out w1 ho1 hg1)
      clear ho1 hg1 HR HFN
      go_wp2_with fail
      go_ret
      exact HE.out
end Tr
end
section
namespace Tr
open Go.RowKit Go.Sort
/-- all but two blocks stand -/
structure Kept (B bw gG : Nat) (w w' : World) : Prop where
  os : w'.os = w.os
  tape : w'.tape = w.tape
  output : w'.output = w.output
  size : w.heap.size ≤ w'.heap.size
  block : ∀ k, k < B → k ≠ bw → k ≠ gG → w'.heap[k]? = w.heap[k]?
theorem Kept.refl (B bw gG : Nat) (w : World) : Kept B bw gG w w := ⟨rfl, rfl, rfl, Nat.le_refl _, fun _ _ _ _ => rfl⟩
theorem Kept.set {B bw gG : Nat} {w w' : World} (h : Kept B bw gG w w') (b i : Nat) (v : Value) (hb : b = bw ∨ b = gG) : Kept B bw gG w (w'.setCell ⟨b, i, none⟩ v) :=
  ⟨h.os, h.tape, h.output, by simp [World.setCell]; exact h.size, fun k h1 h2 h3 => (Below.heap_setCell _ _ _ _ (fun e => by have e2 : k = b := e; rcases hb with rfl | rfl <;> contradiction)).trans (h.block k h1 h2 h3)⟩
theorem Kept.drewN {B bw gG : Nat} {w w' : World} (h : Kept B bw gG w w') (n : Nat) : Kept B bw gG w (w'.drewN n) := ⟨h.os, h.tape, h.output, h.size, h.block⟩
theorem Kept.drew {B bw gG : Nat} {w w' : World} (h : Kept B bw gG w w') : Kept B bw gG w w'.drew := ⟨h.os, h.tape, h.output, h.size, h.block⟩
/-- the blocks of a table lie elsewhere -/
structure Apart (W : World) (bw gN gG : Nat) (uN : List Nat) : Prop where
  ne : bw ≠ gG
  n1 : gN ≠ bw ∧ gN ≠ gG ∧ gN < W.heap.size
  us : ∀ (s b : Nat), uN[s]? = some b → b ≠ bw ∧ b ≠ gG ∧ b < W.heap.size
/-- one stands elsewhere -/
theorem Wk.move {W : World} {bw gN gG S I : Nat} {next : Nat → List Nat} {uN : List Nat} {G : List Nat} {a : Nat} (h : Wk W bw gN gG S I next uN G a) (hn : bw ≠ gG) (hN : gN ≠ bw) (hu : ∀ (s b : Nat), uN[s]? = some b → b ≠ bw) (t : Nat) : Wk (W.setCell ⟨bw, 2, none⟩ (.int .i64 (t : Int))) bw gN gG S I next uN G t := by
  refine ⟨?_, ⟨h.rows.1, fun s b hs => ?_⟩, h.gone.other bw 2 _ (fun e => hn e.symm), h.len⟩
  · have := h.it
    simp [World.setCell, Array.getElem?_modify, this]
  · obtain ⟨h1, h2⟩ := h.rows.2 s b hs
    refine ⟨?_, fun i x hx => ?_⟩
    · rw [World.cell?_setCell_other _ _ _ _ (fun e => hN (by rw [Addr.mk.injEq] at e; exact e.1.symm))]; exact h1
    · rw [World.cell?_setCell_other _ _ _ _ (fun e => hu s b hs (by rw [Addr.mk.injEq] at e; exact e.1.symm))]; exact h2 i x hx
/-- a way is gone -/
theorem Wk.went {W : World} {bw gN gG S I : Nat} {next : Nat → List Nat} {uN : List Nat} {G : List Nat} {a : Nat} (h : Wk W bw gN gG S I next uN G a) (hn : bw ≠ gG) (hN : gN ≠ gG) (hu : ∀ (s b : Nat), uN[s]? = some b → b ≠ gG) (t x : Nat) : Wk (W.setCell ⟨gG, t, none⟩ (.int .i64 (x : Int))) bw gN gG S I next uN (G.set t x) a := by
  refine ⟨?_, ⟨h.rows.1, fun s b hs => ?_⟩, ?_, by rw [List.length_set]; exact h.len⟩
  · exact (Below.heap_setCell _ _ _ _ (fun e => hn e)).trans h.it
  · obtain ⟨h1, h2⟩ := h.rows.2 s b hs
    refine ⟨?_, fun i x hx => ?_⟩
    · rw [World.cell?_setCell_other _ _ _ _ (fun e => hN (by rw [Addr.mk.injEq] at e; exact e.1.symm))]; exact h1
    · rw [World.cell?_setCell_other _ _ _ _ (fun e => hu s b hs (by rw [Addr.mk.injEq] at e; exact e.1.symm))]; exact h2 i x hx
  · have := h.gone.set t (.int .i64 (x : Int))
    rw [List.map_set]
    exact this
set_option maxHeartbeats 4000000 in
set_option maxRecDepth 100000 in
theorem follow_any (bw gN gG S I : Nat) (next : Nat → List Nat) (uN G : List Nat) (a : Nat) (p : List Nat) (i gl c : Nat) (w : World) (h : Wk w bw gN gG S I next uN G a) (hap : Apart w bw gN gG uN) (hleg : Leg next I S G a p i) (ha : a < S) (hS : S ≤ 4096) (hI : I ≤ 64) (hnl : ∀ s, (next s).length = I) (hnx : ∀ f s, f < S → s ∈ next f → s < S)
    (hl : ∀ (k x : Nat), (p ++ [i])[k]? = some x → w.cell? ⟨gl, k, none⟩ = some (natV x)) (hgl : gl ≠ bw ∧ gl ≠ gG ∧ gl < w.heap.size) :
    Calls Tryz.prog 16 #[.pointer (some ⟨bw, 0, none⟩), .slice (some ⟨gl, 0, none⟩) (p.length + 1) c] w fun e w' => e = .returned (.tuple #[]) ∧ Wk w' bw gN gG S I next uN (G.set (Rc.go next a p) (i + 1)) (Rc.go next a (p ++ [i])) ∧ Kept w.heap.size bw gG w w' := by
  have HLEG := hide hleg
  have HNL := hide hnl
  have HNX := hide hnx
  have HAP := hide hap
  have HL := hide hl
  have HGO : Hid (∀ k, k ≤ p.length → Rc.go next a (p.take k) < S) := by
    intro k hk
    induction k with
    | zero => exact ha
    | succ k ih =>
      rw [List.take_succ_eq_append_getElem (by omega), Rc.go_snoc]
      have h1 := ih (by omega)
      have h2 : p[k] < (next (Rc.go next a (p.take k))).length := by rw [hnl]; exact hleg.ok k _ (List.getElem?_eq_getElem (by omega))
      rw [List.getD_eq_getElem?_getD, List.getElem?_eq_getElem h2]
      exact hnx _ _ h1 (List.getElem_mem h2)
  have HW0 := hide h
  have hlen := hleg.len
  obtain ⟨L, hL⟩ : ∃ L, L = p.length := ⟨_, rfl⟩
  have HLL := hide hL
  rw [← hL] at hlen HGO ⊢
  have HGL := hide hgl
  clear h hleg hnl hnx hap hl hL hgl
  go_enter Tryz.func16, Tryz.ntmps16
  go_wp2_with fail
  go_loopw [8] (fun iv wr => ∃ k : Nat, k ≤ L + 1 ∧ iv = .int .i64 (k : Int) ∧ Hid ((k ≤ L ∧ Wk wr bw gN gG S I next uN G (Rc.go next a (p.take k))) ∨ (k = L + 1 ∧ Wk wr bw gN gG S I next uN (G.set (Rc.go next a p) (i + 1)) (Rc.go next a (p ++ [i])))) ∧ Hid (Kept w.heap.size bw gG w wr)) (fun iv _ => L + 1 - (intOf iv).toNat)
  case atStart => exact ⟨0, Nat.zero_le _, rfl, .inl ⟨Nat.zero_le _, HW0.out⟩, Kept.refl _ _ _ _⟩
  case round =>
    obtain ⟨k, hk, rfl, HWD, HK⟩ := hrel
    have hcell : ∀ (j x : Nat), (p ++ [i])[j]? = some x → wr.cell? ⟨gl, j, none⟩ = some (natV x) := fun j x hx => by
      have h1 := HL.out j x hx
      have h2 := HK.out.block gl HGL.out.2.2 HGL.out.1 HGL.out.2.1
      exact (World.cell?_of_block h2).trans h1
    by_cases hlt : k < L
    · obtain ⟨hkL, HWR⟩ : k ≤ L ∧ Hid (Wk wr bw gN gG S I next uN G (Rc.go next a (p.take k))) := by
        rcases HWD.out with ⟨h1, h2⟩ | ⟨h1, _⟩
        · exact ⟨h1, h2⟩
        · omega
      have hkp : k < p.length := by rw [← HLL.out]; exact hlt
      have hx : p[k]? = some p[k] := List.getElem?_eq_getElem hkp
      have hxI : p[k] < I := HLEG.out.ok k _ hx
      have x0 : wr.cell? ⟨gl, k, none⟩ = some (.int .i64 (p[k] : Int)) := hcell k _ (by rw [List.getElem?_append_left hkp]; exact hx)
      have hsS := HGO.out k (by omega)
      have HSU := hide (List.take_succ_eq_append_getElem hkp)
      have HTO : Hid (Rc.go next a (p.take (k + 1)) = (next (Rc.go next a (p.take k))).getD p[k] 0) := by show _ = _; rw [HSU.out, Rc.go_snoc]
      obtain ⟨x1, _, x2⟩ := HWR.out.cells
      obtain ⟨bR, x3, x4⟩ := HWR.out.row _ hsS
      have hnl := HNL.out (Rc.go next a (p.take k))
      have hxl : p[k] < (next (Rc.go next a (p.take k))).length := by rw [hnl]; exact hxI
      have x5 := x4 p[k] _ (List.getElem?_eq_getElem hxl)
      have HTO2 : Hid (Rc.go next a (p.take (k + 1)) = (next (Rc.go next a (p.take k)))[p[k]]) := by show _ = _; rw [HTO.out, List.getD_eq_getElem?_getD, List.getElem?_eq_getElem hxl]; rfl
      rw [← HTO2.out] at x5
      have HNEW := hide ((HWR.out.move HAP.out.ne HAP.out.n1.1 (fun s b hb => (HAP.out.us s b hb).1) (Rc.go next a (p.take (k + 1)))).below (drewB _))
      have x6 := (three_cells HWR.out.it).2.2.2 2
      clear HTO HTO2 x4 hx hcell hxl HSU hnl
      generalize Rc.go next a (p.take k) = s at *
      generalize hs2 : Rc.go next a (p.take (k + 1)) = s2 at *
      have HS2 := hide hs2
      clear hs2
      generalize p[k] = x at *
      clear hkp
      have e1 : ((k : Int) == (L : Int)) = false := by rw [beq_eq_false_iff_ne]; omega
      go_upto_region 5 with fail
      go_region
      have HKN := hide ((HK.out.set bw 2 (.int .i64 (s2 : Int)) (.inl rfl)).drew)
      go_wp2_with fail
      go_roundw
      case rel => exact ⟨k + 1, by omega, by go_num, .inl ⟨by omega, by rw [HS2.out]; exact HNEW.out⟩, HKN.out⟩
      case measure => simp [intOf]; omega
    · by_cases hkL : k = L
      · have HWR : Hid (Wk wr bw gN gG S I next uN G (Rc.go next a p)) := by
          rcases HWD.out with ⟨h1, h2⟩ | ⟨h1, _⟩
          · rw [hkL, List.take_of_length_le (by rw [← HLL.out]; exact Nat.le_refl _)] at h2
            exact h2
          · omega
        subst hkL
        have x0 : wr.cell? ⟨gl, k, none⟩ = some (.int .i64 (i : Int)) := hcell k _ (by rw [HLL.out]; simp)
        have hsS : Rc.go next a p < S := by
          have := HGO.out k (Nat.le_refl _)
          rwa [List.take_of_length_le (by rw [← HLL.out]; exact Nat.le_refl _)] at this
        have HTO : Hid (Rc.go next a (p ++ [i]) = (next (Rc.go next a p)).getD i 0) := Rc.go_snoc next a p i
        have hlast := HLEG.out.last
        have hiI := HLEG.out.lt
        obtain ⟨x1, x7, x2⟩ := HWR.out.cells
        obtain ⟨bR, x3, x4⟩ := HWR.out.row _ hsS
        have x8 := HWR.out.goneAt _ hsS
        rw [← hlast] at x8
        have x9 := HWR.out.gone.frozen (Rc.go next a p)
        have hnl := HNL.out (Rc.go next a p)
        have hxl : i < (next (Rc.go next a p)).length := by rw [hnl]; exact hiI
        have HTO2 : Hid (Rc.go next a (p ++ [i]) = (next (Rc.go next a p))[i]) := by show _ = _; rw [HTO.out, List.getD_eq_getElem?_getD, List.getElem?_eq_getElem hxl]; rfl
        have HW1 := hide ((HWR.out.went HAP.out.ne HAP.out.n1.2.1 (fun s b hb => (HAP.out.us s b hb).2.1) (Rc.go next a p) (i + 1)).below (drewB _))
        have HROW : Hid (∀ W G, Wk W bw gN gG S I next uN G (Rc.go next a p) → ∃ bR, W.cell? ⟨gN, Rc.go next a p, none⟩ = some (.slice (some ⟨bR, 0, none⟩) I I) ∧ W.cell? ⟨bR, i, none⟩ = some (.int .i64 (Rc.go next a (p ++ [i]) : Int))) := fun W G hW => by
          obtain ⟨b, h1, h2⟩ := hW.row _ hsS
          exact ⟨b, h1, by rw [HTO2.out]; exact h2 i _ (List.getElem?_eq_getElem hxl)⟩
        clear HTO HTO2 x4 hcell hxl hnl hlast x3
        generalize Rc.go next a (p ++ [i]) = s2 at *
        generalize Rc.go next a p = s at *
        have e1 : ((k : Int) == (k : Int)) = true := by simp
        obtain ⟨wa, hwa⟩ : ∃ wa, wa = (wr.setCell ⟨gG, s, none⟩ (.int .i64 ((i + 1 : Nat) : Int))).drew := ⟨_, rfl⟩
        have HWA := hide hwa
        rw [← hwa] at HW1
        have HKA : Hid (Kept w.heap.size bw gG w wa) := by show Kept _ _ _ _ _; rw [hwa]; exact (HK.out.set gG s _ (.inr rfl)).drew
        clear hwa
        go_upto_region 4 with fail
        go_region
        rw [show ((i + 1 : Nat) : Int) = (i : Int) + 1 from rfl] at HWA
        rw [← HWA.out]
        have HKN := hide ((HKA.out.set bw 2 (.int .i64 (s2 : Int)) (.inl rfl)).drew)
        have HNEW := hide ((HW1.out.move HAP.out.ne HAP.out.n1.1 (fun s b hb => (HAP.out.us s b hb).1) s2).below (drewB _))
        obtain ⟨y1, _, y2⟩ := HW1.out.cells
        obtain ⟨bQ, y3, y5⟩ := HROW.out wa _ HW1.out
        have y6 := (three_cells HW1.out.it).2.2.2 2
        clear x0 x1 x2 x7 x8 x9 HROW
        go_upto_region 5 with fail
        go_region
        go_wp2_with fail
        go_roundw
        case rel => exact ⟨k + 1, by omega, by go_num, .inr ⟨rfl, HNEW.out⟩, HKN.out⟩
        case measure => simp [intOf]
      · have hk1 : k = L + 1 := by omega
        have HWR : Hid (Wk wr bw gN gG S I next uN (G.set (Rc.go next a p) (i + 1)) (Rc.go next a (p ++ [i]))) := by
          rcases HWD.out with ⟨h1, _⟩ | ⟨_, h2⟩
          · omega
          · exact h2
        subst hk1
        go_wp2_with fail
        go_end0
        exact ⟨rfl, HWR.out, HK.out⟩
end Tr
end
section
namespace Tr
open Go.RowKit Go.Sort
/-- a slice of numbers -/
def NRow (W : World) (sv : Value) (xs : List Nat) : Prop := ∃ a c, sv = .slice a xs.length c ∧ xs.length ≤ c ∧ ∀ (i x : Nat), xs[i]? = some x → ∃ g, a = some ⟨g, 0, none⟩ ∧ W.cell? ⟨g, i, none⟩ = some (.int .i64 (x : Int))
theorem NRow.below {W W' : World} {sv : Value} {xs : List Nat} (h : NRow W sv xs) (hb : Below W.heap.size W W') : NRow W' sv xs := by
  obtain ⟨a, c, h1, h2, h3⟩ := h
  refine ⟨a, c, h1, h2, fun i x hx => ?_⟩
  obtain ⟨g, e, hc⟩ := h3 i x hx
  exact ⟨g, e, (hb.cell (World.block_lt_of_cell? _ _ hc)).trans hc⟩
theorem NRow.own {W : World} {B : Nat} {v : Value} {xs : List Nat} (h : W.ownsRow B 3 1 v xs.length (xs.map natV)) : NRow W v xs := by
  have hown := h
  rcases h.2 with ⟨hv, h0⟩ | ⟨g, cap, cur, hv, hbg, hg, hnc, hcm, hcs, htake⟩
  · have : xs = [] := List.length_eq_zero_iff.1 h0
    subst this
    exact ⟨none, 0, hv, Nat.le_refl _, fun i x hx => by simp at hx⟩
  · refine ⟨_, _, hv, hnc, fun i x hx => ⟨g, rfl, ?_⟩⟩
    have := hown.cells (g := g) (by rw [hv]; rfl) i (natV x) (by rw [List.getElem?_map, hx]; rfl)
    cases i <;> simpa [Addr.add, natV] using this
set_option maxHeartbeats 2000000 in
set_option maxRecDepth 100000 in
theorem indexL_any (xs : List Nat) (sv : Value) (bw gN gG S I : Nat) (next : Nat → List Nat) (uN G : List Nat) (a : Nat) (w : World) (hw : Wk w bw gN gG S I next uN G a) (hS : S ≤ 4096) (hI : I ≤ 64) (h : NRow w sv xs) (hl : xs.length ≤ 100000) (hxs : ∀ x, x ∈ xs → x < S) :
    Calls Tryz.prog 39 #[sv, .func (.func 18) #[.pointer (some ⟨bw, 0, none⟩)] #[]] w fun e w' => ∃ r : Int, e = .returned (.int .i64 r) ∧ (0 ≤ r ↔ xs.any (fun s => decide (G.getD s 0 < I)) = true) ∧ -1 ≤ r ∧ Below w.heap.size w w' := by
  have hent' : ∀ (args : Array Value) (w : World), (callFunc 18 args).run Tryz.prog w = .ok (.enter 18 args) w := fun _ _ => by kernel_rfl
  have HW := hide hw
  have HR := hide h
  have HXS := hide hxs
  obtain ⟨ra, rc, rfl, hcap, _⟩ := h
  obtain ⟨n, hn⟩ : ∃ n, n = xs.length := ⟨_, rfl⟩
  have HN := hide hn
  rw [← hn] at hcap hl HR ⊢
  clear hw hxs hn
  go_enter Tryz.func39, Tryz.ntmps39
  go_wp2_with fail
  go_loopw [8] (fun i wr => ∃ k : Nat, k ≤ n ∧ i = .int .i64 (k : Int) ∧ Hid ((xs.take k).any (fun s => Decidable.decide (G.getD s 0 < I)) = false) ∧ Hid (Below w.heap.size w wr)) (fun i _ => n - (intOf i).toNat)
  case atStart => exact ⟨0, Nat.zero_le _, rfl, rfl, Below.refl _ _⟩
  case round =>
    obtain ⟨k, hk, rfl, HT, HB⟩ := hrel
    by_cases hlt : k < n
    · have hkl : k < xs.length := by rw [← HN.out]; exact hlt
      have hx := List.getElem?_eq_getElem hkl
      obtain ⟨g, rfl, c0⟩ : ∃ g, ra = some ⟨g, 0, none⟩ ∧ wr.cell? ⟨g, k, none⟩ = some (.int .i64 (xs[k] : Int)) := by
        obtain ⟨a', c', e, _, h3⟩ := HR.out.below HB.out
        simp only [Value.slice.injEq] at e
        obtain ⟨g, e2, hc⟩ := h3 k _ hx
        exact ⟨g, by rw [e.1]; exact e2, hc⟩
      have HCL := hide (hasLeft_any bw gN gG S I next uN G a xs[k] wr (HW.out.below HB.out) (HXS.out _ (List.getElem_mem hkl)) (by omega) (by omega))
      have HSU : Hid ((xs.take (k + 1)).any (fun s => Decidable.decide (G.getD s 0 < I)) = Decidable.decide (G.getD xs[k] 0 < I)) := by show _ = _; rw [List.take_succ_eq_append_getElem hkl, List.any_append, HT.out]; simp
      have HMM := hide (List.getElem_mem hkl)
      generalize xs[k] = x at *
      clear hx
      go_wp2_with fail
      refine HCL.out.mono ?_
      rintro e w1 ⟨rfl, hb1⟩
      have HB1 := hide (HB.out.trans (hb1.mono HB.out.size))
      clear hb1 HCL
      cases hp : Decidable.decide (G.getD x 0 < I) with
      | true =>
        have HA : Hid (xs.any (fun s => Decidable.decide (G.getD s 0 < I)) = true) := List.any_eq_true.2 ⟨x, HMM.out, hp⟩
        clear hp
        go_wp2_with fail
        go_ret
        exact ⟨(k : Int), rfl, ⟨fun _ => HA.out, fun _ => by omega⟩, by omega, HB1.out⟩
      | false =>
        rw [hp] at HSU
        clear hp
        go_wp2_with fail
        go_roundw
        case rel => exact ⟨k + 1, by omega, by go_num, HSU.out, HB1.out⟩
        case measure => simp [intOf]; omega
    · have hkn : k = n := by omega
      have HA : Hid (xs.any (fun s => Decidable.decide (G.getD s 0 < I)) = false) := by have := HT.out; rw [List.take_of_length_le (by rw [← HN.out]; omega)] at this; exact this
      subst hkn
      go_wp2_with fail
      go_ret
      exact ⟨-1, rfl, ⟨fun h => by omega, fun h => by rw [HA.out] at h; cases h⟩, by omega, HB.out⟩
set_option maxHeartbeats 2000000 in
set_option maxRecDepth 100000 in
theorem containsL_any (xs : List Nat) (sv : Value) (bw gN gG S I : Nat) (next : Nat → List Nat) (uN G : List Nat) (a : Nat) (w : World) (hw : Wk w bw gN gG S I next uN G a) (hS : S ≤ 4096) (hI : I ≤ 64) (h : NRow w sv xs) (hl : xs.length ≤ 100000) (hxs : ∀ x, x ∈ xs → x < S) :
    Calls Tryz.prog 17 #[sv, .func (.func 18) #[.pointer (some ⟨bw, 0, none⟩)] #[]] w fun e w' => e = .returned (.bool (xs.any (fun s => decide (G.getD s 0 < I)))) ∧ Below w.heap.size w w' := by
  have HI := hide (indexL_any xs sv bw gN gG S I next uN G a w hw hS hI h hl hxs)
  obtain ⟨ra, rc, rfl, _⟩ := h
  generalize xs.any (fun s => decide (G.getD s 0 < I)) = y at *
  clear hw hxs
  go_enter Tryz.func17, Tryz.ntmps17
  go_wp2_with fail
  refine HI.out.mono ?_
  rintro e w1 ⟨r, rfl, hr, _, hb1⟩
  have HB := hide hb1
  have HE : Hid (Decidable.decide (0 ≤ r) = y) := by show _ = _; cases y <;> simp_all
  clear hb1 HI hr
  go_wp2_with fail
  go_ret
  exact ⟨ret_bool HE.out, HB.out⟩
end Tr
end
end Go.Proofs.YtglmpkpcbafgdaaGreatDoor
