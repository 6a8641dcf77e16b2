/-
  The walk of the document's Answers.
-/
import Derived.Test.YtgldbliohpfljaaGreatDoorPaMemAll
import Derived.Deep.LoopGhost
import Derived.Deep.RegionHeld3
import Derived.Deep.QuietTactic
import Derived.BigQuiet
namespace Go.Proofs.YtgldbliohpfljaaGreatDoor
open Go.RowKit Go.Maps
namespace Pa
open Dm
open Rf (then_ below_al lt_some BestV GoodAt IsRMach nextsL_small nextsL_map RMachAt RowsI asI_at asI at1 before_any app_ints own_row eqNilN_none eqNilN_some ints_row2)
/-- what the document's Answers comes to -/
def AnsD (w : World) (next : Nat → List Nat) (wt : Nat × Nat → Nat → Nat) (most : Nat) (e : Ending) (w' : World) : Prop := Below w.heap.size w w' ∧ ∃ b v, e = .returned v ∧ BestV w' b v ∧ match b with
  | none => Pr.Held next wt most
  | some q => Pr.Broke next wt most q ∧ Pr.Least next wt most q
/-- what the walk reads -/
structure Std (S I bx ga gac gb gbc gx xc : Nat) (next : Nat → List Nat) (ra rb : Nat → List Bool) (W : World) : Prop where
  c4 : W.cell? ⟨bx, 4, none⟩ = some (.slice (some ⟨gx, 0, none⟩) S xc)
  caps : (S ≤ gac ∧ S ≤ gbc) ∧ S ≤ xc
  nx : ∀ s, s < S → ∃ g o c, W.cell? ⟨gx, s, none⟩ = some (.slice (some ⟨g, o, none⟩) I c) ∧ I ≤ c ∧ ∀ (i t : Nat), (next s)[i]? = some t → W.cell? ⟨g, o + i, none⟩ = some (.int .i64 (t : Int))
  ga : ∀ s, s < S → ∃ a d, W.cell? ⟨ga, s, none⟩ = some (.slice (some ⟨a, 0, none⟩) I d) ∧ I ≤ d ∧ ∀ i, i < I → W.cell? ⟨a, i, none⟩ = some (.bool ((ra s).getD i false))
  gb : ∀ s, s < S → ∃ a d, W.cell? ⟨gb, s, none⟩ = some (.slice (some ⟨a, 0, none⟩) I d) ∧ I ≤ d ∧ ∀ i, i < I → W.cell? ⟨a, i, none⟩ = some (.bool ((rb s).getD i false))
theorem Std.cs {S I bx ga gac gb gbc gx xc : Nat} {next : Nat → List Nat} {ra rb : Nat → List Bool} {w W : World} (h : Std S I bx ga gac gb gbc gx xc next ra rb w) (hc : CS w W) : Std S I bx ga gac gb gbc gx xc next ra rb W := by
  refine ⟨hc _ _ _ h.c4, h.caps, fun s hs => ?_, fun s hs => ?_, fun s hs => ?_⟩
  · obtain ⟨g, o, c, h1, h2, h3⟩ := h.nx s hs
    exact ⟨g, o, c, hc _ _ _ h1, h2, fun i t ht => hc _ _ _ (h3 i t ht)⟩
  · obtain ⟨a, d, h1, h2, h3⟩ := h.ga s hs
    exact ⟨a, d, hc _ _ _ h1, h2, fun i hi => hc _ _ _ (h3 i hi)⟩
  · obtain ⟨a, d, h1, h2, h3⟩ := h.gb s hs
    exact ⟨a, d, hc _ _ _ h1, h2, fun i hi => hc _ _ _ (h3 i hi)⟩
/-- a level at its beginning -/
structure Top (w : World) (S n bN bS cN : Nat) (fV : Nat × Nat → Option Value) (fS : Nat × Nat → Option Value) (w2 W : World) (f : Nat × Nat → Option (List Nat)) : Prop where
  dn : ∃ DN, DX 130 (plK n) (plOk n) W bN cN fV DN
  ds : ∃ cS DS, DX 130 (plK n) (plOk n) W bS cS fS DS ∧ cS + Dm.left (pls S n) fS ≤ S * (n + 1)
  wf : Ways W f fV
  inp : ∀ p, fV p ≠ none → p.1 < S ∧ p.2 ≤ n
  yes : ∀ p v, fS p = some v → v = .bool true
  cs : CS w2 W
  bel : Below w.heap.size w W
  base : w.heap.size ≤ bN ∧ w.heap.size ≤ bS
  ne : bN ≠ bS
theorem iter_nocell {W : World} {b r n m cnt : Nat} {f : Nat × Nat → Option Value} {D : DataW Value} {left : Nat × Nat → Prop} (h : RX 130 (plK n) (plOk n) W b r m f D left cnt) (i : Nat) (v : Value) : W.cell? ⟨r, i, none⟩ ≠ some v := by
  obtain ⟨⟨lf, ⟨es, clock, since, seen, c0, _, _, _, _, hr, _⟩, _⟩, _⟩ := h
  simp [World.cell?, hr]
theorem Lv.next {w : World} {S n bN r bG bS cN : Nat} {fV : Nat × Nat → Option Value} {DN : DataW Value} {fS : Nat × Nat → Option Value} {cS : Nat} {DS : DataW Value} {w2 W W' : World} {left left' : Nat × Nat → Prop} {cnt cnt' : Nat} {g : Nat × Nat → Option (List Nat)} {gV : Nat × Nat → Option Value} {b : Option (List Nat)} {bv : Value}
    (h : Lv w S n bN r bG bS cN fV DN fS cS DS w2 W left cnt g gV b bv) (hrx : RX 130 (plK n) (plOk n) W' bN r cN fV DN left' cnt') (hg : W.grownBy W' (some r)) : Lv w S n bN r bG bS cN fV DN fS cS DS w2 W' left' cnt' g gV b bv := by
  obtain ⟨cG, DG, h1, h2⟩ := h.dg
  obtain ⟨n1, n2, n3, n4⟩ := h.ne
  have hcs : CS W W' := CS.grown hg (fun i v => iter_nocell h.rx i v)
  refine ⟨hrx, ⟨cG, DG, h1.kept (hg.block _ h1.lt (fun e => n2 (Option.some.inj e))), h2⟩, h.wg.cs hcs, h.inp, h.ds.kept (hg.block _ h.ds.lt (fun e => n4 (Option.some.inj e))), hcs.best h.bst, h.cs.trans hcs, ?_, h.base, h.ne⟩
  exact h.bel.trans ⟨hg.os, hg.tape, hg.output, hg.size, fun i hi => by
    have := h.base.2
    exact hg.block i (by have := h.bel.size; omega) (fun e => by have := Option.some.inj e; omega)⟩
theorem neNil_none (w : World) (n c : Nat) : (binOp BinOp.neq 36 (.slice none n c) (.slice none 0 0)).run Tryz.prog w = .ok (.bool false) w := by kernel_rfl
theorem neNil_some (w : World) (a : Addr) (n c : Nat) : (binOp BinOp.neq 36 (.slice (some a) n c) (.slice none 0 0)).run Tryz.prog w = .ok (.bool true) w := by kernel_rfl
def f0 : Nat × Nat → Option (List Nat) := fun p => if p = (0, 0) then some [] else none
theorem lens (W : World) {b c n : Nat} {fV : Nat × Nat → Option Value} {D : DataW Value} (h : DX 130 (plK n) (plOk n) W b c fV D) (ty : TypeId) : (Builtin.len_ #[131] ty #[.map (some b)]).run Tryz.prog W = .ok (.int .i64 (c : Int)) W := by
  have := h.owns.len Tryz.underlying131 ty
  rw [h.size] at this
  exact this
set_option maxHeartbeats 16000000 in
set_option maxRecDepth 100000 in
theorem RAnswers_any (bx g1 g2 : Nat) (p : Ld.Prg) (x y : Ex) (n : Nat) (w : World) (hm : IsRMach w bx p) (hL : RLaid w) (hck : Ld.check p = none) (hq6 : (Ld.kindL p.names 1).length ≤ 6) (hS4 : Mc.total (Mc.parts p) ≤ 100) (hx : IsRx (fun _ => True) w x g1) (hnx_ : ∀ n, n ∈ x.named true → n.length ≤ maxLen) (hy : IsRx (fun _ => True) w y g2) (hny : ∀ n, n ∈ y.named true → n.length ≤ maxLen) (hn : n ≤ 20) :
    Calls Tryz.prog 19 #[.pointer (some ⟨bx, 0, none⟩), .pointer (some ⟨g1, 0, none⟩), .pointer (some ⟨g2, 0, none⟩), .int .i64 (n : Int)] w (AnsD w (Mc.nexts p) (Pr.wtA (Pr.goodRow p x (2 ^ (Ld.kindL p.names 1).length)) (Pr.goodRow p y (2 ^ (Ld.kindL p.names 1).length))) n) := by
  have HGA : Hid (∀ W, Below w.heap.size w W → Calls Tryz.prog 14 #[.pointer (some ⟨bx, 0, none⟩), .pointer (some ⟨g1, 0, none⟩)] W fun e w' => ∃ o, e = .returned o ∧ GoodAt w' o (Mc.total (Mc.parts p)) (2 ^ (Ld.kindL p.names 1).length) (Pr.goodRow p x (2 ^ (Ld.kindL p.names 1).length)) ∧ Below W.heap.size W w') := fun W hW => Rf.RGood_any bx g1 p x W (hm.below hW) (hL.below hW) hck hq6 (by omega) (IsRx.stay (Stay.below hW) (fun _ h => h) x g1 hx) hnx_
  have HGB : Hid (∀ W, Below w.heap.size w W → Calls Tryz.prog 14 #[.pointer (some ⟨bx, 0, none⟩), .pointer (some ⟨g2, 0, none⟩)] W fun e w' => ∃ o, e = .returned o ∧ GoodAt w' o (Mc.total (Mc.parts p)) (2 ^ (Ld.kindL p.names 1).length) (Pr.goodRow p y (2 ^ (Ld.kindL p.names 1).length)) ∧ Below W.heap.size W w') := fun W hW => Rf.RGood_any bx g2 p y W (hm.below hW) (hL.below hW) hck hq6 (by omega) (IsRx.stay (Stay.below hW) (fun _ h => h) y g2 hy) hny
  obtain ⟨nv, rv, nx, us0, q0, k1, _, k3⟩ := id hm
  have hrow := k3.rowsI (nextsL_small p hck _ _ (by omega))
  rw [nextsL_map p hck] at hrow
  have hnl := fun s => Mc.nexts_len p s
  have hnx : ∀ f s, f < Mc.total (Mc.parts p) → s ∈ Mc.nexts p f → s < Mc.total (Mc.parts p) := fun f s _ hs => Mc.nexts_lt p hck f s hs
  have hrl := fun s => Pr.goodRow_len p x (2 ^ (Ld.kindL p.names 1).length) s
  have hS1 : 1 ≤ Mc.total (Mc.parts p) := Mc.total_pos _ (Mc.parts_ok p)
  have hI64 : 2 ^ (Ld.kindL p.names 1).length ≤ 64 := Nat.le_trans (Nat.pow_le_pow_right (by decide) hq6) (by decide)
  have hI1 : 0 < 2 ^ (Ld.kindL p.names 1).length := Nat.pow_pos (by decide)
  generalize Pr.goodRow p x (2 ^ (Ld.kindL p.names 1).length) = ra at *
  generalize Pr.goodRow p y (2 ^ (Ld.kindL p.names 1).length) = rb at *
  generalize Mc.nexts p = next at *
  generalize Mc.total (Mc.parts p) = S at *
  generalize 2 ^ (Ld.kindL p.names 1).length = I at *
  obtain ⟨xa0, xc0, hxs⟩ := hrow.slice
  have hln : ((List.range S).map fun s => asI (next s)).length = S := by simp
  rw [hln] at hxs
  subst hxs
  obtain ⟨gx, hgx, hxc, hNX⟩ : ∃ gx, xa0 = some ⟨gx, 0, none⟩ ∧ S ≤ xc0 ∧ ∀ s, s < S → ∃ g o c, w.cell? ⟨gx, s, none⟩ = some (.slice (some ⟨g, o, none⟩) I c) ∧ I ≤ c ∧ ∀ (i t : Nat), (next s)[i]? = some t → w.cell? ⟨g, o + i, none⟩ = some (.int .i64 (t : Int)) := by
    have hat : ∀ s, s < S → ∃ g u, xa0 = some ⟨g, 0, none⟩ ∧ S ≤ xc0 ∧ w.cell? ⟨g, s, none⟩ = some u ∧ Ints w u (asI (next s)) := fun s hs => hrow.at_ s _ (by simp [hs])
    obtain ⟨gx, _, h1, h2, _⟩ := hat 0 (by omega)
    refine ⟨gx, h1, h2, fun s hs => ?_⟩
    obtain ⟨g', u, h3, _, h4, h5⟩ := hat s hs
    rw [h1] at h3
    obtain rfl : gx = g' := by simpa using h3
    have hl : (asI (next s)).length = I := by rw [Rf.asI_len, hnl]
    rcases h5 with ⟨h6, _⟩ | ⟨gg, oo, cap, h6, h7, h8⟩
    · rw [h6] at hl; simp at hl; omega
    · rw [hl] at h6 h7
      refine ⟨gg, oo, cap, by rw [h4, h6], h7, fun i t ht => ?_⟩
      obtain ⟨hi, e⟩ := List.getElem?_eq_some_iff.1 ht
      have := (h8 i _ (asI_at (next s) i hi)).1
      rw [e] at this
      exact this
  subst hgx
  have HNXT := hide hNX
  have HM := hide k1
  have HNL := hide hnl
  have HNX := hide hnx
  obtain ⟨wt, hwt⟩ : ∃ wt, wt = Pr.wtA ra rb := ⟨_, rfl⟩
  rw [← hwt]
  have HWT := hide hwt
  have hmm := @run_makeMap Tryz.prog
  have en0 := eqNilN_none
  have en1 := eqNilN_some
  clear hm hL hck hq6 hx hnx_ hy hny k1 k3 hrow hnl hnx hrl hNX hln hwt
  go_enter Tryz.func19, Tryz.ntmps19
  go_wp2_with fail
  refine (HGA.out w (Below.refl _ _)).mono ?_
  rintro e w1 ⟨oa, rfl, hga, hb1⟩
  obtain ⟨ga, gac, rfl, hgac, _⟩ := id hga
  have HA1 := hide hga
  have HB1 := hide hb1
  have HGB1 := hide (HGB.out w1 hb1)
  clear hga hb1 HGA HGB
  go_wp2_with fail
  refine HGB1.out.mono ?_
  rintro e w2 ⟨ob, rfl, hgb, hb2⟩
  obtain ⟨gb, gbc, rfl, hgbc, _⟩ := id hgb
  have HB2 : Hid (Below w.heap.size w w2) := then_ HB1.out hb2
  have HSTD : Hid (Std S I bx ga gac gb gbc gx xc0 next ra rb w2) := by
    obtain ⟨a', c', e1, _, h1⟩ := HA1.out.below hb2
    obtain ⟨b', d', e2, _, h2⟩ := id hgb
    simp only [Value.slice.injEq, Option.some.injEq, Addr.mk.injEq, and_true, true_and] at e1 e2
    obtain ⟨rfl, rfl⟩ := e1
    obtain ⟨rfl, rfl⟩ := e2
    refine ⟨(HM.out.below HB2.out).cells.2.2, ⟨⟨hgac, hgbc⟩, hxc⟩, fun s hs => ?_, h1, h2⟩
    obtain ⟨g', o', c', h3, h4, h5⟩ := HNXT.out s hs
    exact ⟨g', o', c', (HB2.out.cell (World.block_lt_of_cell? _ _ h3)).trans h3, h4, fun i t ht => (HB2.out.cell (World.block_lt_of_cell? _ _ (h5 i t ht))).trans (h5 i t ht)⟩
  clear hgb hb2 HA1 HB1 HGB1 HM HNXT
  have e0 : plV n (0, 0) = .agg #[.int .i64 0, .int .i64 (-1)] := rfl
  obtain ⟨w3, hw3⟩ : ∃ w3, w3 = (w2.alloc (.map #[] 0)).alloc (.cells #[] 3) := ⟨_, rfl⟩
  have hd3 : DX 130 (plK n) (plOk n) w3 w2.heap.size 0 (fun _ => none) (.map []) := by
    have h := DX.made (kt := 130) (lit := plK n) (ok := plOk n) w2
    rw [hw3]
    exact h.kept (Below.heap_alloc _ _ _ (by simp))
  obtain ⟨w4, hput4, hd4, hg4⟩ := hd3.put (kindPl n hn) Tryz.underlying131 (by omega) (0, 0) (.slice (some ⟨w2.heap.size + 1, 0, none⟩) 0 0) ⟨Nat.zero_le _, Nat.zero_le _⟩
  rw [e0, hw3] at hput4
  obtain ⟨w5, hw5⟩ : ∃ w5, w5 = w4.alloc (.map #[] 0) := ⟨_, rfl⟩
  have hd5 := DX.made (kt := 130) (lit := plK n) (ok := plOk n) w4
  rw [← hw5] at hd5
  obtain ⟨w6, hput6, hd6, hg6⟩ := hd5.put (kindPl n hn) Tryz.underlying132 (by omega) (0, 0) (.bool true) ⟨Nat.zero_le _, Nat.zero_le _⟩
  rw [e0, hw5] at hput6
  have HW5 := hide hw5
  have hW3 := hw3
  clear hw5 hw3
  obtain ⟨bS, hbS⟩ : ∃ bS, bS = w4.heap.size := ⟨_, rfl⟩
  have HTOP : ∃ fV fS, Hid (Top w S n w2.heap.size bS 1 fV fS w2 w6 f0) ∧ Hid (LInv next wt n 0 f0 (fun p => fS p ≠ none)) ∧ Hid (0 + Dm.left (pls S n) fS ≤ S * (n + 1) + 0) := by
    have hl6 := left_put ((0, 0) : Nat × Nat) (.bool true) (fun _ => none) rfl (pls S n) (pls_mem (by show 0 < S; omega) (Nat.zero_le _))
    have hll := left_le (pls S n) (fun _ => (none : Option Value))
    rw [pls_len] at hll
    obtain ⟨fV, hdn, hv1, hv2⟩ : ∃ fV, DX 130 (plK n) (plOk n) w4 w2.heap.size 1 fV ((DataW.map []).put (plK n (0, 0)) (.held (.slice (some ⟨w2.heap.size + 1, 0, none⟩) 0 0))) ∧ fV (0, 0) = some (.slice (some ⟨w2.heap.size + 1, 0, none⟩) 0 0) ∧ ∀ p, p ≠ (0, 0) → fV p = none := ⟨_, hd4, if_pos rfl, fun p hp => if_neg hp⟩
    obtain ⟨fS, hds, hs0, hs1, hs2⟩ : ∃ fS, DX 130 (plK n) (plOk n) w6 w4.heap.size 1 fS ((DataW.map []).put (plK n (0, 0)) (.held (.bool true))) ∧ Dm.left (pls S n) fS + 1 ≤ Dm.left (pls S n) (fun _ => (none : Option Value)) ∧ fS (0, 0) = some (.bool true) ∧ ∀ p, p ≠ (0, 0) → fS p = none := ⟨_, hd6, hl6, if_pos rfl, fun p hp => if_neg hp⟩
    have hz3 : ((w2.alloc (.map #[] 0)).alloc (.cells #[] 3)).heap.size = w2.heap.size + 1 + 1 := by simp
    rw [← hW3] at hz3
    have hb23 : Below w2.heap.size w2 w3 := by rw [hW3]; exact then_ (below_al _ _) (below_al _ _)
    have hb24 : Below w2.heap.size w2 w4 := hb23.grown hg4 (by omega) (fun j e => by have := Option.some.inj e; omega)
    have hb25 : Below w2.heap.size w2 w5 := by rw [HW5.out]; exact then_ hb24 (below_al _ _)
    have hz24 := hb24.size
    have hb26 : Below w2.heap.size w2 w6 := hb25.grown hg6 (by have := hb25.size; omega) (fun j e => by have := Option.some.inj e; omega)
    have hcs36 : CS w3 w6 := by
      have h1 : CS w3 w4 := CS.grown hg4 (fun i v => by obtain ⟨es, c, ho⟩ := hd3.obj; exact nocell_map ho i v)
      have h2 : CS w4 w5 := by rw [HW5.out]; exact CS.below (below_al _ _)
      have h3 : CS w5 w6 := CS.grown hg6 (fun i v => by obtain ⟨es, c, ho⟩ := hd5.obj; exact nocell_map ho i v)
      exact (h1.trans h2).trans h3
    have hdn6 : DX 130 (plK n) (plOk n) w6 w2.heap.size 1 fV ((DataW.map []).put (plK n (0, 0)) (.held (.slice (some ⟨w2.heap.size + 1, 0, none⟩) 0 0))) := by
      have e5 : w5.heap[w2.heap.size]? = w4.heap[w2.heap.size]? := by rw [HW5.out]; exact (below_al w4 _).block _ hdn.lt
      exact hdn.kept ((hg6.block _ (by have := hb25.size; have := hdn.lt; rw [HW5.out]; simp; omega) (fun e => by have := Option.some.inj e; have := hdn.lt; omega)).trans e5)
    have hf0 : ∀ p, p ≠ (0, 0) → f0 p = none := fun p hp => if_neg hp
    refine ⟨fV, fS, ⟨⟨_, hdn6⟩, ⟨1, _, by rw [hbS]; exact hds, by omega⟩, fun p => ?_, fun p hp => ?_, fun p v hv => ?_, (CS.below hb23).trans hcs36, then_ HB2.out hb26, ⟨HB2.out.size, by have := HB2.out.size; omega⟩, by rw [hbS]; have := hdn.lt; omega⟩, LInv.start f0 _ rfl hf0 (fun p => ?_), by show 0 + Dm.left (pls S n) fS ≤ _; omega⟩
    · by_cases e : p = (0, 0)
      · subst e
        exact .inr ⟨[], _, rfl, hv1, by simp, _, 0, rfl, Nat.le_refl _, fun k x hx => by simp at hx⟩
      · exact .inl ⟨hf0 p e, hv2 p e⟩
    · by_cases e : p = (0, 0)
      · subst e; exact ⟨by show 0 < S; omega, Nat.zero_le _⟩
      · exact absurd (hv2 p e) hp
    · by_cases e : p = (0, 0)
      · subst e; rw [hs1] at hv; exact (Option.some.inj hv).symm
      · rw [hs2 p e] at hv; cases hv
    · by_cases e : p = (0, 0)
      · subst e; rw [hs1]; simp
      · rw [hs2 p e]; simp [e]
  obtain ⟨fV, fS, HT, HLI, HDL⟩ := HTOP
  clear hW3
  have HBS := hide hbS
  clear hbS
  go_wp2_with fail
  rw [← HBS.out]
  clear hd3 hd4 hd5 hd6 hput4 hput6 hg4 hg6 e0
  go_loopg [11] (2 * (S * (n + 1)) + 1) (fun gh nv wr => ∃ (d : Nat) (f : Nat × Nat → Option (List Nat)) (fV fS : Nat × Nat → Option Value) (bN cN : Nat), 2 * Dm.left (pls S n) fS + (if cN = 0 then 0 else 1) ≤ gh ∧ nv = .map (some bN) ∧ Hid (Top w S n bN bS cN fV fS w2 wr f) ∧ Hid (LInv next wt n d f (fun p => fS p ≠ none)) ∧ Hid (d + Dm.left (pls S n) fS ≤ S * (n + 1) + (if cN = 0 then 1 else 0)))
  case atStart => exact ⟨0, f0, fV, fS, w2.heap.size, 1, by have := Dm.left_le (pls S n) fS; rw [pls_len] at this; simp; omega, rfl, HT.out, HLI.out, HDL.out⟩
  case round =>
    clear HT HLI HDL HW5 HBS
    obtain ⟨d, f, fV, fS, bN, cN, hgh, rfl, HT, HLI, HDL⟩ := hrel
    obtain ⟨wo, hwo⟩ : ∃ wo, wo = wr := ⟨_, rfl⟩
    subst hwo
    obtain ⟨DN, hdn⟩ := HT.out.dn
    have hlen := fun ty => lens wo hdn ty
    by_cases hc : cN = 0
    · subst hc
      have HF : Hid (∀ p, f p = none) := fun p => by
        rw [HT.out.wf.iff]
        refine Classical.byContradiction fun hne => ?_
        obtain ⟨h1, h2⟩ := HT.out.inp p hne
        exact hne (hdn.empty p ⟨by omega, h2⟩)
      have HH : Hid (AnsD w next wt n (.returned (.slice none 0 0)) wo) := ⟨HT.out.bel, none, _, rfl, rfl, HLI.out.held HF.out⟩
      clear hdn
      go_wp2_with fail
      go_ret
      exact HH.out
    · have hci : (0 : Int) < (cN : Int) := by omega
      have hcb : decide (0 < cN) = true := decide_eq_true (by omega)
      have hdw : d ≤ S * (n + 1) := by have := HDL.out; rw [if_neg hc] at this; omega
      have hbig : S * (n + 1) ≤ 100 * 21 := Nat.mul_le_mul hS4 (by omega)
      obtain ⟨w7, hw7⟩ : ∃ w7, w7 = wo.alloc (.map #[] 0) := ⟨_, rfl⟩
      have hb7 : Below wo.heap.size wo w7 := by rw [hw7]; exact below_al _ _
      have hd7 : DX 130 (plK n) (plOk n) w7 bN cN fV DN := hdn.kept (hb7.block _ hdn.lt)
      have hown := hd7.owns
      have HW7 := hide hw7
      have HD7 := hide hd7
      clear hw7 hd7
      go_wp2_with (at_range; rw [← HW7.out]; refine wpList_range_own _ rfl _ 131 rfl 130 36 (kindPl n hn).law Tryz.underlying131 rd bN cN DN rfl hown ?_; intro w8 hrg hg8 hs8)
      go_frame
      obtain ⟨cS, DS, hds, hcs⟩ := HT.out.ds
      obtain ⟨r, hr⟩ : ∃ r, r = w7.heap.size := ⟨_, rfl⟩
      have hb8 : Below w7.heap.size w7 w8 := ⟨hg8.os, hg8.tape, hg8.output, hg8.size, fun i hi => hg8.block i hi (by simp)⟩
      have hbo8 : Below wo.heap.size wo w8 := then_ hb7 hb8
      have hz7 : w7.heap.size = wo.heap.size + 1 := by rw [HW7.out]; simp
      have hlN := hdn.lt
      have hlS := hds.lt
      have hbase := HT.out.base
      have hzw := HT.out.bel.size
      have HLV0 : Hid (Lv w S n bN r wo.heap.size bS cN fV DN fS cS DS w2 w8 (fun k => fV k ≠ none) cN (fun _ => none) (fun _ => none) none (.slice none 0 0)) := by
        have hrx := RX.of HD7.out hg8 hrg
        rw [← hr] at hrx
        refine ⟨hrx, ⟨0, .map [], ?_, ?_⟩, fun p => .inl ⟨rfl, rfl⟩, fun p hp => absurd rfl hp, hds.kept (hbo8.block _ hlS), rfl, HT.out.cs.trans (CS.below hbo8), then_ HT.out.bel hbo8, ⟨hzw, by omega⟩, ⟨by omega, by omega, by omega, by omega⟩⟩
        · have h := DX.made (kt := 130) (lit := plK n) (ok := plOk n) wo
          rw [← HW7.out] at h
          exact h.kept (hb8.block _ h.lt)
        · have := left_le (pls S n) (fun _ => (none : Option Value))
          rw [pls_len] at this
          omega
      have HWF : Hid (Ways w8 f fV) := HT.out.wf.cs (CS.below hbo8)
      have HINP : Hid (∀ p, fV p ≠ none → p.1 < S ∧ p.2 ≤ n) := HT.out.inp
      have HYES : Hid (∀ p v, fS p = some v → v = .bool true) := HT.out.yes
      have HCS : Hid (cS + Dm.left (pls S n) fS ≤ S * (n + 1)) := hcs
      have HBASE : Hid (w.heap.size ≤ wo.heap.size ∧ w.heap.size ≤ bS ∧ bS < wo.heap.size) := ⟨hzw, hbase.2, hlS⟩
      have HST8 : Hid (∀ W, CS w2 W → Std S I bx ga gac gb gbc gx xc0 next ra rb W) := fun W hW => HSTD.out.cs hW
      have ne0 := neNil_none
      have ne1 := neNil_some
      rw [← hr]
      have HR := hide hr
      clear hr hrg hg8 hs8 hb8 hbo8 hds hcs hown hlen hb7 hbase hzw hlS hlN hdn
      go_loopw [14] (fun bv wr => ∃ (left : Nat × Nat → Prop) (cnt : Nat) (g : Nat × Nat → Option (List Nat)) (gV : Nat × Nat → Option Value) (b : Option (List Nat)) (xa : Option Addr) (xn xc : Nat), bv = .slice xa xn xc ∧ Hid (Lv w S n bN r wo.heap.size bS cN fV DN fS cS DS w2 wr left cnt g gV b (.slice xa xn xc)) ∧ Hid (GInv next wt n f g (fun p => fS p ≠ none) b (fun x _ => fV x ≠ none ∧ ¬ left x)) ∧ Hid (CS w8 wr)) (fun _ wr => wr.rangeLeft bN r)
      case atStart => exact ⟨_, cN, _, _, none, none, 0, 0, rfl, HLV0.out, (GInv.start f _).same (fun _ _ h => h.elim) (fun x _ p h hf _ => absurd h.1 (fun h1 => h.2 h1)), CS.refl _⟩
      case round =>
        obtain ⟨left, cnt, g, gV, b, xa, xn, xc, rfl, HLV, HGI, HC8⟩ := hrel
        have hrx := HLV.out.rx
        go_wp2_with (at_next; refine next_dx _ (kindPl n hn) rfl _ rfl bN r cN fV DN left cnt rfl hrx ?_ ?_)
        · intro hdone
          have HDONE := hide hdone
          clear hdone hrx
          have HVV : Hid (∀ x (i : Nat) p, f x = some p → i < (next x.1).length → fV x ≠ none ∧ ¬ left x) := fun x i p hp _ => by
            have hne : fV x ≠ none := fun e => by rw [(HWF.out.iff x).2 e] at hp; cases hp
            obtain ⟨h1, h2⟩ := HINP.out x hne
            refine ⟨hne, ?_⟩
            obtain ⟨x1, x2⟩ := x
            exact HDONE.out x1 x2 ⟨by show x1 ≤ 1000; have : x1 < S := h1; omega, h2⟩
          cases b with
          | some q =>
            obtain ⟨hq5, aq, cq, hv, _⟩ := HLV.out.bst
            simp only [Value.slice.injEq] at hv
            obtain ⟨rfl, rfl, rfl⟩ := hv
            have HF : Hid (AnsD w next wt n (.returned (.slice (some ⟨aq, 0, none⟩) q.length xc)) wr) := ⟨HLV.out.bel, some q, _, rfl, HLV.out.bst, HGI.out.found HLI.out HVV.out⟩
            clear hq5
            generalize q.length = L at *
            go_wp2_with fail
            go_ret
            exact HF.out
          | none =>
            have hv := HLV.out.bst
            simp only [BestV, Value.slice.injEq] at hv
            obtain ⟨rfl, rfl, rfl⟩ := hv
            obtain ⟨cG, DG, hdg, hcg⟩ := HLV.out.dg
            have howng := hdg.owns
            obtain ⟨wp, hwp⟩ : ∃ wp, wp = wr := ⟨_, rfl⟩
            subst hwp
            have HDG := hide hdg
            have HCG := hide hcg
            clear hdg hcg
            go_wp2_with (at_range; refine wpList_range_own _ rfl _ 131 rfl 130 36 (kindPl n hn).law Tryz.underlying131 rd wo.heap.size cG DG rfl howng ?_; intro wq hrg hg8 hs8)
            go_frame
            have hbq : Below wp.heap.size wp wq := ⟨hg8.os, hg8.tape, hg8.output, hg8.size, fun i hi => hg8.block i hi (by simp)⟩
            obtain ⟨r4, hr4⟩ : ∃ r4, r4 = wp.heap.size := ⟨_, rfl⟩
            have HRX4 : Hid (RX 130 (plK n) (plOk n) wq wo.heap.size r4 cG gV DG (fun k => gV k ≠ none) cG) := by rw [hr4]; exact RX.of HDG.out hg8 hrg
            have HDS4 : Hid (DX 130 (plK n) (plOk n) wq bS cS fS DS) := HLV.out.ds.kept (hbq.block _ HLV.out.ds.lt)
            have HCSQ : Hid (CS w2 wq) := HLV.out.cs.trans (CS.below hbq)
            have HBQ : Hid (Below w.heap.size w wq) := then_ HLV.out.bel hbq
            have HWG : Hid (Ways wq g gV) := HLV.out.wg.cs (CS.below hbq)
            have HR4 : Hid (wo.heap.size < r4 ∧ w.heap.size ≤ r4) := by rw [hr4]; exact ⟨HDG.out.lt, HLV.out.bel.size⟩
            have HING := hide HLV.out.inp
            have HNEW : Hid (∀ p, gV p ≠ none → fS p = none) := fun p hp => by
              obtain ⟨q, hq⟩ : ∃ q, g p = some q := by
                cases hg : g p with
                | none => exact absurd ((HWG.out.iff p).1 hg) hp
                | some q => exact ⟨q, rfl⟩
              exact Classical.byContradiction fun hne => (HGI.out.from_ p q hq).1 hne
            rw [← hr4]
            clear hr4 hg8 hs8 hrg hbq howng
            go_loopw [22] (fun _ wr => ∃ (left4 : Nat × Nat → Prop) (cnt4 : Nat) (fS2 : Nat × Nat → Option Value), Hid (RX 130 (plK n) (plOk n) wr wo.heap.size r4 cG gV DG left4 cnt4) ∧ Hid (∃ cS2 DS2, DX 130 (plK n) (plOk n) wr bS cS2 fS2 DS2 ∧ cS2 + Dm.left (pls S n) fS2 ≤ S * (n + 1)) ∧ Hid ((∀ p v, fS2 p = some v → v = .bool true) ∧ (∀ p, fS2 p ≠ none ↔ (fS p ≠ none ∨ (gV p ≠ none ∧ ¬ left4 p)))) ∧ Hid (Dm.left (pls S n) fS2 ≤ Dm.left (pls S n) fS ∧ ((∃ p, gV p ≠ none ∧ ¬ left4 p) → Dm.left (pls S n) fS2 + 1 ≤ Dm.left (pls S n) fS)) ∧ Hid (CS wq wr) ∧ Hid (Below w.heap.size w wr)) (fun _ wr => wr.rangeLeft wo.heap.size r4)
            case atStart => exact ⟨_, cG, fS, HRX4.out, ⟨cS, DS, HDS4.out, HCS.out⟩, ⟨HYES.out, fun p => ⟨fun h => .inl h, fun h => h.elim id (fun h => absurd h.1 (fun h1 => h.2 h1))⟩⟩, ⟨Nat.le_refl _, fun ⟨p, h1, h2⟩ => absurd h1 h2⟩, CS.refl _, HBQ.out⟩
            case round =>
              obtain ⟨left4, cnt4, fS2, HRX, HDX, HFS, HLF, HCW, HBW⟩ := hrel
              have hrx := HRX.out
              go_wp2_with (at_next; refine next_dx _ (kindPl n hn) rfl _ rfl wo.heap.size r4 cG gV DG left4 cnt4 rfl hrx ?_ ?_)
              · intro hdone4
                have HD4 : Hid (∀ p, gV p ≠ none → ¬ left4 p) := fun p hp => by
                  obtain ⟨h1, h2⟩ := HING.out p hp
                  obtain ⟨p1, p2⟩ := p
                  exact hdone4 p1 p2 ⟨by show p1 ≤ 1000; have : p1 < S := h1; omega, h2⟩
                have HTOP2 : Hid (Top w S n wo.heap.size bS cG gV fS2 w2 wr g) := by
                  have hb := HBASE.out
                  refine ⟨⟨DG, HRX.out.dx⟩, HDX.out, HWG.out.cs HCW.out, HING.out, HFS.out.1, HCSQ.out.trans HCW.out, HBW.out, ⟨hb.1, hb.2.1⟩, by omega⟩
                have HLI2 : Hid (LInv next wt n (d + 1) g (fun p => fS2 p ≠ none)) := GInv.deeper HLI.out HGI.out (fun x i p h1 h2 => HVV.out x i p h1 h2) (fun p => by
                  rw [HFS.out.2]
                  constructor
                  · rintro (h | ⟨h, _⟩)
                    · exact .inl h
                    · refine .inr ?_
                      cases hg : g p with
                      | none => exact absurd ((HWG.out.iff p).1 hg) h
                      | some q => exact ⟨q, rfl⟩
                  · rintro (h | ⟨q, h⟩)
                    · exact .inl h
                    · have hne : gV p ≠ none := fun e => by rw [(HWG.out.iff p).2 e] at h; cases h
                      exact .inr ⟨hne, HD4.out p hne⟩)
                have HLS : Hid (cG ≠ 0 → Dm.left (pls S n) fS2 + 1 ≤ Dm.left (pls S n) fS) := fun h => by
                  obtain ⟨p, x, _, hp⟩ := HDG.out.any (kindPl n hn) (by omega)
                  have hne : gV p ≠ none := by rw [hp]; simp
                  exact HLF.out.2 ⟨p, hne, HD4.out p hne⟩
                have HGH : Hid (2 * Dm.left (pls S n) fS2 + (if cG = 0 then 0 else 1) < 2 * Dm.left (pls S n) fS + 1) := by
                  show _ < _
                  have h1 := HLS.out
                  have h2 := HLF.out.1
                  split
                  · omega
                  · rename_i h; have := h1 h; omega
                have HDL2 : Hid (d + 1 + Dm.left (pls S n) fS2 ≤ S * (n + 1) + (if cG = 0 then 1 else 0)) := by
                  show _ ≤ _
                  have h0 := HDL.out
                  rw [if_neg hc] at h0
                  have h1 := HLS.out
                  have h2 := HLF.out.1
                  split
                  · omega
                  · rename_i h; have := h1 h; omega
                have hgh2 : 2 * Dm.left (pls S n) fS + 1 ≤ gk := by rw [if_neg hc] at hgh; exact hgh
                clear hdone4 hrx
                go_wp2_with fail
                go_roundg (gk - 1)
                case rel => exact ⟨d + 1, g, gV, fS2, wo.heap.size, cG, by have := HGH.out; omega, rfl, HTOP2.out, HLI2.out, HDL2.out⟩
                case measure => omega
              · intro s u v w10 cnt' hk hlk hf hrx10 hlt hg10 hs10 hen
                have hlt4 := hrx.lt
                obtain ⟨cS2, DS2, hdx, hcx⟩ := HDX.out
                have hb := HBASE.out
                have hr4 := HR4.out
                have hcs10 : CS wr w10 := CS.grown hg10 (fun i v => iter_nocell hrx i v)
                have hbw10 : Below w.heap.size w w10 := HBW.out.trans ⟨hg10.os, hg10.tape, hg10.output, hg10.size, fun i hi => hg10.block i (by have := HBW.out.size; omega) (fun e => by have := Option.some.inj e; omega)⟩
                have hdx10 : DX 130 (plK n) (plOk n) w10 bS cS2 fS2 DS2 := hdx.kept (hg10.block _ hdx.lt (fun e => by have := Option.some.inj e; omega))
                obtain ⟨w11, hw11⟩ : ∃ w11, w11 = w10.alloc (.cells #[.int .i64 (s : Int), .int .i64 (lf n u)] 130) := ⟨_, rfl⟩
                have hb11 : Below w10.heap.size w10 w11 := by rw [hw11]; exact below_al _ _
                have hg11 : w10.grownBy w11 none := ⟨hb11.os, hb11.tape, hb11.output, hb11.size, fun i hi _ => hb11.block i hi⟩
                have hdx11 := hdx10.kept (hb11.block _ hdx10.lt)
                have hcN : cS2 ≤ 1000000 := by omega
                obtain ⟨w12, hput, hdx12, hg12⟩ := hdx11.put (kindPl n hn) Tryz.underlying132 hcN (s, u) (.bool true) hk
                have hne : gV (s, u) ≠ none := by rw [hf]; simp
                have hno : fS2 (s, u) = none := Classical.byContradiction fun hx => by
                  rcases (HFS.out.2 (s, u)).1 hx with h | ⟨_, h⟩
                  · exact h (HNEW.out _ hne)
                  · exact h hlk
                have hin := HING.out _ hne
                have hl12 := left_put (s, u) (.bool true) fS2 hno (pls S n) (pls_mem hin.1 hin.2)
                obtain ⟨fS3, hdx13, h31, h32, hl13⟩ : ∃ fS3, DX 130 (plK n) (plOk n) w12 bS (cS2 + 1) fS3 (DS2.put (plK n (s, u)) (.held (.bool true))) ∧ fS3 (s, u) = some (.bool true) ∧ (∀ p, p ≠ (s, u) → fS3 p = fS2 p) ∧ Dm.left (pls S n) fS3 + 1 ≤ Dm.left (pls S n) fS2 := ⟨_, by rw [hno] at hdx12; exact hdx12, if_pos rfl, fun p hp => if_neg hp, hl12⟩
                have hcs12 : CS w11 w12 := CS.grown hg12 (fun i v => by obtain ⟨es, c, ho⟩ := hdx11.obj; exact nocell_map ho i v)
                have hrx12 := (hrx10.kept hg11 (by simp) (by simp)).kept hg12 (fun e => by have := Option.some.inj e; omega) (fun e => by have := Option.some.inj e; omega)
                have HRX12 := hide hrx12
                have HDX12 : Hid (∃ cS2 DS2, DX 130 (plK n) (plOk n) w12 bS cS2 fS3 DS2 ∧ cS2 + Dm.left (pls S n) fS3 ≤ S * (n + 1)) := ⟨_, _, hdx13, by omega⟩
                have HFS12 : Hid ((∀ p v, fS3 p = some v → v = .bool true) ∧ (∀ p, fS3 p ≠ none ↔ (fS p ≠ none ∨ (gV p ≠ none ∧ ¬ (left4 p ∧ p ≠ (s, u)))))) := by
                  refine ⟨fun p v hv => ?_, fun p => ?_⟩
                  · by_cases e : p = (s, u)
                    · subst e; rw [h31] at hv; exact (Option.some.inj hv).symm
                    · rw [h32 p e] at hv; exact HFS.out.1 p v hv
                  · by_cases e : p = (s, u)
                    · subst e
                      rw [h31]
                      exact ⟨fun _ => .inr ⟨hne, fun h => h.2 rfl⟩, fun _ => by simp⟩
                    · rw [h32 p e, HFS.out.2 p]
                      constructor
                      · rintro (h | ⟨h1, h2⟩)
                        · exact .inl h
                        · exact .inr ⟨h1, fun h => h2 h.1⟩
                      · rintro (h | ⟨h1, h2⟩)
                        · exact .inl h
                        · exact .inr ⟨h1, fun h => h2 ⟨h, e⟩⟩
                have HLF12 : Hid (Dm.left (pls S n) fS3 ≤ Dm.left (pls S n) fS ∧ ((∃ p, gV p ≠ none ∧ ¬ (left4 p ∧ p ≠ (s, u))) → Dm.left (pls S n) fS3 + 1 ≤ Dm.left (pls S n) fS)) := ⟨by have := HLF.out.1; omega, fun _ => by have := HLF.out.1; omega⟩
                have HCW12 : Hid (CS wq w12) := ((HCW.out.trans hcs10).trans (CS.below hb11)).trans hcs12
                have HBW12 : Hid (Below w.heap.size w w12) := (then_ hbw10 hb11).trans ⟨hg12.os, hg12.tape, hg12.output, hg12.size, fun i hi => hg12.block i (by have := (then_ hbw10 hb11).size; omega) (fun e => by have := Option.some.inj e; omega)⟩
                have HME : Hid (w12.rangeLeft wo.heap.size r4 < wr.rangeLeft wo.heap.size r4) := by
                  show _ < _
                  rw [hrx12.left_eq, hrx.left_eq]
                  exact hlt
                rw [hw11] at hput
                have hkey : plV n (s, u) = .agg #[.int .i64 (s : Int), .int .i64 (lf n u)] := rfl
                rw [hkey] at hput hen ⊢
                have hz10 : w11.heap.size = w10.heap.size + 1 := by rw [hw11]; simp
                clear hrx hdx hcx hb hr4 hcs10 hbw10 hdx10 hw11 hb11 hg11 hdx11 hcN hdx12 hg12 hno hin hl12 hdx13 h31 h32 hl13 hcs12 hrx12 hk hlk hf hrx10 hlt hg10 hs10 hne hlt4 hkey hz10
                go_wp2_with fail
                go_roundw
                case rel => exact ⟨_, cnt', fS3, HRX12.out, HDX12.out, HFS12.out, HLF12.out, HCW12.out, HBW12.out⟩
                case measure => exact HME.out
        · intro s u v w9 cnt' hk hlk hf hrx9 hlt hg9 hs9 hen
          have HWFk := HWF.out.cs HC8.out
          obtain ⟨p0, hp0, hbv0⟩ := HWFk.some_ hf
          obtain ⟨hin1, hin2⟩ : s < S ∧ u ≤ n := HINP.out (s, u) (by rw [hf]; simp)
          have HFP : Hid (f (s, u) = some p0) := hp0
          have hp0l : p0.length = d := (HLI.out.way _ _ hp0).1.1
          obtain ⟨_, a0, c0, hv0, hc0, hcl0⟩ := id hbv0
          subst hv0
          rw [hp0l] at hc0 hen ⊢
          have hcs9 : CS wr w9 := CS.grown hg9 (fun i v => iter_nocell hrx i v)
          have hl9 := HLV.out.next hrx9 hg9
          obtain ⟨w10, hw10⟩ : ∃ w10, w10 = w9.alloc (.cells #[.int .i64 (s : Int), .int .i64 (lf n u)] 130) := ⟨_, rfl⟩
          have hb10 : Below w9.heap.size w9 w10 := by rw [hw10]; exact below_al _ _
          have HL10 := hide (hl9.below hb10)
          have HCL0 : Hid (∀ W, CS w10 W → ∀ (k x : Nat), p0[k]? = some x → x ≤ 64 ∧ W.cell? ⟨a0, k, none⟩ = some (.int .i64 (x : Int))) := fun W hW k x hx => ⟨(hcl0 k x hx).1, hW _ _ _ ((CS.below hb10) _ _ _ (hcs9 _ _ _ (hcl0 k x hx).2))⟩
          have hkey : plV n (s, u) = .agg #[.int .i64 (s : Int), .int .i64 (lf n u)] := rfl
          rw [hkey] at hen ⊢
          obtain ⟨b15, hb15⟩ : ∃ b15, b15 = w9.heap.size := ⟨_, rfl⟩
          have HBX : Hid (∀ W, CS w10 W → W.cell? ⟨b15, 0, none⟩ = some (.int .i64 (s : Int)) ∧ W.cell? ⟨b15, 1, none⟩ = some (.int .i64 (lf n u))) := fun W hW => by
            rw [hb15]
            exact ⟨hW _ _ _ (by rw [hw10, Lib.cell_of_heap (heap_alloc_new _ _)]; rfl), hW _ _ _ (by rw [hw10, Lib.cell_of_heap (heap_alloc_new _ _)]; rfl)⟩
          have hst := HST8.out w10 HL10.out.cs
          have hst9 := HST8.out w9 hl9.cs
          obtain ⟨gr, or_, cr, z1, hcr, _⟩ := hst.nx s hin1
          obtain ⟨gr9, or9, cr9, z19, hcr9, _⟩ := hst9.nx s hin1
          have z0 := hst.c4
          have z09 := hst9.c4
          have hcaps := hst.caps.2
          obtain ⟨y0, y1⟩ := HBX.out w10 (CS.refl _)
          have e9 : gr9 = gr ∧ or9 = or_ ∧ cr9 = cr := by
            have h := (CS.below hb10) _ _ _ z19
            rw [z1] at h
            simp only [Option.some.injEq, Value.slice.injEq, Addr.mk.injEq, and_true, true_and] at h
            exact ⟨h.1.1.symm, h.1.2.symm, h.2.symm⟩
          obtain ⟨rfl, rfl, rfl⟩ := e9
          have HNR : Hid (∀ W, CS w10 W → ∀ (i t : Nat), (next s)[i]? = some t → W.cell? ⟨gr9, or9 + i, none⟩ = some (.int .i64 (t : Int))) := fun W hW i t ht => by
            obtain ⟨g', o', c', h1, _, h3⟩ := (HST8.out w10 HL10.out.cs).nx s hin1
            rw [z1] at h1
            simp only [Option.some.injEq, Value.slice.injEq, Addr.mk.injEq, and_true, true_and] at h1
            rw [h1.1.1, h1.1.2]
            exact hW _ _ _ (h3 i t ht)
          have hsi : (s : Int) < (S : Int) := by omega
          have HW10 := hide hw10
          have HDR10 : Hid (∀ k, Below w10.heap.size w10 (w10.drewN k)) := fun _ => ⟨rfl, rfl, rfl, Nat.le_refl _, fun _ _ => rfl⟩
          have HB15 := hide hb15
          have HME : Hid (∀ W g gV b v, Lv w S n bN r wo.heap.size bS cN fV DN fS cS DS w2 W (fun j => left j ∧ j ≠ (s, u)) cnt' g gV b v → W.rangeLeft bN r < wr.rangeLeft bN r) := fun W g gV b v h => by
            rw [h.rx.left_eq, hrx.left_eq]
            exact hlt
          have HLK : Hid (left (s, u)) := hlk
          have HFV : Hid (fV (s, u) ≠ none) := by show _ ≠ _; rw [hf]; simp
          have HPL := hide hp0l
          have HC10 : Hid (CS w8 w10) := (HC8.out.trans hcs9).trans (CS.below hb10)
          rw [hw10] at z0 z1 y0 y1
          rw [hb15] at y0 y1
          clear hk hlk hf hrx9 hlt hg9 hs9 hrx hbv0 hcl0 hcs9 hl9 hw10 hb10 hst hst9 hkey hb15 hp0 hp0l HWFk
          go_wp2_with fail
          go_quiet (fail)
          go_wp2_with fail
          rw [← HB15.out, ← HW10.out]
          clear z0 z1 z09 z19 y0 y1
          go_loopw [56, 14] (fun iv bv wr => ∃ (i : Nat) (g : Nat × Nat → Option (List Nat)) (gV : Nat × Nat → Option Value) (b : Option (List Nat)) (xa : Option Addr) (xn xc : Nat), i ≤ I ∧ iv = .int .i64 (i : Int) ∧ bv = .slice xa xn xc ∧ Hid (Lv w S n bN r wo.heap.size bS cN fV DN fS cS DS w2 wr (fun j => left j ∧ j ≠ (s, u)) cnt' g gV b (.slice xa xn xc)) ∧ Hid (GInv next wt n f g (fun p => fS p ≠ none) b (fun x j => (fV x ≠ none ∧ ¬ left x) ∨ (x = (s, u) ∧ j < i))) ∧ Hid (CS w10 wr)) (fun iv _ _ => I - (intOf iv).toNat)
          case atStart => exact ⟨0, g, gV, b, _, _, _, Nat.zero_le _, rfl, rfl, HL10.out.below (HDR10.out _), HGI.out.same (fun _ _ h => .inl h) (fun x j p h _ _ => h.elim id (fun h => absurd h.2 (Nat.not_lt_zero _))), CS.below (HDR10.out _)⟩
          case round =>
            clear HGI
            obtain ⟨i, g, gV, b, xa, xn, xc, hi, rfl, rfl, HLI3, HGI, HCI⟩ := hrel
            obtain ⟨wq, hwq⟩ : ∃ wq, wq = wr := ⟨_, rfl⟩
            subst hwq
            by_cases hltI : i < I
            · have hii : (i : Int) < (I : Int) := by omega
              have hil : i < (next s).length := by rw [HNL.out]; exact hltI
              have cK := HNR.out wq HCI.out i _ (List.getElem?_eq_getElem hil)
              have htS := HNX.out s _ hin1 (List.getElem_mem hil)
              have HTE : Hid ((next s).getD i 0 = (next s)[i]) := by show _ = _; simp [hil]
              have HIL : Hid (i < (next (s, u).1).length) := hil
              generalize (next s)[i] = t at *
              have hcells := HCL0.out wq HCI.out
              have hbA : Below wq.heap.size wq (wq.alloc (.cells #[] 3)) := below_al _ _
              have hp0l := HPL.out
              obtain ⟨v1, W2, hrun1, hown1, hgr1⟩ := app_ints (W := wq.alloc (.cells #[] 3)) wq.heap.size 36 (.slice (some ⟨wq.heap.size, 0, none⟩) 0 0) [] p0 (own_zero wq wq.heap.size 3 1 (Nat.le_refl _)) a0 c0 (fun k x hx => (hbA.cell (World.block_lt_of_cell? _ _ (hcells k x hx).2)).trans (hcells k x hx).2) (by simp) (by simp) (by omega)
              have hb12 : Below wq.heap.size wq W2 := hbA.grown hgr1 (by simp) (fun j e => by simp only [Value.ownBlock, Option.some.injEq] at e; omega)
              have hz12 := hb12.size
              have hbC : Below W2.heap.size W2 (W2.alloc (.cells #[.int .i64 (i : Int)] 3)) := below_al _ _
              obtain ⟨v2, W4, hrun2, hown2, hgr2⟩ := app_ints (W := W2.alloc (.cells #[.int .i64 (i : Int)] 3)) wq.heap.size 36 v1 ([] ++ p0) [i] (by have h1 := hown1.alloc (.cells #[.int .i64 (i : Int)] 3); rw [List.length_append]; exact h1) W2.heap.size 1 (fun j x hx => by
                cases j with
                | succ j => simp at hx
                | zero =>
                  simp only [List.getElem?_cons_zero, Option.some.injEq] at hx
                  subst hx
                  rw [Lib.cell_of_heap (heap_alloc_new _ _)]
                  rfl) (by simp; omega) (by simp; omega) (by simp)
              have hb14 : Below wq.heap.size wq W4 := (then_ hb12 hbC).grown hgr2 (by simp; omega) (fun j e => (hown1.lt j e).1)
              rw [List.nil_append] at hown2
              obtain ⟨L, hLn⟩ : ∃ L, L = d + 1 := ⟨_, rfl⟩
              have hl4 : (p0 ++ [i]).length = L := by rw [List.length_append, hp0l, hLn]; rfl
              obtain ⟨bb, cb, hv2, hbq, hcb, hcells2⟩ := own_row hown2 (by simp) (by simp)
              rw [show p0.length + [i].length = L by simp [hp0l, hLn]] at hv2 hcb
              subst hv2
              have HP4 : Hid (∀ (j y : Nat), (p0 ++ [i])[j]? = some y → y ≤ 64 ∧ W4.cell? ⟨bb, j, none⟩ = some (.int .i64 (y : Int))) := fun j y hy => by
                refine ⟨?_, hcells2 j y hy⟩
                by_cases hj : j < p0.length
                · rw [List.getElem?_append_left hj] at hy
                  exact (hcells j y hy).1
                · rw [List.getElem?_append_right (by omega)] at hy
                  have : j - p0.length < 1 := by have := (List.getElem?_eq_some_iff.1 hy).1; simpa using this
                  obtain h0 : j - p0.length = 0 := by omega
                  rw [h0] at hy
                  simp only [List.getElem?_cons_zero, Option.some.injEq] at hy
                  omega
              simp only [hp0l] at hrun1
              simp only [List.length_cons, List.length_nil] at hrun2
              have HAPP1 := hide hrun1
              have HAPP2 := hide hrun2
              have HL4 := hide (HLI3.out.below hb14)
              have HC4 : Hid (CS w10 W4) := HCI.out.trans (CS.below hb14)
              obtain ⟨qv, hqv⟩ : ∃ qv, qv = p0 ++ [i] := ⟨_, rfl⟩
              rw [← hqv] at hl4 HP4
              have HQV := hide hqv
              have hL5 : L ≤ 5000 := by omega
              have HNV : Hid (BestV W4 (some qv) (.slice (some ⟨bb, 0, none⟩) L cb)) := ⟨by rw [hl4]; exact hL5, bb, cb, by rw [hl4], by rw [hl4]; exact hcb, HP4.out⟩
              have HQLn := hide hl4
              have HLD := hide hLn
              obtain ⟨gA, hgA⟩ : ∃ gA, gA = (ra s).getD i false := ⟨_, rfl⟩
              obtain ⟨gB, hgB⟩ : ∃ gB, gB = (rb s).getD i false := ⟨_, rfl⟩
              have HWTV : Hid (wt (s, u) i = Pr.waits u gA gB) := by show _ = _; rw [HWT.out, hgA, hgB]; rfl
              have hst := HST8.out W4 HL4.out.cs
              obtain ⟨agA, dgA, m1, hdA, hgdA⟩ := hst.ga s hin1
              obtain ⟨agB, dgB, m2, hdB, hgdB⟩ := hst.gb s hin1
              have m3 := hgdA i hltI
              have m4 := hgdB i hltI
              have hcp := hst.caps.1
              rw [← hgA] at m3
              rw [← hgB] at m4
              obtain ⟨y0, y1⟩ := HBX.out W4 HC4.out
              have HSM : Hid (∀ g b, GInv next wt n f g (fun p => fS p ≠ none) b (Also (fun x j => (fV x ≠ none ∧ ¬ left x) ∨ (x = (s, u) ∧ j < i)) (s, u) i) → GInv next wt n f g (fun p => fS p ≠ none) b (fun x j => (fV x ≠ none ∧ ¬ left x) ∨ (x = (s, u) ∧ j < i + 1))) := fun g b h => h.same (fun x j hv => by
                rcases hv with (hv | ⟨h1, h2⟩) | ⟨h1, h2⟩
                · exact .inl hv
                · exact .inr ⟨h1, by omega⟩
                · exact .inr ⟨h1, by omega⟩) (fun x j p hv _ _ => by
                rcases hv with hv | ⟨h1, h2⟩
                · exact .inl (.inl hv)
                · by_cases e : j = i
                  · exact .inr ⟨h1, e⟩
                  · exact .inl (.inr ⟨h1, by omega⟩))
              have HULF : Hid (lf n u = if u = 0 then -1 else (n : Int) + 1 - u) := by
                show _ = _
                unfold lf
                split
                · rfl
                · rw [if_pos (by omega)]
              clear hcells hbA hown1 hgr1 hb12 hbC hown2 hgr2 hb14 hcells2 hrun1 hrun2 hl4 hqv hLn hp0l hgA hgB hst hgdA hgdB
              obtain ⟨aft, haft⟩ : ∃ aft : Int, aft = if u = 0 then (if gA = true then (n : Int) else -1) else (n : Int) - u := ⟨_, rfl⟩
              have HAFT := hide haft
              clear haft
              go_upto_region 14 with (at_builtin; first | (refine Lib.wpList_append_run _ rfl (.tmp 61) (.tmp 62) _ _ rfl _ _ rfl rfl _ _ HAPP1.out ?_) | (refine Lib.wpList_append_run _ rfl (.tmp 63) (.tmp 65) _ _ rfl _ _ rfl rfl _ _ HAPP2.out ?_))
              rename_i hK0
              have HK0 := hide hK0
              clear hK0
              go_wp2_with fail
              refine HK0.out _ _ ?_
              clear HK0
              refine wp_seq_k (fun K2 hK2 => ?_)
              have HK2 := hide hK2
              clear hK2
              go_cut [20] from 69 to 85 (fun lv wx => lv = .int .i64 aft ∧ wx = W4)
              case first =>
                have hu1 := HULF.out
                have haf := HAFT.out
                clear HK2 HULF HAFT
                generalize lf n u = lu at *
                by_cases hu : u = 0
                · rw [if_pos hu] at hu1 haf
                  subst hu1
                  have HAF := hide haf
                  clear haf
                  cases gA with
                  | true =>
                    go_wp2_with fail
                    go_meet
                    exact ⟨by rw [HAF.out]; rfl, rfl⟩
                  | false =>
                    go_wp2_with fail
                    go_meet
                    exact ⟨by rw [HAF.out]; rfl, rfl⟩
                · rw [if_neg hu] at hu1 haf
                  have haf2 : lu - 1 = aft := by omega
                  have hE0 : 0 ≤ lu := by omega
                  have hE1 : ¬ lu < 0 := by omega
                  have hE2 : lu ≤ 100 := by omega
                  have HAF := hide haf2
                  clear hu1 haf hu haf2
                  go_wp2_with fail
                  go_meet
                  exact ⟨by rw [HAF.out], rfl⟩
              case rest =>
                obtain ⟨hlv9, hwx9⟩ := hcut
                subst hlv9
                subst wc
                refine HK2.out _ _ ?_
                clear HK2
                cases gB with
                | true =>
                  have hwv : wt (s, u) i = 0 := by rw [HWTV.out]; rfl
                  obtain ⟨wv, hwvv⟩ : ∃ wv, wv = wt (s, u) i := ⟨_, rfl⟩
                  have HWV := hide hwvv
                  have hwn : wv ≤ n := by omega
                  have hlv : lf n wv = -1 := by rw [hwvv, hwv]; rfl
                  have HSTP : Hid ((t, wv) = Pr.step next wt (s, u) i) := by show _ = _; unfold Pr.step; rw [HTE.out, ← hwvv]
                  clear hwv hwvv
                  have hyk : plV n (t, wv) = .agg #[.int .i64 (t : Int), .int .i64 (-1)] := by
                    have h : plV n (t, wv) = .agg #[.int .i64 (t : Int), .int .i64 (lf n wv)] := rfl
                    rw [h, hlv]
                  have hyo : plOk n (t, wv) := ⟨by show t ≤ 1000; omega, hwn⟩
                  obtain ⟨wB, hwB⟩ : ∃ wB, wB = W4.alloc (.cells #[.int .i64 (t : Int), .int .i64 (-1)] 130) := ⟨_, rfl⟩
                  have hbB : Below W4.heap.size W4 wB := by rw [hwB]; exact below_al _ _
                  have HLB := hide (HL4.out.below hbB)
                  have HCB : Hid (CS w10 wB) := HC4.out.trans (CS.below hbB)
                  have HQB := hide ((CS.below hbB).best HNV.out)
                  have k0 : wB.cell? ⟨W4.heap.size, 0, none⟩ = some (.int .i64 (t : Int)) := by rw [hwB, Lib.cell_of_heap (heap_alloc_new _ _)]; rfl
                  have k1 : wB.cell? ⟨W4.heap.size, 1, none⟩ = some (.int .i64 (-1)) := by rw [hwB, Lib.cell_of_heap (heap_alloc_new _ _)]; rfl
                  have hsl := HLB.out.ds.dm.look (kindPl n hn) Tryz.underlying132 (z := .bool false) (fun w => by kernel_rfl) false (t, wv) hyo
                  obtain ⟨cG5, DG5, hdg5, _⟩ := HLB.out.dg
                  have hgl := hdg5.dm.look (kindPl n hn) Tryz.underlying131 (z := .slice none 0 0) (fun w => by kernel_rfl) false (t, wv) hyo
                  rw [hyk] at hsl hgl
                  have HWB := hide hwB
                  clear hdg5 hbB
                  by_cases hseen : fS (t, wv) = none
                  · rw [hseen] at hsl
                    rcases HLB.out.wg (t, wv) with ⟨hgn, hgvn⟩ | ⟨qy, vy, hgs, hgvs, hby⟩
                    · rw [hgvn] at hgl
                      obtain ⟨w6, hput, hl6, hcs6⟩ := HLB.out.put hn hS4 (t, wv) ⟨htS, hwn⟩ qv _ HQB.out
                      rw [hyk] at hput
                      have HL6 := hide hl6
                      have HG6 := hide (HSM.out _ _ (GInv.put (g' := fun p => if p = (t, wv) then some qv else g p) HGI.out HFP.out HIL.out (by rw [← HWV.out]; exact hwn) (by rw [← HSTP.out]; exact fun h => h hseen) (fun q hq => by rw [← HSTP.out, hgn] at hq; cases hq) (by rw [← HSTP.out, ← HQV.out]; exact if_pos rfl) (fun z hz => by rw [← HSTP.out] at hz; exact if_neg hz)))
                      have HC6 : Hid (CS w10 w6) := HC4.out.trans ((CS.below (by rw [HWB.out]; exact below_al _ _)).trans hcs6)
                      rw [hwB] at k0 k1 hsl hgl hput
                      change _ = Result.ok (Value.bool false) _ at hsl
                      change _ = Result.ok (Value.slice none 0 0) _ at hgl
                      clear hl6 hcs6 hseen hgn hgvn hyo hyk hlv hwB
                      go_wp2_with fail
                      go_roundw
                      case rel => exact ⟨i + 1, _, _, b, _, _, _, by omega, by go_num, rfl, HL6.out, HG6.out, HC6.out⟩
                      case measure => simp [intOf]; omega
                    · obtain ⟨hy5, ay, cy, hvy, hcy, hcly⟩ := id hby
                      subst hvy
                      rw [hgvs] at hgl
                      have hqyl : qy.length = L := by
                        obtain ⟨_, x', i', p', _, h2, _, _, _, h6⟩ := HGI.out.from_ _ _ hgs
                        rw [h6, List.length_append, (HLI.out.way x' p' h2).1.1, HLD.out]
                        rfl
                      obtain ⟨_, aq, cq, hq1, hq2, hq3⟩ := HQB.out
                      simp only [Value.slice.injEq, Option.some.injEq, Addr.mk.injEq, and_true] at hq1
                      obtain ⟨rfl, hq4, rfl⟩ := hq1
                      have hi1 : Ints wB (.slice (some ⟨bb, 0, none⟩) L cb) (asI qv) := by have h := ints_row2 hq2 hq3; rw [← hq4] at h; exact h
                      have hi2 : Ints wB (.slice (some ⟨ay, 0, none⟩) L cy) (asI qy) := by have h := ints_row2 hcy hcly; rw [hqyl] at h; exact h
                      have HBF := hide (before_any qv qy _ _ wB hi1 hi2 (by rw [← hq4, hqyl]) (by rw [← hq4]; omega))
                      rw [hwB] at HBF
                      have HQL : Hid (qv.length = qy.length) := by show _ = _; rw [← hq4, hqyl]
                      rw [hqyl] at hgl
                      rw [hwB] at k0 k1 hsl hgl
                      change _ = Result.ok (Value.bool false) _ at hsl
                      change _ = Result.ok (Value.slice (some ⟨ay, 0, none⟩) L cy) _ at hgl
                      have HGS := hide hgs
                      have HSE := hide hseen
                      have HYK := hide hyk
                      clear hseen hyo hyk hlv hwB hq2 hq3 hq4 hcy hcly hi1 hi2 hby hy5 hqyl hgs hgvs
                      go_wp2_with fail
                      refine HBF.out.mono ?_
                      rw [← HWB.out]
                      rintro e w5 ⟨rfl, hb5⟩
                      have HL5 := hide (HLB.out.below hb5)
                      have HC5 : Hid (CS w10 w5) := HCB.out.trans (CS.below hb5)
                      have HQ5 := hide ((CS.below hb5).best HQB.out)
                      have k2 := (hb5.cell (World.block_lt_of_cell? _ _ (show wB.cell? ⟨W4.heap.size, 0, none⟩ = some (.int .i64 (t : Int)) by rw [HWB.out, Lib.cell_of_heap (heap_alloc_new _ _)]; rfl))).trans (show wB.cell? ⟨W4.heap.size, 0, none⟩ = some (.int .i64 (t : Int)) by rw [HWB.out, Lib.cell_of_heap (heap_alloc_new _ _)]; rfl)
                      have k3 := (hb5.cell (World.block_lt_of_cell? _ _ (show wB.cell? ⟨W4.heap.size, 1, none⟩ = some (.int .i64 (-1)) by rw [HWB.out, Lib.cell_of_heap (heap_alloc_new _ _)]; rfl))).trans (show wB.cell? ⟨W4.heap.size, 1, none⟩ = some (.int .i64 (-1)) by rw [HWB.out, Lib.cell_of_heap (heap_alloc_new _ _)]; rfl)
                      clear hb5 HBF k0 k1 hsl hgl
                      cases hbf : Rc.bef qv qy with
                      | true =>
                        obtain ⟨w6, hput, hl6, hcs6⟩ := HL5.out.put hn hS4 (t, wv) ⟨htS, hwn⟩ qv _ HQ5.out
                        rw [HYK.out] at hput
                        have HL6 := hide hl6
                        have HC6 : Hid (CS w10 w6) := HC5.out.trans hcs6
                        have HG6 := hide (HSM.out _ _ (GInv.put (g' := fun p => if p = (t, wv) then some qv else g p) HGI.out HFP.out HIL.out (by rw [← HWV.out]; exact hwn) (by rw [← HSTP.out]; exact fun h => h HSE.out) (fun q hq => by rw [← HSTP.out, HGS.out] at hq; cases hq; rw [← HQV.out]; exact .inr ⟨HQL.out, hbf⟩) (by rw [← HSTP.out, ← HQV.out]; exact if_pos rfl) (fun z hz => by rw [← HSTP.out] at hz; exact if_neg hz)))
                        clear hl6 hcs6 hbf
                        go_wp2_with fail
                        go_roundw
                        case rel => exact ⟨i + 1, _, _, b, _, _, _, by omega, by go_num, rfl, HL6.out, HG6.out, HC6.out⟩
                        case measure => simp [intOf]; omega
                      | false =>
                        have HG6 := hide (HSM.out _ _ (GInv.pass HGI.out HFP.out (by rw [← HWV.out]; exact hwn) (.inr ⟨qy, by rw [← HSTP.out]; exact HGS.out, fun h => by
                          rw [← HQV.out] at h
                          rcases h with h | ⟨_, h⟩
                          · rw [HQL.out] at h; exact absurd h (Nat.lt_irrefl _)
                          · rw [hbf] at h; cases h⟩)))
                        clear hbf k2 k3
                        go_wp2_with fail
                        go_roundw
                        case rel => exact ⟨i + 1, g, gV, b, _, _, _, by omega, by go_num, rfl, HL5.out, HG6.out, HC5.out⟩
                        case measure => simp [intOf]; omega
                  · obtain ⟨vs, hvs⟩ : ∃ vs, fS (t, wv) = some vs := by
                      cases hh : fS (t, wv) with
                      | none => exact absurd hh hseen
                      | some vs => exact ⟨vs, rfl⟩
                    have hvt := HYES.out _ _ hvs
                    subst hvt
                    rw [hvs] at hsl
                    have HG6 := hide (HSM.out _ _ (GInv.pass HGI.out HFP.out (by rw [← HWV.out]; exact hwn) (.inl (by rw [← HSTP.out]; exact hseen))))
                    rw [hwB] at k0 k1 hsl hgl
                    change _ = Result.ok (Value.bool true) _ at hsl
                    clear hseen hyo hyk hlv hwB hgl hvs
                    go_wp2_with fail
                    rw [← HWB.out]
                    go_roundw
                    case rel => exact ⟨i + 1, g, gV, b, _, _, _, by omega, by go_num, rfl, HLB.out, HG6.out, HCB.out⟩
                    case measure => simp [intOf]; omega
                | false =>
                  have hcase : (aft = 0 ∧ n < wt (s, u) i) ∨ (aft ≠ 0 ∧ wt (s, u) i ≤ n ∧ lf n (wt (s, u) i) = aft) := by
                    rw [HWTV.out, HAFT.out]
                    unfold Pr.waits lf
                    by_cases hu : u = 0
                    · subst hu
                      cases gA with
                      | true => by_cases hn0 : n = 0 <;> simp [hn0] <;> omega
                      | false => simp
                    · have hub : (u == 0) = false := by simpa using hu
                      simp only [hub, Bool.false_and, Bool.or_false, Bool.false_eq_true, if_false, if_neg hu]
                      by_cases hun : u = n
                      · left; omega
                      · right
                        refine ⟨by omega, by omega, ?_⟩
                        rw [if_neg (by omega), if_pos (by omega)]
                        omega
                  rcases hcase with ⟨haz, hbw⟩ | ⟨haz, hbw, hlv⟩
                  · subst haz
                    cases b with
                    | none =>
                      have hv := HL4.out.bst
                      simp only [BestV, Value.slice.injEq] at hv
                      obtain ⟨rfl, rfl, rfl⟩ := hv
                      have HG6 := hide (HSM.out _ _ (GInv.bad HGI.out HFP.out HIL.out hbw (fun q h => by cases h)))
                      rw [← HQV.out] at HG6
                      have HL6 := hide (HL4.out.best HNV.out)
                      clear hbw
                      go_wp2_with fail
                      go_roundw
                      case rel => exact ⟨i + 1, g, gV, some qv, _, _, _, by omega, by go_num, rfl, HL6.out, HG6.out, HC4.out⟩
                      case measure => simp [intOf]; omega
                    | some rr =>
                      obtain ⟨hr5, ar, cr', hvr, hcr', hclr⟩ := HL4.out.bst
                      simp only [Value.slice.injEq] at hvr
                      obtain ⟨rfl, hxn, rfl⟩ := hvr
                      have hrl : rr.length = L := by
                        obtain ⟨x', i', p', _, h2, _, _, h6⟩ := HGI.out.bfrom _ rfl
                        rw [h6, List.length_append, (HLI.out.way x' p' h2).1.1, HLD.out]
                        rfl
                      rw [hrl] at hxn hcr'
                      subst hxn
                      obtain ⟨_, aq, cq, hq1, hq2, hq3⟩ := HNV.out
                      simp only [Value.slice.injEq, Option.some.injEq, Addr.mk.injEq, and_true] at hq1
                      obtain ⟨rfl, hq4, rfl⟩ := hq1
                      have hi1 : Ints W4 (.slice (some ⟨bb, 0, none⟩) xn cb) (asI qv) := by have h := ints_row2 hq2 hq3; rw [← hq4] at h; exact h
                      have hi2 : Ints W4 (.slice (some ⟨ar, 0, none⟩) xn xc) (asI rr) := by have h := ints_row2 (c := xc) (by rw [hrl]; exact hcr') hclr; rw [hrl] at h; exact h
                      have HBF := hide (before_any qv rr _ _ W4 hi1 hi2 (by rw [← hq4, hrl]) (by rw [← hq4]; omega))
                      have HQL : Hid (qv.length = rr.length) := by show _ = _; rw [← hq4, hrl]
                      have HBW := hide hbw
                      clear hi1 hi2 hq2 hq3 hq4 hrl hclr hr5 hcr' hbw
                      go_wp2_with fail
                      refine HBF.out.mono ?_
                      rintro e w5 ⟨rfl, hb5⟩
                      have HL5 := hide (HL4.out.below hb5)
                      have HC5 : Hid (CS w10 w5) := HC4.out.trans (CS.below hb5)
                      have HQ5 := hide ((CS.below hb5).best HNV.out)
                      clear hb5 HBF
                      cases hbf : Rc.bef qv rr with
                      | true =>
                        have HG6 := hide (HSM.out _ _ (GInv.bad HGI.out HFP.out HIL.out HBW.out (fun q h => by cases h; rw [← HQV.out]; exact .inr ⟨HQL.out, hbf⟩)))
                        rw [← HQV.out] at HG6
                        have HL6 := hide (HL5.out.best HQ5.out)
                        clear hbf
                        go_wp2_with fail
                        go_roundw
                        case rel => exact ⟨i + 1, g, gV, some qv, _, _, _, by omega, by go_num, rfl, HL6.out, HG6.out, HC5.out⟩
                        case measure => simp [intOf]; omega
                      | false =>
                        have HG6 := hide (HSM.out _ _ (GInv.badno HGI.out HFP.out HBW.out (fun h => by
                          rw [← HQV.out] at h
                          rcases h with h | ⟨_, h⟩
                          · rw [HQL.out] at h; exact absurd h (Nat.lt_irrefl _)
                          · rw [hbf] at h; cases h)))
                        clear hbf
                        go_wp2_with fail
                        go_roundw
                        case rel => exact ⟨i + 1, g, gV, some rr, _, _, _, by omega, by go_num, rfl, HL5.out, HG6.out, HC5.out⟩
                        case measure => simp [intOf]; omega
                  · obtain ⟨wv, hwvv⟩ : ∃ wv, wv = wt (s, u) i := ⟨_, rfl⟩
                    have HWV := hide hwvv
                    rw [← hwvv] at hbw hlv
                    have hwn : wv ≤ n := hbw
                    have HSTP : Hid ((t, wv) = Pr.step next wt (s, u) i) := by show _ = _; unfold Pr.step; rw [HTE.out, ← hwvv]
                    have hazb : (aft == 0) = false := by simpa using haz
                    clear hwvv hbw haz
                    have hyk : plV n (t, wv) = .agg #[.int .i64 (t : Int), .int .i64 aft] := by
                      have h : plV n (t, wv) = .agg #[.int .i64 (t : Int), .int .i64 (lf n wv)] := rfl
                      rw [h, hlv]
                    have hyo : plOk n (t, wv) := ⟨by show t ≤ 1000; omega, hwn⟩
                    obtain ⟨wB, hwB⟩ : ∃ wB, wB = W4.alloc (.cells #[.int .i64 (t : Int), .int .i64 aft] 130) := ⟨_, rfl⟩
                    have hbB : Below W4.heap.size W4 wB := by rw [hwB]; exact below_al _ _
                    have HLB := hide (HL4.out.below hbB)
                    have HCB : Hid (CS w10 wB) := HC4.out.trans (CS.below hbB)
                    have HQB := hide ((CS.below hbB).best HNV.out)
                    have k0 : wB.cell? ⟨W4.heap.size, 0, none⟩ = some (.int .i64 (t : Int)) := by rw [hwB, Lib.cell_of_heap (heap_alloc_new _ _)]; rfl
                    have k1 : wB.cell? ⟨W4.heap.size, 1, none⟩ = some (.int .i64 aft) := by rw [hwB, Lib.cell_of_heap (heap_alloc_new _ _)]; rfl
                    have hsl := HLB.out.ds.dm.look (kindPl n hn) Tryz.underlying132 (z := .bool false) (fun w => by kernel_rfl) false (t, wv) hyo
                    obtain ⟨cG5, DG5, hdg5, _⟩ := HLB.out.dg
                    have hgl := hdg5.dm.look (kindPl n hn) Tryz.underlying131 (z := .slice none 0 0) (fun w => by kernel_rfl) false (t, wv) hyo
                    rw [hyk] at hsl hgl
                    have HWB := hide hwB
                    clear hdg5 hbB
                    by_cases hseen : fS (t, wv) = none
                    · rw [hseen] at hsl
                      rcases HLB.out.wg (t, wv) with ⟨hgn, hgvn⟩ | ⟨qy, vy, hgs, hgvs, hby⟩
                      · rw [hgvn] at hgl
                        obtain ⟨w6, hput, hl6, hcs6⟩ := HLB.out.put hn hS4 (t, wv) ⟨htS, hwn⟩ qv _ HQB.out
                        rw [hyk] at hput
                        have HL6 := hide hl6
                        have HG6 := hide (HSM.out _ _ (GInv.put (g' := fun p => if p = (t, wv) then some qv else g p) HGI.out HFP.out HIL.out (by rw [← HWV.out]; exact hwn) (by rw [← HSTP.out]; exact fun h => h hseen) (fun q hq => by rw [← HSTP.out, hgn] at hq; cases hq) (by rw [← HSTP.out, ← HQV.out]; exact if_pos rfl) (fun z hz => by rw [← HSTP.out] at hz; exact if_neg hz)))
                        have HC6 : Hid (CS w10 w6) := HC4.out.trans ((CS.below (by rw [HWB.out]; exact below_al _ _)).trans hcs6)
                        rw [hwB] at k0 k1 hsl hgl hput
                        change _ = Result.ok (Value.bool false) _ at hsl
                        change _ = Result.ok (Value.slice none 0 0) _ at hgl
                        clear hl6 hcs6 hseen hgn hgvn hyo hyk hlv hwB
                        go_wp2_with fail
                        go_roundw
                        case rel => exact ⟨i + 1, _, _, b, _, _, _, by omega, by go_num, rfl, HL6.out, HG6.out, HC6.out⟩
                        case measure => simp [intOf]; omega
                      · obtain ⟨hy5, ay, cy, hvy, hcy, hcly⟩ := id hby
                        subst hvy
                        rw [hgvs] at hgl
                        have hqyl : qy.length = L := by
                          obtain ⟨_, x', i', p', _, h2, _, _, _, h6⟩ := HGI.out.from_ _ _ hgs
                          rw [h6, List.length_append, (HLI.out.way x' p' h2).1.1, HLD.out]
                          rfl
                        obtain ⟨_, aq, cq, hq1, hq2, hq3⟩ := HQB.out
                        simp only [Value.slice.injEq, Option.some.injEq, Addr.mk.injEq, and_true] at hq1
                        obtain ⟨rfl, hq4, rfl⟩ := hq1
                        have hi1 : Ints wB (.slice (some ⟨bb, 0, none⟩) L cb) (asI qv) := by have h := ints_row2 hq2 hq3; rw [← hq4] at h; exact h
                        have hi2 : Ints wB (.slice (some ⟨ay, 0, none⟩) L cy) (asI qy) := by have h := ints_row2 hcy hcly; rw [hqyl] at h; exact h
                        have HBF := hide (before_any qv qy _ _ wB hi1 hi2 (by rw [← hq4, hqyl]) (by rw [← hq4]; omega))
                        rw [hwB] at HBF
                        have HQL : Hid (qv.length = qy.length) := by show _ = _; rw [← hq4, hqyl]
                        rw [hqyl] at hgl
                        rw [hwB] at k0 k1 hsl hgl
                        change _ = Result.ok (Value.bool false) _ at hsl
                        change _ = Result.ok (Value.slice (some ⟨ay, 0, none⟩) L cy) _ at hgl
                        have HGS := hide hgs
                        have HSE := hide hseen
                        have HYK := hide hyk
                        clear hseen hyo hyk hlv hwB hq2 hq3 hq4 hcy hcly hi1 hi2 hby hy5 hqyl hgs hgvs
                        go_wp2_with fail
                        refine HBF.out.mono ?_
                        rw [← HWB.out]
                        rintro e w5 ⟨rfl, hb5⟩
                        have HL5 := hide (HLB.out.below hb5)
                        have HC5 : Hid (CS w10 w5) := HCB.out.trans (CS.below hb5)
                        have HQ5 := hide ((CS.below hb5).best HQB.out)
                        have k2 := (hb5.cell (World.block_lt_of_cell? _ _ (show wB.cell? ⟨W4.heap.size, 0, none⟩ = some (.int .i64 (t : Int)) by rw [HWB.out, Lib.cell_of_heap (heap_alloc_new _ _)]; rfl))).trans (show wB.cell? ⟨W4.heap.size, 0, none⟩ = some (.int .i64 (t : Int)) by rw [HWB.out, Lib.cell_of_heap (heap_alloc_new _ _)]; rfl)
                        have k3 := (hb5.cell (World.block_lt_of_cell? _ _ (show wB.cell? ⟨W4.heap.size, 1, none⟩ = some (.int .i64 aft) by rw [HWB.out, Lib.cell_of_heap (heap_alloc_new _ _)]; rfl))).trans (show wB.cell? ⟨W4.heap.size, 1, none⟩ = some (.int .i64 aft) by rw [HWB.out, Lib.cell_of_heap (heap_alloc_new _ _)]; rfl)
                        clear hb5 HBF k0 k1 hsl hgl
                        cases hbf : Rc.bef qv qy with
                        | true =>
                          obtain ⟨w6, hput, hl6, hcs6⟩ := HL5.out.put hn hS4 (t, wv) ⟨htS, hwn⟩ qv _ HQ5.out
                          rw [HYK.out] at hput
                          have HL6 := hide hl6
                          have HC6 : Hid (CS w10 w6) := HC5.out.trans hcs6
                          have HG6 := hide (HSM.out _ _ (GInv.put (g' := fun p => if p = (t, wv) then some qv else g p) HGI.out HFP.out HIL.out (by rw [← HWV.out]; exact hwn) (by rw [← HSTP.out]; exact fun h => h HSE.out) (fun q hq => by rw [← HSTP.out, HGS.out] at hq; cases hq; rw [← HQV.out]; exact .inr ⟨HQL.out, hbf⟩) (by rw [← HSTP.out, ← HQV.out]; exact if_pos rfl) (fun z hz => by rw [← HSTP.out] at hz; exact if_neg hz)))
                          clear hl6 hcs6 hbf
                          go_wp2_with fail
                          go_roundw
                          case rel => exact ⟨i + 1, _, _, b, _, _, _, by omega, by go_num, rfl, HL6.out, HG6.out, HC6.out⟩
                          case measure => simp [intOf]; omega
                        | false =>
                          have HG6 := hide (HSM.out _ _ (GInv.pass HGI.out HFP.out (by rw [← HWV.out]; exact hwn) (.inr ⟨qy, by rw [← HSTP.out]; exact HGS.out, fun h => by
                            rw [← HQV.out] at h
                            rcases h with h | ⟨_, h⟩
                            · rw [HQL.out] at h; exact absurd h (Nat.lt_irrefl _)
                            · rw [hbf] at h; cases h⟩)))
                          clear hbf k2 k3
                          go_wp2_with fail
                          go_roundw
                          case rel => exact ⟨i + 1, g, gV, b, _, _, _, by omega, by go_num, rfl, HL5.out, HG6.out, HC5.out⟩
                          case measure => simp [intOf]; omega
                    · obtain ⟨vs, hvs⟩ : ∃ vs, fS (t, wv) = some vs := by
                        cases hh : fS (t, wv) with
                        | none => exact absurd hh hseen
                        | some vs => exact ⟨vs, rfl⟩
                      have hvt := HYES.out _ _ hvs
                      subst hvt
                      rw [hvs] at hsl
                      have HG6 := hide (HSM.out _ _ (GInv.pass HGI.out HFP.out (by rw [← HWV.out]; exact hwn) (.inl (by rw [← HSTP.out]; exact hseen))))
                      rw [hwB] at k0 k1 hsl hgl
                      change _ = Result.ok (Value.bool true) _ at hsl
                      clear hseen hyo hyk hlv hwB hgl hvs
                      go_wp2_with fail
                      rw [← HWB.out]
                      go_roundw
                      case rel => exact ⟨i + 1, g, gV, b, _, _, _, by omega, by go_num, rfl, HLB.out, HG6.out, HCB.out⟩
                      case measure => simp [intOf]; omega
            · obtain rfl : i = I := by omega
              have HGF : Hid (GInv next wt n f g (fun p => fS p ≠ none) b (fun x _ => fV x ≠ none ∧ ¬ (left x ∧ x ≠ (s, u)))) := HGI.out.same (fun x j hv => by
                rcases hv with ⟨h1, h2⟩ | ⟨h1, _⟩
                · exact ⟨h1, fun h => h2 h.1⟩
                · subst h1; exact ⟨HFV.out, fun h => h.2 rfl⟩) (fun x j p hv hp hj => by
                by_cases e : x = (s, u)
                · refine .inr ⟨e, ?_⟩
                  rw [HNL.out] at hj
                  exact hj
                · exact .inl ⟨hv.1, fun h => hv.2 ⟨h, e⟩⟩)
              have HCF : Hid (CS w8 wq) := HC10.out.trans HCI.out
              have HMF := hide (HME.out _ _ _ _ _ HLI3.out)
              have hii : ¬ (i : Int) < (i : Int) := by omega
              go_wp2_with fail
              go_roundw
              case rel => exact ⟨_, cnt', g, gV, b, _, _, _, rfl, HLI3.out, HGF.out, HCF.out⟩
              case measure => exact HMF.out
end Pa
end Go.Proofs.YtgldbliohpfljaaGreatDoor
