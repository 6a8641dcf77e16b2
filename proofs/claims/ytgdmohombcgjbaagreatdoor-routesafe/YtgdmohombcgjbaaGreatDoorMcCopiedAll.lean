/-
  A program in memory stands while a block of slices alone is written. The walks of slices.Clone at names and rungs, and of package machine's copied.
-/
import Derived.Test.YtgdmohombcgjbaaGreatDoorNaEdgesAll
import Derived.Test.YtgdmohombcgjbaaGreatDoorLdNumberAll
import Derived.Test.YtgdmohombcgjbaaGreatDoorMcNumber
namespace Go.Proofs.YtgdmohombcgjbaaGreatDoor
section
open Go.RowKit
/-- a block in which slices alone lie -/
def Slices (w : World) (b : Nat) : Prop := ∀ i u, w.cell? ⟨b, i, none⟩ = some u → ∃ a n c, u = .slice a n c
theorem IsEx.off {ok : Nat → Prop} {w : World} {b : Nat} (hb : Slices w b) : ∀ (x : Ex) (v : Value), IsEx ok w x v → IsEx (fun g => ok g ∧ g ≠ b) w x v := by
  intro x
  induction x using Ex.ind with
  | h k nm l ih =>
    intro v h
    have hrow : ∀ g, Row w g (l.map fun x => IsEx ok w x) → Row w g (l.map fun x => IsEx (fun g => ok g ∧ g ≠ b) w x) := by
      intro g hr i P hP
      rw [List.getElem?_map] at hP
      cases hl : l[i]? with
      | none => rw [hl] at hP; simp at hP
      | some y =>
        rw [hl] at hP
        simp only [Option.map_some, Option.some.injEq] at hP
        obtain ⟨u, hu, hx⟩ := hr i (IsEx ok w y) (by rw [List.getElem?_map, hl]; rfl)
        exact ⟨u, hu, by rw [← hP]; exact ih y (List.mem_of_getElem? hl) u hx⟩
    have hlist : ∀ t, IsList ok w t l.length (l.map fun x => IsEx ok w x) v → IsList (fun g => ok g ∧ g ≠ b) w t l.length (l.map fun x => IsEx (fun g => ok g ∧ g ≠ b) w x) v := by
      rintro t ⟨h1, h2, g, cap, h3, h4, h5, h6⟩
      refine ⟨h1, h2, g, cap, h3, h4, ⟨h5, ?_⟩, hrow g h6⟩
      intro e
      subst e
      have hl : l[0]? = some (l[0]'(by omega)) := List.getElem?_eq_getElem _
      obtain ⟨u, hu, hx⟩ := h6 0 (IsEx ok w (l[0]'(by omega))) (by rw [List.getElem?_map, hl]; rfl)
      obtain ⟨a, n, c, rfl⟩ := hb 0 u hu
      obtain ⟨_, _, hy⟩ := IsEx.iface _ _ hx
      cases hy
    match k, h with
    | 0, h => simp only [IsEx] at h ⊢; exact h
    | 1, h => simp only [IsEx] at h ⊢; exact h
    | 2, h => simp only [IsEx] at h ⊢; exact h
    | 3, h => simp only [IsEx] at h ⊢; exact h
    | 4, h => simp only [IsEx] at h ⊢; exact h
    | 5, h =>
      simp only [IsEx] at h ⊢
      obtain ⟨h1, h2, u, h3, h4⟩ := h
      refine ⟨h1, h2, u, h3, ?_⟩
      intro P hP
      rw [List.getElem?_map] at hP
      cases hl : l[0]? with
      | none => rw [hl] at hP; simp at hP
      | some y =>
        rw [hl] at hP
        simp only [Option.map_some, Option.some.injEq] at hP
        rw [← hP]
        exact ih y (List.mem_of_getElem? hl) u (h4 _ (by rw [List.getElem?_map, hl]; rfl))
    | 6, h => simp only [IsEx] at h ⊢; exact ⟨h.1, hlist _ h.2⟩
    | 7, h => simp only [IsEx] at h ⊢; exact ⟨h.1, hlist _ h.2⟩
    | n + 8, h => simp only [IsEx] at h
/-- a program stands where a block turns in which slices alone lie -/
theorem IsPrg.off {w w' : World} {p : Ld.Prg} {v : Value} (h : IsPrg w p v) (b : Nat) (hb : Slices w b) (hk : ∀ k, k ≠ b → w'.heap[k]? = w.heap[k]?) : IsPrg w' p v := by
  have hc : ∀ g i, g ≠ b → w'.cell? ⟨g, i, none⟩ = w.cell? ⟨g, i, none⟩ := fun g i hg => World.cell?_of_block (w' := w') (w := w) (hk g hg)
  obtain ⟨nv, rv, h1, h2, h3⟩ := h
  refine ⟨nv, rv, h1, ?_, ?_⟩
  · rcases h2 with h2 | ⟨g, cap, e1, e2, e3, e4⟩
    · exact .inl h2
    · refine .inr ⟨g, cap, e1, e2, e3, fun i n hi => ?_⟩
      obtain ⟨f1, f2, f3, f4⟩ := e4 i n hi
      have hg : g ≠ b := by
        intro e
        subst e
        obtain ⟨_, _, _, hx⟩ := hb _ _ f1
        cases hx
      exact ⟨(hc g _ hg).trans f1, (hc g _ hg).trans f2, (hc g _ hg).trans f3, f4⟩
  · rcases h3 with h3 | ⟨g, cap, e1, e2, e3, e4⟩
    · exact .inl h3
    · refine .inr ⟨g, cap, e1, e2, e3, fun i n hi => ?_⟩
      obtain ⟨u, f1, f2, f3, f4, f5, f6⟩ := e4 i n hi
      have hg : g ≠ b := by
        intro e
        subst e
        obtain ⟨_, _, _, hx⟩ := hb _ _ f1
        cases hx
      refine ⟨u, (hc g _ hg).trans f1, (hc g _ hg).trans f2, (hc g _ hg).trans f3, f4, f5, ?_⟩
      cases hcd : n.cond with
      | none => rw [hcd] at f6; exact f6
      | some x =>
        rw [hcd] at f6
        exact ⟨IsEx.stay (fun g i u hg hc2 => (hc g i hg.2).trans hc2) (fun _ _ => trivial) x u (IsEx.off hb x u f6.1), f6.2⟩
theorem slices_two {w : World} {b : Nat} {x y : Value} {t : TypeId} (h : w.heap[b]? = some (.cells #[x, y] t (0, 0))) (hx : ∃ a n c, x = .slice a n c) (hy : ∃ a n c, y = .slice a n c) : Slices w b := by
  intro i u hu
  rw [Lib.cell_of_heap h] at hu
  match i, hu with
  | 0, hu => simp at hu; subst hu; exact hx
  | 1, hu => simp at hu; subst hu; exact hy
  | n + 2, hu => simp at hu
end
section
open Go.RowKit
theorem choose_list {P : Nat → Value → Prop} : ∀ {n : Nat}, (∀ i, i < n → ∃ v, P i v) → ∃ vs : List Value, vs.length = n ∧ ∀ (i : Nat) v, vs[i]? = some v → P i v
  | 0, _ => ⟨[], rfl, fun i v h => by simp at h⟩
  | n + 1, h => by
    obtain ⟨vs, h1, h2⟩ := choose_list (n := n) (fun i hi => h i (by omega))
    obtain ⟨v, hv⟩ := h n (by omega)
    refine ⟨vs ++ [v], by simp [h1], fun i u hu => ?_⟩
    by_cases hi : i < vs.length
    · rw [List.getElem?_append_left hi] at hu; exact h2 i u hu
    · rw [List.getElem?_append_right (by omega)] at hu
      have hi2 : i - vs.length < [v].length := (List.getElem?_eq_some_iff.1 hu).1
      have e : i = n := by simp at hi2; omega
      subst e
      rw [h1, Nat.sub_self] at hu
      simp only [List.getElem?_cons_zero, Option.some.injEq] at hu
      subst hu; exact hv
/-- a rung's three cells, what it asks as value v -/
def RungAs (w : World) (g i : Nat) (r : Ld.Rng) (v : Value) : Prop := w.cell? ⟨g, i * 3, none⟩ = some (.int .i64 r.kind) ∧ w.cell? ⟨g, i * 3 + 1, none⟩ = some (.string ⟨r.name.toArray⟩) ∧ w.cell? ⟨g, i * 3 + 2, none⟩ = some v ∧ r.name.length ≤ maxLen ∧ I64 r.kind ∧ CondAt w r.cond v
theorem RungAs.below {w w' : World} {g i : Nat} {r : Ld.Rng} {v : Value} (h : RungAs w g i r v) (hb : Below w.heap.size w w') : RungAs w' g i r v := by
  obtain ⟨h1, h2, h3, h4, h5, h6⟩ := h
  exact ⟨(hb.cell (World.block_lt_of_cell? _ _ h1)).trans h1, (hb.cell (World.block_lt_of_cell? _ _ h2)).trans h2, (hb.cell (World.block_lt_of_cell? _ _ h3)).trans h3, h4, h5, h6.below hb⟩
theorem RungAs.one {w : World} {g i : Nat} {r : Ld.Rng} {v : Value} (h : RungAs w g i r v) : v.oneCell' = true := by
  obtain ⟨_, _, _, _, _, h6⟩ := h
  cases hc : r.cond with
  | none => rw [hc] at h6; obtain rfl : v = .nilIface := h6; rfl
  | some x =>
    rw [hc] at h6
    obtain ⟨t, y, rfl⟩ := IsEx.iface x v h6.1
    rfl
theorem rg_len (l : List (Ld.Rng × Value)) : (l.flatMap rgCells).length = l.length * 3 := by
  induction l with
  | nil => rfl
  | cons a r ih => rw [List.flatMap_cons, List.length_append, ih, List.length_cons]; simp [rgCells]; omega
theorem rungs_cells {W : World} {g : Nat} {zs : List (Ld.Rng × Value)} (h : ∀ (i : Nat) z, zs[i]? = some z → RungAs W g i z.1 z.2) : ∀ j u, (zs.flatMap rgCells)[j]? = some u → W.cell? ((⟨g, 0, none⟩ : Addr).add j) = some u := by
  intro j u hu
  have e : (⟨g, 0, none⟩ : Addr).add j = ⟨g, j, none⟩ := by unfold Addr.add; split <;> simp_all
  rw [e]
  have hj : j < zs.length * 3 := by rw [← rg_len]; exact (List.getElem?_eq_some_iff.1 hu).1
  have hi : j / 3 < zs.length := by omega
  have hn := List.getElem?_eq_getElem hi
  obtain ⟨h1, h2, h3, _⟩ := h (j / 3) _ hn
  have hf := flat3 rgCells (fun _ => rfl) zs (j / 3) _ hn (j % 3) (by omega)
  rw [show j / 3 * 3 + j % 3 = j by omega, hu] at hf
  have hm : j % 3 = 0 ∨ j % 3 = 1 ∨ j % 3 = 2 := by omega
  rcases hm with hm | hm | hm
  · rw [hm] at hf
    rw [show j = j / 3 * 3 by omega, h1]; exact hf.symm
  · rw [hm] at hf
    rw [show j = j / 3 * 3 + 1 by omega, h2]; exact hf.symm
  · rw [hm] at hf
    rw [show j = j / 3 * 3 + 2 by omega, h3]; exact hf.symm
theorem eqNilR_none (w : World) (n c : Nat) : (binOp BinOp.eql 26 (.slice none n c) (.slice none 0 0)).run Tryz.prog w = .ok (.bool true) w := by kernel_rfl
theorem eqNilR_some (w : World) (a : Addr) (n c : Nat) : (binOp BinOp.eql 26 (.slice (some a) n c) (.slice none 0 0)).run Tryz.prog w = .ok (.bool false) w := by kernel_rfl
set_option maxHeartbeats 2000000 in
set_option maxRecDepth 100000 in
theorem cloneR_any (ns : List Ld.Rng) (nv : Value) (w : World) (h : RungsAt w nv ns) :
    Calls Tryz.prog 53 #[nv] w fun e w' => ∃ v, e = .returned v ∧ RungsAt w' v ns ∧ Below w.heap.size w w' := by
  obtain ⟨i0, hi0, hz0, hz1, hz2⟩ := info_parts Tryz.infoRung
  have q0 := fun n c => eqNilR_none w n c
  have q1 := fun a n c => eqNilR_some w a n c
  have HBA : Hid (Below w.heap.size w (w.alloc (.cells #[] 48))) := (Below.refl _ w).alloc (Nat.le_refl _) _
  rcases h with ⟨rfl, a, cap, rfl⟩ | ⟨g, cap, rfl, hcap, hlen, hat⟩
  · cases a with
    | none =>
      go_enter Tryz.func53, Tryz.ntmps53
      go_wp2_with fail
      go_ret
      exact ⟨_, rfl, .inl ⟨rfl, _, _, rfl⟩, Below.refl _ _⟩
    | some ad =>
      go_enter Tryz.func53, Tryz.ntmps53
      go_wp2_with (at_builtin; refine Lib.wpList_append_run _ rfl (.tmp 5) (.tmp 6) 26 26 rfl _ _ rfl rfl _ _ (append_zero w.heap.size _ _ _ i0 3 Tryz.underlying26 hi0 _ 0 [] (own_zero w w.heap.size 48 3 (Nat.le_refl _)) _ _) ?_)
      go_ret
      exact ⟨_, rfl, .inl ⟨rfl, _, _, rfl⟩, HBA.out⟩
  · by_cases hne : ns.length = 0
    · obtain rfl := List.length_eq_zero_iff.1 hne
      go_enter Tryz.func53, Tryz.ntmps53
      go_wp2_with (at_builtin; refine Lib.wpList_append_run _ rfl (.tmp 5) (.tmp 6) 26 26 rfl _ _ rfl rfl _ _ (append_zero w.heap.size _ _ _ i0 3 Tryz.underlying26 hi0 _ 0 [] (own_zero w w.heap.size 48 3 (Nat.le_refl _)) _ _) ?_)
      go_ret
      exact ⟨_, rfl, .inl ⟨rfl, _, _, rfl⟩, HBA.out⟩
    · obtain ⟨vs, hvl, hvs⟩ := choose_list (n := ns.length) (P := fun i v => ∀ y, ns[i]? = some y → RungAs w g i y v) (fun i hi => by
        obtain ⟨v, hv⟩ := hat i _ (List.getElem?_eq_getElem hi)
        exact ⟨v, fun y hy => by rw [List.getElem?_eq_getElem hi] at hy; cases hy; exact hv⟩)
      obtain ⟨zs, hzs⟩ : ∃ zs, zs = ns.zip vs := ⟨_, rfl⟩
      have hzl : zs.length = ns.length := by rw [hzs, List.length_zip]; omega
      have hz : ∀ (i : Nat) z, zs[i]? = some z → ns[i]? = some z.1 ∧ RungAs w g i z.1 z.2 := fun i z hz => by
        rw [hzs] at hz
        obtain ⟨h1, h2⟩ := List.getElem?_zip_eq_some.1 hz
        exact ⟨h1, hvs i _ h2 _ h1⟩
      have hlc : (zs.flatMap rgCells).length = ns.length * 3 := by rw [rg_len, hzl]
      have HOWN : Hid ((w.alloc (.cells #[] 48)).ownsRow w.heap.size 48 3 (.slice (some ⟨w.heap.size, 0, none⟩) 0 0) 0 []) := own_zero w w.heap.size 48 3 (Nat.le_refl _)
      have HNEW : Hid (∀ j u, (zs.flatMap rgCells)[j]? = some u → (w.alloc (.cells #[] 48)).cell? ((⟨g, 0, none⟩ : Addr).add j) = some u) := rungs_cells (fun i z hi => ((hz i z hi).2).below HBA.out)
      have HONE : Hid (∀ u ∈ zs.flatMap rgCells, u.oneCell' = true) := by
        intro u hu
        obtain ⟨z, hzm, hn⟩ := List.mem_flatMap.1 hu
        obtain ⟨i, hi⟩ := List.getElem?_of_mem hzm
        have hone := ((hz i z hi).2).one
        simp only [rgCells, List.mem_cons, List.not_mem_nil, or_false] at hn
        rcases hn with rfl | rfl | rfl
        · rfl
        · rfl
        · exact hone
      have HAT := hide hz
      have HZL := hide hzl
      obtain ⟨n, hnn⟩ : ∃ n, n = ns.length := ⟨_, rfl⟩
      have HN := hide hnn
      have HLC := hide hlc
      rw [← hnn] at hlen hcap hne HLC ⊢
      clear hat hnn hlc hvs hz hzs hzl
      have hn0 : 0 < n := by omega
      go_enter Tryz.func53, Tryz.ntmps53
      go_wp2_with (at_builtin; refine wpList_append_lies _ rfl (.tmp 5) (.tmp 6) 26 rfl w.heap.size 48 i0 _ 3 40 Tryz.underlying26 hi0 hz0 hz1 hz2 rfl (by decide) (.slice (some ⟨w.heap.size, 0, none⟩) 0 0) 0 [] rfl HOWN.out ⟨g, 0, none⟩ n cap (zs.flatMap rgCells) rfl HLC.out HNEW.out HONE.out hn0 (by unfold maxLen; omega) (by omega) (by simp) (w.heap.size + 1) (by simp) ?_; intro g2 cap2 wC hown hgrow hat2 hltg)
      go_ret
      refine ⟨_, rfl, ?_, HBA.out.grown hgrow (by simp) (fun j e => by simp only [Value.ownBlock, Option.some.injEq] at e; omega)⟩
      rcases hown.2 with ⟨hx, _⟩ | ⟨g3, cap3, cur, hx, _, hcur, hc3, _, _, htk⟩
      · cases hx
      · simp only [Value.slice.injEq, Option.some.injEq, Addr.mk.injEq] at hx
        obtain ⟨⟨rfl, _⟩, _, rfl⟩ := hx
        refine .inr ⟨g2, cap2, by rw [← HN.out]; rfl, by rw [← HN.out]; omega, by rw [← HN.out]; exact hlen, fun i y hy => ?_⟩
        have hil : i < zs.length := by rw [HZL.out]; exact (List.getElem?_eq_some_iff.1 hy).1
        have hzi := List.getElem?_eq_getElem hil
        obtain ⟨k1, k2⟩ := HAT.out i _ hzi
        rw [hy] at k1
        have ky : y = zs[i].1 := Option.some.inj k1
        have hc := fun j hj => flat3 rgCells (fun _ => rfl) zs i _ hzi j hj
        have hbl := HBA.out.grown hgrow (by simp) (fun j e => by simp only [Value.ownBlock, Option.some.injEq] at e; omega)
        obtain ⟨_, _, _, k4, k5, k6⟩ := k2
        rw [ky]
        exact ⟨zs[i].2, row_cell hcur htk (hc 0 (by omega)), row_cell hcur htk (hc 1 (by omega)), row_cell hcur htk (hc 2 (by omega)), k4, k5, k6.below hbl⟩
theorem two_cells {W : World} {b : Nat} {x y : Value} {t : TypeId} (h : W.heap[b]? = some (.cells #[x, y] t (0, 0))) : W.cell? ⟨b, 0, none⟩ = some x ∧ W.cell? ⟨b, 1, none⟩ = some y ∧ W.frozen? ⟨b, 0, none⟩ = false ∧ W.frozen? ⟨b, 1, none⟩ = false :=
  ⟨by rw [Lib.cell_of_heap h]; rfl, by rw [Lib.cell_of_heap h]; rfl, Lib.frozen_of_heap h 0, Lib.frozen_of_heap h 1⟩
theorem slice_of {w : World} {v : Value} {ns : List Ld.Nme} (h : NamesAt w v ns) : ∃ a n c, v = .slice a n c := by obtain ⟨a, c, h, _⟩ := h.slice; exact ⟨a, _, c, h⟩
theorem slice_ofR {w : World} {v : Value} {ns : List Ld.Rng} (h : RungsAt w v ns) : ∃ a n c, v = .slice a n c := by obtain ⟨a, c, h, _⟩ := h.slice; exact ⟨a, _, c, h⟩
set_option maxHeartbeats 4000000 in
set_option maxRecDepth 100000 in
theorem copied_any (p : Ld.Prg) (v : Value) (w : World) (h : IsPrg w p v) :
    Calls Tryz.prog 25 #[v] w fun e w' => ∃ u, e = .returned u ∧ IsPrg w' p u ∧ Below w.heap.size w w' := by
  obtain ⟨nv, rv, rfl, hn, hr⟩ := h
  obtain ⟨wA, hwA⟩ : ∃ wA, wA = (w.alloc (.cells #[nv, rv] 28)).alloc (.cells #[.slice none 0 0, .slice none 0 0] 28) := ⟨_, rfl⟩
  have hbA : Below w.heap.size w wA := by rw [hwA]; exact ((Below.refl _ w).alloc (Nat.le_refl _) _).alloc (by simp) _
  have hzA : wA.heap.size = w.heap.size + 1 + 1 := by rw [hwA]; simp
  have a0 : wA.heap[w.heap.size]? = some (.cells #[nv, rv] 28 (0, 0)) := by rw [hwA]; exact (Below.heap_alloc _ _ _ (by simp)).trans (heap_alloc_new w _)
  have a1 : wA.heap[w.heap.size + 1]? = some (.cells #[.slice none 0 0, .slice none 0 0] 28 (0, 0)) := by
    rw [hwA]
    have := heap_alloc_new (w.alloc (.cells #[nv, rv] 28)) (.cells #[.slice none 0 0, .slice none 0 0] 28)
    rw [World.size_alloc] at this
    exact this
  have HX : Hid (∀ W, Below wA.drew.heap.size wA.drew W → (W.cell? ⟨w.heap.size, 0, none⟩ = some nv ∧ W.cell? ⟨w.heap.size, 1, none⟩ = some rv) ∧ W.heap[w.heap.size + 1]? = some (.cells #[.slice none 0 0, .slice none 0 0] 28 (0, 0)) ∧ Below w.heap.size w W) := by
    intro W hW
    have e0 := (hW.block w.heap.size (by show _ < wA.heap.size; omega)).trans a0
    exact ⟨⟨by rw [Lib.cell_of_heap e0]; rfl, by rw [Lib.cell_of_heap e0]; rfl⟩, (hW.block (w.heap.size + 1) (by show _ < wA.heap.size; omega)).trans a1, hbA.trans ⟨hW.os, hW.tape, hW.output, hW.size, fun k hk => hW.block k (by show _ < wA.heap.size; omega)⟩⟩
  have HCN : Hid (∀ W, Below wA.drew.heap.size wA.drew W → Calls Tryz.prog 52 #[nv] W fun e w' => ∃ v, e = .returned v ∧ NamesAt w' v p.names ∧ Below W.heap.size W w') := fun W hW => cloneN_any p.names nv W (hn.below (HX.out W hW).2.2)
  have HCR : Hid (∀ W, Below wA.drew.heap.size wA.drew W → Calls Tryz.prog 53 #[rv] W fun e w' => ∃ v, e = .returned v ∧ RungsAt w' v p.rungs ∧ Below W.heap.size W w') := fun W hW => cloneR_any p.rungs rv W (hr.below (HX.out W hW).2.2)
  have HFIN : Hid (∀ W v1 v2, Below wA.drew.heap.size wA.drew W → NamesAt W v1 p.names → RungsAt W v2 p.rungs → ∃ u, Ending.returned (.agg #[v1, v2]) = .returned u ∧ IsPrg ((W.setCell ⟨w.heap.size + 1, 0, none⟩ v1).setCell ⟨w.heap.size + 1, 1, none⟩ v2) p u ∧ Below w.heap.size w ((W.setCell ⟨w.heap.size + 1, 0, none⟩ v1).setCell ⟨w.heap.size + 1, 1, none⟩ v2)) := by
    intro W v1 v2 hW h1 h2
    obtain ⟨_, hz, hb⟩ := HX.out W hW
    refine ⟨_, rfl, ?_, (hb.setCell (p := ⟨w.heap.size + 1, 0, none⟩) (by show w.heap.size ≤ w.heap.size + 1; omega) _).setCell (p := ⟨w.heap.size + 1, 1, none⟩) (by show w.heap.size ≤ w.heap.size + 1; omega) _⟩
    have hP : IsPrg W p (.agg #[v1, v2]) := ⟨v1, v2, rfl, h1, h2⟩
    exact hP.off (w.heap.size + 1) (slices_two hz ⟨_, _, _, rfl⟩ ⟨_, _, _, rfl⟩) (fun k hk => (Below.heap_setCell _ _ _ _ (fun e => hk e)).trans (Below.heap_setCell _ _ _ _ (fun e => hk e)))
  have HR0 : Hid (Below wA.drew.heap.size wA.drew wA.drew) := Below.refl _ _
  obtain ⟨⟨c0, c1⟩, _, _⟩ := HX.out _ HR0.out
  obtain ⟨na, nn, nc, rfl⟩ := slice_of hn
  obtain ⟨ra, rn, rc, rfl⟩ := slice_ofR hr
  clear hn hr a0 a1 hbA
  go_enter Tryz.func25, Tryz.ntmps25
  go_wp2_with fail
  rw [← hwA]
  clear hwA
  go_region_with (first
    | (go_at_call 52; first
        | (refine (HCN.out _ HR0.out).mono ?_; rintro e wN ⟨vN, rfl, hnN, hbN⟩; obtain ⟨xa, xn, xc, rfl⟩ := slice_of hnN; have HNN := hide hnN; have HBN := hide hbN; obtain ⟨⟨d0, d1⟩, _, _⟩ := HX.out _ hbN; clear hnN hbN)
        | (refine (HCN.out _ HBR.out).mono ?_; rintro e wN ⟨vN, rfl, hnN, hbN⟩; obtain ⟨xa, xn, xc, rfl⟩ := slice_of hnN; have HNN := hide hnN; have HBN := hide (HBR.out.trans (hbN.mono HBR.out.size)); have HRR := hide (HRN.out.below hbN); obtain ⟨_, dz, _⟩ := HX.out _ HBN.out; obtain ⟨z0, z1, z2, z3⟩ := two_cells dz; clear hnN hbN dz))
    | (go_at_call 53; first
        | (refine (HCR.out _ HR0.out).mono ?_; rintro e wR ⟨vR, rfl, hrN, hbR⟩; obtain ⟨ya, yn, yc, rfl⟩ := slice_ofR hrN; have HRN := hide hrN; have HBR := hide hbR; obtain ⟨⟨d0, d1⟩, _, _⟩ := HX.out _ hbR; clear hrN hbR)
        | (refine (HCR.out _ HBN.out).mono ?_; rintro e wR ⟨vR, rfl, hrN, hbR⟩; obtain ⟨ya, yn, yc, rfl⟩ := slice_ofR hrN; have HRN := hide hrN; have HBR := hide (HBN.out.trans (hbR.mono HBN.out.size)); have HNR := hide (HNN.out.below hbR); obtain ⟨_, dz, _⟩ := HX.out _ HBR.out; obtain ⟨z0, z1, z2, z3⟩ := two_cells dz; clear hrN hbR dz)))
  all_goals go_wp2_with fail
  all_goals
    refine bodyPost_ret_by (v := .agg #[.slice xa xn xc, .slice ya yn yc]) ?_ rfl ?_
    · simp [results, Tryz.results25, go_sem, z0, z1]
    · first
        | exact HFIN.out _ _ _ HBR.out HNR.out HRN.out
        | exact HFIN.out _ _ _ HBN.out HNN.out HRR.out
end
end Go.Proofs.YtgdmohombcgjbaaGreatDoor
