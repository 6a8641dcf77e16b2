/-
  The walks of slices.Clone at names and rungs, and of package machine's copied.
-/
import Derived.Test.YtdmnikbhkpcdpaaGreatDoorMcNumber
import Derived.Test.YtdmnikbhkpcdpaaGreatDoorKeReadAll
namespace Go.Proofs.YtdmnikbhkpcdpaaGreatDoor
open Go.RowKit
theorem own_zero (W : World) (q : Nat) (e : TypeId) (s : Nat) (hq : q ≤ W.heap.size) : (W.alloc (.cells #[] e)).ownsRow q e s (.slice (some ⟨W.heap.size, 0, none⟩) 0 0) 0 [] :=
  ⟨by simp, .inr ⟨W.heap.size, 0, #[], rfl, hq, heap_alloc_new W _, Nat.le_refl _, by decide, by simp, by simp⟩⟩
theorem names_cells {W : World} {g : Nat} {ns : List Ld.Nme} (h : ∀ (i : Nat) (n : Ld.Nme), ns[i]? = some n → NameAt W g i n) : ∀ j u, (ns.flatMap nmCells)[j]? = some u → W.cell? ((⟨g, 0, none⟩ : Addr).add j) = some u := by
  intro j u hu
  have e : (⟨g, 0, none⟩ : Addr).add j = ⟨g, j, none⟩ := by unfold Addr.add; split <;> simp_all
  rw [e]
  have hl : ∀ l : List Ld.Nme, (l.flatMap nmCells).length = l.length * 3 := fun l => by
    induction l with
    | nil => rfl
    | cons a r ih => rw [List.flatMap_cons, List.length_append, ih, List.length_cons]; simp [nmCells]; omega
  have hj : j < ns.length * 3 := by rw [← hl]; exact (List.getElem?_eq_some_iff.1 hu).1
  have hi : j / 3 < ns.length := by omega
  have hn := List.getElem?_eq_getElem hi
  obtain ⟨h1, h2, h3, _⟩ := h (j / 3) _ hn
  have hf := flat3 nmCells (fun _ => rfl) ns (j / 3) _ hn (j % 3) (by omega)
  rw [show j / 3 * 3 + j % 3 = j by omega, hu] at hf
  have hm : j % 3 = 0 ∨ j % 3 = 1 ∨ j % 3 = 2 := by omega
  rcases hm with hm | hm | hm
  · rw [hm] at hf
    rw [show j = j / 3 * 3 by omega, h1]; exact hf.symm
  · rw [hm] at hf
    rw [show j = j / 3 * 3 + 1 by omega, h2]; exact hf.symm
  · rw [hm] at hf
    rw [show j = j / 3 * 3 + 2 by omega, h3]; exact hf.symm
theorem eqNil_none (w : World) (n c : Nat) : (binOp BinOp.eql 27 (.slice none n c) (.slice none 0 0)).run Tryz.prog w = .ok (.bool true) w := by kernel_rfl
theorem eqNil_some (w : World) (a : Addr) (n c : Nat) : (binOp BinOp.eql 27 (.slice (some a) n c) (.slice none 0 0)).run Tryz.prog w = .ok (.bool false) w := by kernel_rfl
set_option maxHeartbeats 2000000 in
set_option maxRecDepth 100000 in
theorem cloneN_any (ns : List Ld.Nme) (nv : Value) (w : World) (h : NamesAt w nv ns) :
    Calls Tryz.prog 111 #[nv] w fun e w' => ∃ v, e = .returned v ∧ NamesAt w' v ns ∧ Below w.heap.size w w' := by
  obtain ⟨i0, hi0, hz0, hz1, hz2⟩ := info_parts Tryz.infoName
  have q0 := fun n c => eqNil_none w n c
  have q1 := fun a n c => eqNil_some w a n c
  have HBA : Hid (Below w.heap.size w (w.alloc (.cells #[] 86))) := (Below.refl _ w).alloc (Nat.le_refl _) _
  rcases h with ⟨rfl, a, cap, rfl⟩ | ⟨g, cap, rfl, hcap, hlen, hat⟩
  · cases a with
    | none =>
      go_enter Tryz.func111, Tryz.ntmps111
      go_wp2_with fail
      go_ret
      exact ⟨_, rfl, .inl ⟨rfl, _, _, rfl⟩, Below.refl _ _⟩
    | some ad =>
      go_enter Tryz.func111, Tryz.ntmps111
      go_wp2_with (at_builtin; refine Lib.wpList_append_run _ rfl (.tmp 5) (.tmp 6) 27 27 rfl _ _ rfl rfl _ _ (append_zero w.heap.size _ _ _ i0 3 Tryz.underlying27 hi0 _ 0 [] (own_zero w w.heap.size 86 3 (Nat.le_refl _)) _ _) ?_)
      go_ret
      exact ⟨_, rfl, .inl ⟨rfl, _, _, rfl⟩, HBA.out⟩
  · by_cases hne : ns.length = 0
    · obtain rfl := List.length_eq_zero_iff.1 hne
      go_enter Tryz.func111, Tryz.ntmps111
      go_wp2_with (at_builtin; refine Lib.wpList_append_run _ rfl (.tmp 5) (.tmp 6) 27 27 rfl _ _ rfl rfl _ _ (append_zero w.heap.size _ _ _ i0 3 Tryz.underlying27 hi0 _ 0 [] (own_zero w w.heap.size 86 3 (Nat.le_refl _)) _ _) ?_)
      go_ret
      exact ⟨_, rfl, .inl ⟨rfl, _, _, rfl⟩, HBA.out⟩
    · have hlc : (ns.flatMap nmCells).length = ns.length * 3 := by
        clear hat hlen hcap hne
        induction ns with
        | nil => rfl
        | cons a r ih => rw [List.flatMap_cons, List.length_append, ih, List.length_cons]; simp [nmCells]; omega
      have HOWN : Hid ((w.alloc (.cells #[] 86)).ownsRow w.heap.size 86 3 (.slice (some ⟨w.heap.size, 0, none⟩) 0 0) 0 []) := own_zero w w.heap.size 86 3 (Nat.le_refl _)
      have HNEW : Hid (∀ j u, (ns.flatMap nmCells)[j]? = some u → (w.alloc (.cells #[] 86)).cell? ((⟨g, 0, none⟩ : Addr).add j) = some u) := names_cells (fun i n hi => (hat i n hi).below HBA.out)
      have HONE : Hid (∀ u ∈ ns.flatMap nmCells, u.oneCell' = true) := by
        intro u hu
        obtain ⟨n, _, hn⟩ := List.mem_flatMap.1 hu
        simp only [nmCells, List.mem_cons, List.not_mem_nil, or_false] at hn
        rcases hn with rfl | rfl | rfl <;> rfl
      have HAT := hide hat
      obtain ⟨n, hnn⟩ : ∃ n, n = ns.length := ⟨_, rfl⟩
      have HN := hide hnn
      have HLC := hide hlc
      rw [← hnn] at hlen hcap hne HLC ⊢
      clear hat hnn hlc
      have hn0 : 0 < n := by omega
      go_enter Tryz.func111, Tryz.ntmps111
      go_wp2_with (at_builtin; refine wpList_append_lies _ rfl (.tmp 5) (.tmp 6) 27 rfl w.heap.size 86 i0 _ 3 32 Tryz.underlying27 hi0 hz0 hz1 hz2 rfl (by decide) (.slice (some ⟨w.heap.size, 0, none⟩) 0 0) 0 [] rfl HOWN.out ⟨g, 0, none⟩ n cap (ns.flatMap nmCells) rfl HLC.out HNEW.out HONE.out hn0 (by unfold maxLen; omega) (by omega) (by simp) (w.heap.size + 1) (by simp) ?_; intro g2 cap2 wC hown hgrow hat2 hltg)
      go_ret
      refine ⟨_, rfl, ?_, HBA.out.grown hgrow (by simp) (fun j e => by simp only [Value.ownBlock, Option.some.injEq] at e; omega)⟩
      rcases hown.2 with ⟨hx, _⟩ | ⟨g3, cap3, cur, hx, _, hcur, hc3, _, _, htk⟩
      · cases hx
      · simp only [Value.slice.injEq, Option.some.injEq, Addr.mk.injEq] at hx
        obtain ⟨⟨rfl, _⟩, _, rfl⟩ := hx
        refine .inr ⟨g2, cap2, by rw [← HN.out]; rfl, by rw [← HN.out]; omega, by rw [← HN.out]; exact hlen, fun i y hy => ?_⟩
        have hc := fun j hj => flat3 nmCells (fun _ => rfl) ns i y hy j hj
        obtain ⟨_, _, _, k4⟩ := HAT.out i y hy
        exact ⟨row_cell hcur htk (hc 0 (by omega)), row_cell hcur htk (hc 1 (by omega)), row_cell hcur htk (hc 2 (by omega)), k4⟩
theorem choose_list {P : Nat → Value → Prop} : ∀ {n : Nat}, (∀ i, i < n → ∃ v, P i v) → ∃ vs : List Value, vs.length = n ∧ ∀ (i : Nat) v, vs[i]? = some v → P i v
  | 0, _ => ⟨[], rfl, fun i v h => by simp at h⟩
  | n + 1, h => by
    obtain ⟨vs, h1, h2⟩ := choose_list (n := n) (fun i hi => h i (by omega))
    obtain ⟨v, hv⟩ := h n (by omega)
    refine ⟨vs ++ [v], by simp [h1], fun i u hu => ?_⟩
    by_cases hi : i < vs.length
    · rw [List.getElem?_append_left hi] at hu; exact h2 i u hu
    · rw [List.getElem?_append_right (by omega)] at hu
      have hi2 : i - vs.length < [v].length := (List.getElem?_eq_some_iff.1 hu).1
      have e : i = n := by simp at hi2; omega
      subst e
      rw [h1, Nat.sub_self] at hu
      simp only [List.getElem?_cons_zero, Option.some.injEq] at hu
      subst hu; exact hv
/-- a rung's three cells, what it asks as value v -/
def RungAs (w : World) (g i : Nat) (r : Ld.Rng) (v : Value) : Prop := w.cell? ⟨g, i * 3, none⟩ = some (.int .i64 r.kind) ∧ w.cell? ⟨g, i * 3 + 1, none⟩ = some (.string ⟨r.name.toArray⟩) ∧ w.cell? ⟨g, i * 3 + 2, none⟩ = some v ∧ r.name.length ≤ maxLen ∧ I64 r.kind ∧ CondAt w r.cond v
theorem RungAs.below {w w' : World} {g i : Nat} {r : Ld.Rng} {v : Value} (h : RungAs w g i r v) (hb : Below w.heap.size w w') : RungAs w' g i r v := by
  obtain ⟨h1, h2, h3, h4, h5, h6⟩ := h
  exact ⟨(hb.cell (World.block_lt_of_cell? _ _ h1)).trans h1, (hb.cell (World.block_lt_of_cell? _ _ h2)).trans h2, (hb.cell (World.block_lt_of_cell? _ _ h3)).trans h3, h4, h5, h6.below hb⟩
theorem RungAs.one {w : World} {g i : Nat} {r : Ld.Rng} {v : Value} (h : RungAs w g i r v) : v.oneCell' = true := by
  obtain ⟨_, _, _, _, _, h6⟩ := h
  cases hc : r.cond with
  | none => rw [hc] at h6; obtain rfl : v = .nilIface := h6; rfl
  | some x =>
    rw [hc] at h6
    obtain ⟨t, y, rfl⟩ := IsEx.iface x v h6.1
    rfl
theorem rg_len (l : List (Ld.Rng × Value)) : (l.flatMap rgCells).length = l.length * 3 := by
  induction l with
  | nil => rfl
  | cons a r ih => rw [List.flatMap_cons, List.length_append, ih, List.length_cons]; simp [rgCells]; omega
theorem rungs_cells {W : World} {g : Nat} {zs : List (Ld.Rng × Value)} (h : ∀ (i : Nat) z, zs[i]? = some z → RungAs W g i z.1 z.2) : ∀ j u, (zs.flatMap rgCells)[j]? = some u → W.cell? ((⟨g, 0, none⟩ : Addr).add j) = some u := by
  intro j u hu
  have e : (⟨g, 0, none⟩ : Addr).add j = ⟨g, j, none⟩ := by unfold Addr.add; split <;> simp_all
  rw [e]
  have hj : j < zs.length * 3 := by rw [← rg_len]; exact (List.getElem?_eq_some_iff.1 hu).1
  have hi : j / 3 < zs.length := by omega
  have hn := List.getElem?_eq_getElem hi
  obtain ⟨h1, h2, h3, _⟩ := h (j / 3) _ hn
  have hf := flat3 rgCells (fun _ => rfl) zs (j / 3) _ hn (j % 3) (by omega)
  rw [show j / 3 * 3 + j % 3 = j by omega, hu] at hf
  have hm : j % 3 = 0 ∨ j % 3 = 1 ∨ j % 3 = 2 := by omega
  rcases hm with hm | hm | hm
  · rw [hm] at hf
    rw [show j = j / 3 * 3 by omega, h1]; exact hf.symm
  · rw [hm] at hf
    rw [show j = j / 3 * 3 + 1 by omega, h2]; exact hf.symm
  · rw [hm] at hf
    rw [show j = j / 3 * 3 + 2 by omega, h3]; exact hf.symm
theorem eqNilR_none (w : World) (n c : Nat) : (binOp BinOp.eql 28 (.slice none n c) (.slice none 0 0)).run Tryz.prog w = .ok (.bool true) w := by kernel_rfl
theorem eqNilR_some (w : World) (a : Addr) (n c : Nat) : (binOp BinOp.eql 28 (.slice (some a) n c) (.slice none 0 0)).run Tryz.prog w = .ok (.bool false) w := by kernel_rfl
set_option maxHeartbeats 2000000 in
set_option maxRecDepth 100000 in
theorem cloneR_any (ns : List Ld.Rng) (nv : Value) (w : World) (h : RungsAt w nv ns) :
    Calls Tryz.prog 112 #[nv] w fun e w' => ∃ v, e = .returned v ∧ RungsAt w' v ns ∧ Below w.heap.size w w' := by
  obtain ⟨i0, hi0, hz0, hz1, hz2⟩ := info_parts Tryz.infoRung
  have q0 := fun n c => eqNilR_none w n c
  have q1 := fun a n c => eqNilR_some w a n c
  have HBA : Hid (Below w.heap.size w (w.alloc (.cells #[] 132))) := (Below.refl _ w).alloc (Nat.le_refl _) _
  rcases h with ⟨rfl, a, cap, rfl⟩ | ⟨g, cap, rfl, hcap, hlen, hat⟩
  · cases a with
    | none =>
      go_enter Tryz.func112, Tryz.ntmps112
      go_wp2_with fail
      go_ret
      exact ⟨_, rfl, .inl ⟨rfl, _, _, rfl⟩, Below.refl _ _⟩
    | some ad =>
      go_enter Tryz.func112, Tryz.ntmps112
      go_wp2_with (at_builtin; refine Lib.wpList_append_run _ rfl (.tmp 5) (.tmp 6) 28 28 rfl _ _ rfl rfl _ _ (append_zero w.heap.size _ _ _ i0 3 Tryz.underlying28 hi0 _ 0 [] (own_zero w w.heap.size 132 3 (Nat.le_refl _)) _ _) ?_)
      go_ret
      exact ⟨_, rfl, .inl ⟨rfl, _, _, rfl⟩, HBA.out⟩
  · by_cases hne : ns.length = 0
    · obtain rfl := List.length_eq_zero_iff.1 hne
      go_enter Tryz.func112, Tryz.ntmps112
      go_wp2_with (at_builtin; refine Lib.wpList_append_run _ rfl (.tmp 5) (.tmp 6) 28 28 rfl _ _ rfl rfl _ _ (append_zero w.heap.size _ _ _ i0 3 Tryz.underlying28 hi0 _ 0 [] (own_zero w w.heap.size 132 3 (Nat.le_refl _)) _ _) ?_)
      go_ret
      exact ⟨_, rfl, .inl ⟨rfl, _, _, rfl⟩, HBA.out⟩
    · obtain ⟨vs, hvl, hvs⟩ := choose_list (n := ns.length) (P := fun i v => ∀ y, ns[i]? = some y → RungAs w g i y v) (fun i hi => by
        obtain ⟨v, hv⟩ := hat i _ (List.getElem?_eq_getElem hi)
        exact ⟨v, fun y hy => by rw [List.getElem?_eq_getElem hi] at hy; cases hy; exact hv⟩)
      obtain ⟨zs, hzs⟩ : ∃ zs, zs = ns.zip vs := ⟨_, rfl⟩
      have hzl : zs.length = ns.length := by rw [hzs, List.length_zip]; omega
      have hz : ∀ (i : Nat) z, zs[i]? = some z → ns[i]? = some z.1 ∧ RungAs w g i z.1 z.2 := fun i z hz => by
        rw [hzs] at hz
        obtain ⟨h1, h2⟩ := List.getElem?_zip_eq_some.1 hz
        exact ⟨h1, hvs i _ h2 _ h1⟩
      have hlc : (zs.flatMap rgCells).length = ns.length * 3 := by rw [rg_len, hzl]
      have HOWN : Hid ((w.alloc (.cells #[] 132)).ownsRow w.heap.size 132 3 (.slice (some ⟨w.heap.size, 0, none⟩) 0 0) 0 []) := own_zero w w.heap.size 132 3 (Nat.le_refl _)
      have HNEW : Hid (∀ j u, (zs.flatMap rgCells)[j]? = some u → (w.alloc (.cells #[] 132)).cell? ((⟨g, 0, none⟩ : Addr).add j) = some u) := rungs_cells (fun i z hi => ((hz i z hi).2).below HBA.out)
      have HONE : Hid (∀ u ∈ zs.flatMap rgCells, u.oneCell' = true) := by
        intro u hu
        obtain ⟨z, hzm, hn⟩ := List.mem_flatMap.1 hu
        obtain ⟨i, hi⟩ := List.getElem?_of_mem hzm
        have hone := ((hz i z hi).2).one
        simp only [rgCells, List.mem_cons, List.not_mem_nil, or_false] at hn
        rcases hn with rfl | rfl | rfl
        · rfl
        · rfl
        · exact hone
      have HAT := hide hz
      have HZL := hide hzl
      obtain ⟨n, hnn⟩ : ∃ n, n = ns.length := ⟨_, rfl⟩
      have HN := hide hnn
      have HLC := hide hlc
      rw [← hnn] at hlen hcap hne HLC ⊢
      clear hat hnn hlc hvs hz hzs hzl
      have hn0 : 0 < n := by omega
      go_enter Tryz.func112, Tryz.ntmps112
      go_wp2_with (at_builtin; refine wpList_append_lies _ rfl (.tmp 5) (.tmp 6) 28 rfl w.heap.size 132 i0 _ 3 40 Tryz.underlying28 hi0 hz0 hz1 hz2 rfl (by decide) (.slice (some ⟨w.heap.size, 0, none⟩) 0 0) 0 [] rfl HOWN.out ⟨g, 0, none⟩ n cap (zs.flatMap rgCells) rfl HLC.out HNEW.out HONE.out hn0 (by unfold maxLen; omega) (by omega) (by simp) (w.heap.size + 1) (by simp) ?_; intro g2 cap2 wC hown hgrow hat2 hltg)
      go_ret
      refine ⟨_, rfl, ?_, HBA.out.grown hgrow (by simp) (fun j e => by simp only [Value.ownBlock, Option.some.injEq] at e; omega)⟩
      rcases hown.2 with ⟨hx, _⟩ | ⟨g3, cap3, cur, hx, _, hcur, hc3, _, _, htk⟩
      · cases hx
      · simp only [Value.slice.injEq, Option.some.injEq, Addr.mk.injEq] at hx
        obtain ⟨⟨rfl, _⟩, _, rfl⟩ := hx
        refine .inr ⟨g2, cap2, by rw [← HN.out]; rfl, by rw [← HN.out]; omega, by rw [← HN.out]; exact hlen, fun i y hy => ?_⟩
        have hil : i < zs.length := by rw [HZL.out]; exact (List.getElem?_eq_some_iff.1 hy).1
        have hzi := List.getElem?_eq_getElem hil
        obtain ⟨k1, k2⟩ := HAT.out i _ hzi
        rw [hy] at k1
        have ky : y = zs[i].1 := Option.some.inj k1
        have hc := fun j hj => flat3 rgCells (fun _ => rfl) zs i _ hzi j hj
        have hbl := HBA.out.grown hgrow (by simp) (fun j e => by simp only [Value.ownBlock, Option.some.injEq] at e; omega)
        obtain ⟨_, _, _, k4, k5, k6⟩ := k2
        rw [ky]
        exact ⟨zs[i].2, row_cell hcur htk (hc 0 (by omega)), row_cell hcur htk (hc 1 (by omega)), row_cell hcur htk (hc 2 (by omega)), k4, k5, k6.below hbl⟩
theorem two_cells {W : World} {b : Nat} {x y : Value} {t : TypeId} (h : W.heap[b]? = some (.cells #[x, y] t (0, 0))) : W.cell? ⟨b, 0, none⟩ = some x ∧ W.cell? ⟨b, 1, none⟩ = some y ∧ W.frozen? ⟨b, 0, none⟩ = false ∧ W.frozen? ⟨b, 1, none⟩ = false :=
  ⟨by rw [Lib.cell_of_heap h]; rfl, by rw [Lib.cell_of_heap h]; rfl, Lib.frozen_of_heap h 0, Lib.frozen_of_heap h 1⟩
theorem slice_of {w : World} {v : Value} {ns : List Ld.Nme} (h : NamesAt w v ns) : ∃ a n c, v = .slice a n c := by obtain ⟨a, c, h, _⟩ := h.slice; exact ⟨a, _, c, h⟩
theorem slice_ofR {w : World} {v : Value} {ns : List Ld.Rng} (h : RungsAt w v ns) : ∃ a n c, v = .slice a n c := by obtain ⟨a, c, h, _⟩ := h.slice; exact ⟨a, _, c, h⟩
set_option maxHeartbeats 4000000 in
set_option maxRecDepth 100000 in
theorem copied_any (p : Ld.Prg) (v : Value) (w : World) (h : IsPrg w p v) :
    Calls Tryz.prog 76 #[v] w fun e w' => ∃ u, e = .returned u ∧ IsPrg w' p u ∧ Below w.heap.size w w' := by
  obtain ⟨nv, rv, rfl, hn, hr⟩ := h
  obtain ⟨wA, hwA⟩ : ∃ wA, wA = (w.alloc (.cells #[nv, rv] 30)).alloc (.cells #[.slice none 0 0, .slice none 0 0] 30) := ⟨_, rfl⟩
  have hbA : Below w.heap.size w wA := by rw [hwA]; exact ((Below.refl _ w).alloc (Nat.le_refl _) _).alloc (by simp) _
  have hzA : wA.heap.size = w.heap.size + 1 + 1 := by rw [hwA]; simp
  have a0 : wA.heap[w.heap.size]? = some (.cells #[nv, rv] 30 (0, 0)) := by rw [hwA]; exact (Below.heap_alloc _ _ _ (by simp)).trans (heap_alloc_new w _)
  have a1 : wA.heap[w.heap.size + 1]? = some (.cells #[.slice none 0 0, .slice none 0 0] 30 (0, 0)) := by
    rw [hwA]
    have := heap_alloc_new (w.alloc (.cells #[nv, rv] 30)) (.cells #[.slice none 0 0, .slice none 0 0] 30)
    rw [World.size_alloc] at this
    exact this
  have HX : Hid (∀ W, Below wA.drew.heap.size wA.drew W → (W.cell? ⟨w.heap.size, 0, none⟩ = some nv ∧ W.cell? ⟨w.heap.size, 1, none⟩ = some rv) ∧ W.heap[w.heap.size + 1]? = some (.cells #[.slice none 0 0, .slice none 0 0] 30 (0, 0)) ∧ Below w.heap.size w W) := by
    intro W hW
    have e0 := (hW.block w.heap.size (by show _ < wA.heap.size; omega)).trans a0
    exact ⟨⟨by rw [Lib.cell_of_heap e0]; rfl, by rw [Lib.cell_of_heap e0]; rfl⟩, (hW.block (w.heap.size + 1) (by show _ < wA.heap.size; omega)).trans a1, hbA.trans ⟨hW.os, hW.tape, hW.output, hW.size, fun k hk => hW.block k (by show _ < wA.heap.size; omega)⟩⟩
  have HCN : Hid (∀ W, Below wA.drew.heap.size wA.drew W → Calls Tryz.prog 111 #[nv] W fun e w' => ∃ v, e = .returned v ∧ NamesAt w' v p.names ∧ Below W.heap.size W w') := fun W hW => cloneN_any p.names nv W (hn.below (HX.out W hW).2.2)
  have HCR : Hid (∀ W, Below wA.drew.heap.size wA.drew W → Calls Tryz.prog 112 #[rv] W fun e w' => ∃ v, e = .returned v ∧ RungsAt w' v p.rungs ∧ Below W.heap.size W w') := fun W hW => cloneR_any p.rungs rv W (hr.below (HX.out W hW).2.2)
  have HFIN : Hid (∀ W v1 v2, Below wA.drew.heap.size wA.drew W → NamesAt W v1 p.names → RungsAt W v2 p.rungs → ∃ u, Ending.returned (.agg #[v1, v2]) = .returned u ∧ IsPrg ((W.setCell ⟨w.heap.size + 1, 0, none⟩ v1).setCell ⟨w.heap.size + 1, 1, none⟩ v2) p u ∧ Below w.heap.size w ((W.setCell ⟨w.heap.size + 1, 0, none⟩ v1).setCell ⟨w.heap.size + 1, 1, none⟩ v2)) := by
    intro W v1 v2 hW h1 h2
    obtain ⟨_, hz, hb⟩ := HX.out W hW
    refine ⟨_, rfl, ?_, (hb.setCell (p := ⟨w.heap.size + 1, 0, none⟩) (by show w.heap.size ≤ w.heap.size + 1; omega) _).setCell (p := ⟨w.heap.size + 1, 1, none⟩) (by show w.heap.size ≤ w.heap.size + 1; omega) _⟩
    have hP : IsPrg W p (.agg #[v1, v2]) := ⟨v1, v2, rfl, h1, h2⟩
    exact hP.off (w.heap.size + 1) (slices_two hz ⟨_, _, _, rfl⟩ ⟨_, _, _, rfl⟩) (fun k hk => (Below.heap_setCell _ _ _ _ (fun e => hk e)).trans (Below.heap_setCell _ _ _ _ (fun e => hk e)))
  have HR0 : Hid (Below wA.drew.heap.size wA.drew wA.drew) := Below.refl _ _
  obtain ⟨⟨c0, c1⟩, _, _⟩ := HX.out _ HR0.out
  obtain ⟨na, nn, nc, rfl⟩ := slice_of hn
  obtain ⟨ra, rn, rc, rfl⟩ := slice_ofR hr
  clear hn hr a0 a1 hbA
  go_enter Tryz.func76, Tryz.ntmps76
  go_wp2_with fail
  rw [← hwA]
  clear hwA
  go_region_with (first
    | (go_at_call 111; first
        | (refine (HCN.out _ HR0.out).mono ?_; rintro e wN ⟨vN, rfl, hnN, hbN⟩; obtain ⟨xa, xn, xc, rfl⟩ := slice_of hnN; have HNN := hide hnN; have HBN := hide hbN; obtain ⟨⟨d0, d1⟩, _, _⟩ := HX.out _ hbN; clear hnN hbN)
        | (refine (HCN.out _ HBR.out).mono ?_; rintro e wN ⟨vN, rfl, hnN, hbN⟩; obtain ⟨xa, xn, xc, rfl⟩ := slice_of hnN; have HNN := hide hnN; have HBN := hide (HBR.out.trans (hbN.mono HBR.out.size)); have HRR := hide (HRN.out.below hbN); obtain ⟨_, dz, _⟩ := HX.out _ HBN.out; obtain ⟨z0, z1, z2, z3⟩ := two_cells dz; clear hnN hbN dz))
    | (go_at_call 112; first
        | (refine (HCR.out _ HR0.out).mono ?_; rintro e wR ⟨vR, rfl, hrN, hbR⟩; obtain ⟨ya, yn, yc, rfl⟩ := slice_ofR hrN; have HRN := hide hrN; have HBR := hide hbR; obtain ⟨⟨d0, d1⟩, _, _⟩ := HX.out _ hbR; clear hrN hbR)
        | (refine (HCR.out _ HBN.out).mono ?_; rintro e wR ⟨vR, rfl, hrN, hbR⟩; obtain ⟨ya, yn, yc, rfl⟩ := slice_ofR hrN; have HRN := hide hrN; have HBR := hide (HBN.out.trans (hbR.mono HBN.out.size)); have HNR := hide (HNN.out.below hbR); obtain ⟨_, dz, _⟩ := HX.out _ HBR.out; obtain ⟨z0, z1, z2, z3⟩ := two_cells dz; clear hrN hbR dz)))
  all_goals go_wp2_with fail
  all_goals
    refine bodyPost_ret_by (v := .agg #[.slice xa xn xc, .slice ya yn yc]) ?_ rfl ?_
    · simp [results, Tryz.results76, go_sem, z0, z1]
    · first
        | exact HFIN.out _ _ _ HBR.out HNR.out HRN.out
        | exact HFIN.out _ _ _ HBN.out HNN.out HRR.out
end Go.Proofs.YtdmnikbhkpcdpaaGreatDoor
