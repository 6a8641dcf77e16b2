/-
  The walk of package lasso's pushed, at formulas of parts.
-/
import Derived.Test.YtmdblokmplbpmaaDoorLsPush
namespace Go.Proofs.YtmdblokmplbpmaaDoor
namespace Ls
open Go.RowKit
/-- all that a formula lies in is there -/
theorem IsF.bound {O : Nat → Prop} {w : World} : ∀ (x : Fm) (v : Value), IsF O w x v → IsF (fun b => O b ∧ b < w.heap.size) w x v := by
  intro x
  induction x using Fm.ind with
  | h z k nm l ih =>
    intro v h
    cases z with
    | true => exact isF_nil.2 (isF_nil.1 h)
    | false =>
      obtain ⟨h1, h2, h3, b, a, c, h4, h5, h6, h7, h8, h9⟩ := isF_node.1 h
      refine isF_node.2 ⟨h1, h2, h3, b, a, c, ⟨h4, World.block_lt_of_cell? _ _ h6⟩, h5, h6, h7, h8, fun i x hx => ?_⟩
      obtain ⟨g, o, u, e1, e2, e3, e4, e5⟩ := h9 i x hx
      exact ⟨g, o, u, ⟨e1, World.block_lt_of_cell? _ _ e4⟩, e2, e3, e4, ih x (List.mem_of_getElem? hx) u e5⟩
/-- what stands while parts are pushed: the new node, whose third cell is an own row of those pushed so far -/
structure PN (w wr : World) (k : Int) (v : Value) (us : List Value) (xs : List Fm) : Prop where
  bel : Below w.heap.size w wr
  own : wr.ownsRow (w.heap.size + 1) 40 1 v us.length us
  len : us.length = xs.length
  node : RowIs wr w.heap.size 74 [.int .i64 k, .string ⟨#[]⟩, v]
  each : ∀ (i : Nat) u x, us[i]? = some u → xs[i]? = some x → IsF (fun b => (w.heap.size < b ∧ b < wr.heap.size) ∧ some b ≠ v.ownBlock) wr x u
/-- one more is pushed and appended, and the node told of it -/
theorem PN.grow {w wr W wC : World} {k : Int} {v p : Value} {us : List Value} {xs : List Fm} {x : Fm} {g cap : Nat} (h : PN w wr k v us xs) (hb : Below wr.heap.size wr W) (hp : IsF (fun b => wr.heap.size ≤ b) W x p) (ho : wC.ownsRow (w.heap.size + 1) 40 1 (.slice (some ⟨g, 0, none⟩) (us.length + 1) cap) (us.length + 1) (us ++ [p])) (hg : (W.alloc (.cells #[p] 40)).grownBy wC v.ownBlock) (hat : v.ownBlock = some g ∨ g = W.heap.size + 1) :
    PN w (wC.setCell ⟨w.heap.size, 2, none⟩ (.slice (some ⟨g, 0, none⟩) (us.length + 1) cap)) k (.slice (some ⟨g, 0, none⟩) (us.length + 1) cap) (us ++ [p]) (xs ++ [x]) := by
  obtain ⟨h1, h2, h3, h4, h5⟩ := h
  have hwl := h4.lt
  have hsz : (W.alloc (.cells #[p] 40)).heap.size = W.heap.size + 1 := by simp
  have hgs := hg.size
  rw [hsz] at hgs
  have hbs := hb.size
  have hvb : v.ownBlock = none ∨ ∃ g, v.ownBlock = some g ∧ w.heap.size + 1 ≤ g := ownBlock_new h2
  have hne : some w.heap.size ≠ v.ownBlock := by
    rcases hvb with h | ⟨g', h, hl⟩
    · rw [h]; intro e; cases e
    · rw [h]; intro e; cases e; omega
  have hgw : w.heap.size + 1 ≤ g := by
    rcases ho.2 with ⟨h, _⟩ | ⟨g', cap', cur, h, hl, _⟩
    · cases h
    · simp only [Value.slice.injEq, Option.some.injEq, Addr.mk.injEq, and_true] at h
      omega
  have hnode : RowIs wC w.heap.size 74 [.int .i64 k, .string ⟨#[]⟩, v] := (hg.block _ (by omega) hne).trans (((h4.below hb).alloc _))
  have hst : ∀ b i u, (w.heap.size < b ∧ b < W.heap.size) ∧ some b ≠ v.ownBlock → W.cell? ⟨b, i, none⟩ = some u → (wC.setCell ⟨w.heap.size, 2, none⟩ (.slice (some ⟨g, 0, none⟩) (us.length + 1) cap)).cell? ⟨b, i, none⟩ = some u := fun b i u hb' hc =>
    cell_set_block _ _ _ _ _ _ _ (by omega) (hg.cell (cell_alloc_keep _ _ _ _ hc) hb'.2)
  have hok : ∀ b, (w.heap.size < b ∧ b < W.heap.size) ∧ some b ≠ v.ownBlock → (w.heap.size < b ∧ b < (wC.setCell ⟨w.heap.size, 2, none⟩ (.slice (some ⟨g, 0, none⟩) (us.length + 1) cap)).heap.size) ∧ some b ≠ (Value.slice (some ⟨g, 0, none⟩) (us.length + 1) cap).ownBlock := fun b hb' => by
    refine ⟨⟨hb'.1.1, by rw [World.size_setCell]; omega⟩, ?_⟩
    show some b ≠ some g
    intro e
    cases e
    rcases hat with h | h
    · exact hb'.2 h.symm
    · omega
  refine ⟨?_, ?_, by rw [List.length_append, List.length_append, h3]; rfl, ?_, fun i u y hu hy => ?_⟩
  · exact (below_grown (h1.trans ((then_ hb (newB _ _)).mono h1.size)) hg (hvb.imp id fun ⟨g', h, hl⟩ => ⟨g', h, by omega⟩)).setCell (Nat.le_refl _) _
  · rw [List.length_append]
    refine ⟨ho.1, ?_⟩
    rcases ho.2 with h | ⟨g', cap', cur, e1, e2, e3, e4⟩
    · exact .inl h
    · refine .inr ⟨g', cap', cur, e1, e2, ?_, e4⟩
      rw [Below.heap_setCell _ _ _ _ (fun e => by have e2' : g' = w.heap.size := e; omega)]
      exact e3
  · exact hnode.set 2 _
  · by_cases hi : i < us.length
    · rw [List.getElem?_append_left hi] at hu
      rw [List.getElem?_append_left (by omega)] at hy
      have k1 := h5 i u y hu hy
      have k2 : IsF (fun b => (w.heap.size < b ∧ b < W.heap.size) ∧ some b ≠ v.ownBlock) W y u := IsF.stay (fun b i u _ hc => kept hb hc) (fun b hb' => ⟨⟨hb'.1.1, by omega⟩, hb'.2⟩) y u k1
      exact IsF.stay hst hok y u k2
    · rw [List.getElem?_append_right (by omega)] at hu hy
      have hz : i - us.length = 0 := by
        have := (List.getElem?_eq_some_iff.1 hu).1
        simp at this; omega
      rw [hz] at hu
      rw [← h3, hz] at hy
      cases hu; cases hy
      refine IsF.stay hst hok x p ((IsF.bound x p hp).weak fun b hb' => ⟨⟨by omega, hb'.2⟩, ?_⟩)
      rcases h2.2 with ⟨h, _⟩ | ⟨g', cap', cur, h, _, hcur, _⟩
      · rw [h]; intro e; cases e
      · have hl : g' < wr.heap.size := (Array.getElem?_eq_some_iff.1 hcur).1
        rw [h]
        show some b ≠ some g'
        intro e
        cases e
        omega
set_option maxHeartbeats 8000000 in
set_option maxRecDepth 100000 in
theorem pushed_node (k : Int) (nm : List UInt8) (l : List Fm) (hk : k = 4 ∨ k = 5 ∨ k = 6 ∨ k = 7 ∨ k = 8) (hl : ∀ x, x ∈ l → PushOK x) : PushOK ⟨false, k, nm, l⟩ := by
  intro hwf no w v hF
  obtain ⟨i0, hi0, hz0, hz1, hz2⟩ := info_parts Tryd.infoPF
  rw [push_node _ _ _ _ _ hk]
  obtain ⟨⟨_, hk1, hk10, hlp⟩, hwl⟩ := wf_parts hwf
  have hm2 : l.length ≤ 2 := by rw [hlp]; exact partsOf_le k
  obtain ⟨-, -, -, b, sa, sc, -, rfl, c0, c1, c2, hrow⟩ := isF_node.1 hF
  have HIH := hide hl
  have HWL := hide hwl
  have HROW := hide hrow
  obtain ⟨m, hm⟩ : ∃ m, m = l.length := ⟨_, rfl⟩
  have HM := hide hm
  rw [← hm] at c2 hm2
  obtain ⟨k2, hk2⟩ : ∃ k2, k2 = if no then other k else k := ⟨_, rfl⟩
  have k264 : I64 k2 := by rw [hk2]; unfold I64; rcases hk with rfl | rfl | rfl | rfl | rfl <;> cases no <;> decide
  rw [← hk2]
  obtain ⟨wA, hwA⟩ : ∃ wA, wA = w.alloc (.cells #[.int .i64 k2, .string ⟨#[]⟩, .slice none 0 0] 74) := ⟨_, rfl⟩
  have HN0 : Hid (PN w wA k2 (.slice none 0 0) [] []) := by
    rw [hwA]
    exact ⟨newB _ _, ⟨by simp, .inl ⟨rfl, rfl⟩⟩, rfl, RowIs.new w 74 [.int .i64 k2, .string ⟨#[]⟩, .slice none 0 0], fun i u x hu => by simp at hu⟩
  have HWA := hide hwA
  have HK2 := hide k264
  have HO := hide (fun W => otherSide_any k hk W)
  have hbl := World.block_lt_of_cell? _ _ c2
  have HC2 := hide c2
  have HKK := hide hk2
  clear hF hl hwl hrow hm hwA k264 hlp hwf c1
  have hn3 : ¬ k = 3 := by omega
  have hn9 : ¬ k = 9 := by omega
  have hn10 : ¬ k = 10 := by omega
  have hn1 : ¬ k = 1 := by omega
  have hn2 : ¬ k = 2 := by omega
  clear hk hk1 hk10
  cases no with
  | false =>
    obtain rfl : k2 = k := hk2
    clear HO HKK
    go_enter Tryd.func28, Tryd.ntmps28
    go_wp2_with fail
    rw [← HWA.out]
    clear hn3 hn9 hn10 hn1 hn2 c0 c2 hbl
    go_loopw [90] (fun iv wr => ∃ (j : Nat) (us : List Value) (v : Value), j ≤ m ∧ iv = .int .i64 (j : Int) ∧ Hid (us.length = j) ∧ Hid (PN w wr k2 v us ((l.take j).map fun x => push x false))) (fun iv _ => m - (intOf iv).toNat)
    case atStart => exact ⟨0, [], .slice none 0 0, Nat.zero_le _, rfl, hide rfl, HN0.out⟩
    case round =>
      obtain ⟨j, us, v, hj, rfl, HUL, HP⟩ := hrel
      have HBW : Hid (Below w.heap.size w wr) := HP.out.bel
      by_cases hlt : j < m
      · have hjl : j < l.length := by rw [← HM.out]; exact hlt
        obtain ⟨g, o, u, -, hsa, -, hc, hxu⟩ := HROW.out j l[j] (List.getElem?_eq_getElem hjl)
        have hc' := kept HBW.out hc
        have hji : (j : Int) < (m : Int) := by omega
        have HCALL := hide (HIH.out l[j] (List.getElem_mem hjl) (HWL.out _ (List.getElem_mem hjl)) false wr.drew u ((hxu.below HBW.out).below (drewB wr)))
        have HTK : Hid ((l.take (j + 1)).map (fun x => push x false) = (l.take j).map (fun x => push x false) ++ [push l[j] false]) := by show _ = _; rw [List.take_succ_eq_append_getElem hjl, List.map_append]; rfl
        subst hsa
        obtain ⟨pu, rfl⟩ := hxu.ptr
        generalize push l[j] false = xp at *
        clear hc hxu hjl
        obtain ⟨va, vc, hv⟩ := own_slice HP.out.own
        rw [HUL.out] at hv
        subst hv
        have hn2 := HP.out.node.cell 2 _ rfl
        have HD := hide (drewB wr)
        have HOWN : Hid (∀ (W : World) (o : Obj), Below wr.heap.size wr W → (W.alloc o).ownsRow (w.heap.size + 1) 40 1 (.slice va j vc) j us) := fun W o hW => by
          have h := own_below (own_below HP.out.own hW) (newB W o)
          rw [HUL.out] at h
          exact h
        have HONE : Hid (∀ (p : Option Addr), ∀ u ∈ [Value.pointer p], u.oneCell' = true) := fun p u hu => by
          obtain rfl := List.mem_singleton.1 hu
          rfl
        have HFIN : Hid (∀ (W : World) (p : Option Addr) (g cap : Nat) (wE : World), Below wr.heap.size wr W → IsF (fun b => wr.heap.size ≤ b) W xp (.pointer p) → wE.ownsRow (w.heap.size + 1) 40 1 (.slice (some ⟨g, 0, none⟩) (j + 1) cap) (j + 1) (us ++ [.pointer p]) → (W.alloc (.cells #[.pointer p] 40)).grownBy wE (Value.slice va j vc).ownBlock → ((Value.slice va j vc).ownBlock = some g ∨ g = W.heap.size + 1) → PN w (wE.setCell ⟨w.heap.size, 2, none⟩ (.slice (some ⟨g, 0, none⟩) (j + 1) cap)) k2 (.slice (some ⟨g, 0, none⟩) (j + 1) cap) (us ++ [.pointer p]) ((l.take (j + 1)).map fun x => push x false) ∧ wE.cell? ⟨w.heap.size, 2, none⟩ = some (.slice va j vc) ∧ wE.frozen? ⟨w.heap.size, 2, none⟩ = false) := fun W p g cap wE hW hx ho hg hat => by
          have hul := HUL.out
          have h := PN.grow (g := g) (cap := cap) HP.out hW hx (by rw [hul]; exact ho) hg hat
          rw [hul, ← HTK.out] at h
          have hne : some w.heap.size ≠ (Value.slice va j vc).ownBlock := by
            rcases ownBlock_new HP.out.own with h | ⟨g', h, hl⟩
            · rw [h]; intro e; cases e
            · rw [h]; intro e; cases e; omega
          have hnd : RowIs wE w.heap.size 74 [.int .i64 k2, .string ⟨#[]⟩, .slice va j vc] := (hg.block _ (by have h1 := HP.out.node.lt; have h2 := hW.size; simp; omega) hne).trans ((HP.out.node.below hW).alloc _)
          exact ⟨h, hnd.cell 2 _ rfl, hnd.frozen 2⟩
        have HKE : Hid (∀ W, Below wr.heap.size wr W → W.cell? ⟨w.heap.size, 2, none⟩ = some (.slice va j vc)) := fun W hW => kept hW hn2
        have HLE : Hid (∀ (W : World) (o : Obj), Below wr.heap.size wr W → w.heap.size + 1 ≤ (W.alloc o).heap.size) := fun W o hW => by have h1 := HP.out.node.lt; have h2 := hW.size; simp; omega
        go_wp2_with fail
        go_region_law (first
          | (refine step_append_lies _ rfl (.tmp 98) (.tmp 102) 72 rfl (w.heap.size + 1) 40 i0 _ 1 8 Tryd.underlying72 hi0 hz0 hz1 hz2 rfl (by decide) (.slice va j vc) j us rfl (HOWN.out w6 _ HB6.out) ⟨w6.heap.size, 0, none⟩ 1 1 [.pointer (some ⟨b6, 0, none⟩)] rfl rfl (World.news_of_block (heap_alloc_new w6 _)) (HONE.out _) (by decide) (by unfold maxLen; omega) (by omega) (HLE.out w6 _ HB6.out) (w6.heap.size + 1) (by simp) ?_; intro g7 cap7 wD hown hgrow hat hltg; obtain ⟨hpn, wd0, wdf⟩ := HFIN.out w6 _ g7 cap7 wD HB6.out HF6.out hown hgrow hat; have HP7 := hide hpn; clear hpn hown hgrow hat)
          | (go_simp; go_at_call 28; (with_reducible refine HCALL.out.mono ?_); rintro e w6 ⟨b6, rfl, hf6, hb6⟩; have HF6 : Hid (IsF (fun b => wr.heap.size ≤ b) w6 xp (.pointer (some ⟨b6, 0, none⟩))) := hf6; have HB6 : Hid (Below wr.heap.size wr w6) := then_ HD.out hb6; have y2 := HKE.out w6 HB6.out; have yl : w.heap.size < w6.heap.size := World.block_lt_of_cell? _ _ y2; clear hf6 hb6))
        all_goals
          go_wp2_with fail
          go_roundw
          case rel => exact ⟨j + 1, us ++ [Value.pointer (some ⟨b6, 0, none⟩)], Value.slice (some ⟨g7, 0, none⟩) (j + 1) cap7, by omega, by go_num, hide (by rw [List.length_append, HUL.out]; rfl), HP7.out⟩
          case measure => simp [intOf]; omega
      · have hjm : j = m := by omega
        have HRES : Hid (MadeF (fun g => w.heap.size ≤ g) w (nd k2 (l.map fun x => push x false)) (.returned (.pointer (some ⟨w.heap.size, 0, none⟩))) wr) := by
          have hp := HP.out
          rw [List.take_of_length_le (by rw [← HM.out]; omega)] at hp
          refine ⟨_, rfl, ?_, hp.bel⟩
          obtain ⟨va, vc, hv⟩ := own_slice hp.own
          subst hv
          have hul : us.length = (l.map fun x => push x false).length := hp.len
          have hlm : (l.map fun x => push x false).length ≤ maxLen := by rw [List.length_map, ← HM.out]; unfold maxLen; omega
          unfold nd
          refine isF_node.2 ⟨HK2.out, by simp, hlm, w.heap.size, va, vc, Nat.le_refl _, rfl, hp.node.cell 0 _ rfl, hp.node.cell 1 _ rfl, by rw [← hul]; exact hp.node.cell 2 _ rfl, fun i x hx => ?_⟩
          have hil := (List.getElem?_eq_some_iff.1 hx).1
          obtain ⟨u, hu⟩ : ∃ u, us[i]? = some u := ⟨_, List.getElem?_eq_getElem (by rw [hul]; exact hil)⟩
          rcases hp.own.2 with ⟨_, h0⟩ | ⟨gr, cap, cur, e1, e2, e3, e4, _, _, e5⟩
          · rw [hul] at h0; omega
          · simp only [Value.slice.injEq] at e1
            obtain ⟨rfl, _, rfl⟩ := e1
            exact ⟨gr, 0, u, by omega, rfl, by rw [← hul]; exact e4, by rw [Nat.zero_add]; exact row_cell e3 (by simpa using e5) hu, (hp.each i u x hu hx).weak fun b hb => by omega⟩
        subst hjm
        go_wp2_with fail
        go_ret
        exact HRES.out
  | true =>
    have HO2 : Hid (∀ W, Calls Tryd.prog 49 #[.int .i64 k] W fun e w' => e = .returned (.int .i64 k2) ∧ w' = W) := by
      have e : k2 = other k := hk2
      rw [e]
      exact HO.out
    clear HO HKK hk2
    go_enter Tryd.func28, Tryd.ntmps28
    go_wp2_with (go_at_call 49; refine (HO2.out _).mono ?_; rintro e w' ⟨rfl, rfl⟩)
    rw [← HWA.out]
    clear hn3 hn9 hn10 hn1 hn2 c0 c2 hbl
    go_loopw [90] (fun iv wr => ∃ (j : Nat) (us : List Value) (v : Value), j ≤ m ∧ iv = .int .i64 (j : Int) ∧ Hid (us.length = j) ∧ Hid (PN w wr k2 v us ((l.take j).map fun x => push x true))) (fun iv _ => m - (intOf iv).toNat)
    case atStart => exact ⟨0, [], .slice none 0 0, Nat.zero_le _, rfl, hide rfl, HN0.out⟩
    case round =>
      obtain ⟨j, us, v, hj, rfl, HUL, HP⟩ := hrel
      have HBW : Hid (Below w.heap.size w wr) := HP.out.bel
      by_cases hlt : j < m
      · have hjl : j < l.length := by rw [← HM.out]; exact hlt
        obtain ⟨g, o, u, -, hsa, -, hc, hxu⟩ := HROW.out j l[j] (List.getElem?_eq_getElem hjl)
        have hc' := kept HBW.out hc
        have hji : (j : Int) < (m : Int) := by omega
        have HCALL := hide (HIH.out l[j] (List.getElem_mem hjl) (HWL.out _ (List.getElem_mem hjl)) true wr.drew u ((hxu.below HBW.out).below (drewB wr)))
        have HTK : Hid ((l.take (j + 1)).map (fun x => push x true) = (l.take j).map (fun x => push x true) ++ [push l[j] true]) := by show _ = _; rw [List.take_succ_eq_append_getElem hjl, List.map_append]; rfl
        subst hsa
        obtain ⟨pu, rfl⟩ := hxu.ptr
        generalize push l[j] true = xp at *
        clear hc hxu hjl
        obtain ⟨va, vc, hv⟩ := own_slice HP.out.own
        rw [HUL.out] at hv
        subst hv
        have hn2 := HP.out.node.cell 2 _ rfl
        have HD := hide (drewB wr)
        have HOWN : Hid (∀ (W : World) (o : Obj), Below wr.heap.size wr W → (W.alloc o).ownsRow (w.heap.size + 1) 40 1 (.slice va j vc) j us) := fun W o hW => by
          have h := own_below (own_below HP.out.own hW) (newB W o)
          rw [HUL.out] at h
          exact h
        have HONE : Hid (∀ (p : Option Addr), ∀ u ∈ [Value.pointer p], u.oneCell' = true) := fun p u hu => by
          obtain rfl := List.mem_singleton.1 hu
          rfl
        have HFIN : Hid (∀ (W : World) (p : Option Addr) (g cap : Nat) (wE : World), Below wr.heap.size wr W → IsF (fun b => wr.heap.size ≤ b) W xp (.pointer p) → wE.ownsRow (w.heap.size + 1) 40 1 (.slice (some ⟨g, 0, none⟩) (j + 1) cap) (j + 1) (us ++ [.pointer p]) → (W.alloc (.cells #[.pointer p] 40)).grownBy wE (Value.slice va j vc).ownBlock → ((Value.slice va j vc).ownBlock = some g ∨ g = W.heap.size + 1) → PN w (wE.setCell ⟨w.heap.size, 2, none⟩ (.slice (some ⟨g, 0, none⟩) (j + 1) cap)) k2 (.slice (some ⟨g, 0, none⟩) (j + 1) cap) (us ++ [.pointer p]) ((l.take (j + 1)).map fun x => push x true) ∧ wE.cell? ⟨w.heap.size, 2, none⟩ = some (.slice va j vc) ∧ wE.frozen? ⟨w.heap.size, 2, none⟩ = false) := fun W p g cap wE hW hx ho hg hat => by
          have hul := HUL.out
          have h := PN.grow (g := g) (cap := cap) HP.out hW hx (by rw [hul]; exact ho) hg hat
          rw [hul, ← HTK.out] at h
          have hne : some w.heap.size ≠ (Value.slice va j vc).ownBlock := by
            rcases ownBlock_new HP.out.own with h | ⟨g', h, hl⟩
            · rw [h]; intro e; cases e
            · rw [h]; intro e; cases e; omega
          have hnd : RowIs wE w.heap.size 74 [.int .i64 k2, .string ⟨#[]⟩, .slice va j vc] := (hg.block _ (by have h1 := HP.out.node.lt; have h2 := hW.size; simp; omega) hne).trans ((HP.out.node.below hW).alloc _)
          exact ⟨h, hnd.cell 2 _ rfl, hnd.frozen 2⟩
        have HKE : Hid (∀ W, Below wr.heap.size wr W → W.cell? ⟨w.heap.size, 2, none⟩ = some (.slice va j vc)) := fun W hW => kept hW hn2
        have HLE : Hid (∀ (W : World) (o : Obj), Below wr.heap.size wr W → w.heap.size + 1 ≤ (W.alloc o).heap.size) := fun W o hW => by have h1 := HP.out.node.lt; have h2 := hW.size; simp; omega
        go_wp2_with fail
        go_region_law (first
          | (refine step_append_lies _ rfl (.tmp 98) (.tmp 102) 72 rfl (w.heap.size + 1) 40 i0 _ 1 8 Tryd.underlying72 hi0 hz0 hz1 hz2 rfl (by decide) (.slice va j vc) j us rfl (HOWN.out w6 _ HB6.out) ⟨w6.heap.size, 0, none⟩ 1 1 [.pointer (some ⟨b6, 0, none⟩)] rfl rfl (World.news_of_block (heap_alloc_new w6 _)) (HONE.out _) (by decide) (by unfold maxLen; omega) (by omega) (HLE.out w6 _ HB6.out) (w6.heap.size + 1) (by simp) ?_; intro g7 cap7 wD hown hgrow hat hltg; obtain ⟨hpn, wd0, wdf⟩ := HFIN.out w6 _ g7 cap7 wD HB6.out HF6.out hown hgrow hat; have HP7 := hide hpn; clear hpn hown hgrow hat)
          | (go_simp; go_at_call 28; (with_reducible refine HCALL.out.mono ?_); rintro e w6 ⟨b6, rfl, hf6, hb6⟩; have HF6 : Hid (IsF (fun b => wr.heap.size ≤ b) w6 xp (.pointer (some ⟨b6, 0, none⟩))) := hf6; have HB6 : Hid (Below wr.heap.size wr w6) := then_ HD.out hb6; have y2 := HKE.out w6 HB6.out; have yl : w.heap.size < w6.heap.size := World.block_lt_of_cell? _ _ y2; clear hf6 hb6))
        all_goals
          go_wp2_with fail
          go_roundw
          case rel => exact ⟨j + 1, us ++ [Value.pointer (some ⟨b6, 0, none⟩)], Value.slice (some ⟨g7, 0, none⟩) (j + 1) cap7, by omega, by go_num, hide (by rw [List.length_append, HUL.out]; rfl), HP7.out⟩
          case measure => simp [intOf]; omega
      · have hjm : j = m := by omega
        have HRES : Hid (MadeF (fun g => w.heap.size ≤ g) w (nd k2 (l.map fun x => push x true)) (.returned (.pointer (some ⟨w.heap.size, 0, none⟩))) wr) := by
          have hp := HP.out
          rw [List.take_of_length_le (by rw [← HM.out]; omega)] at hp
          refine ⟨_, rfl, ?_, hp.bel⟩
          obtain ⟨va, vc, hv⟩ := own_slice hp.own
          subst hv
          have hul : us.length = (l.map fun x => push x true).length := hp.len
          have hlm : (l.map fun x => push x true).length ≤ maxLen := by rw [List.length_map, ← HM.out]; unfold maxLen; omega
          unfold nd
          refine isF_node.2 ⟨HK2.out, by simp, hlm, w.heap.size, va, vc, Nat.le_refl _, rfl, hp.node.cell 0 _ rfl, hp.node.cell 1 _ rfl, by rw [← hul]; exact hp.node.cell 2 _ rfl, fun i x hx => ?_⟩
          have hil := (List.getElem?_eq_some_iff.1 hx).1
          obtain ⟨u, hu⟩ : ∃ u, us[i]? = some u := ⟨_, List.getElem?_eq_getElem (by rw [hul]; exact hil)⟩
          rcases hp.own.2 with ⟨_, h0⟩ | ⟨gr, cap, cur, e1, e2, e3, e4, _, _, e5⟩
          · rw [hul] at h0; omega
          · simp only [Value.slice.injEq] at e1
            obtain ⟨rfl, _, rfl⟩ := e1
            exact ⟨gr, 0, u, by omega, rfl, by rw [← hul]; exact e4, by rw [Nat.zero_add]; exact row_cell e3 (by simpa using e5) hu, (hp.each i u x hu hx).weak fun b hb => by omega⟩
        subst hjm
        go_wp2_with fail
        go_ret
        exact HRES.out
end Ls
end Go.Proofs.YtmdblokmplbpmaaDoor
