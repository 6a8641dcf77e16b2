/-
  The walk of the closure in the document's Push: parts pushed, one behind the other, into a new node.
-/
import Derived.Test.YtmdblokmplbpmaaDoorLyMap
import Derived.Test.YtmdblokmplbpmaaDoorLyRows
import Derived.Test.YtmdblokmplbpmaaDoorLyForm
import Derived.Test.YtmdblokmplbpmaaDoorLsPushN
namespace Go.Proofs.YtmdblokmplbpmaaDoor
namespace Ls
open Go.RowKit
/-- what a pushed formula comes to: it lies in blocks of which O holds, and in new ones -/
def RMade (O : Nat → Prop) (w : World) (y : Fm) (e : Ending) (w' : World) : Prop := ∃ p, e = .returned (.pointer p) ∧ IsF (fun b => O b ∨ w.heap.size ≤ b) w' y (.pointer p) ∧ Below w.heap.size w w'
/-- pushed, at this formula -/
def RPushOK (x : Fm) : Prop := wf x = true → ∀ (no : Bool) (O : Nat → Prop) (w : World) (v : Value), IsF O w x v → Calls Tryd.prog 16 #[v, .bool no] w (RMade O w (push x no))
/-- formulas in a row -/
def FRow (O : Nat → Prop) (w : World) (a : Option Addr) (n : Nat) (xs : List Fm) : Prop := xs.length = n ∧ ∀ (i : Nat) x, xs[i]? = some x → ∃ g o u, a = some ⟨g, o, none⟩ ∧ w.cell? ⟨g, o + i, none⟩ = some u ∧ IsF O w x u
/-- what stands while parts are pushed: the new node, whose third cell is an own row of those pushed so far -/
structure PNR (O : Nat → Prop) (nb : Nat) (w wr : World) (k : Int) (v : Value) (us : List Value) (xs : List Fm) : Prop where
  bel : Below w.heap.size w wr
  own : wr.ownsRow (nb + 1) 26 1 v us.length us
  len : us.length = xs.length
  node : RowIs wr nb 53 [.int .i64 k, .string ⟨#[]⟩, v]
  each : ∀ (i : Nat) (u : Value) (x : Fm), us[i]? = some u → xs[i]? = some x → IsF (fun b => ((O b ∧ b < nb) ∨ nb < b) ∧ b < wr.heap.size ∧ some b ≠ v.ownBlock) wr x u
/-- one more is pushed and appended, and the node told of it -/
theorem PNR.grow {O : Nat → Prop} {nb : Nat} {w wr W wC : World} {k : Int} {v p : Value} {us : List Value} {xs : List Fm} {x : Fm} {g cap : Nat} (hnb : w.heap.size ≤ nb) (h : PNR O nb w wr k v us xs) (hb : Below wr.heap.size wr W) (hp : IsF (fun b => (O b ∧ b < nb) ∨ wr.heap.size ≤ b) W x p) (ho : wC.ownsRow (nb + 1) 26 1 (.slice (some ⟨g, 0, none⟩) (us.length + 1) cap) (us.length + 1) (us ++ [p])) (hg : (W.alloc (.cells #[p] 26)).grownBy wC v.ownBlock) (hat : v.ownBlock = some g ∨ g = W.heap.size + 1) :
    PNR O nb w (wC.setCell ⟨nb, 2, none⟩ (.slice (some ⟨g, 0, none⟩) (us.length + 1) cap)) k (.slice (some ⟨g, 0, none⟩) (us.length + 1) cap) (us ++ [p]) (xs ++ [x]) := by
  obtain ⟨h1, h2, h3, h4, h5⟩ := h
  have hwl := h4.lt
  have hsz : (W.alloc (.cells #[p] 26)).heap.size = W.heap.size + 1 := by simp
  have hgs := hg.size
  rw [hsz] at hgs
  have hbs := hb.size
  have hvb : v.ownBlock = none ∨ ∃ g, v.ownBlock = some g ∧ nb + 1 ≤ g := ownBlock_new h2
  have hne : some nb ≠ v.ownBlock := by
    rcases hvb with h | ⟨g', h, hl⟩
    · rw [h]; intro e; cases e
    · rw [h]; intro e; cases e; omega
  have hgw : nb + 1 ≤ g := by
    rcases ho.2 with ⟨h, _⟩ | ⟨g', cap', cur, h, hl, _⟩
    · cases h
    · simp only [Value.slice.injEq, Option.some.injEq, Addr.mk.injEq, and_true] at h
      omega
  have hnode : RowIs wC nb 53 [.int .i64 k, .string ⟨#[]⟩, v] := (hg.block _ (by omega) hne).trans (((h4.below hb).alloc _))
  have hst : ∀ b i u, ((O b ∧ b < nb) ∨ nb < b) ∧ b < W.heap.size ∧ some b ≠ v.ownBlock → W.cell? ⟨b, i, none⟩ = some u → (wC.setCell ⟨nb, 2, none⟩ (.slice (some ⟨g, 0, none⟩) (us.length + 1) cap)).cell? ⟨b, i, none⟩ = some u := fun b i u hb' hc =>
    cell_set_block _ _ _ _ _ _ _ (by rcases hb'.1 with h | h <;> omega) (hg.cell (cell_alloc_keep _ _ _ _ hc) hb'.2.2)
  have hok : ∀ b, ((O b ∧ b < nb) ∨ nb < b) ∧ b < W.heap.size ∧ some b ≠ v.ownBlock → ((O b ∧ b < nb) ∨ nb < b) ∧ b < (wC.setCell ⟨nb, 2, none⟩ (.slice (some ⟨g, 0, none⟩) (us.length + 1) cap)).heap.size ∧ some b ≠ (Value.slice (some ⟨g, 0, none⟩) (us.length + 1) cap).ownBlock := fun b hb' => by
    refine ⟨hb'.1, by rw [World.size_setCell]; have := hb'.2.1; omega, ?_⟩
    show some b ≠ some g
    intro e
    cases e
    rcases hat with h | h
    · exact hb'.2.2 h.symm
    · have := hb'.2.1; omega
  refine ⟨?_, ?_, by rw [List.length_append, List.length_append, h3]; rfl, ?_, fun i u y hu hy => ?_⟩
  · exact (below_grown (h1.trans ((then_ hb (newB _ _)).mono h1.size)) hg (hvb.imp id fun ⟨g', h, hl⟩ => ⟨g', h, by omega⟩)).setCell hnb _
  · rw [List.length_append]
    refine ⟨ho.1, ?_⟩
    rcases ho.2 with h | ⟨g', cap', cur, e1, e2, e3, e4⟩
    · exact .inl h
    · refine .inr ⟨g', cap', cur, e1, e2, ?_, e4⟩
      rw [Below.heap_setCell _ _ _ _ (fun e => by have e2' : g' = nb := e; omega)]
      exact e3
  · exact hnode.set 2 _
  · by_cases hi : i < us.length
    · rw [List.getElem?_append_left hi] at hu
      rw [List.getElem?_append_left (by omega)] at hy
      have k1 := h5 i u y hu hy
      have k2 : IsF (fun b => ((O b ∧ b < nb) ∨ nb < b) ∧ b < W.heap.size ∧ some b ≠ v.ownBlock) W y u := IsF.stay (fun b i u _ hc => kept hb hc) (fun b hb' => ⟨hb'.1, by have := hb'.2.1; omega, hb'.2.2⟩) y u k1
      exact IsF.stay hst hok y u k2
    · rw [List.getElem?_append_right (by omega)] at hu hy
      have hz : i - us.length = 0 := by
        have := (List.getElem?_eq_some_iff.1 hu).1
        simp at this; omega
      rw [hz] at hu
      rw [← h3, hz] at hy
      cases hu; cases hy
      refine IsF.stay hst hok x p ((IsF.bound x p hp).weak fun b hb' => ⟨?_, hb'.2, ?_⟩)
      · rcases hb'.1 with h | h
        · exact .inl h
        · exact .inr (by omega)
      · rcases h2.2 with ⟨h, _⟩ | ⟨g', cap', cur, h, hgn, hcur, _⟩
        · rw [h]; intro e; cases e
        · have hl : g' < wr.heap.size := (Array.getElem?_eq_some_iff.1 hcur).1
          rw [h]
          show some b ≠ some g'
          intro e
          cases e
          rcases hb'.1 with h | h
          · omega
          · omega
theorem PNR.made {O : Nat → Prop} {nb : Nat} {w wr : World} {k : Int} {v : Value} {us : List Value} {xs : List Fm} (hnb : w.heap.size ≤ nb) (hk : I64 k) (hx : xs.length ≤ 2) (hp : PNR O nb w wr k v us xs) : RMade O w (nd k xs) (.returned (.pointer (some ⟨nb, 0, none⟩))) wr := by
  refine ⟨_, rfl, ?_, hp.bel⟩
  obtain ⟨va, vc, hv⟩ := own_slice hp.own
  subst hv
  have hul : us.length = xs.length := hp.len
  unfold nd
  refine isF_node.2 ⟨hk, by simp, by unfold maxLen; omega, nb, va, vc, .inr hnb, rfl, hp.node.cell 0 _ rfl, hp.node.cell 1 _ rfl, by rw [← hul]; exact hp.node.cell 2 _ rfl, fun i x hx => ?_⟩
  have hil := (List.getElem?_eq_some_iff.1 hx).1
  obtain ⟨u, hu⟩ : ∃ u, us[i]? = some u := ⟨_, List.getElem?_eq_getElem (by rw [hul]; exact hil)⟩
  rcases hp.own.2 with ⟨_, h0⟩ | ⟨gr, cap, cur, e1, e2, e3, e4, _, _, e5⟩
  · rw [hul] at h0; omega
  · simp only [Value.slice.injEq] at e1
    obtain ⟨rfl, _, rfl⟩ := e1
    exact ⟨gr, 0, u, .inr (by omega), rfl, by rw [← hul]; exact e4, by rw [Nat.zero_add]; exact row_cell e3 (by simpa using e5) hu, (hp.each i u x hu hx).weak fun b hb => by
      rcases hb.1 with h | h
      · exact .inl h.1
      · exact .inr (by omega)⟩
set_option maxHeartbeats 8000000 in
set_option maxRecDepth 100000 in
theorem part_any (k : Int) (hk : k = 4 ∨ k = 5 ∨ k = 6 ∨ k = 7 ∨ k = 8) (l : List Fm) (hok : ∀ x, x ∈ l → wf x = true ∧ RPushOK x) (hl2 : l.length ≤ 2) (NO : Bool) (O : Nat → Prop) (w : World) (c : Nat) (a : Option Addr) (sc : Nat) (hno : w.cell? ⟨c, 0, none⟩ = some (.bool NO)) (hrow : FRow O w a l.length l) :
    Calls Tryd.prog 32 #[.int .i64 k, .slice a l.length sc, .pointer (some ⟨c, 0, none⟩)] w (RMade O w (nd (if NO then other k else k) (l.map fun x => push x NO))) := by
  obtain ⟨i0, hi0, hz0, hz1, hz2⟩ := info_parts Tryd.infoPR
  obtain ⟨k2, hk2⟩ : ∃ k2, k2 = if NO then other k else k := ⟨_, rfl⟩
  have k264 : I64 k2 := by rw [hk2]; unfold I64; rcases hk with rfl | rfl | rfl | rfl | rfl <;> cases NO <;> decide
  rw [← hk2]
  have HK2 := hide k264
  have HOK := hide hok
  have HROW := hide hrow.2
  obtain ⟨m, hm⟩ : ∃ m, m = l.length := ⟨_, rfl⟩
  have HM := hide hm
  rw [← hm] at hl2 ⊢
  clear hok hrow hm k264
  have hstep : ∃ wm : World, Hid (Below w.heap.size w wm) ∧ ((NO = false ∧ wm = w ∧ k2 = k) ∨ (NO = true ∧ ∃ W1 W2 W3 W4, (Instr.mapUpdate 81 (.map (some w.heap.size)) (.int .i64 4) (.int .i64 5)).run Tryd.prog (w.alloc (.map #[] 0)) = .ok () W1 ∧
      (Instr.mapUpdate 81 (.map (some w.heap.size)) (.int .i64 5) (.int .i64 4)).run Tryd.prog W1 = .ok () W2 ∧
      (Instr.mapUpdate 81 (.map (some w.heap.size)) (.int .i64 6) (.int .i64 6)).run Tryd.prog W2 = .ok () W3 ∧
      (Instr.mapUpdate 81 (.map (some w.heap.size)) (.int .i64 7) (.int .i64 8)).run Tryd.prog W3 = .ok () W4 ∧
      (Instr.mapUpdate 81 (.map (some w.heap.size)) (.int .i64 8) (.int .i64 7)).run Tryd.prog W4 = .ok () wm ∧
      (Instr.lookup 81 (.map (some w.heap.size)) (.int .i64 k) false).run Tryd.prog wm = .ok (.int .i64 k2) wm)) := by
    cases NO with
    | false => exact ⟨w, Below.refl _ _, .inl ⟨rfl, rfl, hk2⟩⟩
    | true =>
      obtain ⟨W1, W2, W3, W4, W5, r1, r2, r3, r4, r5, hb, hlk⟩ := other_made w
      refine ⟨W5, hb, .inr ⟨rfl, W1, W2, W3, W4, r1, r2, r3, r4, r5, ?_⟩⟩
      rw [hlk k hk, hk2]
      rfl
  clear hk2 hk
  obtain ⟨wm, HBM, hstep⟩ := hstep
  have hno' := kept HBM.out hno
  obtain ⟨wA, hwA⟩ : ∃ wA, wA = wm.alloc (.cells #[.int .i64 k2, .string ⟨#[]⟩, .slice none 0 0] 53) := ⟨_, rfl⟩
  obtain ⟨nb, hnb⟩ : ∃ nb, nb = wm.heap.size := ⟨_, rfl⟩
  have HNB : Hid (w.heap.size ≤ nb) := by rw [hnb]; exact HBM.out.size
  have HN0 : Hid (PNR O nb w wA k2 (.slice none 0 0) [] []) := by
    rw [hwA, hnb]
    exact ⟨then_ HBM.out (newB _ _), ⟨by simp, .inl ⟨rfl, rfl⟩⟩, rfl, RowIs.new wm 53 [.int .i64 k2, .string ⟨#[]⟩, .slice none 0 0], fun i u x hu => by simp at hu⟩
  have HWA := hide hwA
  have HBL : Hid (c < w.heap.size) := World.block_lt_of_cell? _ _ hno
  have hmk := @run_makeMap Tryd.prog
  clear hwA
  have HNO := hide hno
  obtain ⟨PF, hPF⟩ : ∃ PF : World → Value → List Value → List Fm → Prop, ∀ wr v us xs, PF wr v us xs ↔ PNR O nb w wr k2 v us xs := ⟨fun wr v us xs => PNR O nb w wr k2 v us xs, fun _ _ _ _ => Iff.rfl⟩
  have HPF := hide hPF
  have HN0 : Hid (PF wA (.slice none 0 0) [] []) := (HPF.out _ _ _ _).2 HN0.out
  clear hPF
  rcases hstep with ⟨hno1, hwm, hk3⟩ | ⟨hno1, W1, W2, W3, W4, r1, r2, r3, r4, r5, r6⟩
  · have hwm2 := hwm.symm
    subst hwm2
    subst hk3
    subst hno1
    clear hwm
    go_enter Tryd.func32, Tryd.ntmps32
    go_wp2_with fail
    rw [← HWA.out]
    rw [← hnb]
    clear hnb
    go_loopw [19] (fun iv wr => ∃ (j : Nat) (us : List Value) (v : Value), j ≤ m ∧ iv = .int .i64 (j : Int) ∧ Hid (us.length = j) ∧ Hid (PF wr v us ((l.take j).map fun x => push x false))) (fun iv _ => m - (intOf iv).toNat)
    case atStart => exact ⟨0, [], .slice none 0 0, Nat.zero_le _, rfl, hide rfl, HN0.out⟩
    case round =>
      obtain ⟨j, us, v, hj, rfl, HUL, HP0⟩ := hrel
      have HP := hide ((HPF.out _ _ _ _).1 HP0.out)
      clear HP0
      have HBW : Hid (Below w.heap.size w wr) := HP.out.bel
      by_cases hlt : j < m
      · have hjl : j < l.length := by rw [← HM.out]; exact hlt
        obtain ⟨g, o, u, hsa, hc, hxu⟩ := HROW.out j l[j] (List.getElem?_eq_getElem hjl)
        have hc' := kept HBW.out hc
        have hnoc := kept HBW.out HNO.out
        have hji : (j : Int) < (m : Int) := by omega
        have hxu2 : IsF (fun b => O b ∧ b < nb) wr.drew l[j] u := ((((IsF.bound _ _ hxu).weak (ok' := fun b => O b ∧ b < nb) fun b hb => ⟨hb.1, Nat.lt_of_lt_of_le hb.2 HNB.out⟩).below HBW.out).below (drewB wr))
        have HCALL := hide ((HOK.out l[j] (List.getElem_mem hjl)).2 (HOK.out l[j] (List.getElem_mem hjl)).1 false (fun b => O b ∧ b < nb) wr.drew u hxu2)
        have HTK : Hid ((l.take (j + 1)).map (fun x => push x false) = (l.take j).map (fun x => push x false) ++ [push l[j] false]) := by show _ = _; rw [List.take_succ_eq_append_getElem hjl, List.map_append]; rfl
        subst hsa
        obtain ⟨pu, rfl⟩ := hxu.ptr
        generalize push l[j] false = xp at *
        clear hc hxu hxu2 hjl
        obtain ⟨va, vc, hv⟩ := own_slice HP.out.own
        rw [HUL.out] at hv
        subst hv
        have hn2 := HP.out.node.cell 2 _ rfl
        have HD := hide (drewB wr)
        have HOWN : Hid (∀ (W : World) (o : Obj), Below wr.heap.size wr W → (W.alloc o).ownsRow (nb + 1) 26 1 (.slice va j vc) j us) := fun W o hW => by
          have h := own_below (own_below HP.out.own hW) (newB W o)
          rw [HUL.out] at h
          exact h
        have HONE : Hid (∀ (p : Option Addr), ∀ u ∈ [Value.pointer p], u.oneCell' = true) := fun p u hu => by
          obtain rfl := List.mem_singleton.1 hu
          rfl
        have HFIN : Hid (∀ (W : World) (p : Option Addr) (g cap : Nat) (wE : World), Below wr.heap.size wr W → IsF (fun b => (O b ∧ b < nb) ∨ wr.heap.size ≤ b) W xp (.pointer p) → wE.ownsRow (nb + 1) 26 1 (.slice (some ⟨g, 0, none⟩) (j + 1) cap) (j + 1) (us ++ [.pointer p]) → (W.alloc (.cells #[.pointer p] 26)).grownBy wE (Value.slice va j vc).ownBlock → ((Value.slice va j vc).ownBlock = some g ∨ g = W.heap.size + 1) → PF (wE.setCell ⟨nb, 2, none⟩ (.slice (some ⟨g, 0, none⟩) (j + 1) cap)) (.slice (some ⟨g, 0, none⟩) (j + 1) cap) (us ++ [.pointer p]) ((l.take (j + 1)).map fun x => push x false) ∧ wE.cell? ⟨nb, 2, none⟩ = some (.slice va j vc) ∧ wE.frozen? ⟨nb, 2, none⟩ = false) := fun W p g cap wE hW hx ho hg hat => by
          have hul := HUL.out
          have h := PNR.grow (g := g) (cap := cap) HNB.out HP.out hW hx (by rw [hul]; exact ho) hg hat
          rw [hul, ← HTK.out] at h
          have hne : some nb ≠ (Value.slice va j vc).ownBlock := by
            rcases ownBlock_new HP.out.own with h | ⟨g', h, hl⟩
            · rw [h]; intro e; cases e
            · rw [h]; intro e; cases e; omega
          have hnd : RowIs wE nb 53 [.int .i64 _, .string ⟨#[]⟩, .slice va j vc] := (hg.block _ (by have h1 := HP.out.node.lt; have h2 := hW.size; simp; omega) hne).trans ((HP.out.node.below hW).alloc _)
          exact ⟨(HPF.out _ _ _ _).2 h, hnd.cell 2 _ rfl, hnd.frozen 2⟩
        have HKE : Hid (∀ W, Below wr.heap.size wr W → W.cell? ⟨nb, 2, none⟩ = some (.slice va j vc)) := fun W hW => kept hW hn2
        have HLE : Hid (∀ (W : World) (o : Obj), Below wr.heap.size wr W → nb + 1 ≤ (W.alloc o).heap.size) := fun W o hW => by have h1 := HP.out.node.lt; have h2 := hW.size; simp; omega
        go_wp2_with fail
        go_region_law (first
          | (refine step_append_lies _ rfl (.tmp 27) (.tmp 31) 51 rfl (nb + 1) 26 i0 _ 1 8 Tryd.underlying51 hi0 hz0 hz1 hz2 rfl (by decide) (.slice va j vc) j us rfl (HOWN.out w6 _ HB6.out) ⟨w6.heap.size, 0, none⟩ 1 1 [.pointer b6] rfl rfl (World.news_of_block (heap_alloc_new w6 _)) (HONE.out _) (by decide) (by unfold maxLen; omega) (by omega) (HLE.out w6 _ HB6.out) (w6.heap.size + 1) (by simp) ?_; intro g7 cap7 wD hown hgrow hat hltg; obtain ⟨hpn, wd0, wdf⟩ := HFIN.out w6 _ g7 cap7 wD HB6.out HF6.out hown hgrow hat; have HP7 := hide hpn; clear hpn hown hgrow hat)
          | (go_simp; go_at_call 16; (with_reducible refine HCALL.out.mono ?_); rintro e w6 ⟨b6, rfl, hf6, hb6⟩; have HF6 : Hid (IsF (fun b => (O b ∧ b < nb) ∨ wr.heap.size ≤ b) w6 xp (.pointer b6)) := hf6; have HB6 : Hid (Below wr.heap.size wr w6) := then_ HD.out hb6; have y2 := HKE.out w6 HB6.out; have yl : nb < w6.heap.size := World.block_lt_of_cell? _ _ y2; clear hf6 hb6))
        all_goals
          go_wp2_with fail
          go_roundw
          case rel => exact ⟨j + 1, us ++ [Value.pointer b6], Value.slice (some ⟨g7, 0, none⟩) (j + 1) cap7, by omega, by go_num, hide (by rw [List.length_append, HUL.out]; rfl), HP7.out⟩
          case measure => simp [intOf]; omega
      · have hjm : j = m := by omega
        have HRES := hide (PNR.made HNB.out HK2.out (by rw [List.length_map, List.length_take]; omega) HP.out)
        rw [List.take_of_length_le (by rw [← HM.out]; omega)] at HRES
        subst hjm
        go_wp2_with fail
        go_ret
        exact HRES.out
  · subst hno1
    have hnbw := HNB.out
    go_enter Tryd.func32, Tryd.ntmps32
    go_wp2_with fail
    rw [← HWA.out]
    rw [← hnb]
    clear hnb
    go_loopw [19] (fun iv wr => ∃ (j : Nat) (us : List Value) (v : Value), j ≤ m ∧ iv = .int .i64 (j : Int) ∧ Hid (us.length = j) ∧ Hid (PF wr v us ((l.take j).map fun x => push x true))) (fun iv _ => m - (intOf iv).toNat)
    case atStart => exact ⟨0, [], .slice none 0 0, Nat.zero_le _, rfl, hide rfl, HN0.out⟩
    case round =>
      obtain ⟨j, us, v, hj, rfl, HUL, HP0⟩ := hrel
      have HP := hide ((HPF.out _ _ _ _).1 HP0.out)
      clear HP0
      have HBW : Hid (Below w.heap.size w wr) := HP.out.bel
      by_cases hlt : j < m
      · have hjl : j < l.length := by rw [← HM.out]; exact hlt
        obtain ⟨g, o, u, hsa, hc, hxu⟩ := HROW.out j l[j] (List.getElem?_eq_getElem hjl)
        have hc' := kept HBW.out hc
        have hnoc := kept HBW.out HNO.out
        have hji : (j : Int) < (m : Int) := by omega
        have hxu2 : IsF (fun b => O b ∧ b < nb) wr.drew l[j] u := ((((IsF.bound _ _ hxu).weak (ok' := fun b => O b ∧ b < nb) fun b hb => ⟨hb.1, Nat.lt_of_lt_of_le hb.2 HNB.out⟩).below HBW.out).below (drewB wr))
        have HCALL := hide ((HOK.out l[j] (List.getElem_mem hjl)).2 (HOK.out l[j] (List.getElem_mem hjl)).1 true (fun b => O b ∧ b < nb) wr.drew u hxu2)
        have HTK : Hid ((l.take (j + 1)).map (fun x => push x true) = (l.take j).map (fun x => push x true) ++ [push l[j] true]) := by show _ = _; rw [List.take_succ_eq_append_getElem hjl, List.map_append]; rfl
        subst hsa
        obtain ⟨pu, rfl⟩ := hxu.ptr
        generalize push l[j] true = xp at *
        clear hc hxu hxu2 hjl
        obtain ⟨va, vc, hv⟩ := own_slice HP.out.own
        rw [HUL.out] at hv
        subst hv
        have hn2 := HP.out.node.cell 2 _ rfl
        have HD := hide (drewB wr)
        have HOWN : Hid (∀ (W : World) (o : Obj), Below wr.heap.size wr W → (W.alloc o).ownsRow (nb + 1) 26 1 (.slice va j vc) j us) := fun W o hW => by
          have h := own_below (own_below HP.out.own hW) (newB W o)
          rw [HUL.out] at h
          exact h
        have HONE : Hid (∀ (p : Option Addr), ∀ u ∈ [Value.pointer p], u.oneCell' = true) := fun p u hu => by
          obtain rfl := List.mem_singleton.1 hu
          rfl
        have HFIN : Hid (∀ (W : World) (p : Option Addr) (g cap : Nat) (wE : World), Below wr.heap.size wr W → IsF (fun b => (O b ∧ b < nb) ∨ wr.heap.size ≤ b) W xp (.pointer p) → wE.ownsRow (nb + 1) 26 1 (.slice (some ⟨g, 0, none⟩) (j + 1) cap) (j + 1) (us ++ [.pointer p]) → (W.alloc (.cells #[.pointer p] 26)).grownBy wE (Value.slice va j vc).ownBlock → ((Value.slice va j vc).ownBlock = some g ∨ g = W.heap.size + 1) → PF (wE.setCell ⟨nb, 2, none⟩ (.slice (some ⟨g, 0, none⟩) (j + 1) cap)) (.slice (some ⟨g, 0, none⟩) (j + 1) cap) (us ++ [.pointer p]) ((l.take (j + 1)).map fun x => push x true) ∧ wE.cell? ⟨nb, 2, none⟩ = some (.slice va j vc) ∧ wE.frozen? ⟨nb, 2, none⟩ = false) := fun W p g cap wE hW hx ho hg hat => by
          have hul := HUL.out
          have h := PNR.grow (g := g) (cap := cap) HNB.out HP.out hW hx (by rw [hul]; exact ho) hg hat
          rw [hul, ← HTK.out] at h
          have hne : some nb ≠ (Value.slice va j vc).ownBlock := by
            rcases ownBlock_new HP.out.own with h | ⟨g', h, hl⟩
            · rw [h]; intro e; cases e
            · rw [h]; intro e; cases e; omega
          have hnd : RowIs wE nb 53 [.int .i64 _, .string ⟨#[]⟩, .slice va j vc] := (hg.block _ (by have h1 := HP.out.node.lt; have h2 := hW.size; simp; omega) hne).trans ((HP.out.node.below hW).alloc _)
          exact ⟨(HPF.out _ _ _ _).2 h, hnd.cell 2 _ rfl, hnd.frozen 2⟩
        have HKE : Hid (∀ W, Below wr.heap.size wr W → W.cell? ⟨nb, 2, none⟩ = some (.slice va j vc)) := fun W hW => kept hW hn2
        have HLE : Hid (∀ (W : World) (o : Obj), Below wr.heap.size wr W → nb + 1 ≤ (W.alloc o).heap.size) := fun W o hW => by have h1 := HP.out.node.lt; have h2 := hW.size; simp; omega
        go_wp2_with fail
        go_region_law (first
          | (refine step_append_lies _ rfl (.tmp 27) (.tmp 31) 51 rfl (nb + 1) 26 i0 _ 1 8 Tryd.underlying51 hi0 hz0 hz1 hz2 rfl (by decide) (.slice va j vc) j us rfl (HOWN.out w6 _ HB6.out) ⟨w6.heap.size, 0, none⟩ 1 1 [.pointer b6] rfl rfl (World.news_of_block (heap_alloc_new w6 _)) (HONE.out _) (by decide) (by unfold maxLen; omega) (by omega) (HLE.out w6 _ HB6.out) (w6.heap.size + 1) (by simp) ?_; intro g7 cap7 wD hown hgrow hat hltg; obtain ⟨hpn, wd0, wdf⟩ := HFIN.out w6 _ g7 cap7 wD HB6.out HF6.out hown hgrow hat; have HP7 := hide hpn; clear hpn hown hgrow hat)
          | (go_simp; go_at_call 16; (with_reducible refine HCALL.out.mono ?_); rintro e w6 ⟨b6, rfl, hf6, hb6⟩; have HF6 : Hid (IsF (fun b => (O b ∧ b < nb) ∨ wr.heap.size ≤ b) w6 xp (.pointer b6)) := hf6; have HB6 : Hid (Below wr.heap.size wr w6) := then_ HD.out hb6; have y2 := HKE.out w6 HB6.out; have yl : nb < w6.heap.size := World.block_lt_of_cell? _ _ y2; clear hf6 hb6))
        all_goals
          go_wp2_with fail
          go_roundw
          case rel => exact ⟨j + 1, us ++ [Value.pointer b6], Value.slice (some ⟨g7, 0, none⟩) (j + 1) cap7, by omega, by go_num, hide (by rw [List.length_append, HUL.out]; rfl), HP7.out⟩
          case measure => simp [intOf]; omega
      · have hjm : j = m := by omega
        have HRES := hide (PNR.made HNB.out HK2.out (by rw [List.length_map, List.length_take]; omega) HP.out)
        rw [List.take_of_length_le (by rw [← HM.out]; omega)] at HRES
        subst hjm
        go_wp2_with fail
        go_ret
        exact HRES.out
end Ls
end Go.Proofs.YtmdblokmplbpmaaDoor
