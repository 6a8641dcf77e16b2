/-
  The walk of package prop's path: back from a place that is met to the first one, by what the map tells. The walks of package prop's waits and nextOf. What stands in memory while package prop searches. What package prop's search finds is the least: in plain words. The walk of package prop's search.
-/
import Derived.Test.YtgldbliohpfljaaGreatDoorRcNextAll
import Derived.Test.YtgldbliohpfljaaGreatDoorRdListAll
import Derived.Test.YtgldbliohpfljaaGreatDoorMcOffAll
import Derived.Test.YtgldbliohpfljaaGreatDoorShelf3
import Derived.Laws.StructEq
import Derived.Sort.OwnSortedInts
namespace Go.Proofs.YtgldbliohpfljaaGreatDoor
section
open Go.RowKit Go.Maps Go.Sort
theorem neq_pl (p q : Nat × Nat) (hp : Small p) (hq : Small q) (w : World) : (binOp BinOp.neq 113 (plV p) (plV q)).run Tryz.prog w = .ok (.bool (!decide (p = q))) w := by
  obtain ⟨r, h1, h2⟩ := run_equal_deep w (P := Tryz.prog) (m := 9) (by decide) (k := 113) (by kernel_rfl) (by kernel_rfl) (key_pl p hp) (key_pl q hq)
  have h3 : r = decide (p = q) := by
    by_cases e : p = q
    · rw [decide_eq_true e]; exact h2.2 (congrArg plK e)
    · rw [decide_eq_false e]
      cases r with
      | false => rfl
      | true => exact absurd (plK_inj hp hq (h2.1 rfl)) e
  have h4 : (Op.equalIn 10000 113 (plV p) (plV q)).run Tryz.prog w = .ok r w := h1
  unfold plV at h4 ⊢
  rw [run_neq_struct, h4, h3]
  rfl
def natV (i : Nat) : Value := .int .i64 (i : Int)
theorem rev_any (base : Nat) (v : Value) (l : List Nat) (w : World) (h : w.ownsRow base 3 1 v l.length (l.map natV)) (hl : l.length ≤ 1000000) :
    Calls Tryz.prog 140 #[v] w fun e w' => e = .returned (.tuple #[]) ∧ w'.ownsRow base 3 1 v l.length (l.reverse.map natV) ∧ w.grownBy w' v.ownBlock := by
  have hm : ∀ l : List Nat, l.map natV = (l.map fun i : Nat => (i : Int)).map (Value.int .i64) := fun l => by rw [List.map_map]; rfl
  rcases h with ⟨h1, ⟨rfl, h2⟩ | ⟨g, cap, cur, rfl, hg, hb, hn, hcap, hcur, ht⟩⟩
  · refine (Tryz.slices_Reverse_int_empty none 0 w).mono ?_
    rintro e w' ⟨rfl, rfl⟩
    have hl0 : l = [] := List.length_eq_zero_iff.1 h2
    subst hl0
    exact ⟨rfl, ⟨rfl, .inl ⟨rfl, rfl⟩⟩, rfl, rfl, rfl, Nat.le_refl _, fun _ _ _ => rfl⟩
  · have hH := holds_of_blockI (ss := l.map fun i : Nat => (i : Int)) hb (by rw [List.length_map, ← hm]; simpa using ht)
    have hc := Tryz.slices_Reverse_int g 0 cap (l.map fun i : Nat => (i : Int)) w hH (by simp; omega)
    rw [List.length_map] at hc
    refine hc.mono ?_
    rintro e w' ⟨rfl, n, rfl⟩
    refine ⟨rfl, ?_, ?_⟩
    · have h3 := ownsRow_sortedI (w := w) (base := base) (g := g) (cap := cap) (n := n) (e := 3) (os := #[]) (cur := cur) (ss := l.map fun i : Nat => (i : Int)) (ts := (l.map fun i : Nat => (i : Int)).reverse) (by simp) hg hb (by simpa using hn) hcap hcur
      rw [grow_empty, List.length_map] at h3
      rw [hm, List.map_reverse]
      exact h3
    · have h3 := grownBy_sortedI (w := w) (g := g) (n := n) (os := #[]) (l.map fun i : Nat => (i : Int)).reverse.toArray
      rw [grow_empty] at h3
      exact h3
@[go_sem] theorem field_by (a b c : Value) (w : World) : (Instr.field 184 (.agg #[a, b, c]) 1).run Tryz.prog w = .ok c w := by kernel_rfl
@[go_sem] theorem field_from (a b c : Value) (w : World) : (Instr.field 184 (.agg #[a, b, c]) 0).run Tryz.prog w = .ok (.agg #[a, b]) w := by kernel_rfl
theorem Met.small {next : Nat → List Nat} {wt : Nat × Nat → Nat → Nat} {S most : Nat} {met : List (Nat × Nat)} {src : List ((Nat × Nat) × Nat)} (hm : Pr.Met next wt S most met src) (hS : S ≤ 4096) (hmo : most ≤ 20) (p : Nat × Nat) (hp : p ∈ met) : Small p := by
  obtain ⟨h1, h2⟩ := hm.low p hp
  exact ⟨by omega, by omega⟩
/-- what path comes to -/
def PthDone (w : World) (next : Nat → List Nat) (wt : Nat × Nat → Nat → Nat) (met : List (Nat × Nat)) (src : List ((Nat × Nat) × Nat)) (most J : Nat) (at_ : Nat × Nat) (e : Ending) (w' : World) : Prop := ∃ l a c, e = .returned (.slice a l.length c) ∧ w'.ownsRow w.heap.size 3 1 (.slice a l.length c) l.length (l.map natV) ∧ Pr.Fine next wt most (0, 0) l ∧ Pr.go next wt (0, 0) l = at_ ∧ l.length ≤ J ∧ Pr.Tr met src J l.reverse ∧ Below w.heap.size w w'
set_option maxHeartbeats 4000000 in
set_option maxRecDepth 100000 in
theorem path_any (bM n S most J : Nat) (next : Nat → List Nat) (wt : Nat × Nat → Nat → Nat) (met : List (Nat × Nat)) (src : List ((Nat × Nat) × Nat)) (f : Nat × Nat → Option ((Nat × Nat) × Nat)) (at_ : Nat × Nat) (w : World) (hm : Pr.Met next wt S most met src) (hc : CMap w bM n f) (hf : ∀ (j : Nat) p, 0 < j → met[j]? = some p → f p = src[j]?) (hJ : met[J]? = some at_) (hS : S ≤ 4096) (hmo : most ≤ 20) :
    Calls Tryz.prog 94 #[.map (some bM), .agg #[.int .i64 0, .int .i64 0], plV at_] w (PthDone w next wt met src most J at_) := by
  obtain ⟨i0, hi0, hz0, hz1, hz2⟩ := info_parts Tryz.infoInt
  have HM := hide hm
  have HC := hide hc
  have HF := hide hf
  have hfew := hm.few
  have hJ2 : J < met.length := (List.getElem?_eq_some_iff.1 hJ).1
  have hSm : S * (most + 1) ≤ 4096 * 21 := Nat.mul_le_mul hS (by omega)
  have hJl : J ≤ 100000 := by omega
  have HW0 : Hid (Pr.Way next wt most met src J at_ J at_ []) := Pr.Way.start hJ
  clear hfew hSm hJ2 hm hc hf hJ
  unfold plV
  go_enter Tryz.func94, Tryz.ntmps94
  go_wp2_with fail
  go_loopw [7] (fun v wr => ∃ j p r a c, v = .slice a r.length c ∧ Hid (Pr.Way next wt most met src J at_ j p r) ∧ Hid (wr.ownsRow (w.heap.size + 2) 3 1 (.slice a r.length c) r.length (r.map natV)) ∧ Hid (wr.heap[w.heap.size]? = some (.cells #[.int .i64 0, .int .i64 0] 113 (0, 0)) ∧ wr.heap[w.heap.size + 1]? = some (.cells #[.int .i64 (p.1 : Int), .int .i64 (p.2 : Int)] 113 (0, 0))) ∧ Hid (Below w.heap.size w wr)) (fun v _ => J - (lenV v))
  case atStart =>
    refine ⟨J, at_, [], none, 0, rfl, HW0.out, World.ownsRow_nil _ _ _ _, ⟨?_, ?_⟩, ?_⟩
    · rw [Below.heap_alloc _ _ _ (by simp)]; exact heap_alloc_new _ _
    · have := heap_alloc_new (w.alloc (.cells #[.int .i64 0, .int .i64 0] 113)) (.cells #[.int .i64 (at_.1 : Int), .int .i64 (at_.2 : Int)] 113)
      rw [World.size_alloc] at this
      exact this
    · exact ((Below.refl _ w).alloc (Nat.le_refl _) _).alloc (by simp) _
  case round =>
    obtain ⟨j, p, r, a, c, rfl, HY, HO, HK, HB⟩ := hrel
    obtain ⟨hk0, hk1⟩ := HK.out
    obtain ⟨b0, b1, _, _⟩ := two_cells hk0
    obtain ⟨t0, t1, t2, t3⟩ := two_cells hk1
    have hps := Met.small HM.out hS hmo p (List.mem_of_getElem? HY.out.here)
    have hcmp := fun W => neq_pl p (0, 0) hps ⟨Nat.zero_le _, Nat.zero_le _⟩ W
    have hfirst := HY.out.first HM.out
    unfold plV at hcmp
    have hrl : r.length ≤ 1000000 := by have := HY.out.few; omega
    have hzr : w.heap.size + 1 < wr.heap.size := (Array.getElem?_eq_some_iff.1 hk1).1
    by_cases hp0 : p = (0, 0)
    · have HR := hide (rev_any (w.heap.size + 2) _ r wr HO.out hrl)
      have HFN : Hid (∀ W, W.ownsRow (w.heap.size + 2) 3 1 (.slice a r.length c) r.length (r.reverse.map natV) → wr.grownBy W (Value.slice a r.length c).ownBlock → PthDone w next wt met src most J at_ (.returned (.slice a r.length c)) W) := fun W h1 h2 => by
        have hf := HY.out.fine
        have hc := HY.out.comes
        rw [hp0] at hf hc
        have hl : r.reverse.length = r.length := List.length_reverse
        refine ⟨r.reverse, a, c, by rw [hl], by rw [hl]; exact own_mono h1 (by omega), hf, hc, by rw [hl]; have := HY.out.few; omega, by rw [List.reverse_reverse]; have h3 := HY.out.tr [] ((HY.out.first HM.out).1 hp0); rwa [List.append_nil] at h3, HB.out.grown h2 HB.out.size (fun k e => ?_)⟩
        have := (HO.out.lt k e).1
        omega
      clear hk0 hk1 hcmp hfirst hps
      go_wp2_with fail
      refine HR.out.mono ?_
      rintro e w1 ⟨rfl, ho1, hg1⟩
      have HE := hide (HFN.out w1 ho1 hg1)
      clear ho1 hg1 HR HFN
      go_wp2_with fail
      go_ret
      exact HE.out
    · have hj0 : 0 < j := Nat.pos_of_ne_zero (fun e => hp0 (hfirst.2 e))
      obtain ⟨⟨fr, i⟩, hsrc⟩ : ∃ x, src[j]? = some x := ⟨_, List.getElem?_eq_getElem (by rw [HM.out.len]; exact (List.getElem?_eq_some_iff.1 HY.out.here).1)⟩
      have HFP : Hid (f p = some (fr, i)) := (HF.out j p hj0 HY.out.here).trans hsrc
      obtain ⟨k, HWK⟩ : ∃ k, Hid (Pr.Way next wt most met src J at_ k fr (r ++ [i])) := HY.out.back HM.out hj0 hsrc
      have HLK : Hid (∀ W, Below w.heap.size w W → (Instr.lookup 185 (.map (some bM)) (.agg #[.int .i64 (p.1 : Int), .int .i64 (p.2 : Int)]) false).run Tryz.prog W = .ok (.agg #[.int .i64 (fr.1 : Int), .int .i64 (fr.2 : Int), .int .i64 (i : Int)]) W) := fun W hW => by
        have h1 := (HC.out.kept (hW.block bM HC.out.lt)).look false p hps
        rw [HFP.out] at h1
        exact h1
      have hlk := HLK.out wr HB.out
      have HOWN : Hid (∀ o, (wr.alloc o).ownsRow (w.heap.size + 2) 3 1 (.slice a r.length c) r.length (r.map natV)) := fun o => HO.out.alloc o
      have HONE : Hid (∀ u ∈ [Value.int .i64 (i : Int)], u.oneCell' = true) := by
        intro u hu
        simp only [List.mem_cons, List.not_mem_nil, or_false] at hu
        subst hu; rfl
      have HFIN : Hid (∀ (o : Obj) (g cap : Nat) (wC : World), wC.ownsRow (w.heap.size + 2) 3 1 (.slice (some ⟨g, 0, none⟩) (r.length + 1) cap) (r.length + 1) (r.map natV ++ [.int .i64 (i : Int)]) → (wr.alloc o).grownBy wC (Value.slice a r.length c).ownBlock →
          wC.ownsRow (w.heap.size + 2) 3 1 (.slice (some ⟨g, 0, none⟩) (r ++ [i]).length cap) (r ++ [i]).length ((r ++ [i]).map natV) ∧ Below w.heap.size w wC ∧ wC.heap[w.heap.size]? = wr.heap[w.heap.size]? ∧ wC.heap[w.heap.size + 1]? = wr.heap[w.heap.size + 1]?) := by
        intro o g cap wC hown hgrow
        have hnb : ∀ k, k < w.heap.size + 2 → some k ≠ (Value.slice a r.length c).ownBlock := fun k hk e => by have := (HO.out.lt k e.symm).1; omega
        refine ⟨?_, (HB.out.alloc HB.out.size o).grown hgrow (by simp; omega) (fun k e => by have := (HO.out.lt k e).1; omega), ?_, ?_⟩
        · rw [List.map_append, List.length_append]; exact hown
        · rw [hgrow.block _ (by simp; omega) (hnb _ (by omega)), Below.heap_alloc _ _ _ (by omega)]
        · rw [hgrow.block _ (by simp; omega) (hnb _ (by omega)), Below.heap_alloc _ _ _ (by omega)]
      have HK0 := hide hk0
      have HK1 := hide hk1
      have hneq : ∀ W, (binOp BinOp.neq 113 (.agg #[.int .i64 (p.1 : Int), .int .i64 (p.2 : Int)]) (.agg #[.int .i64 0, .int .i64 0])).run Tryz.prog W = .ok (.bool true) W := fun W => by
        have h := hcmp W
        rw [decide_eq_false hp0] at h
        exact h
      clear hk0 hk1 hcmp hfirst hps HO hsrc HFP
      go_wp2_with (at_builtin; refine wpList_append_lies _ rfl (.tmp 11) (.tmp 16) 36 rfl (w.heap.size + 2) 3 i0 _ 1 8 Tryz.underlying36 hi0 hz0 hz1 hz2 rfl (by decide) (.slice a r.length c) r.length (r.map natV) rfl (HOWN.out _) ⟨wr.heap.size, 0, none⟩ 1 1 [.int .i64 (i : Int)] rfl rfl (World.news_of_block (heap_alloc_new wr _)) (HONE.out) (by decide) (by unfold maxLen; omega) (by omega) (by simp; omega) (wr.heap.size + 1) (by simp) ?_; intro g2 cap2 wC hown hgrow hat hltg; obtain ⟨hoC, hbC, hC0, hC1⟩ := HFIN.out _ g2 cap2 wC hown hgrow; have hlC := HLK.out wC hbC; have hD1 := hC1.trans HK1.out; have HD1 := hide hD1; obtain ⟨d0, d1, d2, d3⟩ := two_cells hD1)
      have HOC := hide hoC
      have HBC := hide hbC
      have HC0 := hide (hC0.trans HK0.out)
      have hsz := hbC.size
      clear hoC hbC hC0 hC1 hlC hD1 d0 d1 d2 d3 hown hgrow hat hlk hneq
      have HRL : Hid (r.length < J) := by have h1 := HWK.out.few; show r.length < J; simp at h1; omega
      go_roundw
      case rel =>
        have hg : wC.grownBy ((wC.setCell ⟨w.heap.size + 1, 0, none⟩ (.int .i64 (fr.1 : Int))).setCell ⟨w.heap.size + 1, 1, none⟩ (.int .i64 (fr.2 : Int))) (some (w.heap.size + 1)) :=
          ⟨rfl, rfl, rfl, by simp [World.setCell], fun k _ hne => by
            have hk : k ≠ w.heap.size + 1 := fun e => hne (by rw [e])
            rw [heap_setCell_other _ ⟨_, 1, none⟩ k _ hk, heap_setCell_other _ ⟨_, 0, none⟩ k _ hk]⟩
        refine ⟨k, fr, r ++ [i], some ⟨g2, 0, none⟩, cap2, by simp, HWK.out, ?_, ⟨?_, ?_⟩, HBC.out.grown hg HBC.out.size (fun k e => by cases e; omega)⟩
        · exact HOC.out.kept hg (.inr (fun e => by have := (HOC.out.lt (w.heap.size + 1) e).1; omega))
        · rw [heap_setCell_other _ ⟨_, 1, none⟩ _ _ (by show w.heap.size ≠ w.heap.size + 1; omega), heap_setCell_other _ ⟨_, 0, none⟩ _ _ (by show w.heap.size ≠ w.heap.size + 1; omega)]
          exact HC0.out
        · have h := HD1.out
          simp [World.setCell, Array.getElem?_modify, h]
      case measure =>
        have := HRL.out
        simp [lenV]
        omega
end
section
open Go.RowKit
namespace Pr
def waits (ahead : Nat) (asks answers : Bool) : Nat := if answers || (ahead == 0 && !asks) then 0 else ahead + 1
end Pr
set_option maxRecDepth 100000 in
theorem waits_any (n : Nat) (a b : Bool) (w : World) (hn : n ≤ 1000) : Calls Tryz.prog 41 #[.int .i64 (n : Int), .bool a, .bool b] w fun e w' => e = .returned (.int .i64 (Pr.waits n a b : Int)) ∧ w' = w := by
  go_enter Tryz.func41, Tryz.ntmps41
  cases b with
  | true =>
    go_wp2_with fail
    go_ret
    exact ⟨rfl, rfl⟩
  | false =>
    by_cases h0 : n = 0
    · subst h0
      cases a with
      | true =>
        go_wp2_with fail
        go_ret
        exact ⟨rfl, rfl⟩
      | false =>
        go_wp2_with fail
        go_ret
        exact ⟨rfl, rfl⟩
    · have hne : ((n : Int) == 0) = false := by rw [beq_eq_false_iff_ne]; omega
      have hne2 : (n == 0) = false := by rw [beq_eq_false_iff_ne]; exact h0
      have HW : Hid (Pr.waits n a false = n + 1) := by
        show Pr.waits n a false = n + 1
        unfold Pr.waits
        rw [hne2]
        rfl
      go_wp2_with fail
      go_ret
      exact ⟨by rw [HW.out]; simp, rfl⟩
set_option maxRecDepth 100000 in
theorem nextOf_any (bm S I gN s : Nat) (next : Nat → List Nat) (uN : List Nat) (w : World) (h : NextAt w bm S I next gN uN) (hs : s < S) (_hS : S ≤ 4096) : Calls Tryz.prog 93 #[.pointer (some ⟨bm, 0, none⟩), .int .i64 (s : Int)] w fun e w' => (∃ b, uN[s]? = some b ∧ e = .returned (.slice (some ⟨b, 0, none⟩) I I)) ∧ w' = w := by
  obtain ⟨bN, hbN⟩ : ∃ b, uN[s]? = some b := ⟨_, List.getElem?_eq_getElem (by rw [h.2.1]; exact hs)⟩
  have t0 := h.1
  obtain ⟨t1, t2⟩ := h.2.2 s bN hbN
  have HBN := hide hbN
  have hsi : (s : Int) < (S : Int) := by omega
  clear t2 h hbN
  go_enter Tryz.func93, Tryz.ntmps93
  go_wp2_with fail
  go_ret
  exact ⟨⟨bN, HBN.out, rfl⟩, rfl⟩
end
section
open Go.RowKit Go.Maps
theorem Tryz.infoPlace : (Tryz.prog.info? 113).map (fun i => (i.zero, i.size, i.bytes)) = some (some (.agg #[.int .i64 0, .int .i64 0]), 2, 16) := by kernel_rfl
def plCells (p : Nat × Nat) : List Value := [.int .i64 (p.1 : Int), .int .i64 (p.2 : Int)]
theorem pl_len : ∀ (l : List (Nat × Nat)), (l.flatMap plCells).length = l.length * 2
  | [] => rfl
  | _ :: l => by rw [List.flatMap_cons, List.length_append, pl_len l]; simp [plCells]; omega
theorem pl_at : ∀ (l : List (Nat × Nat)) (k : Nat) (p : Nat × Nat), l[k]? = some p → (l.flatMap plCells)[k * 2]? = some (.int .i64 (p.1 : Int)) ∧ (l.flatMap plCells)[k * 2 + 1]? = some (.int .i64 (p.2 : Int))
  | [], _, _, h => by simp at h
  | q :: l, 0, p, h => by
    simp at h
    subst h
    exact ⟨rfl, rfl⟩
  | q :: l, k + 1, p, h => by
    have h1 := pl_at l k p (by simpa using h)
    have e : (k + 1) * 2 = k * 2 + 1 + 1 := by omega
    rw [List.flatMap_cons, e]
    exact h1
structure SSt (w : World) (next : Nat → List Nat) (wt : Nat × Nat → Nat → Nat) (S most : Nat) (met : List (Nat × Nat)) (src : List ((Nat × Nat) × Nat)) (v : Value) (W : World) : Prop where
  ok : Pr.Met next wt S most met src
  beg : W.heap[w.heap.size]? = some (.cells #[.int .i64 0, .int .i64 0] 113 (0, 0))
  map : ∃ f, CMap W (w.heap.size + 1) met.length f ∧ (∀ (j : Nat) p, met[j]? = some p → f p = src[j]?) ∧ ∀ p, p ∉ met → f p = none
  own : W.ownsRow (w.heap.size + 2) 113 2 v met.length (met.flatMap plCells)
  bel : Below w.heap.size w W
theorem SSt.below {w W W' : World} {next : Nat → List Nat} {wt : Nat × Nat → Nat → Nat} {S most : Nat} {met : List (Nat × Nat)} {src : List ((Nat × Nat) × Nat)} {v : Value} (h : SSt w next wt S most met src v W) (hb : Below W.heap.size W W') : SSt w next wt S most met src v W' := by
  obtain ⟨f, h1, h2, h3⟩ := h.map
  exact ⟨h.ok, (hb.block _ (Array.getElem?_eq_some_iff.1 h.beg).1).trans h.beg, ⟨f, h1.kept (hb.block _ h1.lt), h2, h3⟩, own_below h.own hb, h.bel.trans (hb.mono h.bel.size)⟩
theorem SSt.few {w W : World} {next : Nat → List Nat} {wt : Nat × Nat → Nat → Nat} {S most : Nat} {met : List (Nat × Nat)} {src : List ((Nat × Nat) × Nat)} {v : Value} (h : SSt w next wt S most met src v W) (hS : S ≤ 4096) (hmo : most ≤ 20) : met.length ≤ 100000 := by
  have h1 := h.ok.few
  have h2 : S * (most + 1) ≤ 4096 * 21 := Nat.mul_le_mul hS (by omega)
  omega
/-- where the places lie -/
theorem SSt.row {w W : World} {next : Nat → List Nat} {wt : Nat × Nat → Nat → Nat} {S most k : Nat} {met : List (Nat × Nat)} {src : List ((Nat × Nat) × Nat)} {a : Option Addr} {c : Nat} {p : Nat × Nat} (h : SSt w next wt S most met src (.slice a met.length c) W) (hk : met[k]? = some p) : ∃ g, a = some ⟨g, 0, none⟩ ∧ met.length ≤ c ∧ W.cell? ⟨g, k * 2, none⟩ = some (.int .i64 (p.1 : Int)) ∧ W.cell? ⟨g, k * 2 + 1, none⟩ = some (.int .i64 (p.2 : Int)) := by
  have hkl : k < met.length := (List.getElem?_eq_some_iff.1 hk).1
  obtain ⟨h0, ⟨h1, h2⟩ | ⟨g, cap, cur, h1, hg, hb, hn, hcap, hcur, ht⟩⟩ := h.own
  · omega
  · simp only [Value.slice.injEq] at h1
    obtain ⟨rfl, _, rfl⟩ := h1
    obtain ⟨e1, e2⟩ := pl_at met k p hk
    have hx : ∀ (j : Nat) x, (met.flatMap plCells)[j]? = some x → W.cell? ⟨g, j, none⟩ = some x := fun j x hj => by
      rw [← ht] at hj
      have hjl : j < met.length * 2 := by
        have := (List.getElem?_eq_some_iff.1 hj).1
        rw [List.length_take] at this
        omega
      rw [List.getElem?_take_of_lt hjl, Array.getElem?_toList] at hj
      rw [Lib.cell_of_heap hb]
      exact hj
    exact ⟨g, rfl, hn, hx _ _ e1, hx _ _ e2⟩
theorem SSt.start (w : World) (next : Nat → List Nat) (wt : Nat × Nat → Nat → Nat) (S most : Nat) (hS : 1 ≤ S) (W : World) (f : Nat × Nat → Option ((Nat × Nat) × Nat)) (hb : W.heap[w.heap.size]? = some (.cells #[.int .i64 0, .int .i64 0] 113 (0, 0))) (hc : CMap W (w.heap.size + 1) 1 f) (hf : ∀ p, f p = if p = (0, 0) then some ((0, 0), 0) else none) (hbl : Below w.heap.size w W) (hz : w.heap.size + 2 ≤ W.heap.size) :
    SSt w next wt S most [(0, 0)] [((0, 0), 0)] (.slice (some ⟨W.heap.size, 0, none⟩) 1 1) (W.alloc (.cells #[.int .i64 0, .int .i64 0] 113)) := by
  refine ⟨Pr.Met.start next wt S most hS _ rfl, ?_, ⟨f, hc.kept (Below.heap_alloc _ _ _ hc.lt), fun j p hp => ?_, fun p hp => ?_⟩, ⟨rfl, .inr ⟨_, 1, _, rfl, hz, heap_alloc_new _ _, Nat.le_refl _, by unfold maxLen; omega, rfl, rfl⟩⟩, hbl.alloc hbl.size _⟩
  · rw [Below.heap_alloc _ _ _ (by omega)]; exact hb
  · cases j with
    | zero =>
      simp at hp
      subst hp
      rw [hf, if_pos rfl]
      rfl
    | succ j => simp at hp
  · rw [hf, if_neg]
    intro e
    exact hp (by simp [e])
theorem step_small {next : Nat → List Nat} {wt : Nat × Nat → Nat → Nat} {S most i : Nat} {p : Nat × Nat} (hS : S ≤ 4096) (hmo : most ≤ 20) (hi : i < (next p.1).length) (hw : wt p i ≤ most) (hx : ∀ s, s ∈ next p.1 → s < S) : Small (Pr.step next wt p i) := by
  refine ⟨?_, ?_⟩
  · have : (next p.1).getD i 0 < S := hx _ (by rw [List.getD_eq_getElem?_getD, List.getElem?_eq_getElem hi]; exact List.getElem_mem hi)
    show (next p.1).getD i 0 ≤ 100000
    omega
  · show wt p i ≤ 100000
    omega
/-- what the map tells of a place -/
theorem SSt.look {w W : World} {next : Nat → List Nat} {wt : Nat × Nat → Nat → Nat} {S most : Nat} {met : List (Nat × Nat)} {src : List ((Nat × Nat) × Nat)} {v : Value} (h : SSt w next wt S most met src v W) (q : Nat × Nat) (hq : Small q) : ∃ x : (Nat × Nat) × Nat, (Instr.lookup 185 (.map (some (w.heap.size + 1))) (plV q) true).run Tryz.prog W = .ok (.tuple #[stpV x, .bool (decide (q ∈ met))]) W := by
  obtain ⟨f, h1, h2, h3⟩ := h.map
  have h4 := h1.look true q hq
  refine ⟨(f q).getD ((0, 0), 0), h4.trans ?_⟩
  have h5 : (f q).isSome = decide (q ∈ met) := by
    by_cases hm : q ∈ met
    · rw [decide_eq_true hm]
      obtain ⟨j, hj, e⟩ := List.getElem_of_mem hm
      rw [h2 j q (by rw [List.getElem?_eq_getElem hj, e]), List.getElem?_eq_getElem (by rw [h.ok.len]; exact hj)]
      rfl
    · rw [decide_eq_false hm, h3 q hm]
      rfl
  show Result.ok (Value.tuple #[stpV ((f q).getD ((0, 0), 0)), .bool (f q).isSome]) W = _
  rw [h5]
theorem SSt.store {w W : World} {next : Nat → List Nat} {wt : Nat × Nat → Nat → Nat} {S most k i : Nat} {met : List (Nat × Nat)} {src : List ((Nat × Nat) × Nat)} {v : Value} {p : Nat × Nat} (h : SSt w next wt S most met src v W) (hS : S ≤ 4096) (hmo : most ≤ 20) (hk : met[k]? = some p) (hi : i < (next p.1).length) (hw : wt p i ≤ most) (hx : ∀ s, s ∈ next p.1 → s < S) (hn : Pr.step next wt p i ∉ met) :
    ∃ W4, (Instr.mapUpdate 185 (.map (some (w.heap.size + 1))) (plV (Pr.step next wt p i)) (stpV (p, i))).run Tryz.prog W = .ok () W4 ∧ W4.ownsRow (w.heap.size + 2) 113 2 v met.length (met.flatMap plCells) ∧ W.grownBy W4 (some (w.heap.size + 1)) ∧ ∀ (o : Obj) (g cap : Nat) (wC : World), wC.ownsRow (w.heap.size + 2) 113 2 (.slice (some ⟨g, 0, none⟩) (met.length + 1) cap) (met.length + 1) (met.flatMap plCells ++ plCells (Pr.step next wt p i)) → (W4.alloc o).grownBy wC v.ownBlock →
      SSt w next wt S most (met ++ [Pr.step next wt p i]) (src ++ [(p, i)]) (.slice (some ⟨g, 0, none⟩) (met.length + 1) cap) wC ∧ ∀ b, b < W.heap.size → b ≠ w.heap.size + 1 → some b ≠ v.ownBlock → wC.heap[b]? = W.heap[b]? := by
  obtain ⟨f, h1, h2, h3⟩ := h.map
  obtain ⟨W4, hrun, hc4, hg4⟩ := h1.put (by have := h.few hS hmo; omega) (Pr.step next wt p i) (p, i) (step_small hS hmo hi hw hx)
  have hlm := h1.lt
  have hvb : ∀ b, v.ownBlock = some b → w.heap.size + 2 ≤ b := fun b e => (h.own.lt b e).1
  have ho4 := h.own.kept hg4 (.inr (fun e => by have := hvb _ e; omega))
  refine ⟨W4, hrun, ho4, hg4, fun o g cap wC hown hgrow => ?_⟩
  have hsz := hg4.size
  have hold : ∀ b, b < W.heap.size → b ≠ w.heap.size + 1 → some b ≠ v.ownBlock → wC.heap[b]? = W.heap[b]? := fun b hb hne hv => by
    rw [hgrow.block b (by simp; omega) hv, Below.heap_alloc _ _ _ (by omega), hg4.block b hb (fun e => hne (Option.some.inj e))]
  have hlb : w.heap.size < W.heap.size := (Array.getElem?_eq_some_iff.1 h.beg).1
  refine ⟨⟨h.ok.put hk hi hw hx hn, ?_, ⟨fun q => if q = Pr.step next wt p i then some (p, i) else f q, ?_, ?_, ?_⟩, ?_, ?_⟩, hold⟩
  · rw [hold _ hlb (by omega) (fun e => by have := hvb _ e.symm; omega)]; exact h.beg
  · have hm4 : wC.heap[w.heap.size + 1]? = W4.heap[w.heap.size + 1]? := by
      rw [hgrow.block _ (by simp; omega) (fun e => by have := hvb _ e.symm; omega), Below.heap_alloc _ _ _ (by omega)]
    have := hc4.kept hm4
    rw [List.length_append]
    exact this
  · intro j q hq
    dsimp only
    by_cases hjl : j < met.length
    · rw [List.getElem?_append_left hjl] at hq
      have hne : q ≠ Pr.step next wt p i := fun e => hn (e ▸ List.mem_of_getElem? hq)
      rw [List.getElem?_append_left (by rw [h.ok.len]; exact hjl), if_neg hne]
      exact h2 j q hq
    · have hje : j = met.length := by
        have := (List.getElem?_eq_some_iff.1 hq).1
        simp at this
        omega
      subst hje
      rw [List.getElem?_append_right (Nat.le_refl _)] at hq
      simp at hq
      rw [List.getElem?_append_right (by rw [h.ok.len]; exact Nat.le_refl _), h.ok.len, if_pos hq.symm]
      simp
  · intro q hq
    dsimp only
    rw [if_neg (fun e => hq (by simp [e]))]
    exact h3 q (fun hm => hq (List.mem_append_left _ hm))
  · rw [List.length_append, List.flatMap_append]
    simpa using hown
  · have h5 : Below w.heap.size w W4 := h.bel.grown hg4 h.bel.size (fun b e => by cases e; omega)
    exact (h5.alloc h5.size o).grown hgrow (by simp; have := h5.size; omega) (fun b e => by have := hvb b e; omega)
end
section
namespace Pr
/-- of two lists of inputs, the last ones first: is the one shorter, or of like length and less? -/
def SLr : List Nat → List Nat → Prop
  | [], [] => False
  | [], _ :: _ => True
  | _ :: _, [] => False
  | x :: a, y :: b => SLr a b ∨ (a = b ∧ x < y)
theorem slr_irrefl : ∀ a, ¬ SLr a a
  | [], h => h
  | x :: a, h => by
    rcases h with h | ⟨_, h⟩
    · exact slr_irrefl a h
    · omega
theorem slr_trans : ∀ a b c, SLr a b → SLr b c → SLr a c
  | [], [], _, h, _ => h.elim
  | [], _ :: _, [], _, h => h.elim
  | [], _ :: _, _ :: _, _, _ => trivial
  | _ :: _, [], _, h, _ => h.elim
  | _ :: _, _ :: _, [], _, h => h.elim
  | x :: a, y :: b, z :: c, h1, h2 => by
    rcases h1 with h1 | ⟨rfl, h1⟩
    · rcases h2 with h2 | ⟨rfl, h2⟩
      · exact .inl (slr_trans a b c h1 h2)
      · exact .inl h1
    · rcases h2 with h2 | ⟨rfl, h2⟩
      · exact .inl h2
      · exact .inr ⟨rfl, by omega⟩
theorem slr_cons (b : Nat) : ∀ a, SLr a (b :: a)
  | [] => trivial
  | x :: a => .inl (slr_cons x a)
theorem slr_total : ∀ a b, a = b ∨ SLr a b ∨ SLr b a
  | [], [] => .inl rfl
  | [], _ :: _ => .inr (.inl trivial)
  | _ :: _, [] => .inr (.inr trivial)
  | x :: a, y :: b => by
    rcases slr_total a b with rfl | h | h
    · rcases Nat.lt_trichotomy x y with h | rfl | h
      · exact .inr (.inl (.inr ⟨rfl, h⟩))
      · exact .inl rfl
      · exact .inr (.inr (.inr ⟨rfl, h⟩))
    · exact .inr (.inl (.inl h))
    · exact .inr (.inr (.inl h))
theorem slr_of_le {a b c : List Nat} (h : a = b ∨ SLr a b) (h2 : SLr b c) : SLr a c := by
  rcases h with rfl | h
  · exact h2
  · exact slr_trans _ _ _ h h2
theorem le_slr {a b c : List Nat} (h : a = b ∨ SLr a b) (h2 : b = c ∨ SLr b c) : a = c ∨ SLr a c := by
  rcases h2 with rfl | h2
  · exact h
  · exact .inr (slr_of_le h h2)
/-- of two pairs: which is looked at first -/
def lt2 (x y : Nat × Nat) : Prop := x.1 < y.1 ∨ (x.1 = y.1 ∧ x.2 < y.2)
theorem lt2_irrefl (x : Nat × Nat) : ¬ lt2 x x := fun h => by unfold lt2 at h; omega
/-- in which order they were met: behind those that are looked at, up to input n of number k -/
structure Ord (next : Nat → List Nat) (wt : Nat × Nat → Nat → Nat) (most : Nat) (met : List (Nat × Nat)) (src : List ((Nat × Nat) × Nat)) (ks : List (Nat × Nat)) (k n : Nat) : Prop where
  len : ks.length = met.length
  src_ : ∀ (j a b : Nat), 0 < j → ks[j]? = some (a, b) → a < j ∧ ∃ f, met[a]? = some f ∧ src[j]? = some (f, b)
  mono : ∀ (j j' : Nat) x y, 0 < j → j < j' → ks[j]? = some x → ks[j']? = some y → lt2 x y
  low : ∀ (j : Nat) x, 0 < j → ks[j]? = some x → lt2 x (k, n)
  cov : ∀ (a b : Nat) f, lt2 (a, b) (k, n) → met[a]? = some f → b < (next f.1).length → wt f b ≤ most ∧ ∃ j, met[j]? = some (step next wt f b) ∧ (j = 0 ∨ ∃ x, ks[j]? = some x ∧ ¬ lt2 (a, b) x)
theorem Ord.start (next : Nat → List Nat) (wt : Nat × Nat → Nat → Nat) (most : Nat) (src : List ((Nat × Nat) × Nat)) : Ord next wt most [(0, 0)] src [(0, 0)] 0 0 :=
  have none_ : ∀ (j : Nat) x, 0 < j → ([(0, 0)] : List (Nat × Nat))[j]? ≠ some x := fun j x hj h => by
    rw [List.getElem?_eq_none (by simp; omega)] at h; cases h
  ⟨rfl, fun j a b hj h => (none_ j _ hj h).elim, fun j j' x y hj _ h _ => (none_ j _ hj h).elim, fun j x hj h => (none_ j _ hj h).elim, fun a b f h => by unfold lt2 at h; simp at h⟩
theorem Ord.pass {next : Nat → List Nat} {wt : Nat × Nat → Nat → Nat} {most : Nat} {met : List (Nat × Nat)} {src : List ((Nat × Nat) × Nat)} {ks : List (Nat × Nat)} {k n : Nat} {p : Nat × Nat} (h : Ord next wt most met src ks k n) (hp : met[k]? = some p) (hw : wt p n ≤ most) (hm : step next wt p n ∈ met) : Ord next wt most met src ks k (n + 1) := by
  refine ⟨h.len, h.src_, h.mono, fun j x hj hx => ?_, fun a b f hab hf hb => ?_⟩
  · have := h.low j x hj hx
    unfold lt2 at this ⊢
    dsimp only at this ⊢
    omega
  · by_cases e : lt2 (a, b) (k, n)
    · exact h.cov a b f e hf hb
    · have e2 : a = k ∧ b = n := by unfold lt2 at hab e; dsimp only at hab e; omega
      obtain ⟨rfl, rfl⟩ := e2
      rw [hp] at hf
      cases hf
      refine ⟨hw, ?_⟩
      obtain ⟨j, hj, he⟩ := List.getElem_of_mem hm
      refine ⟨j, by rw [List.getElem?_eq_getElem hj, he], ?_⟩
      by_cases h0 : j = 0
      · exact .inl h0
      · have hjk : j < ks.length := by rw [h.len]; exact hj
        refine .inr ⟨_, List.getElem?_eq_getElem hjk, fun hlt => ?_⟩
        have := h.low j _ (by omega) (List.getElem?_eq_getElem hjk)
        unfold lt2 at this hlt
        dsimp only at this hlt
        omega
theorem Ord.put {next : Nat → List Nat} {wt : Nat × Nat → Nat → Nat} {most : Nat} {met : List (Nat × Nat)} {src : List ((Nat × Nat) × Nat)} {ks : List (Nat × Nat)} {k n : Nat} {p : Nat × Nat} (h : Ord next wt most met src ks k n) (hs : src.length = met.length) (hp : met[k]? = some p) (hw : wt p n ≤ most) : Ord next wt most (met ++ [step next wt p n]) (src ++ [(p, n)]) (ks ++ [(k, n)]) k (n + 1) := by
  have hkl : k < met.length := (List.getElem?_eq_some_iff.1 hp).1
  have old : ∀ (j : Nat) x, (ks ++ [(k, n)])[j]? = some x → (j < met.length ∧ ks[j]? = some x) ∨ (j = met.length ∧ x = (k, n)) := fun j x hx => by
    by_cases hj : j < ks.length
    · rw [List.getElem?_append_left hj] at hx
      exact .inl ⟨by rw [← h.len]; exact hj, hx⟩
    · have hj2 := (List.getElem?_eq_some_iff.1 hx).1
      simp at hj2
      have e : j = ks.length := by omega
      subst e
      rw [List.getElem?_append_right (Nat.le_refl _)] at hx
      simp at hx
      exact .inr ⟨h.len, hx.symm⟩
  have hmk : ∀ (j : Nat) x, met[j]? = some x → (met ++ [step next wt p n])[j]? = some x := fun j x hx => by
    rw [List.getElem?_append_left (List.getElem?_eq_some_iff.1 hx).1]; exact hx
  refine ⟨by simp [h.len], ?_, ?_, ?_, ?_⟩
  · intro j a b hj hx
    rcases old j _ hx with ⟨hjl, hx⟩ | ⟨rfl, hx2⟩
    · obtain ⟨h1, f, h2, h3⟩ := h.src_ j a b hj hx
      exact ⟨h1, f, hmk _ _ h2, by rw [List.getElem?_append_left (by rw [hs]; exact hjl)]; exact h3⟩
    · simp only [Prod.mk.injEq] at hx2
      obtain ⟨rfl, rfl⟩ := hx2
      exact ⟨hkl, p, hmk _ _ hp, by rw [← hs, List.getElem?_append_right (Nat.le_refl _)]; simp⟩
  · intro j j' x y hj hjj hx hy
    rcases old j' _ hy with ⟨hjl, hy⟩ | ⟨rfl, rfl⟩
    · rcases old j _ hx with ⟨_, hx⟩ | ⟨rfl, _⟩
      · exact h.mono j j' x y hj hjj hx hy
      · omega
    · rcases old j _ hx with ⟨_, hx⟩ | ⟨rfl, _⟩
      · exact h.low j x hj hx
      · omega
  · intro j x hj hx
    rcases old j _ hx with ⟨_, hx⟩ | ⟨rfl, rfl⟩
    · have := h.low j x hj hx
      unfold lt2 at this ⊢
      dsimp only at this ⊢
      omega
    · unfold lt2
      dsimp only
      omega
  · intro a b f hab hf hb
    by_cases e : lt2 (a, b) (k, n)
    · have hal : a < met.length := by unfold lt2 at e; dsimp only at e; omega
      rw [List.getElem?_append_left hal] at hf
      obtain ⟨h1, j, h2, h3⟩ := h.cov a b f e hf hb
      refine ⟨h1, j, hmk _ _ h2, h3.imp id ?_⟩
      rintro ⟨x, hx, hn⟩
      exact ⟨x, by rw [List.getElem?_append_left (List.getElem?_eq_some_iff.1 hx).1]; exact hx, hn⟩
    · have e2 : a = k ∧ b = n := by unfold lt2 at hab e; dsimp only at hab e; omega
      obtain ⟨rfl, rfl⟩ := e2
      rw [List.getElem?_append_left hkl, hp] at hf
      cases hf
      exact ⟨hw, met.length, by simp, .inr ⟨(a, b), by rw [← h.len]; simp, lt2_irrefl _⟩⟩
theorem Ord.next {next : Nat → List Nat} {wt : Nat × Nat → Nat → Nat} {most : Nat} {met : List (Nat × Nat)} {src : List ((Nat × Nat) × Nat)} {ks : List (Nat × Nat)} {k : Nat} {p : Nat × Nat} (h : Ord next wt most met src ks k (next p.1).length) (hp : met[k]? = some p) : Ord next wt most met src ks (k + 1) 0 := by
  refine ⟨h.len, h.src_, h.mono, fun j x hj hx => ?_, fun a b f hab hf hb => ?_⟩
  · have := h.low j x hj hx
    unfold lt2 at this ⊢
    dsimp only at this ⊢
    omega
  · refine h.cov a b f ?_ hf hb
    by_cases e : a = k
    · subst e
      rw [hp] at hf
      cases hf
      exact .inr ⟨rfl, hb⟩
    · unfold lt2 at hab
      dsimp only at hab
      exact .inl (by show a < k; omega)
/-- each that is met has its way -/
theorem Ord.way {next : Nat → List Nat} {wt : Nat × Nat → Nat → Nat} {most : Nat} {met : List (Nat × Nat)} {src : List ((Nat × Nat) × Nat)} {ks : List (Nat × Nat)} {k n : Nat} (h : Ord next wt most met src ks k n) : ∀ (N j : Nat), j ≤ N → j < met.length → ∃ r, Tr met src j r
  | _, 0, _, _ => ⟨[], rfl⟩
  | 0, j + 1, hj, _ => by omega
  | N + 1, j + 1, hj, hl => by
    have hjk : j + 1 < ks.length := by rw [h.len]; exact hl
    obtain ⟨h1, f, h2, h3⟩ := h.src_ (j + 1) ks[j + 1].1 ks[j + 1].2 (by omega) (List.getElem?_eq_getElem hjk)
    obtain ⟨r, hr⟩ := h.way N ks[j + 1].1 (by omega) (by omega)
    exact ⟨ks[j + 1].2 :: r, by omega, _, f, h1, h2, h3, hr⟩
/-- one's way goes by what the order says -/
theorem Ord.tr {next : Nat → List Nat} {wt : Nat × Nat → Nat → Nat} {most : Nat} {met : List (Nat × Nat)} {src : List ((Nat × Nat) × Nat)} {ks : List (Nat × Nat)} {k n : Nat} (h : Ord next wt most met src ks k n) (hd : met.Nodup) (j : Nat) (r : List Nat) (hj : j < met.length) (hr : Tr met src j r) : (j = 0 ∧ r = []) ∨ ∃ a b q, 0 < j ∧ r = b :: q ∧ ks[j]? = some (a, b) ∧ a < j ∧ Tr met src a q := by
  cases r with
  | nil => exact .inl ⟨hr, rfl⟩
  | cons i q =>
    obtain ⟨h0, c, f, h1, h2, h3, h4⟩ := hr
    have hjk : j < ks.length := by rw [h.len]; exact hj
    obtain ⟨h5, g, h6, h7⟩ := h.src_ j ks[j].1 ks[j].2 h0 (List.getElem?_eq_getElem hjk)
    rw [h3] at h7
    simp only [Option.some.injEq, Prod.mk.injEq] at h7
    obtain ⟨rfl, rfl⟩ := h7
    have hca : c = ks[j].1 := by
      obtain ⟨l1, e1⟩ := List.getElem?_eq_some_iff.1 h2
      obtain ⟨l2, e2⟩ := List.getElem?_eq_some_iff.1 h6
      refine Classical.byContradiction fun hne => ?_
      rcases Nat.lt_or_gt_of_ne hne with hlt | hlt
      · exact (List.pairwise_iff_getElem.1 hd c _ l1 l2 hlt) (e1.trans e2.symm)
      · exact (List.pairwise_iff_getElem.1 hd _ c l2 l1 hlt) (e2.trans e1.symm)
    rw [hca] at h4
    exact .inr ⟨ks[j].1, ks[j].2, q, h0, rfl, List.getElem?_eq_getElem hjk, h5, h4⟩
/-- ways are in order, and there is one of each -/
theorem Ord.sorted {next : Nat → List Nat} {wt : Nat × Nat → Nat → Nat} {most : Nat} {met : List (Nat × Nat)} {src : List ((Nat × Nat) × Nat)} {ks : List (Nat × Nat)} {k n : Nat} (h : Ord next wt most met src ks k n) (hd : met.Nodup) : ∀ (N j j' : Nat) (r r' : List Nat), j' ≤ N → j ≤ j' → j' < met.length → Tr met src j r → Tr met src j' r' → (j = j' → r = r') ∧ (j < j' → SLr r r') := by
  intro N
  induction N with
  | zero =>
    intro j j' r r' h1 h2 h3 h4 h5
    refine ⟨fun _ => ?_, fun hlt => by omega⟩
    rcases h.tr hd j r (by omega) h4 with ⟨_, rfl⟩ | ⟨_, _, _, h6, _⟩
    · rcases h.tr hd j' r' h3 h5 with ⟨_, rfl⟩ | ⟨_, _, _, h6, _⟩
      · rfl
      · omega
    · omega
  | succ N ih =>
    intro j j' r r' h1 h2 h3 h4 h5
    rcases h.tr hd j r (by omega) h4 with ⟨rfl, rfl⟩ | ⟨a, b, q, g1, rfl, g2, g3, g4⟩
    · rcases h.tr hd j' r' h3 h5 with ⟨rfl, rfl⟩ | ⟨a', b', q', g1', rfl, g2', g3', g4'⟩
      · exact ⟨fun _ => rfl, fun hlt => by omega⟩
      · exact ⟨fun e => by omega, fun _ => trivial⟩
    · rcases h.tr hd j' r' h3 h5 with ⟨rfl, rfl⟩ | ⟨a', b', q', g1', rfl, g2', g3', g4'⟩
      · omega
      · refine ⟨fun e => ?_, fun hlt => ?_⟩
        · subst e
          rw [g2] at g2'
          simp only [Option.some.injEq, Prod.mk.injEq] at g2'
          obtain ⟨rfl, rfl⟩ := g2'
          rw [(ih a a q q' (by omega) (Nat.le_refl _) (by omega) g4 g4').1 rfl]
        · have hl := h.mono j j' _ _ g1 hlt g2 g2'
          rcases hl with hl | ⟨hl, hl2⟩
          · exact .inl ((ih a a' q q' (by omega) (Nat.le_of_lt hl) (by omega) g4 g4').2 hl)
          · dsimp only at hl hl2
            subst hl
            exact .inr ⟨(ih a a q q' (by omega) (Nat.le_refl _) (by omega) g4 g4').1 rfl, hl2⟩
/-- what comes ahead of where one looks is met, by a way that is no greater -/
theorem Ord.ahead {next : Nat → List Nat} {wt : Nat × Nat → Nat → Nat} {S most : Nat} {met : List (Nat × Nat)} {src : List ((Nat × Nat) × Nat)} {ks : List (Nat × Nat)} {k n : Nat} {P : List Nat} (h : Ord next wt most met src ks k n) (hm : Met next wt S most met src) (hk : k < met.length) (hP : Tr met src k P) : ∀ (q : List Nat), Fine next wt most (0, 0) q.reverse → SLr q (n :: P) → ∃ j r, met[j]? = some (go next wt (0, 0) q.reverse) ∧ Tr met src j r ∧ (r = q ∨ SLr r q)
  | [], _, _ => ⟨0, [], hm.zero, rfl, .inl rfl⟩
  | b :: q, hf, hs => by
    rw [List.reverse_cons, fine_append] at hf
    obtain ⟨hf1, hf2, hf3, _⟩ := hf
    obtain ⟨j', r', g1, g2, g3⟩ := h.ahead hm hk hP q hf1 (slr_trans _ _ _ (slr_cons b q) hs)
    have hj' : j' < met.length := (List.getElem?_eq_some_iff.1 g1).1
    have hbr : b :: r' = b :: q ∨ SLr (b :: r') (b :: q) := by
      rcases g3 with rfl | g3
      · exact .inl rfl
      · exact .inr (.inl g3)
    have hlt : lt2 (j', b) (k, n) := by
      have h1 := slr_of_le hbr hs
      rcases Nat.lt_trichotomy j' k with hl | rfl | hl
      · exact .inl hl
      · rw [(h.sorted hm.nodup j' j' j' r' P (Nat.le_refl _) (Nat.le_refl _) hj' g2 hP).1 rfl] at h1
        rcases h1 with h1 | ⟨_, h1⟩
        · exact (slr_irrefl _ h1).elim
        · exact .inr ⟨rfl, h1⟩
      · have h2 := (h.sorted hm.nodup j' k j' P r' (Nat.le_refl _) (Nat.le_of_lt hl) hj' hP g2).2 hl
        rcases h1 with h1 | ⟨h1, _⟩
        · exact (slr_irrefl _ (slr_trans _ _ _ h1 h2)).elim
        · rw [h1] at h2; exact (slr_irrefl _ h2).elim
    obtain ⟨_, j, h5, h6⟩ := h.cov j' b _ hlt g1 hf2
    have hj : j < met.length := (List.getElem?_eq_some_iff.1 h5).1
    obtain ⟨r, hr⟩ := h.way j j (Nat.le_refl _) hj
    refine ⟨j, r, ?_, hr, ?_⟩
    · rw [List.reverse_cons, go_append]; exact h5
    · refine le_slr ?_ hbr
      rcases h.tr hm.nodup j r hj hr with ⟨_, rfl⟩ | ⟨a, c, qa, e0, rfl, e1, e2, e3⟩
      · exact .inr trivial
      · rcases h6 with h6 | ⟨x, h6, h7⟩
        · omega
        · rw [e1] at h6
          cases h6
          unfold lt2 at h7
          dsimp only at h7
          by_cases hac : a = j'
          · subst hac
            rw [(h.sorted hm.nodup a a a qa r' (Nat.le_refl _) (Nat.le_refl _) hj' e3 g2).1 rfl]
            by_cases hcb : c = b
            · exact .inl (by rw [hcb])
            · exact .inr (.inr ⟨rfl, by omega⟩)
          · exact .inr (.inl ((h.sorted hm.nodup j' a j' qa r' (Nat.le_refl _) (by omega) hj' e3 g2).2 (by omega)))
/-- the least of those that break -/
def Least (next : Nat → List Nat) (wt : Nat × Nat → Nat → Nat) (most : Nat) (l : List Nat) : Prop := ∀ l', Broke next wt most l' → ¬ SLr l'.reverse l.reverse
theorem Ord.least {next : Nat → List Nat} {wt : Nat × Nat → Nat → Nat} {S most : Nat} {met : List (Nat × Nat)} {src : List ((Nat × Nat) × Nat)} {ks : List (Nat × Nat)} {k n : Nat} {l : List Nat} (h : Ord next wt most met src ks k n) (hm : Met next wt S most met src) (hk : k < met.length) (hP : Tr met src k l.reverse) : Least next wt most (l ++ [n]) := by
  rintro l' ⟨m, i, rfl, h1, h2, h3⟩ hs
  rw [List.reverse_append, List.reverse_append] at hs
  have hs' : SLr (i :: m.reverse) (n :: l.reverse) := hs
  obtain ⟨j, r, g1, g2, g3⟩ := h.ahead hm hk hP m.reverse (by rw [List.reverse_reverse]; exact h1) (slr_trans _ _ _ (slr_cons i _) hs')
  rw [List.reverse_reverse] at g1
  have hj : j < met.length := (List.getElem?_eq_some_iff.1 g1).1
  have hlt : lt2 (j, i) (k, n) := by
    have h4 : SLr (i :: r) (n :: l.reverse) := by
      refine slr_of_le ?_ hs'
      rcases g3 with rfl | g3
      · exact .inl rfl
      · exact .inr (.inl g3)
    rcases Nat.lt_trichotomy j k with hl | rfl | hl
    · exact .inl hl
    · rw [(h.sorted hm.nodup j j j r _ (Nat.le_refl _) (Nat.le_refl _) hj g2 hP).1 rfl] at h4
      rcases h4 with h4 | ⟨_, h4⟩
      · exact (slr_irrefl _ h4).elim
      · exact .inr ⟨rfl, h4⟩
    · have h5 := (h.sorted hm.nodup j k j _ r (Nat.le_refl _) (Nat.le_of_lt hl) hj hP g2).2 hl
      rcases h4 with h4 | ⟨h4, _⟩
      · exact (slr_irrefl _ (slr_trans _ _ _ h4 h5)).elim
      · rw [h4] at h5; exact (slr_irrefl _ h5).elim
  have := (h.cov j i _ hlt g1 h2).1
  omega
/-- there is one least -/
theorem Least.one {next : Nat → List Nat} {wt : Nat × Nat → Nat → Nat} {most : Nat} {l l' : List Nat} (h1 : Broke next wt most l) (h2 : Broke next wt most l') (m1 : Least next wt most l) (m2 : Least next wt most l') : l = l' := by
  rcases slr_total l.reverse l'.reverse with h | h | h
  · exact List.reverse_inj.1 h
  · exact (m2 _ h1 h).elim
  · exact (m1 _ h2 h).elim
end Pr
end
section
open Go.RowKit Go.Maps
/-- a function that tells how long one waits -/
def Waiting (w : World) (S most I : Nat) (f : Value) (wt : Nat × Nat → Nat → Nat) : Prop := ∃ K cap, f = .func (.func K) #[] cap ∧ (∀ args w, (callFunc K args).run Tryz.prog w = .ok (.enter K args) w) ∧ ∀ (p : Nat × Nat) (i : Nat) (W : World), Below w.heap.size w W → p.1 < S → p.2 ≤ most → i < I → Calls Tryz.prog K (#[.agg #[.int .i64 (p.1 : Int), .int .i64 (p.2 : Int)], .int .i64 (i : Int)] ++ cap) W fun e w' => e = .returned (.int .i64 (wt p i : Int)) ∧ Below W.heap.size W w'
/-- what search comes to -/
def Searched (w : World) (next : Nat → List Nat) (wt : Nat × Nat → Nat → Nat) (most : Nat) (e : Ending) (w' : World) : Prop := Below w.heap.size w w' ∧ ((e = .returned (.tuple #[.bool true, .slice none 0 0]) ∧ Pr.Held next wt most) ∨ ∃ l g c, e = .returned (.tuple #[.bool false, .slice (some ⟨g, 0, none⟩) l.length c]) ∧ Pr.Broke next wt most l ∧ Pr.Least next wt most l ∧ w'.ownsRow w.heap.size 3 1 (.slice (some ⟨g, 0, none⟩) l.length c) l.length (l.map natV) ∧ l.length ≤ 100001)
set_option maxHeartbeats 8000000 in
set_option maxRecDepth 100000 in
theorem search_any (bm S I gN most : Nat) (next : Nat → List Nat) (uN : List Nat) (f : Value) (wt : Nat × Nat → Nat → Nat) (w : World) (h : NextAt w bm S I next gN uN) (hS1 : 1 ≤ S) (hS : S ≤ 4096) (hI : I ≤ 64) (hmo : most ≤ 20) (hnl : ∀ s, (next s).length = I) (hnx : ∀ f s, f < S → s ∈ next f → s < S) (hwt : Waiting w S most I f wt) (hwl : ∀ p i, p.2 ≤ most → wt p i ≤ most + 1) :
    Calls Tryz.prog 39 #[.pointer (some ⟨bm, 0, none⟩), .int .i64 (most : Int), f] w (Searched w next wt most) := by
  obtain ⟨i0, hi0, hz0, hz1, hz2⟩ := info_parts Tryz.infoInt
  obtain ⟨i1, hi1, hy0, hy1, hy2⟩ := info_parts Tryz.infoPlace
  have hmf : ∀ (fn : Fn) (first cap : Array Value) (w : World), (Instr.makeFunc fn first cap).run Tryz.prog w = .ok (.func fn first cap) w := fun _ _ _ _ => rfl
  obtain ⟨KF, cap, rfl, hcall, hwt⟩ := hwt
  have hmm := @run_makeMap Tryz.prog
  have HWT := hide hwt
  have HWL := hide hwl
  have HNA := hide h
  have HNL := hide hnl
  have HNX := hide hnx
  obtain ⟨w1, hw1⟩ : ∃ w1, w1 = w.alloc (.cells #[.int .i64 0, .int .i64 0] 113) := ⟨_, rfl⟩
  have hz1' : w1.heap.size = w.heap.size + 1 := by rw [hw1]; simp
  obtain ⟨w3, hrun3, hc3, hg3⟩ := (CMap.made w1).put (by omega) (0, 0) ((0, 0), 0) ⟨Nat.zero_le _, Nat.zero_le _⟩
  have hins : (Instr.mapUpdate 185 (.map (some w1.heap.size)) (.agg #[.int .i64 0, .int .i64 0]) (.agg #[.int .i64 0, .int .i64 0, .int .i64 0])).run Tryz.prog (w1.alloc (.map #[] 0)) = .ok () w3 := hrun3
  have hb1 : Below w.heap.size w w1 := by rw [hw1]; exact (Below.refl _ _).alloc (Nat.le_refl _) _
  have hb2 : Below w.heap.size w (w1.alloc (.map #[] 0)) := hb1.alloc hb1.size _
  have hb3 : Below w.heap.size w w3 := hb2.grown hg3 (by simp; omega) (fun k e => by cases e; omega)
  have hsz3 := hg3.size
  rw [World.size_alloc, hz1'] at hsz3
  have hbeg : w3.heap[w.heap.size]? = some (.cells #[.int .i64 0, .int .i64 0] 113 (0, 0)) := by
    rw [hg3.block _ (by simp; omega) (fun e => by have := Option.some.inj e; omega), Below.heap_alloc _ _ _ (by omega), hw1]
    exact heap_alloc_new _ _
  rw [hz1'] at hc3 hins
  have HS0 := hide (SSt.start w next wt S most hS1 w3 _ hbeg hc3 (fun p => rfl) hb3 hsz3)
  obtain ⟨b0, b1, _, _⟩ := two_cells hbeg
  rw [hw1] at hins
  clear hrun3 hc3 hg3 hb1 hb2 hb3 hbeg hw1 hz1' h hnl hnx hwt hwl
  go_enter Tryz.func39, Tryz.ntmps39
  go_wp2_with fail
  go_loopw [10, 11] (fun v i wr => ∃ k met src a c, i = .int .i64 ((k : Nat) : Int) ∧ v = .slice a met.length c ∧ k ≤ met.length ∧ Hid (SSt w next wt S most met src (.slice a met.length c) wr) ∧ Hid (Pr.Shut next wt most met k ∧ ∃ ks, Pr.Ord next wt most met src ks k 0)) (fun _ i _ => S * (most + 1) - (intOf i).toNat)
  case atStart => exact ⟨0, [(0, 0)], [((0, 0), 0)], some ⟨w3.heap.size, 0, none⟩, 1, rfl, rfl, Nat.zero_le _, HS0.out, fun j p hj => absurd hj (Nat.not_lt_zero _), _, Pr.Ord.start next wt most _⟩
  case round =>
    obtain ⟨k, met, src, a, c, rfl, rfl, hk, HST, HSH⟩ := hrel
    have hfew := HST.out.few hS hmo
    by_cases hlt : k < met.length
    · obtain ⟨p, hp⟩ : ∃ p, met[k]? = some p := ⟨_, List.getElem?_eq_getElem hlt⟩
      obtain ⟨g, rfl, hcap, m0, m1⟩ := HST.out.row hp
      obtain ⟨hpS, hpm⟩ := HST.out.ok.low p (List.mem_of_getElem? hp)
      have hki : (k : Int) < (met.length : Int) := by omega
      obtain ⟨wA, hwA⟩ : ∃ wA, wA = wr.alloc (.cells #[.int .i64 (p.1 : Int), .int .i64 (p.2 : Int)] 113) := ⟨_, rfl⟩
      have hbA : Below wr.heap.size wr wA := by rw [hwA]; exact (Below.refl _ _).alloc (Nat.le_refl _) _
      have HSA := hide (HST.out.below hbA)
      have HNO := hide (nextOf_any bm S I gN p.1 next uN wA (HNA.out.below HSA.out.bel) hpS hS)
      have HP := hide hp
      have HAT : Hid (wA.heap[wr.heap.size]? = some (.cells #[.int .i64 (p.1 : Int), .int .i64 (p.2 : Int)] 113 (0, 0))) := by show wA.heap[_]? = _; rw [hwA]; exact heap_alloc_new _ _
      have HNB : Hid (∀ b, (Value.slice (some ⟨g, 0, none⟩) met.length c).ownBlock = some b → b ≠ wr.heap.size) := fun b e => by have := (HST.out.own.lt b e).2; omega
      obtain ⟨a0, a1, _, _⟩ := two_cells HAT.out
      have hszA : wA.heap.size = wr.heap.size + 1 := by rw [hwA]; simp
      rw [hwA] at HNO a0 a1
      have HWA := hide hwA
      clear hp hbA hwA
      go_wp2_with fail
      refine HNO.out.mono ?_
      rintro e wB ⟨⟨bN, hbN, rfl⟩, hwB⟩
      rw [hwB, ← HWA.out]
      rw [← HWA.out] at a0 a1
      have HBN := hide hbN
      clear hbN hwB HNO m0 m1
      go_wp2_with fail
      obtain ⟨wo, rfl⟩ : ∃ wo, wo = wr := ⟨_, rfl⟩
      have hzo := HST.out.bel.size
      have hmo1 := HST.out.map
      have hlM : w.heap.size + 1 < wo.heap.size := by obtain ⟨_, h1, _⟩ := hmo1; exact h1.lt
      clear hmo1 a0 a1 b0 b1
      go_loopw [10, 39] (fun v x wr => ∃ (i : Nat) (met : List (Nat × Nat)) (src : List ((Nat × Nat) × Nat)) (a : Option Addr) (c : Nat), x = .int .i64 (i : Int) ∧ v = .slice a met.length c ∧ i ≤ I ∧ Hid (SSt w next wt S most met src (.slice a met.length c) wr) ∧ Hid (Pr.Shut next wt most met k ∧ Pr.ShutIn next wt most met p i ∧ met[k]? = some p ∧ ∃ ks, Pr.Ord next wt most met src ks k i) ∧ Hid (wr.heap[wo.heap.size]? = some (.cells #[.int .i64 (p.1 : Int), .int .i64 (p.2 : Int)] 113 (0, 0))) ∧ Hid (∀ b, (Value.slice a met.length c).ownBlock = some b → b ≠ wo.heap.size)) (fun _ x _ => I - (intOf x).toNat)
      case atStart => exact ⟨0, met, src, some ⟨g, 0, none⟩, c, rfl, rfl, Nat.zero_le _, HSA.out, ⟨HSH.out.1, fun j hj => absurd hj (Nat.not_lt_zero _), HP.out, HSH.out.2⟩, HAT.out, HNB.out⟩
      case round =>
        clear HST HSH HP HAT HNB HSA hk hfew hlt hcap hki
        obtain ⟨i, met, src, a, c, rfl, rfl, hi, HST, HSH, HAT, HNB⟩ := hrel
        have hfew := HST.out.few hS hmo
        have hkl : k < met.length := (List.getElem?_eq_some_iff.1 HSH.out.2.2.1).1
        by_cases hiI : i < I
        · have hil : i < (next p.1).length := by rw [HNL.out]; exact hiI
          have hx2 := List.getElem?_eq_getElem hil
          have hxS := HNX.out p.1 _ hpS (List.getElem_mem hil)
          have hstep : Pr.step next wt p i = ((next p.1)[i], wt p i) := by
            unfold Pr.step
            rw [List.getD_eq_getElem?_getD, hx2]
            rfl
          have x0 := (((HNA.out.below HST.out.bel).2.2 p.1 bN HBN.out).2) i _ hx2
          have HXN : Hid (∀ s, s ∈ next p.1 → s < S) := fun s hs => HNX.out p.1 s hpS hs
          have HIL := hide hil
          generalize (next p.1)[i] = x at *
          have HSP := hide hstep
          obtain ⟨a0, a1, _, _⟩ := two_cells HAT.out
          have HCW := hide (HWT.out p i wr HST.out.bel hpS hpm hiI)
          have hii : (i : Int) < (I : Int) := by omega
          have hwle := HWL.out p i hpm
          have haW : wo.heap.size < wr.heap.size := (Array.getElem?_eq_some_iff.1 HAT.out).1
          clear hx2 hstep hil
          go_wp2_with fail
          refine HCW.out.mono ?_
          rintro e wE ⟨rfl, hbE⟩
          obtain ⟨y, hy⟩ : ∃ y, y = wt p i := ⟨_, rfl⟩
          rw [← hy] at hwle HSP ⊢
          have HY := hide hy
          obtain ⟨wT, hwT⟩ : ∃ wT, wT = wE.alloc (.cells #[.int .i64 (x : Int), .int .i64 (y : Int)] 113) := ⟨_, rfl⟩
          have hbT : Below wr.heap.size wr wT := by rw [hwT]; exact hbE.alloc hbE.size _
          have HSW := hide (HST.out.below hbT)
          have HAW := hide ((hbT.block _ haW).trans HAT.out)
          have hTO : wT.heap[wE.heap.size]? = some (.cells #[.int .i64 (x : Int), .int .i64 (y : Int)] 113 (0, 0)) := by rw [hwT]; exact heap_alloc_new _ _
          have HTO := hide hTO
          obtain ⟨d0, d1, _, _⟩ := two_cells hTO
          obtain ⟨a0, a1, _, _⟩ := two_cells HAW.out
          have hzE := hbE.size
          have hzT : wT.heap.size = wE.heap.size + 1 := by rw [hwT]; simp
          obtain ⟨s0, s1, _, _⟩ := two_cells HSW.out.beg
          have HWT2 := hide hwT
          have HBT := hide hbT
          by_cases hym : y ≤ most
          · have hyi : ¬ (most : Int) < (y : Int) := by omega
            have hwm : wt p i ≤ most := by rw [← hy]; exact hym
            obtain ⟨z, hlk⟩ := HSW.out.look _ (step_small hS hmo HIL.out hwm HXN.out)
            rw [HSP.out] at hlk
            obtain ⟨wK, hwK⟩ : ∃ wK, wK = wT.alloc (.cells #[.int .i64 (z.1.1 : Int), .int .i64 (z.1.2 : Int), .int .i64 (z.2 : Int)] 184) := ⟨_, rfl⟩
            have hbK : Below wT.heap.size wT wK := by rw [hwK]; exact (Below.refl _ _).alloc (Nat.le_refl _) _
            have HSK := hide (HSW.out.below hbK)
            have HAK := hide ((hbK.block _ (by omega)).trans HAW.out)
            have HTK := hide ((hbK.block _ (by omega)).trans HTO.out)
            have hzK : wK.heap.size = wT.heap.size + 1 := by rw [hwK]; simp
            have HWK := hide hwK
            unfold plV stpV at hlk
            have HWM := hide hwm
            by_cases hmem : Pr.step next wt p i ∈ met
            · have HMEM := hide hmem
              rw [HSP.out] at hmem
              rw [decide_eq_true hmem] at hlk
              rw [hwT] at hlk d0 d1 a0 a1
              clear hmem hwT hbE hbT hTO hwK hbK hy HCW hwm s0 s1
              go_wp2_with fail
              rw [← HWT2.out]
              rw [← HWK.out]
              exact ⟨⟨i + 1, met, src, a, c, by go_num, rfl, by omega, HSK.out, ⟨HSH.out.1, HSH.out.2.1.pass HWM.out HMEM.out, HSH.out.2.2.1, by obtain ⟨ks, ho⟩ := HSH.out.2.2.2; exact ⟨ks, ho.pass HSH.out.2.2.1 HWM.out HMEM.out⟩⟩, HAK.out, HNB.out⟩, by simp [intOf]; omega⟩
            · obtain ⟨W4, hrun, ho4, hg4, hfin⟩ := HSK.out.store hS hmo HSH.out.2.2.1 HIL.out hwm HXN.out hmem
              rw [HSP.out] at hmem hrun
              rw [decide_eq_false hmem] at hlk
              unfold plV stpV at hrun
              have hz4 := hg4.size
              have hT4 : W4.heap[wE.heap.size]? = some (.cells #[.int .i64 (x : Int), .int .i64 (y : Int)] 113 (0, 0)) := (hg4.block _ (by omega) (fun e => by have := Option.some.inj e; omega)).trans HTK.out
              obtain ⟨e0, e1, _, _⟩ := two_cells hT4
              obtain ⟨q0, q1, _, _⟩ := two_cells HTK.out
              obtain ⟨r0, r1, _, _⟩ := two_cells HAK.out
              have HOWN : Hid (∀ o, (W4.alloc o).ownsRow (w.heap.size + 2) 113 2 (.slice a met.length c) met.length (met.flatMap plCells)) := fun o => ho4.alloc o
              have HONE : Hid (∀ u ∈ [Value.int .i64 (x : Int), Value.int .i64 (y : Int)], u.oneCell' = true) := by
                intro u hu
                simp only [List.mem_cons, List.not_mem_nil, or_false] at hu
                rcases hu with rfl | rfl <;> rfl
              have HFIN : Hid (∀ (o : Obj) (g cap : Nat) (wC : World), wC.ownsRow (w.heap.size + 2) 113 2 (.slice (some ⟨g, 0, none⟩) (met.length + 1) cap) (met.length + 1) (met.flatMap plCells ++ [.int .i64 (x : Int), .int .i64 (y : Int)]) → (W4.alloc o).grownBy wC (Value.slice a met.length c).ownBlock → ((Value.slice a met.length c).ownBlock = some g ∨ g = W4.heap.size + 1) →
                  SSt w next wt S most (met ++ [Pr.step next wt p i]) (src ++ [(p, i)]) (.slice (some ⟨g, 0, none⟩) (met.length + 1) cap) wC ∧ wC.heap[wo.heap.size]? = some (.cells #[.int .i64 (p.1 : Int), .int .i64 (p.2 : Int)] 113 (0, 0)) ∧ g ≠ wo.heap.size) := fun o g cap wC hown hgrow hat => by
                obtain ⟨u1, u2⟩ := hfin o g cap wC (by rw [HSP.out]; exact hown) hgrow
                refine ⟨u1, (u2 _ (by omega) (by omega) (fun e => HNB.out _ e.symm rfl)).trans HAK.out, ?_⟩
                rcases hat with h | h
                · exact HNB.out g h
                · omega
              have HNW : Hid (∀ j u, [Value.int .i64 (x : Int), Value.int .i64 (y : Int)][j]? = some u → (W4.alloc (.cells #[.int .i64 (x : Int), .int .i64 (y : Int)] 113)).cell? ((⟨W4.heap.size, 0, none⟩ : Addr).add j) = some u) := World.news_of_block (heap_alloc_new W4 _)
              rw [HWK.out, HWT2.out] at hrun q0 q1 r0 r1
              rw [hwT] at hlk d0 d1 a0 a1
              have hz4' : w.heap.size + 2 ≤ W4.heap.size := by omega
              clear hmem hwT hbE hbT hTO hwK hbK hy HCW hwm s0 s1 hg4 hfin ho4 hT4 hzK
              go_wp2_with (at_builtin; refine wpList_append_lies _ rfl (.tmp 74) (.tmp 76) 186 rfl (w.heap.size + 2) 113 i1 _ 2 16 Tryz.underlying186 hi1 hy0 hy1 hy2 rfl (by decide) (.slice a met.length c) met.length (met.flatMap plCells) rfl (HOWN.out _) ⟨W4.heap.size, 0, none⟩ 1 1 [.int .i64 (x : Int), .int .i64 (y : Int)] rfl rfl HNW.out HONE.out (by decide) (by unfold maxLen; omega) (by omega) (by simp; omega) (W4.heap.size + 1) (by simp) ?_; intro g2 cap2 wC hown hgrow hat hltg; obtain ⟨hsC, haC, hgC⟩ := HFIN.out _ g2 cap2 wC hown hgrow hat; have HSC := hide hsC; have HAC := hide haC; clear hsC haC hown hgrow hat)
              refine ⟨⟨i + 1, met ++ [Pr.step next wt p i], src ++ [(p, i)], some ⟨g2, 0, none⟩, cap2, by go_num, by simp, by omega, ?_, ⟨HSH.out.1.put (by omega) _, HSH.out.2.1.put HWM.out, ?_, by obtain ⟨ks, ho⟩ := HSH.out.2.2.2; exact ⟨_, ho.put HST.out.ok.len HSH.out.2.2.1 HWM.out⟩⟩, HAC.out, ?_⟩, by simp [intOf]; omega⟩
              · show SSt _ _ _ _ _ _ _ (.slice _ (met ++ [Pr.step next wt p i]).length _) _
                rw [List.length_append]; exact HSC.out
              · rw [List.getElem?_append_left hkl]; exact HSH.out.2.2.1
              · intro b e
                have : g2 = b := Option.some.inj e
                omega
          · have hyi : (most : Int) < (y : Int) := by omega
            obtain ⟨fm, hcm, hfm, _⟩ := HSW.out.map
            have HPA := hide (path_any (w.heap.size + 1) _ S most k next wt met src fm p wT HSW.out.ok hcm (fun j q _ hq => hfm j q hq) HSH.out.2.2.1 hS hmo)
            unfold plV at HPA
            obtain ⟨v0, v1, _, _⟩ := two_cells (HST.out.below hbE).beg
            obtain ⟨n0, n1, _, _⟩ := two_cells ((hbE.block _ haW).trans HAT.out)
            have hlw : w.heap.size < wE.heap.size := by omega
            have hlw2 : wo.heap.size < wE.heap.size := by omega
            rw [hwT] at HPA d0 d1 a0 a1 s0 s1
            clear hwT hbE hbT hTO hcm hfm HCW hy
            go_wp2_with fail
            refine HPA.out.mono ?_
            rw [← HWT2.out]
            rintro e wP ⟨l, la, lc, rfl, hol, hfin, hgo, hll, htr, hbP⟩
            have HOWN : Hid (∀ o, (wP.alloc o).ownsRow wT.heap.size 3 1 (.slice la l.length lc) l.length (l.map natV)) := fun o => hol.alloc o
            have HONE : Hid (∀ u ∈ [Value.int .i64 (i : Int)], u.oneCell' = true) := by
              intro u hu
              simp only [List.mem_cons, List.not_mem_nil, or_false] at hu
              subst hu; rfl
            have HFIN : Hid (∀ (o : Obj) (g cap : Nat) (wC : World), wC.ownsRow wT.heap.size 3 1 (.slice (some ⟨g, 0, none⟩) (l.length + 1) cap) (l.length + 1) (l.map natV ++ [.int .i64 (i : Int)]) → (wP.alloc o).grownBy wC (Value.slice la l.length lc).ownBlock → Searched w next wt most (.returned (.tuple #[.bool false, .slice (some ⟨g, 0, none⟩) (l.length + 1) cap])) wC) := fun o g cap wC hown hgrow => by
              have hb1 : Below w.heap.size w wP := HSW.out.bel.trans (hbP.mono HSW.out.bel.size)
              have hzP := hbP.size
              refine ⟨(hb1.alloc hb1.size o).grown hgrow (by simp; have := hb1.size; omega) (fun b e => by have := (hol.lt b e).1; omega), .inr ⟨l ++ [i], g, cap, by simp, ⟨l, i, rfl, hfin, ?_, ?_⟩, by obtain ⟨ks, ho⟩ := HSH.out.2.2.2; exact ho.least HST.out.ok hkl htr, ?_, by simp; omega⟩⟩
              · rw [hgo]; exact HIL.out
              · rw [hgo, ← HY.out]; omega
              · rw [List.map_append, List.length_append]
                exact own_mono hown (by omega)
            have hzP := hbP.size
            have hlb : l.length ≤ 100000 := by omega
            clear hol hfin hgo hbP htr HPA
            go_wp2_with (at_builtin; refine wpList_append_lies _ rfl (.tmp 57) (.tmp 59) 36 rfl wT.heap.size 3 i0 _ 1 8 Tryz.underlying36 hi0 hz0 hz1 hz2 rfl (by decide) (.slice la l.length lc) l.length (l.map natV) rfl (HOWN.out _) ⟨wP.heap.size, 0, none⟩ 1 1 [.int .i64 (i : Int)] rfl rfl (World.news_of_block (heap_alloc_new wP _)) HONE.out (by decide) (by unfold maxLen; omega) (by omega) (by simp; omega) (wP.heap.size + 1) (by simp) ?_; intro g2 cap2 wC hown hgrow hat hltg; have HSE := hide (HFIN.out _ g2 cap2 wC hown hgrow); clear hown hgrow hat)
            refine bodyPost_ret (results_tmp2 rfl _ _ _) rfl ?_
            exact HSE.out
        · have hiI' : i = I := by omega
          have HSH2 : Hid (Pr.Shut next wt most met (k + 1) ∧ ∃ ks, Pr.Ord next wt most met src ks (k + 1) 0) := by
            refine ⟨HSH.out.1.next HSH.out.2.2.1 (by rw [HNL.out, ← hiI']; exact HSH.out.2.1), ?_⟩
            obtain ⟨ks, ho⟩ := HSH.out.2.2.2
            rw [hiI', ← HNL.out p.1] at ho
            exact ⟨ks, ho.next HSH.out.2.2.1⟩
          have hdn : k < S * (most + 1) := by have := HST.out.ok.few; omega
          go_wp2_with fail
          exact ⟨⟨k + 1, met, src, a, c, by go_num, rfl, by omega, HST.out, HSH2.out⟩, by simp [intOf]; omega⟩
    · have hkl : k = met.length := by omega
      subst hkl
      have HFN : Hid (Searched w next wt most (.returned (.tuple #[.bool true, .slice none 0 0])) wr) := ⟨HST.out.bel, .inl ⟨rfl, Pr.Held.of HST.out.ok HSH.out.1⟩⟩
      go_wp2_with fail
      refine bodyPost_ret (results_tmp2 rfl _ _ _) rfl ?_
      exact HFN.out
end
end Go.Proofs.YtgldbliohpfljaaGreatDoor
