/-
  The walk of package prop's path: back from a place that is met to the first one, by what the map tells. The walks of package prop's waits and nextOf. What stands in memory while package prop searches.
-/
import Derived.Test.YtgdmohombcgjbaaGreatDoorRcNextAll
import Derived.Test.YtgdmohombcgjbaaGreatDoorLdNumberAll
import Derived.Test.YtgdmohombcgjbaaGreatDoorMcCopiedAll
import Derived.Test.YtgdmohombcgjbaaGreatDoorShelf3
import Derived.Laws.StructEq
import Derived.Sort.OwnSortedInts
namespace Go.Proofs.YtgdmohombcgjbaaGreatDoor
section
open Go.RowKit Go.Maps Go.Sort
theorem neq_pl (p q : Nat × Nat) (hp : Small p) (hq : Small q) (w : World) : (binOp BinOp.neq 82 (plV p) (plV q)).run Tryz.prog w = .ok (.bool (!decide (p = q))) w := by
  obtain ⟨r, h1, h2⟩ := run_equal_deep w (P := Tryz.prog) (m := 9) (by decide) (k := 82) (by kernel_rfl) (by kernel_rfl) (key_pl p hp) (key_pl q hq)
  have h3 : r = decide (p = q) := by
    by_cases e : p = q
    · rw [decide_eq_true e]; exact h2.2 (congrArg plK e)
    · rw [decide_eq_false e]
      cases r with
      | false => rfl
      | true => exact absurd (plK_inj hp hq (h2.1 rfl)) e
  have h4 : (Op.equalIn 10000 82 (plV p) (plV q)).run Tryz.prog w = .ok r w := h1
  unfold plV at h4 ⊢
  rw [run_neq_struct, h4, h3]
  rfl
def natV (i : Nat) : Value := .int .i64 (i : Int)
theorem rev_any (base : Nat) (v : Value) (l : List Nat) (w : World) (h : w.ownsRow base 3 1 v l.length (l.map natV)) (hl : l.length ≤ 1000000) :
    Calls Tryz.prog 92 #[v] w fun e w' => e = .returned (.tuple #[]) ∧ w'.ownsRow base 3 1 v l.length (l.reverse.map natV) ∧ w.grownBy w' v.ownBlock := by
  have hm : ∀ l : List Nat, l.map natV = (l.map fun i : Nat => (i : Int)).map (Value.int .i64) := fun l => by rw [List.map_map]; rfl
  rcases h with ⟨h1, ⟨rfl, h2⟩ | ⟨g, cap, cur, rfl, hg, hb, hn, hcap, hcur, ht⟩⟩
  · refine (Tryz.slices_Reverse_int_empty none 0 w).mono ?_
    rintro e w' ⟨rfl, rfl⟩
    have hl0 : l = [] := List.length_eq_zero_iff.1 h2
    subst hl0
    exact ⟨rfl, ⟨rfl, .inl ⟨rfl, rfl⟩⟩, rfl, rfl, rfl, Nat.le_refl _, fun _ _ _ => rfl⟩
  · have hH := holds_of_blockI (ss := l.map fun i : Nat => (i : Int)) hb (by rw [List.length_map, ← hm]; simpa using ht)
    have hc := Tryz.slices_Reverse_int g 0 cap (l.map fun i : Nat => (i : Int)) w hH (by simp; omega)
    rw [List.length_map] at hc
    refine hc.mono ?_
    rintro e w' ⟨rfl, n, rfl⟩
    refine ⟨rfl, ?_, ?_⟩
    · have h3 := ownsRow_sortedI (w := w) (base := base) (g := g) (cap := cap) (n := n) (e := 3) (os := #[]) (cur := cur) (ss := l.map fun i : Nat => (i : Int)) (ts := (l.map fun i : Nat => (i : Int)).reverse) (by simp) hg hb (by simpa using hn) hcap hcur
      rw [grow_empty, List.length_map] at h3
      rw [hm, List.map_reverse]
      exact h3
    · have h3 := grownBy_sortedI (w := w) (g := g) (n := n) (os := #[]) (l.map fun i : Nat => (i : Int)).reverse.toArray
      rw [grow_empty] at h3
      exact h3
@[go_sem] theorem field_by (a b c : Value) (w : World) : (Instr.field 135 (.agg #[a, b, c]) 1).run Tryz.prog w = .ok c w := by kernel_rfl
@[go_sem] theorem field_from (a b c : Value) (w : World) : (Instr.field 135 (.agg #[a, b, c]) 0).run Tryz.prog w = .ok (.agg #[a, b]) w := by kernel_rfl
theorem Met.small {next : Nat → List Nat} {wt : Nat × Nat → Nat → Nat} {S most : Nat} {met : List (Nat × Nat)} {src : List ((Nat × Nat) × Nat)} (hm : Pr.Met next wt S most met src) (hS : S ≤ 4096) (hmo : most ≤ 20) (p : Nat × Nat) (hp : p ∈ met) : Small p := by
  obtain ⟨h1, h2⟩ := hm.low p hp
  exact ⟨by omega, by omega⟩
/-- what path comes to -/
def PthDone (w : World) (next : Nat → List Nat) (wt : Nat × Nat → Nat → Nat) (met : List (Nat × Nat)) (src : List ((Nat × Nat) × Nat)) (most J : Nat) (at_ : Nat × Nat) (e : Ending) (w' : World) : Prop := ∃ l a c, e = .returned (.slice a l.length c) ∧ w'.ownsRow w.heap.size 3 1 (.slice a l.length c) l.length (l.map natV) ∧ Pr.Fine next wt most (0, 0) l ∧ Pr.go next wt (0, 0) l = at_ ∧ l.length ≤ J ∧ Pr.Tr met src J l.reverse ∧ Below w.heap.size w w'
set_option maxHeartbeats 4000000 in
set_option maxRecDepth 100000 in
theorem path_any (bM n S most J : Nat) (next : Nat → List Nat) (wt : Nat × Nat → Nat → Nat) (met : List (Nat × Nat)) (src : List ((Nat × Nat) × Nat)) (f : Nat × Nat → Option ((Nat × Nat) × Nat)) (at_ : Nat × Nat) (w : World) (hm : Pr.Met next wt S most met src) (hc : CMap w bM n f) (hf : ∀ (j : Nat) p, 0 < j → met[j]? = some p → f p = src[j]?) (hJ : met[J]? = some at_) (hS : S ≤ 4096) (hmo : most ≤ 20) :
    Calls Tryz.prog 65 #[.map (some bM), .agg #[.int .i64 0, .int .i64 0], plV at_] w (PthDone w next wt met src most J at_) := by
  obtain ⟨i0, hi0, hz0, hz1, hz2⟩ := info_parts Tryz.infoInt
  have HM := hide hm
  have HC := hide hc
  have HF := hide hf
  have hfew := hm.few
  have hJ2 : J < met.length := (List.getElem?_eq_some_iff.1 hJ).1
  have hSm : S * (most + 1) ≤ 4096 * 21 := Nat.mul_le_mul hS (by omega)
  have hJl : J ≤ 100000 := by omega
  have HW0 : Hid (Pr.Way next wt most met src J at_ J at_ []) := Pr.Way.start hJ
  clear hfew hSm hJ2 hm hc hf hJ
  unfold plV
  go_enter Tryz.func65, Tryz.ntmps65
  go_wp2_with fail
  go_loopw [7] (fun v wr => ∃ j p r a c, v = .slice a r.length c ∧ Hid (Pr.Way next wt most met src J at_ j p r) ∧ Hid (wr.ownsRow (w.heap.size + 2) 3 1 (.slice a r.length c) r.length (r.map natV)) ∧ Hid (wr.heap[w.heap.size]? = some (.cells #[.int .i64 0, .int .i64 0] 82 (0, 0)) ∧ wr.heap[w.heap.size + 1]? = some (.cells #[.int .i64 (p.1 : Int), .int .i64 (p.2 : Int)] 82 (0, 0))) ∧ Hid (Below w.heap.size w wr)) (fun v _ => J - (lenV v))
  case atStart =>
    refine ⟨J, at_, [], none, 0, rfl, HW0.out, World.ownsRow_nil _ _ _ _, ⟨?_, ?_⟩, ?_⟩
    · rw [Below.heap_alloc _ _ _ (by simp)]; exact heap_alloc_new _ _
    · have := heap_alloc_new (w.alloc (.cells #[.int .i64 0, .int .i64 0] 82)) (.cells #[.int .i64 (at_.1 : Int), .int .i64 (at_.2 : Int)] 82)
      rw [World.size_alloc] at this
      exact this
    · exact ((Below.refl _ w).alloc (Nat.le_refl _) _).alloc (by simp) _
  case round =>
    obtain ⟨j, p, r, a, c, rfl, HY, HO, HK, HB⟩ := hrel
    obtain ⟨hk0, hk1⟩ := HK.out
    obtain ⟨b0, b1, _, _⟩ := two_cells hk0
    obtain ⟨t0, t1, t2, t3⟩ := two_cells hk1
    have hps := Met.small HM.out hS hmo p (List.mem_of_getElem? HY.out.here)
    have hcmp := fun W => neq_pl p (0, 0) hps ⟨Nat.zero_le _, Nat.zero_le _⟩ W
    have hfirst := HY.out.first HM.out
    unfold plV at hcmp
    have hrl : r.length ≤ 1000000 := by have := HY.out.few; omega
    have hzr : w.heap.size + 1 < wr.heap.size := (Array.getElem?_eq_some_iff.1 hk1).1
    by_cases hp0 : p = (0, 0)
    · have HR := hide (rev_any (w.heap.size + 2) _ r wr HO.out hrl)
      have HFN : Hid (∀ W, W.ownsRow (w.heap.size + 2) 3 1 (.slice a r.length c) r.length (r.reverse.map natV) → wr.grownBy W (Value.slice a r.length c).ownBlock → PthDone w next wt met src most J at_ (.returned (.slice a r.length c)) W) := fun W h1 h2 => by
        have hf := HY.out.fine
        have hc := HY.out.comes
        rw [hp0] at hf hc
        have hl : r.reverse.length = r.length := List.length_reverse
        refine ⟨r.reverse, a, c, by rw [hl], by rw [hl]; exact own_mono h1 (by omega), hf, hc, by rw [hl]; have := HY.out.few; omega, by rw [List.reverse_reverse]; have h3 := HY.out.tr [] ((HY.out.first HM.out).1 hp0); rwa [List.append_nil] at h3, HB.out.grown h2 HB.out.size (fun k e => ?_)⟩
        have := (HO.out.lt k e).1
        omega
      clear hk0 hk1 hcmp hfirst hps
      go_wp2_with fail
      refine HR.out.mono ?_
      rintro e w1 ⟨rfl, ho1, hg1⟩
      have HE := hide (HFN.out w1 ho1 hg1)
      clear ho1 hg1 HR HFN
      go_wp2_with fail
      go_ret
      exact HE.out
    · have hj0 : 0 < j := Nat.pos_of_ne_zero (fun e => hp0 (hfirst.2 e))
      obtain ⟨⟨fr, i⟩, hsrc⟩ : ∃ x, src[j]? = some x := ⟨_, List.getElem?_eq_getElem (by rw [HM.out.len]; exact (List.getElem?_eq_some_iff.1 HY.out.here).1)⟩
      have HFP : Hid (f p = some (fr, i)) := (HF.out j p hj0 HY.out.here).trans hsrc
      obtain ⟨k, HWK⟩ : ∃ k, Hid (Pr.Way next wt most met src J at_ k fr (r ++ [i])) := HY.out.back HM.out hj0 hsrc
      have HLK : Hid (∀ W, Below w.heap.size w W → (Instr.lookup 136 (.map (some bM)) (.agg #[.int .i64 (p.1 : Int), .int .i64 (p.2 : Int)]) false).run Tryz.prog W = .ok (.agg #[.int .i64 (fr.1 : Int), .int .i64 (fr.2 : Int), .int .i64 (i : Int)]) W) := fun W hW => by
        have h1 := (HC.out.kept (hW.block bM HC.out.lt)).look false p hps
        rw [HFP.out] at h1
        exact h1
      have hlk := HLK.out wr HB.out
      have HOWN : Hid (∀ o, (wr.alloc o).ownsRow (w.heap.size + 2) 3 1 (.slice a r.length c) r.length (r.map natV)) := fun o => HO.out.alloc o
      have HONE : Hid (∀ u ∈ [Value.int .i64 (i : Int)], u.oneCell' = true) := by
        intro u hu
        simp only [List.mem_cons, List.not_mem_nil, or_false] at hu
        subst hu; rfl
      have HFIN : Hid (∀ (o : Obj) (g cap : Nat) (wC : World), wC.ownsRow (w.heap.size + 2) 3 1 (.slice (some ⟨g, 0, none⟩) (r.length + 1) cap) (r.length + 1) (r.map natV ++ [.int .i64 (i : Int)]) → (wr.alloc o).grownBy wC (Value.slice a r.length c).ownBlock →
          wC.ownsRow (w.heap.size + 2) 3 1 (.slice (some ⟨g, 0, none⟩) (r ++ [i]).length cap) (r ++ [i]).length ((r ++ [i]).map natV) ∧ Below w.heap.size w wC ∧ wC.heap[w.heap.size]? = wr.heap[w.heap.size]? ∧ wC.heap[w.heap.size + 1]? = wr.heap[w.heap.size + 1]?) := by
        intro o g cap wC hown hgrow
        have hnb : ∀ k, k < w.heap.size + 2 → some k ≠ (Value.slice a r.length c).ownBlock := fun k hk e => by have := (HO.out.lt k e.symm).1; omega
        refine ⟨?_, (HB.out.alloc HB.out.size o).grown hgrow (by simp; omega) (fun k e => by have := (HO.out.lt k e).1; omega), ?_, ?_⟩
        · rw [List.map_append, List.length_append]; exact hown
        · rw [hgrow.block _ (by simp; omega) (hnb _ (by omega)), Below.heap_alloc _ _ _ (by omega)]
        · rw [hgrow.block _ (by simp; omega) (hnb _ (by omega)), Below.heap_alloc _ _ _ (by omega)]
      have HK0 := hide hk0
      have HK1 := hide hk1
      have hneq : ∀ W, (binOp BinOp.neq 82 (.agg #[.int .i64 (p.1 : Int), .int .i64 (p.2 : Int)]) (.agg #[.int .i64 0, .int .i64 0])).run Tryz.prog W = .ok (.bool true) W := fun W => by
        have h := hcmp W
        rw [decide_eq_false hp0] at h
        exact h
      clear hk0 hk1 hcmp hfirst hps HO hsrc HFP
      go_wp2_with (at_builtin; refine wpList_append_lies _ rfl (.tmp 11) (.tmp 16) 41 rfl (w.heap.size + 2) 3 i0 _ 1 8 Tryz.underlying41 hi0 hz0 hz1 hz2 rfl (by decide) (.slice a r.length c) r.length (r.map natV) rfl (HOWN.out _) ⟨wr.heap.size, 0, none⟩ 1 1 [.int .i64 (i : Int)] rfl rfl (World.news_of_block (heap_alloc_new wr _)) (HONE.out) (by decide) (by unfold maxLen; omega) (by omega) (by simp; omega) (wr.heap.size + 1) (by simp) ?_; intro g2 cap2 wC hown hgrow hat hltg; obtain ⟨hoC, hbC, hC0, hC1⟩ := HFIN.out _ g2 cap2 wC hown hgrow; have hlC := HLK.out wC hbC; have hD1 := hC1.trans HK1.out; have HD1 := hide hD1; obtain ⟨d0, d1, d2, d3⟩ := two_cells hD1)
      have HOC := hide hoC
      have HBC := hide hbC
      have HC0 := hide (hC0.trans HK0.out)
      have hsz := hbC.size
      clear hoC hbC hC0 hC1 hlC hD1 d0 d1 d2 d3 hown hgrow hat hlk hneq
      have HRL : Hid (r.length < J) := by have h1 := HWK.out.few; show r.length < J; simp at h1; omega
      go_roundw
      case rel =>
        have hg : wC.grownBy ((wC.setCell ⟨w.heap.size + 1, 0, none⟩ (.int .i64 (fr.1 : Int))).setCell ⟨w.heap.size + 1, 1, none⟩ (.int .i64 (fr.2 : Int))) (some (w.heap.size + 1)) :=
          ⟨rfl, rfl, rfl, by simp [World.setCell], fun k _ hne => by
            have hk : k ≠ w.heap.size + 1 := fun e => hne (by rw [e])
            rw [heap_setCell_other _ ⟨_, 1, none⟩ k _ hk, heap_setCell_other _ ⟨_, 0, none⟩ k _ hk]⟩
        refine ⟨k, fr, r ++ [i], some ⟨g2, 0, none⟩, cap2, by simp, HWK.out, ?_, ⟨?_, ?_⟩, HBC.out.grown hg HBC.out.size (fun k e => by cases e; omega)⟩
        · exact HOC.out.kept hg (.inr (fun e => by have := (HOC.out.lt (w.heap.size + 1) e).1; omega))
        · rw [heap_setCell_other _ ⟨_, 1, none⟩ _ _ (by show w.heap.size ≠ w.heap.size + 1; omega), heap_setCell_other _ ⟨_, 0, none⟩ _ _ (by show w.heap.size ≠ w.heap.size + 1; omega)]
          exact HC0.out
        · have h := HD1.out
          simp [World.setCell, Array.getElem?_modify, h]
      case measure =>
        have := HRL.out
        simp [lenV]
        omega
end
section
open Go.RowKit
namespace Pr
def waits (ahead : Nat) (asks answers : Bool) : Nat := if answers || (ahead == 0 && !asks) then 0 else ahead + 1
end Pr
set_option maxRecDepth 100000 in
theorem waits_any (n : Nat) (a b : Bool) (w : World) (hn : n ≤ 1000) : Calls Tryz.prog 30 #[.int .i64 (n : Int), .bool a, .bool b] w fun e w' => e = .returned (.int .i64 (Pr.waits n a b : Int)) ∧ w' = w := by
  go_enter Tryz.func30, Tryz.ntmps30
  cases b with
  | true =>
    go_wp2_with fail
    go_ret
    exact ⟨rfl, rfl⟩
  | false =>
    by_cases h0 : n = 0
    · subst h0
      cases a with
      | true =>
        go_wp2_with fail
        go_ret
        exact ⟨rfl, rfl⟩
      | false =>
        go_wp2_with fail
        go_ret
        exact ⟨rfl, rfl⟩
    · have hne : ((n : Int) == 0) = false := by rw [beq_eq_false_iff_ne]; omega
      have hne2 : (n == 0) = false := by rw [beq_eq_false_iff_ne]; exact h0
      have HW : Hid (Pr.waits n a false = n + 1) := by
        show Pr.waits n a false = n + 1
        unfold Pr.waits
        rw [hne2]
        rfl
      go_wp2_with fail
      go_ret
      exact ⟨by rw [HW.out]; simp, rfl⟩
set_option maxRecDepth 100000 in
theorem nextOf_any (bm S I gN s : Nat) (next : Nat → List Nat) (uN : List Nat) (w : World) (h : NextAt w bm S I next gN uN) (hs : s < S) (_hS : S ≤ 4096) : Calls Tryz.prog 64 #[.pointer (some ⟨bm, 0, none⟩), .int .i64 (s : Int)] w fun e w' => (∃ b, uN[s]? = some b ∧ e = .returned (.slice (some ⟨b, 0, none⟩) I I)) ∧ w' = w := by
  obtain ⟨bN, hbN⟩ : ∃ b, uN[s]? = some b := ⟨_, List.getElem?_eq_getElem (by rw [h.2.1]; exact hs)⟩
  have t0 := h.1
  obtain ⟨t1, t2⟩ := h.2.2 s bN hbN
  have HBN := hide hbN
  have hsi : (s : Int) < (S : Int) := by omega
  clear t2 h hbN
  go_enter Tryz.func64, Tryz.ntmps64
  go_wp2_with fail
  go_ret
  exact ⟨⟨bN, HBN.out, rfl⟩, rfl⟩
end
section
open Go.RowKit Go.Maps
theorem Tryz.infoPlace : (Tryz.prog.info? 82).map (fun i => (i.zero, i.size, i.bytes)) = some (some (.agg #[.int .i64 0, .int .i64 0]), 2, 16) := by kernel_rfl
def plCells (p : Nat × Nat) : List Value := [.int .i64 (p.1 : Int), .int .i64 (p.2 : Int)]
theorem pl_len : ∀ (l : List (Nat × Nat)), (l.flatMap plCells).length = l.length * 2
  | [] => rfl
  | _ :: l => by rw [List.flatMap_cons, List.length_append, pl_len l]; simp [plCells]; omega
theorem pl_at : ∀ (l : List (Nat × Nat)) (k : Nat) (p : Nat × Nat), l[k]? = some p → (l.flatMap plCells)[k * 2]? = some (.int .i64 (p.1 : Int)) ∧ (l.flatMap plCells)[k * 2 + 1]? = some (.int .i64 (p.2 : Int))
  | [], _, _, h => by simp at h
  | q :: l, 0, p, h => by
    simp at h
    subst h
    exact ⟨rfl, rfl⟩
  | q :: l, k + 1, p, h => by
    have h1 := pl_at l k p (by simpa using h)
    have e : (k + 1) * 2 = k * 2 + 1 + 1 := by omega
    rw [List.flatMap_cons, e]
    exact h1
structure SSt (w : World) (next : Nat → List Nat) (wt : Nat × Nat → Nat → Nat) (S most : Nat) (met : List (Nat × Nat)) (src : List ((Nat × Nat) × Nat)) (v : Value) (W : World) : Prop where
  ok : Pr.Met next wt S most met src
  beg : W.heap[w.heap.size]? = some (.cells #[.int .i64 0, .int .i64 0] 82 (0, 0))
  map : ∃ f, CMap W (w.heap.size + 1) met.length f ∧ (∀ (j : Nat) p, met[j]? = some p → f p = src[j]?) ∧ ∀ p, p ∉ met → f p = none
  own : W.ownsRow (w.heap.size + 2) 82 2 v met.length (met.flatMap plCells)
  bel : Below w.heap.size w W
theorem SSt.below {w W W' : World} {next : Nat → List Nat} {wt : Nat × Nat → Nat → Nat} {S most : Nat} {met : List (Nat × Nat)} {src : List ((Nat × Nat) × Nat)} {v : Value} (h : SSt w next wt S most met src v W) (hb : Below W.heap.size W W') : SSt w next wt S most met src v W' := by
  obtain ⟨f, h1, h2, h3⟩ := h.map
  exact ⟨h.ok, (hb.block _ (Array.getElem?_eq_some_iff.1 h.beg).1).trans h.beg, ⟨f, h1.kept (hb.block _ h1.lt), h2, h3⟩, own_below h.own hb, h.bel.trans (hb.mono h.bel.size)⟩
theorem SSt.few {w W : World} {next : Nat → List Nat} {wt : Nat × Nat → Nat → Nat} {S most : Nat} {met : List (Nat × Nat)} {src : List ((Nat × Nat) × Nat)} {v : Value} (h : SSt w next wt S most met src v W) (hS : S ≤ 4096) (hmo : most ≤ 20) : met.length ≤ 100000 := by
  have h1 := h.ok.few
  have h2 : S * (most + 1) ≤ 4096 * 21 := Nat.mul_le_mul hS (by omega)
  omega
/-- where the places lie -/
theorem SSt.row {w W : World} {next : Nat → List Nat} {wt : Nat × Nat → Nat → Nat} {S most k : Nat} {met : List (Nat × Nat)} {src : List ((Nat × Nat) × Nat)} {a : Option Addr} {c : Nat} {p : Nat × Nat} (h : SSt w next wt S most met src (.slice a met.length c) W) (hk : met[k]? = some p) : ∃ g, a = some ⟨g, 0, none⟩ ∧ met.length ≤ c ∧ W.cell? ⟨g, k * 2, none⟩ = some (.int .i64 (p.1 : Int)) ∧ W.cell? ⟨g, k * 2 + 1, none⟩ = some (.int .i64 (p.2 : Int)) := by
  have hkl : k < met.length := (List.getElem?_eq_some_iff.1 hk).1
  obtain ⟨h0, ⟨h1, h2⟩ | ⟨g, cap, cur, h1, hg, hb, hn, hcap, hcur, ht⟩⟩ := h.own
  · omega
  · simp only [Value.slice.injEq] at h1
    obtain ⟨rfl, _, rfl⟩ := h1
    obtain ⟨e1, e2⟩ := pl_at met k p hk
    have hx : ∀ (j : Nat) x, (met.flatMap plCells)[j]? = some x → W.cell? ⟨g, j, none⟩ = some x := fun j x hj => by
      rw [← ht] at hj
      have hjl : j < met.length * 2 := by
        have := (List.getElem?_eq_some_iff.1 hj).1
        rw [List.length_take] at this
        omega
      rw [List.getElem?_take_of_lt hjl, Array.getElem?_toList] at hj
      rw [Lib.cell_of_heap hb]
      exact hj
    exact ⟨g, rfl, hn, hx _ _ e1, hx _ _ e2⟩
theorem SSt.start (w : World) (next : Nat → List Nat) (wt : Nat × Nat → Nat → Nat) (S most : Nat) (hS : 1 ≤ S) (W : World) (f : Nat × Nat → Option ((Nat × Nat) × Nat)) (hb : W.heap[w.heap.size]? = some (.cells #[.int .i64 0, .int .i64 0] 82 (0, 0))) (hc : CMap W (w.heap.size + 1) 1 f) (hf : ∀ p, f p = if p = (0, 0) then some ((0, 0), 0) else none) (hbl : Below w.heap.size w W) (hz : w.heap.size + 2 ≤ W.heap.size) :
    SSt w next wt S most [(0, 0)] [((0, 0), 0)] (.slice (some ⟨W.heap.size, 0, none⟩) 1 1) (W.alloc (.cells #[.int .i64 0, .int .i64 0] 82)) := by
  refine ⟨Pr.Met.start next wt S most hS _ rfl, ?_, ⟨f, hc.kept (Below.heap_alloc _ _ _ hc.lt), fun j p hp => ?_, fun p hp => ?_⟩, ⟨rfl, .inr ⟨_, 1, _, rfl, hz, heap_alloc_new _ _, Nat.le_refl _, by unfold maxLen; omega, rfl, rfl⟩⟩, hbl.alloc hbl.size _⟩
  · rw [Below.heap_alloc _ _ _ (by omega)]; exact hb
  · cases j with
    | zero =>
      simp at hp
      subst hp
      rw [hf, if_pos rfl]
      rfl
    | succ j => simp at hp
  · rw [hf, if_neg]
    intro e
    exact hp (by simp [e])
theorem step_small {next : Nat → List Nat} {wt : Nat × Nat → Nat → Nat} {S most i : Nat} {p : Nat × Nat} (hS : S ≤ 4096) (hmo : most ≤ 20) (hi : i < (next p.1).length) (hw : wt p i ≤ most) (hx : ∀ s, s ∈ next p.1 → s < S) : Small (Pr.step next wt p i) := by
  refine ⟨?_, ?_⟩
  · have : (next p.1).getD i 0 < S := hx _ (by rw [List.getD_eq_getElem?_getD, List.getElem?_eq_getElem hi]; exact List.getElem_mem hi)
    show (next p.1).getD i 0 ≤ 100000
    omega
  · show wt p i ≤ 100000
    omega
/-- what the map tells of a place -/
theorem SSt.look {w W : World} {next : Nat → List Nat} {wt : Nat × Nat → Nat → Nat} {S most : Nat} {met : List (Nat × Nat)} {src : List ((Nat × Nat) × Nat)} {v : Value} (h : SSt w next wt S most met src v W) (q : Nat × Nat) (hq : Small q) : ∃ x : (Nat × Nat) × Nat, (Instr.lookup 136 (.map (some (w.heap.size + 1))) (plV q) true).run Tryz.prog W = .ok (.tuple #[stpV x, .bool (decide (q ∈ met))]) W := by
  obtain ⟨f, h1, h2, h3⟩ := h.map
  have h4 := h1.look true q hq
  refine ⟨(f q).getD ((0, 0), 0), h4.trans ?_⟩
  have h5 : (f q).isSome = decide (q ∈ met) := by
    by_cases hm : q ∈ met
    · rw [decide_eq_true hm]
      obtain ⟨j, hj, e⟩ := List.getElem_of_mem hm
      rw [h2 j q (by rw [List.getElem?_eq_getElem hj, e]), List.getElem?_eq_getElem (by rw [h.ok.len]; exact hj)]
      rfl
    · rw [decide_eq_false hm, h3 q hm]
      rfl
  show Result.ok (Value.tuple #[stpV ((f q).getD ((0, 0), 0)), .bool (f q).isSome]) W = _
  rw [h5]
theorem SSt.store {w W : World} {next : Nat → List Nat} {wt : Nat × Nat → Nat → Nat} {S most k i : Nat} {met : List (Nat × Nat)} {src : List ((Nat × Nat) × Nat)} {v : Value} {p : Nat × Nat} (h : SSt w next wt S most met src v W) (hS : S ≤ 4096) (hmo : most ≤ 20) (hk : met[k]? = some p) (hi : i < (next p.1).length) (hw : wt p i ≤ most) (hx : ∀ s, s ∈ next p.1 → s < S) (hn : Pr.step next wt p i ∉ met) :
    ∃ W4, (Instr.mapUpdate 136 (.map (some (w.heap.size + 1))) (plV (Pr.step next wt p i)) (stpV (p, i))).run Tryz.prog W = .ok () W4 ∧ W4.ownsRow (w.heap.size + 2) 82 2 v met.length (met.flatMap plCells) ∧ W.grownBy W4 (some (w.heap.size + 1)) ∧ ∀ (o : Obj) (g cap : Nat) (wC : World), wC.ownsRow (w.heap.size + 2) 82 2 (.slice (some ⟨g, 0, none⟩) (met.length + 1) cap) (met.length + 1) (met.flatMap plCells ++ plCells (Pr.step next wt p i)) → (W4.alloc o).grownBy wC v.ownBlock →
      SSt w next wt S most (met ++ [Pr.step next wt p i]) (src ++ [(p, i)]) (.slice (some ⟨g, 0, none⟩) (met.length + 1) cap) wC ∧ ∀ b, b < W.heap.size → b ≠ w.heap.size + 1 → some b ≠ v.ownBlock → wC.heap[b]? = W.heap[b]? := by
  obtain ⟨f, h1, h2, h3⟩ := h.map
  obtain ⟨W4, hrun, hc4, hg4⟩ := h1.put (by have := h.few hS hmo; omega) (Pr.step next wt p i) (p, i) (step_small hS hmo hi hw hx)
  have hlm := h1.lt
  have hvb : ∀ b, v.ownBlock = some b → w.heap.size + 2 ≤ b := fun b e => (h.own.lt b e).1
  have ho4 := h.own.kept hg4 (.inr (fun e => by have := hvb _ e; omega))
  refine ⟨W4, hrun, ho4, hg4, fun o g cap wC hown hgrow => ?_⟩
  have hsz := hg4.size
  have hold : ∀ b, b < W.heap.size → b ≠ w.heap.size + 1 → some b ≠ v.ownBlock → wC.heap[b]? = W.heap[b]? := fun b hb hne hv => by
    rw [hgrow.block b (by simp; omega) hv, Below.heap_alloc _ _ _ (by omega), hg4.block b hb (fun e => hne (Option.some.inj e))]
  have hlb : w.heap.size < W.heap.size := (Array.getElem?_eq_some_iff.1 h.beg).1
  refine ⟨⟨h.ok.put hk hi hw hx hn, ?_, ⟨fun q => if q = Pr.step next wt p i then some (p, i) else f q, ?_, ?_, ?_⟩, ?_, ?_⟩, hold⟩
  · rw [hold _ hlb (by omega) (fun e => by have := hvb _ e.symm; omega)]; exact h.beg
  · have hm4 : wC.heap[w.heap.size + 1]? = W4.heap[w.heap.size + 1]? := by
      rw [hgrow.block _ (by simp; omega) (fun e => by have := hvb _ e.symm; omega), Below.heap_alloc _ _ _ (by omega)]
    have := hc4.kept hm4
    rw [List.length_append]
    exact this
  · intro j q hq
    dsimp only
    by_cases hjl : j < met.length
    · rw [List.getElem?_append_left hjl] at hq
      have hne : q ≠ Pr.step next wt p i := fun e => hn (e ▸ List.mem_of_getElem? hq)
      rw [List.getElem?_append_left (by rw [h.ok.len]; exact hjl), if_neg hne]
      exact h2 j q hq
    · have hje : j = met.length := by
        have := (List.getElem?_eq_some_iff.1 hq).1
        simp at this
        omega
      subst hje
      rw [List.getElem?_append_right (Nat.le_refl _)] at hq
      simp at hq
      rw [List.getElem?_append_right (by rw [h.ok.len]; exact Nat.le_refl _), h.ok.len, if_pos hq.symm]
      simp
  · intro q hq
    dsimp only
    rw [if_neg (fun e => hq (by simp [e]))]
    exact h3 q (fun hm => hq (List.mem_append_left _ hm))
  · rw [List.length_append, List.flatMap_append]
    simpa using hown
  · have h5 : Below w.heap.size w W4 := h.bel.grown hg4 h.bel.size (fun b e => by cases e; omega)
    exact (h5.alloc h5.size o).grown hgrow (by simp; have := h5.size; omega) (fun b e => by have := hvb b e; omega)
end
end Go.Proofs.YtgdmohombcgjbaaGreatDoor
