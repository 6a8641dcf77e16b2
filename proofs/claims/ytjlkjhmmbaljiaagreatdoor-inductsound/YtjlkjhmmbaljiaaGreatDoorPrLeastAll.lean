/-
  The walk of package prop's path: back from a place that is met to the first one, by what the map tells. A row of inputs that a call has built, as a slice of numbers. The first of a list of bools, the others false. The walks of slices.Index and slices.Contains over bools, and of package induct's within. What package prop's search finds is the least: in plain words.
-/
import Derived.Test.YtjlkjhmmbaljiaaGreatDoorRcNextAll
import Derived.Test.YtjlkjhmmbaljiaaGreatDoorLdTakeNAll
import Derived.Test.YtjlkjhmmbaljiaaGreatDoorMcCopiedAll
import Derived.Test.YtjlkjhmmbaljiaaGreatDoorShelf3
import Derived.Laws.StructEq
import Derived.Sort.OwnSortedInts
import Derived.Test.YtjlkjhmmbaljiaaGreatDoorRcMathAll
namespace Go.Proofs.YtjlkjhmmbaljiaaGreatDoor
section
open Go.RowKit Go.Maps Go.Sort
theorem neq_pl (p q : Nat × Nat) (hp : Small p) (hq : Small q) (w : World) : (binOp BinOp.neq 79 (plV p) (plV q)).run Tryz.prog w = .ok (.bool (!decide (p = q))) w := by
  obtain ⟨r, h1, h2⟩ := run_equal_deep w (P := Tryz.prog) (m := 9) (by decide) (k := 79) (by kernel_rfl) (by kernel_rfl) (key_pl p hp) (key_pl q hq)
  have h3 : r = decide (p = q) := by
    by_cases e : p = q
    · rw [decide_eq_true e]; exact h2.2 (congrArg plK e)
    · rw [decide_eq_false e]
      cases r with
      | false => rfl
      | true => exact absurd (plK_inj hp hq (h2.1 rfl)) e
  have h4 : (Op.equalIn 10000 79 (plV p) (plV q)).run Tryz.prog w = .ok r w := h1
  unfold plV at h4 ⊢
  rw [run_neq_struct, h4, h3]
  rfl
def natV (i : Nat) : Value := .int .i64 (i : Int)
theorem rev_any (base : Nat) (v : Value) (l : List Nat) (w : World) (h : w.ownsRow base 3 1 v l.length (l.map natV)) (hl : l.length ≤ 1000000) :
    Calls Tryz.prog 78 #[v] w fun e w' => e = .returned (.tuple #[]) ∧ w'.ownsRow base 3 1 v l.length (l.reverse.map natV) ∧ w.grownBy w' v.ownBlock := by
  have hm : ∀ l : List Nat, l.map natV = (l.map fun i : Nat => (i : Int)).map (Value.int .i64) := fun l => by rw [List.map_map]; rfl
  rcases h with ⟨h1, ⟨rfl, h2⟩ | ⟨g, cap, cur, rfl, hg, hb, hn, hcap, hcur, ht⟩⟩
  · refine (Tryz.slices_Reverse_int_empty none 0 w).mono ?_
    rintro e w' ⟨rfl, rfl⟩
    have hl0 : l = [] := List.length_eq_zero_iff.1 h2
    subst hl0
    exact ⟨rfl, ⟨rfl, .inl ⟨rfl, rfl⟩⟩, rfl, rfl, rfl, Nat.le_refl _, fun _ _ _ => rfl⟩
  · have hH := holds_of_blockI (ss := l.map fun i : Nat => (i : Int)) hb (by rw [List.length_map, ← hm]; simpa using ht)
    have hc := Tryz.slices_Reverse_int g 0 cap (l.map fun i : Nat => (i : Int)) w hH (by simp; omega)
    rw [List.length_map] at hc
    refine hc.mono ?_
    rintro e w' ⟨rfl, n, rfl⟩
    refine ⟨rfl, ?_, ?_⟩
    · have h3 := ownsRow_sortedI (w := w) (base := base) (g := g) (cap := cap) (n := n) (e := 3) (os := #[]) (cur := cur) (ss := l.map fun i : Nat => (i : Int)) (ts := (l.map fun i : Nat => (i : Int)).reverse) (by simp) hg hb (by simpa using hn) hcap hcur
      rw [grow_empty, List.length_map] at h3
      rw [hm, List.map_reverse]
      exact h3
    · have h3 := grownBy_sortedI (w := w) (g := g) (n := n) (os := #[]) (l.map fun i : Nat => (i : Int)).reverse.toArray
      rw [grow_empty] at h3
      exact h3
@[go_sem] theorem field_by (a b c : Value) (w : World) : (Instr.field 117 (.agg #[a, b, c]) 1).run Tryz.prog w = .ok c w := by kernel_rfl
@[go_sem] theorem field_from (a b c : Value) (w : World) : (Instr.field 117 (.agg #[a, b, c]) 0).run Tryz.prog w = .ok (.agg #[a, b]) w := by kernel_rfl
theorem Met.small {next : Nat → List Nat} {wt : Nat × Nat → Nat → Nat} {S most : Nat} {met : List (Nat × Nat)} {src : List ((Nat × Nat) × Nat)} (hm : Pr.Met next wt S most met src) (hS : S ≤ 4096) (hmo : most ≤ 20) (p : Nat × Nat) (hp : p ∈ met) : Small p := by
  obtain ⟨h1, h2⟩ := hm.low p hp
  exact ⟨by omega, by omega⟩
/-- what path comes to -/
def PthDone (w : World) (next : Nat → List Nat) (wt : Nat × Nat → Nat → Nat) (met : List (Nat × Nat)) (src : List ((Nat × Nat) × Nat)) (most J : Nat) (at_ : Nat × Nat) (e : Ending) (w' : World) : Prop := ∃ l a c, e = .returned (.slice a l.length c) ∧ w'.ownsRow w.heap.size 3 1 (.slice a l.length c) l.length (l.map natV) ∧ Pr.Fine next wt most (0, 0) l ∧ Pr.go next wt (0, 0) l = at_ ∧ l.length ≤ J ∧ Pr.Tr met src J l.reverse ∧ Below w.heap.size w w'
set_option maxHeartbeats 4000000 in
set_option maxRecDepth 100000 in
theorem path_any (bM n S most J : Nat) (next : Nat → List Nat) (wt : Nat × Nat → Nat → Nat) (met : List (Nat × Nat)) (src : List ((Nat × Nat) × Nat)) (f : Nat × Nat → Option ((Nat × Nat) × Nat)) (at_ : Nat × Nat) (w : World) (hm : Pr.Met next wt S most met src) (hc : CMap w bM n f) (hf : ∀ (j : Nat) p, 0 < j → met[j]? = some p → f p = src[j]?) (hJ : met[J]? = some at_) (hS : S ≤ 4096) (hmo : most ≤ 20) :
    Calls Tryz.prog 48 #[.map (some bM), .agg #[.int .i64 0, .int .i64 0], plV at_] w (PthDone w next wt met src most J at_) := by
  obtain ⟨i0, hi0, hz0, hz1, hz2⟩ := info_parts Tryz.infoInt
  have HM := hide hm
  have HC := hide hc
  have HF := hide hf
  have hfew := hm.few
  have hJ2 : J < met.length := (List.getElem?_eq_some_iff.1 hJ).1
  have hSm : S * (most + 1) ≤ 4096 * 21 := Nat.mul_le_mul hS (by omega)
  have hJl : J ≤ 100000 := by omega
  have HW0 : Hid (Pr.Way next wt most met src J at_ J at_ []) := Pr.Way.start hJ
  clear hfew hSm hJ2 hm hc hf hJ
  unfold plV
  go_enter Tryz.func48, Tryz.ntmps48
  go_wp2_with fail
  go_loopw [7] (fun v wr => ∃ j p r a c, v = .slice a r.length c ∧ Hid (Pr.Way next wt most met src J at_ j p r) ∧ Hid (wr.ownsRow (w.heap.size + 2) 3 1 (.slice a r.length c) r.length (r.map natV)) ∧ Hid (wr.heap[w.heap.size]? = some (.cells #[.int .i64 0, .int .i64 0] 79 (0, 0)) ∧ wr.heap[w.heap.size + 1]? = some (.cells #[.int .i64 (p.1 : Int), .int .i64 (p.2 : Int)] 79 (0, 0))) ∧ Hid (Below w.heap.size w wr)) (fun v _ => J - (lenV v))
  case atStart =>
    refine ⟨J, at_, [], none, 0, rfl, HW0.out, World.ownsRow_nil _ _ _ _, ⟨?_, ?_⟩, ?_⟩
    · rw [Below.heap_alloc _ _ _ (by simp)]; exact heap_alloc_new _ _
    · have := heap_alloc_new (w.alloc (.cells #[.int .i64 0, .int .i64 0] 79)) (.cells #[.int .i64 (at_.1 : Int), .int .i64 (at_.2 : Int)] 79)
      rw [World.size_alloc] at this
      exact this
    · exact ((Below.refl _ w).alloc (Nat.le_refl _) _).alloc (by simp) _
  case round =>
    obtain ⟨j, p, r, a, c, rfl, HY, HO, HK, HB⟩ := hrel
    obtain ⟨hk0, hk1⟩ := HK.out
    obtain ⟨b0, b1, _, _⟩ := two_cells hk0
    obtain ⟨t0, t1, t2, t3⟩ := two_cells hk1
    have hps := Met.small HM.out hS hmo p (List.mem_of_getElem? HY.out.here)
    have hcmp := fun W => neq_pl p (0, 0) hps ⟨Nat.zero_le _, Nat.zero_le _⟩ W
    have hfirst := HY.out.first HM.out
    unfold plV at hcmp
    have hrl : r.length ≤ 1000000 := by have := HY.out.few; omega
    have hzr : w.heap.size + 1 < wr.heap.size := (Array.getElem?_eq_some_iff.1 hk1).1
    by_cases hp0 : p = (0, 0)
    · have HR := hide (rev_any (w.heap.size + 2) _ r wr HO.out hrl)
      have HFN : Hid (∀ W, W.ownsRow (w.heap.size + 2) 3 1 (.slice a r.length c) r.length (r.reverse.map natV) → wr.grownBy W (Value.slice a r.length c).ownBlock → PthDone w next wt met src most J at_ (.returned (.slice a r.length c)) W) := fun W h1 h2 => by
        have hf := HY.out.fine
        have hc := HY.out.comes
        rw [hp0] at hf hc
        have hl : r.reverse.length = r.length := List.length_reverse
        refine ⟨r.reverse, a, c, by rw [hl], by rw [hl]; exact own_mono h1 (by omega), hf, hc, by rw [hl]; have := HY.out.few; omega, by rw [List.reverse_reverse]; have h3 := HY.out.tr [] ((HY.out.first HM.out).1 hp0); rwa [List.append_nil] at h3, HB.out.grown h2 HB.out.size (fun k e => ?_)⟩
        have := (HO.out.lt k e).1
        omega
      clear hk0 hk1 hcmp hfirst hps
      go_wp2_with fail
      refine HR.out.mono ?_
      rintro e w1 ⟨rfl, ho1, hg1⟩
      have HE := hide (HFN.out w1 ho1 hg1)
      clear ho1 hg1 HR HFN
      go_wp2_with fail
      go_ret
      exact HE.out
    · have hj0 : 0 < j := Nat.pos_of_ne_zero (fun e => hp0 (hfirst.2 e))
      obtain ⟨⟨fr, i⟩, hsrc⟩ : ∃ x, src[j]? = some x := ⟨_, List.getElem?_eq_getElem (by rw [HM.out.len]; exact (List.getElem?_eq_some_iff.1 HY.out.here).1)⟩
      have HFP : Hid (f p = some (fr, i)) := (HF.out j p hj0 HY.out.here).trans hsrc
      obtain ⟨k, HWK⟩ : ∃ k, Hid (Pr.Way next wt most met src J at_ k fr (r ++ [i])) := HY.out.back HM.out hj0 hsrc
      have HLK : Hid (∀ W, Below w.heap.size w W → (Instr.lookup 118 (.map (some bM)) (.agg #[.int .i64 (p.1 : Int), .int .i64 (p.2 : Int)]) false).run Tryz.prog W = .ok (.agg #[.int .i64 (fr.1 : Int), .int .i64 (fr.2 : Int), .int .i64 (i : Int)]) W) := fun W hW => by
        have h1 := (HC.out.kept (hW.block bM HC.out.lt)).look false p hps
        rw [HFP.out] at h1
        exact h1
      have hlk := HLK.out wr HB.out
      have HOWN : Hid (∀ o, (wr.alloc o).ownsRow (w.heap.size + 2) 3 1 (.slice a r.length c) r.length (r.map natV)) := fun o => HO.out.alloc o
      have HONE : Hid (∀ u ∈ [Value.int .i64 (i : Int)], u.oneCell' = true) := by
        intro u hu
        simp only [List.mem_cons, List.not_mem_nil, or_false] at hu
        subst hu; rfl
      have HFIN : Hid (∀ (o : Obj) (g cap : Nat) (wC : World), wC.ownsRow (w.heap.size + 2) 3 1 (.slice (some ⟨g, 0, none⟩) (r.length + 1) cap) (r.length + 1) (r.map natV ++ [.int .i64 (i : Int)]) → (wr.alloc o).grownBy wC (Value.slice a r.length c).ownBlock →
          wC.ownsRow (w.heap.size + 2) 3 1 (.slice (some ⟨g, 0, none⟩) (r ++ [i]).length cap) (r ++ [i]).length ((r ++ [i]).map natV) ∧ Below w.heap.size w wC ∧ wC.heap[w.heap.size]? = wr.heap[w.heap.size]? ∧ wC.heap[w.heap.size + 1]? = wr.heap[w.heap.size + 1]?) := by
        intro o g cap wC hown hgrow
        have hnb : ∀ k, k < w.heap.size + 2 → some k ≠ (Value.slice a r.length c).ownBlock := fun k hk e => by have := (HO.out.lt k e.symm).1; omega
        refine ⟨?_, (HB.out.alloc HB.out.size o).grown hgrow (by simp; omega) (fun k e => by have := (HO.out.lt k e).1; omega), ?_, ?_⟩
        · rw [List.map_append, List.length_append]; exact hown
        · rw [hgrow.block _ (by simp; omega) (hnb _ (by omega)), Below.heap_alloc _ _ _ (by omega)]
        · rw [hgrow.block _ (by simp; omega) (hnb _ (by omega)), Below.heap_alloc _ _ _ (by omega)]
      have HK0 := hide hk0
      have HK1 := hide hk1
      have hneq : ∀ W, (binOp BinOp.neq 79 (.agg #[.int .i64 (p.1 : Int), .int .i64 (p.2 : Int)]) (.agg #[.int .i64 0, .int .i64 0])).run Tryz.prog W = .ok (.bool true) W := fun W => by
        have h := hcmp W
        rw [decide_eq_false hp0] at h
        exact h
      clear hk0 hk1 hcmp hfirst hps HO hsrc HFP
      go_wp2_with (at_builtin; refine wpList_append_lies _ rfl (.tmp 11) (.tmp 16) 33 rfl (w.heap.size + 2) 3 i0 _ 1 8 Tryz.underlying33 hi0 hz0 hz1 hz2 rfl (by decide) (.slice a r.length c) r.length (r.map natV) rfl (HOWN.out _) ⟨wr.heap.size, 0, none⟩ 1 1 [.int .i64 (i : Int)] rfl rfl (World.news_of_block (heap_alloc_new wr _)) (HONE.out) (by decide) (by unfold maxLen; omega) (by omega) (by simp; omega) (wr.heap.size + 1) (by simp) ?_; intro g2 cap2 wC hown hgrow hat hltg; obtain ⟨hoC, hbC, hC0, hC1⟩ := HFIN.out _ g2 cap2 wC hown hgrow; have hlC := HLK.out wC hbC; have hD1 := hC1.trans HK1.out; have HD1 := hide hD1; obtain ⟨d0, d1, d2, d3⟩ := two_cells hD1)
      have HOC := hide hoC
      have HBC := hide hbC
      have HC0 := hide (hC0.trans HK0.out)
      have hsz := hbC.size
      clear hoC hbC hC0 hC1 hlC hD1 d0 d1 d2 d3 hown hgrow hat hlk hneq
      have HRL : Hid (r.length < J) := by have h1 := HWK.out.few; show r.length < J; simp at h1; omega
      go_roundw
      case rel =>
        have hg : wC.grownBy ((wC.setCell ⟨w.heap.size + 1, 0, none⟩ (.int .i64 (fr.1 : Int))).setCell ⟨w.heap.size + 1, 1, none⟩ (.int .i64 (fr.2 : Int))) (some (w.heap.size + 1)) :=
          ⟨rfl, rfl, rfl, by simp [World.setCell], fun k _ hne => by
            have hk : k ≠ w.heap.size + 1 := fun e => hne (by rw [e])
            rw [heap_setCell_other _ ⟨_, 1, none⟩ k _ hk, heap_setCell_other _ ⟨_, 0, none⟩ k _ hk]⟩
        refine ⟨k, fr, r ++ [i], some ⟨g2, 0, none⟩, cap2, by simp, HWK.out, ?_, ⟨?_, ?_⟩, HBC.out.grown hg HBC.out.size (fun k e => by cases e; omega)⟩
        · exact HOC.out.kept hg (.inr (fun e => by have := (HOC.out.lt (w.heap.size + 1) e).1; omega))
        · rw [heap_setCell_other _ ⟨_, 1, none⟩ _ _ (by show w.heap.size ≠ w.heap.size + 1; omega), heap_setCell_other _ ⟨_, 0, none⟩ _ _ (by show w.heap.size ≠ w.heap.size + 1; omega)]
          exact HC0.out
        · have h := HD1.out
          simp [World.setCell, Array.getElem?_modify, h]
      case measure =>
        have := HRL.out
        simp [lenV]
        omega
end
section
open Go.RowKit
/-- a row of inputs that a call has built, as a slice of numbers -/
theorem ints_own {W : World} {q g n c : Nat} {l : List Nat} (h : W.ownsRow q 3 1 (.slice (some ⟨g, 0, none⟩) n c) n (l.map natV)) (hl : l.length = n) (hb : ∀ i, i ∈ l → i ≤ 1000) : Ints W (.slice (some ⟨g, 0, none⟩) n c) (l.map fun i : Nat => (i : Int)) := by
  rcases h.2 with ⟨hx, _⟩ | ⟨g', cap, cur, hx, _, hcur, hcap, _, _, htk⟩
  · cases hx
  · simp only [Value.slice.injEq, Option.some.injEq, Addr.mk.injEq, true_and, and_true] at hx
    obtain ⟨rfl, rfl⟩ := hx
    refine .inr ⟨g, 0, c, by rw [List.length_map, hl], by rw [List.length_map, hl]; exact hcap, fun k x hx => ?_⟩
    rw [List.getElem?_map, Option.map_eq_some_iff] at hx
    obtain ⟨i, hi, rfl⟩ := hx
    refine ⟨?_, i64_small _ ⟨by omega, by have := hb i (List.mem_of_getElem? hi); omega⟩⟩
    rw [Nat.zero_add]
    exact row_cell hcur htk (by rw [List.getElem?_map, hi]; rfl)
end
section
open Go.RowKit
namespace Rc
/-- the first k of a list, the others false -/
def inTo (l : List Bool) (k : Nat) : List Bool := l.take k ++ List.replicate (l.length - k) false
theorem inTo_len (l : List Bool) (k : Nat) (hk : k ≤ l.length) : (inTo l k).length = l.length := by simp [inTo]; omega
theorem inTo_zero (l : List Bool) : inTo l 0 = List.replicate l.length false := by simp [inTo]
theorem inTo_all (l : List Bool) : inTo l l.length = l := by simp [inTo]
theorem inTo_set (l : List Bool) (k : Nat) (hk : k < l.length) (x : Bool) (hx : l[k]? = some x) : (inTo l k).set k x = inTo l (k + 1) := by
  have h := fill_set (l.take k) false x l.length (by rw [List.length_take]; omega)
  have e : (l.take k).length = k := by rw [List.length_take]; omega
  rw [e] at h
  unfold inTo
  rw [h]
  obtain ⟨_, e2⟩ := List.getElem?_eq_some_iff.1 hx
  rw [List.take_succ_eq_append_getElem hk, e2]
  congr 2
  simp
  omega
theorem inTo_at (l : List Bool) (k : Nat) (hk : k < l.length) : (inTo l k)[k]? = some false := by
  unfold inTo
  rw [List.getElem?_append_right (by rw [List.length_take]; omega), List.getElem?_replicate, if_pos (by rw [List.length_take]; omega)]
end Rc
end
section
open Go.RowKit
set_option maxHeartbeats 2000000 in
set_option maxRecDepth 100000 in
theorem indexB_any (l : List Bool) (x : Bool) (g n cp : Nat) (w : World) (hn : l.length = n) (hn5 : n ≤ 100000) (h : BRow w g l []) :
    Calls Tryz.prog 46 #[.slice (some ⟨g, 0, none⟩) n cp, .bool x] w fun e w' => ∃ r : Int, e = .returned (.int .i64 r) ∧ (0 ≤ r ↔ l.contains x = true) ∧ -1 ≤ r ∧ w' = w := by
  have HR := hide h
  have HN := hide hn
  clear h hn
  go_enter Tryz.func46, Tryz.ntmps46
  go_wp2_with fail
  go_loopw [8] (fun i wr => ∃ k : Nat, k ≤ n ∧ i = .int .i64 (k : Int) ∧ Hid ((l.take k).contains x = false) ∧ Hid (wr = w)) (fun i _ => n - (intOf i).toNat)
  case atStart => exact ⟨0, Nat.zero_le _, rfl, (rfl : ([] : List Bool).contains x = false), (rfl : w = w)⟩
  case round =>
    obtain ⟨k, hk, rfl, HT, HW⟩ := hrel
    obtain rfl := HW.out
    by_cases hlt : k < n
    · have hkl : k < l.length := by rw [HN.out]; exact hlt
      have hx := List.getElem?_eq_getElem hkl
      have c0 := HR.out.cell k _ hx
      have HSU : Hid ((l.take (k + 1)).contains x = (x == l[k])) := by show _ = _; rw [List.take_succ_eq_append_getElem hkl, List.contains_eq_any_beq, List.any_append, ← List.contains_eq_any_beq, HT.out]; simp
      have HMM := hide (List.getElem_mem hkl)
      generalize l[k] = b at *
      clear hx
      cases hp : x == b with
      | true =>
        have e : x = b := by simpa using hp
        subst e
        have HA : Hid (x ∈ l) := HMM.out
        clear hp
        cases x
        all_goals
          go_wp2_with fail
          go_ret
          exact ⟨(k : Int), rfl, ⟨fun _ => HA.out, fun _ => by omega⟩, by omega, rfl⟩
      | false =>
        rw [hp] at HSU
        cases x <;> cases b
        all_goals first
          | (simp at hp; done)
          | (clear hp
             go_wp2_with fail
             go_roundw
             case rel => exact ⟨k + 1, by omega, by go_num, HSU.out, by first | exact trivial | exact (rfl : _ = _)⟩
             case measure => simp [intOf]; omega)
    · have hkn : k = n := by omega
      have HA : Hid (l.contains x = false) := by have := HT.out; rw [List.take_of_length_le (by rw [HN.out]; omega)] at this; exact this
      subst hkn
      go_wp2_with fail
      go_ret
      exact ⟨-1, rfl, ⟨fun h => by omega, fun h => absurd (List.contains_iff_mem.2 h) (by rw [HA.out]; exact Bool.false_ne_true)⟩, by omega, rfl⟩
set_option maxHeartbeats 2000000 in
set_option maxRecDepth 100000 in
theorem containsB_any (l : List Bool) (x : Bool) (g n cp : Nat) (w : World) (hn : l.length = n) (hn5 : n ≤ 100000) (h : BRow w g l []) :
    Calls Tryz.prog 22 #[.slice (some ⟨g, 0, none⟩) n cp, .bool x] w fun e w' => e = .returned (.bool (l.contains x)) ∧ w' = w := by
  have HI := hide (indexB_any l x g n cp w hn hn5 h)
  generalize l.contains x = y at *
  clear hn h
  go_enter Tryz.func22, Tryz.ntmps22
  go_wp2_with fail
  refine HI.out.mono ?_
  rintro e w1 ⟨r, rfl, hr, _, rfl⟩
  have HE : Hid (decide (0 ≤ r) = y) := by show _ = _; cases y <;> simp_all
  clear HI hr
  go_wp2_with fail
  go_ret
  exact ⟨by rw [← HE.out]; rfl, rfl⟩
set_option maxHeartbeats 2000000 in
set_option maxRecDepth 100000 in
theorem iwithin_any (l : List Bool) (g n cp x : Nat) (b : Bool) (w : World) (hn : l.length = n) (h : BRow w g l []) (hx : l[x]? = some b) :
    Calls Tryz.prog 45 #[.slice (some ⟨g, 0, none⟩) n cp, .int .i64 (x : Int)] w fun e w' => e = .returned (.bool b) ∧ w' = w := by
  have hlt : x < n := by rw [← hn]; exact (List.getElem?_eq_some_iff.1 hx).1
  have c0 := h.cell x b hx
  have hxi : (x : Int) < (n : Int) := by omega
  clear h hn hx
  cases b
  all_goals
    go_enter Tryz.func45, Tryz.ntmps45
    go_wp2_with fail
    go_ret
    exact ⟨rfl, rfl⟩
end
section
namespace Pr
/-- of two lists of inputs, the last ones first: is the one shorter, or of like length and less? -/
def SLr : List Nat → List Nat → Prop
  | [], [] => False
  | [], _ :: _ => True
  | _ :: _, [] => False
  | x :: a, y :: b => SLr a b ∨ (a = b ∧ x < y)
theorem slr_irrefl : ∀ a, ¬ SLr a a
  | [], h => h
  | x :: a, h => by
    rcases h with h | ⟨_, h⟩
    · exact slr_irrefl a h
    · omega
theorem slr_trans : ∀ a b c, SLr a b → SLr b c → SLr a c
  | [], [], _, h, _ => h.elim
  | [], _ :: _, [], _, h => h.elim
  | [], _ :: _, _ :: _, _, _ => trivial
  | _ :: _, [], _, h, _ => h.elim
  | _ :: _, _ :: _, [], _, h => h.elim
  | x :: a, y :: b, z :: c, h1, h2 => by
    rcases h1 with h1 | ⟨rfl, h1⟩
    · rcases h2 with h2 | ⟨rfl, h2⟩
      · exact .inl (slr_trans a b c h1 h2)
      · exact .inl h1
    · rcases h2 with h2 | ⟨rfl, h2⟩
      · exact .inl h2
      · exact .inr ⟨rfl, by omega⟩
theorem slr_cons (b : Nat) : ∀ a, SLr a (b :: a)
  | [] => trivial
  | x :: a => .inl (slr_cons x a)
theorem slr_total : ∀ a b, a = b ∨ SLr a b ∨ SLr b a
  | [], [] => .inl rfl
  | [], _ :: _ => .inr (.inl trivial)
  | _ :: _, [] => .inr (.inr trivial)
  | x :: a, y :: b => by
    rcases slr_total a b with rfl | h | h
    · rcases Nat.lt_trichotomy x y with h | rfl | h
      · exact .inr (.inl (.inr ⟨rfl, h⟩))
      · exact .inl rfl
      · exact .inr (.inr (.inr ⟨rfl, h⟩))
    · exact .inr (.inl (.inl h))
    · exact .inr (.inr (.inl h))
theorem slr_of_le {a b c : List Nat} (h : a = b ∨ SLr a b) (h2 : SLr b c) : SLr a c := by
  rcases h with rfl | h
  · exact h2
  · exact slr_trans _ _ _ h h2
theorem le_slr {a b c : List Nat} (h : a = b ∨ SLr a b) (h2 : b = c ∨ SLr b c) : a = c ∨ SLr a c := by
  rcases h2 with rfl | h2
  · exact h
  · exact .inr (slr_of_le h h2)
/-- of two pairs: which is looked at first -/
def lt2 (x y : Nat × Nat) : Prop := x.1 < y.1 ∨ (x.1 = y.1 ∧ x.2 < y.2)
theorem lt2_irrefl (x : Nat × Nat) : ¬ lt2 x x := fun h => by unfold lt2 at h; omega
/-- in which order they were met: behind those that are looked at, up to input n of number k -/
structure Ord (next : Nat → List Nat) (wt : Nat × Nat → Nat → Nat) (most : Nat) (met : List (Nat × Nat)) (src : List ((Nat × Nat) × Nat)) (ks : List (Nat × Nat)) (k n : Nat) : Prop where
  len : ks.length = met.length
  src_ : ∀ (j a b : Nat), 0 < j → ks[j]? = some (a, b) → a < j ∧ ∃ f, met[a]? = some f ∧ src[j]? = some (f, b)
  mono : ∀ (j j' : Nat) x y, 0 < j → j < j' → ks[j]? = some x → ks[j']? = some y → lt2 x y
  low : ∀ (j : Nat) x, 0 < j → ks[j]? = some x → lt2 x (k, n)
  cov : ∀ (a b : Nat) f, lt2 (a, b) (k, n) → met[a]? = some f → b < (next f.1).length → wt f b ≤ most ∧ ∃ j, met[j]? = some (step next wt f b) ∧ (j = 0 ∨ ∃ x, ks[j]? = some x ∧ ¬ lt2 (a, b) x)
theorem Ord.start (next : Nat → List Nat) (wt : Nat × Nat → Nat → Nat) (most : Nat) (src : List ((Nat × Nat) × Nat)) : Ord next wt most [(0, 0)] src [(0, 0)] 0 0 :=
  have none_ : ∀ (j : Nat) x, 0 < j → ([(0, 0)] : List (Nat × Nat))[j]? ≠ some x := fun j x hj h => by
    rw [List.getElem?_eq_none (by simp; omega)] at h; cases h
  ⟨rfl, fun j a b hj h => (none_ j _ hj h).elim, fun j j' x y hj _ h _ => (none_ j _ hj h).elim, fun j x hj h => (none_ j _ hj h).elim, fun a b f h => by unfold lt2 at h; simp at h⟩
theorem Ord.pass {next : Nat → List Nat} {wt : Nat × Nat → Nat → Nat} {most : Nat} {met : List (Nat × Nat)} {src : List ((Nat × Nat) × Nat)} {ks : List (Nat × Nat)} {k n : Nat} {p : Nat × Nat} (h : Ord next wt most met src ks k n) (hp : met[k]? = some p) (hw : wt p n ≤ most) (hm : step next wt p n ∈ met) : Ord next wt most met src ks k (n + 1) := by
  refine ⟨h.len, h.src_, h.mono, fun j x hj hx => ?_, fun a b f hab hf hb => ?_⟩
  · have := h.low j x hj hx
    unfold lt2 at this ⊢
    dsimp only at this ⊢
    omega
  · by_cases e : lt2 (a, b) (k, n)
    · exact h.cov a b f e hf hb
    · have e2 : a = k ∧ b = n := by unfold lt2 at hab e; dsimp only at hab e; omega
      obtain ⟨rfl, rfl⟩ := e2
      rw [hp] at hf
      cases hf
      refine ⟨hw, ?_⟩
      obtain ⟨j, hj, he⟩ := List.getElem_of_mem hm
      refine ⟨j, by rw [List.getElem?_eq_getElem hj, he], ?_⟩
      by_cases h0 : j = 0
      · exact .inl h0
      · have hjk : j < ks.length := by rw [h.len]; exact hj
        refine .inr ⟨_, List.getElem?_eq_getElem hjk, fun hlt => ?_⟩
        have := h.low j _ (by omega) (List.getElem?_eq_getElem hjk)
        unfold lt2 at this hlt
        dsimp only at this hlt
        omega
theorem Ord.put {next : Nat → List Nat} {wt : Nat × Nat → Nat → Nat} {most : Nat} {met : List (Nat × Nat)} {src : List ((Nat × Nat) × Nat)} {ks : List (Nat × Nat)} {k n : Nat} {p : Nat × Nat} (h : Ord next wt most met src ks k n) (hs : src.length = met.length) (hp : met[k]? = some p) (hw : wt p n ≤ most) : Ord next wt most (met ++ [step next wt p n]) (src ++ [(p, n)]) (ks ++ [(k, n)]) k (n + 1) := by
  have hkl : k < met.length := (List.getElem?_eq_some_iff.1 hp).1
  have old : ∀ (j : Nat) x, (ks ++ [(k, n)])[j]? = some x → (j < met.length ∧ ks[j]? = some x) ∨ (j = met.length ∧ x = (k, n)) := fun j x hx => by
    by_cases hj : j < ks.length
    · rw [List.getElem?_append_left hj] at hx
      exact .inl ⟨by rw [← h.len]; exact hj, hx⟩
    · have hj2 := (List.getElem?_eq_some_iff.1 hx).1
      simp at hj2
      have e : j = ks.length := by omega
      subst e
      rw [List.getElem?_append_right (Nat.le_refl _)] at hx
      simp at hx
      exact .inr ⟨h.len, hx.symm⟩
  have hmk : ∀ (j : Nat) x, met[j]? = some x → (met ++ [step next wt p n])[j]? = some x := fun j x hx => by
    rw [List.getElem?_append_left (List.getElem?_eq_some_iff.1 hx).1]; exact hx
  refine ⟨by simp [h.len], ?_, ?_, ?_, ?_⟩
  · intro j a b hj hx
    rcases old j _ hx with ⟨hjl, hx⟩ | ⟨rfl, hx2⟩
    · obtain ⟨h1, f, h2, h3⟩ := h.src_ j a b hj hx
      exact ⟨h1, f, hmk _ _ h2, by rw [List.getElem?_append_left (by rw [hs]; exact hjl)]; exact h3⟩
    · simp only [Prod.mk.injEq] at hx2
      obtain ⟨rfl, rfl⟩ := hx2
      exact ⟨hkl, p, hmk _ _ hp, by rw [← hs, List.getElem?_append_right (Nat.le_refl _)]; simp⟩
  · intro j j' x y hj hjj hx hy
    rcases old j' _ hy with ⟨hjl, hy⟩ | ⟨rfl, rfl⟩
    · rcases old j _ hx with ⟨_, hx⟩ | ⟨rfl, _⟩
      · exact h.mono j j' x y hj hjj hx hy
      · omega
    · rcases old j _ hx with ⟨_, hx⟩ | ⟨rfl, _⟩
      · exact h.low j x hj hx
      · omega
  · intro j x hj hx
    rcases old j _ hx with ⟨_, hx⟩ | ⟨rfl, rfl⟩
    · have := h.low j x hj hx
      unfold lt2 at this ⊢
      dsimp only at this ⊢
      omega
    · unfold lt2
      dsimp only
      omega
  · intro a b f hab hf hb
    by_cases e : lt2 (a, b) (k, n)
    · have hal : a < met.length := by unfold lt2 at e; dsimp only at e; omega
      rw [List.getElem?_append_left hal] at hf
      obtain ⟨h1, j, h2, h3⟩ := h.cov a b f e hf hb
      refine ⟨h1, j, hmk _ _ h2, h3.imp id ?_⟩
      rintro ⟨x, hx, hn⟩
      exact ⟨x, by rw [List.getElem?_append_left (List.getElem?_eq_some_iff.1 hx).1]; exact hx, hn⟩
    · have e2 : a = k ∧ b = n := by unfold lt2 at hab e; dsimp only at hab e; omega
      obtain ⟨rfl, rfl⟩ := e2
      rw [List.getElem?_append_left hkl, hp] at hf
      cases hf
      exact ⟨hw, met.length, by simp, .inr ⟨(a, b), by rw [← h.len]; simp, lt2_irrefl _⟩⟩
theorem Ord.next {next : Nat → List Nat} {wt : Nat × Nat → Nat → Nat} {most : Nat} {met : List (Nat × Nat)} {src : List ((Nat × Nat) × Nat)} {ks : List (Nat × Nat)} {k : Nat} {p : Nat × Nat} (h : Ord next wt most met src ks k (next p.1).length) (hp : met[k]? = some p) : Ord next wt most met src ks (k + 1) 0 := by
  refine ⟨h.len, h.src_, h.mono, fun j x hj hx => ?_, fun a b f hab hf hb => ?_⟩
  · have := h.low j x hj hx
    unfold lt2 at this ⊢
    dsimp only at this ⊢
    omega
  · refine h.cov a b f ?_ hf hb
    by_cases e : a = k
    · subst e
      rw [hp] at hf
      cases hf
      exact .inr ⟨rfl, hb⟩
    · unfold lt2 at hab
      dsimp only at hab
      exact .inl (by show a < k; omega)
/-- each that is met has its way -/
theorem Ord.way {next : Nat → List Nat} {wt : Nat × Nat → Nat → Nat} {most : Nat} {met : List (Nat × Nat)} {src : List ((Nat × Nat) × Nat)} {ks : List (Nat × Nat)} {k n : Nat} (h : Ord next wt most met src ks k n) : ∀ (N j : Nat), j ≤ N → j < met.length → ∃ r, Tr met src j r
  | _, 0, _, _ => ⟨[], rfl⟩
  | 0, j + 1, hj, _ => by omega
  | N + 1, j + 1, hj, hl => by
    have hjk : j + 1 < ks.length := by rw [h.len]; exact hl
    obtain ⟨h1, f, h2, h3⟩ := h.src_ (j + 1) ks[j + 1].1 ks[j + 1].2 (by omega) (List.getElem?_eq_getElem hjk)
    obtain ⟨r, hr⟩ := h.way N ks[j + 1].1 (by omega) (by omega)
    exact ⟨ks[j + 1].2 :: r, by omega, _, f, h1, h2, h3, hr⟩
/-- one's way goes by what the order says -/
theorem Ord.tr {next : Nat → List Nat} {wt : Nat × Nat → Nat → Nat} {most : Nat} {met : List (Nat × Nat)} {src : List ((Nat × Nat) × Nat)} {ks : List (Nat × Nat)} {k n : Nat} (h : Ord next wt most met src ks k n) (hd : met.Nodup) (j : Nat) (r : List Nat) (hj : j < met.length) (hr : Tr met src j r) : (j = 0 ∧ r = []) ∨ ∃ a b q, 0 < j ∧ r = b :: q ∧ ks[j]? = some (a, b) ∧ a < j ∧ Tr met src a q := by
  cases r with
  | nil => exact .inl ⟨hr, rfl⟩
  | cons i q =>
    obtain ⟨h0, c, f, h1, h2, h3, h4⟩ := hr
    have hjk : j < ks.length := by rw [h.len]; exact hj
    obtain ⟨h5, g, h6, h7⟩ := h.src_ j ks[j].1 ks[j].2 h0 (List.getElem?_eq_getElem hjk)
    rw [h3] at h7
    simp only [Option.some.injEq, Prod.mk.injEq] at h7
    obtain ⟨rfl, rfl⟩ := h7
    have hca : c = ks[j].1 := by
      obtain ⟨l1, e1⟩ := List.getElem?_eq_some_iff.1 h2
      obtain ⟨l2, e2⟩ := List.getElem?_eq_some_iff.1 h6
      refine Classical.byContradiction fun hne => ?_
      rcases Nat.lt_or_gt_of_ne hne with hlt | hlt
      · exact (List.pairwise_iff_getElem.1 hd c _ l1 l2 hlt) (e1.trans e2.symm)
      · exact (List.pairwise_iff_getElem.1 hd _ c l2 l1 hlt) (e2.trans e1.symm)
    rw [hca] at h4
    exact .inr ⟨ks[j].1, ks[j].2, q, h0, rfl, List.getElem?_eq_getElem hjk, h5, h4⟩
/-- ways are in order, and there is one of each -/
theorem Ord.sorted {next : Nat → List Nat} {wt : Nat × Nat → Nat → Nat} {most : Nat} {met : List (Nat × Nat)} {src : List ((Nat × Nat) × Nat)} {ks : List (Nat × Nat)} {k n : Nat} (h : Ord next wt most met src ks k n) (hd : met.Nodup) : ∀ (N j j' : Nat) (r r' : List Nat), j' ≤ N → j ≤ j' → j' < met.length → Tr met src j r → Tr met src j' r' → (j = j' → r = r') ∧ (j < j' → SLr r r') := by
  intro N
  induction N with
  | zero =>
    intro j j' r r' h1 h2 h3 h4 h5
    refine ⟨fun _ => ?_, fun hlt => by omega⟩
    rcases h.tr hd j r (by omega) h4 with ⟨_, rfl⟩ | ⟨_, _, _, h6, _⟩
    · rcases h.tr hd j' r' h3 h5 with ⟨_, rfl⟩ | ⟨_, _, _, h6, _⟩
      · rfl
      · omega
    · omega
  | succ N ih =>
    intro j j' r r' h1 h2 h3 h4 h5
    rcases h.tr hd j r (by omega) h4 with ⟨rfl, rfl⟩ | ⟨a, b, q, g1, rfl, g2, g3, g4⟩
    · rcases h.tr hd j' r' h3 h5 with ⟨rfl, rfl⟩ | ⟨a', b', q', g1', rfl, g2', g3', g4'⟩
      · exact ⟨fun _ => rfl, fun hlt => by omega⟩
      · exact ⟨fun e => by omega, fun _ => trivial⟩
    · rcases h.tr hd j' r' h3 h5 with ⟨rfl, rfl⟩ | ⟨a', b', q', g1', rfl, g2', g3', g4'⟩
      · omega
      · refine ⟨fun e => ?_, fun hlt => ?_⟩
        · subst e
          rw [g2] at g2'
          simp only [Option.some.injEq, Prod.mk.injEq] at g2'
          obtain ⟨rfl, rfl⟩ := g2'
          rw [(ih a a q q' (by omega) (Nat.le_refl _) (by omega) g4 g4').1 rfl]
        · have hl := h.mono j j' _ _ g1 hlt g2 g2'
          rcases hl with hl | ⟨hl, hl2⟩
          · exact .inl ((ih a a' q q' (by omega) (Nat.le_of_lt hl) (by omega) g4 g4').2 hl)
          · dsimp only at hl hl2
            subst hl
            exact .inr ⟨(ih a a q q' (by omega) (Nat.le_refl _) (by omega) g4 g4').1 rfl, hl2⟩
/-- what comes ahead of where one looks is met, by a way that is no greater -/
theorem Ord.ahead {next : Nat → List Nat} {wt : Nat × Nat → Nat → Nat} {S most : Nat} {met : List (Nat × Nat)} {src : List ((Nat × Nat) × Nat)} {ks : List (Nat × Nat)} {k n : Nat} {P : List Nat} (h : Ord next wt most met src ks k n) (hm : Met next wt S most met src) (hk : k < met.length) (hP : Tr met src k P) : ∀ (q : List Nat), Fine next wt most (0, 0) q.reverse → SLr q (n :: P) → ∃ j r, met[j]? = some (go next wt (0, 0) q.reverse) ∧ Tr met src j r ∧ (r = q ∨ SLr r q)
  | [], _, _ => ⟨0, [], hm.zero, rfl, .inl rfl⟩
  | b :: q, hf, hs => by
    rw [List.reverse_cons, fine_append] at hf
    obtain ⟨hf1, hf2, hf3, _⟩ := hf
    obtain ⟨j', r', g1, g2, g3⟩ := h.ahead hm hk hP q hf1 (slr_trans _ _ _ (slr_cons b q) hs)
    have hj' : j' < met.length := (List.getElem?_eq_some_iff.1 g1).1
    have hbr : b :: r' = b :: q ∨ SLr (b :: r') (b :: q) := by
      rcases g3 with rfl | g3
      · exact .inl rfl
      · exact .inr (.inl g3)
    have hlt : lt2 (j', b) (k, n) := by
      have h1 := slr_of_le hbr hs
      rcases Nat.lt_trichotomy j' k with hl | rfl | hl
      · exact .inl hl
      · rw [(h.sorted hm.nodup j' j' j' r' P (Nat.le_refl _) (Nat.le_refl _) hj' g2 hP).1 rfl] at h1
        rcases h1 with h1 | ⟨_, h1⟩
        · exact (slr_irrefl _ h1).elim
        · exact .inr ⟨rfl, h1⟩
      · have h2 := (h.sorted hm.nodup j' k j' P r' (Nat.le_refl _) (Nat.le_of_lt hl) hj' hP g2).2 hl
        rcases h1 with h1 | ⟨h1, _⟩
        · exact (slr_irrefl _ (slr_trans _ _ _ h1 h2)).elim
        · rw [h1] at h2; exact (slr_irrefl _ h2).elim
    obtain ⟨_, j, h5, h6⟩ := h.cov j' b _ hlt g1 hf2
    have hj : j < met.length := (List.getElem?_eq_some_iff.1 h5).1
    obtain ⟨r, hr⟩ := h.way j j (Nat.le_refl _) hj
    refine ⟨j, r, ?_, hr, ?_⟩
    · rw [List.reverse_cons, go_append]; exact h5
    · refine le_slr ?_ hbr
      rcases h.tr hm.nodup j r hj hr with ⟨_, rfl⟩ | ⟨a, c, qa, e0, rfl, e1, e2, e3⟩
      · exact .inr trivial
      · rcases h6 with h6 | ⟨x, h6, h7⟩
        · omega
        · rw [e1] at h6
          cases h6
          unfold lt2 at h7
          dsimp only at h7
          by_cases hac : a = j'
          · subst hac
            rw [(h.sorted hm.nodup a a a qa r' (Nat.le_refl _) (Nat.le_refl _) hj' e3 g2).1 rfl]
            by_cases hcb : c = b
            · exact .inl (by rw [hcb])
            · exact .inr (.inr ⟨rfl, by omega⟩)
          · exact .inr (.inl ((h.sorted hm.nodup j' a j' qa r' (Nat.le_refl _) (by omega) hj' e3 g2).2 (by omega)))
/-- the least of those that break -/
def Least (next : Nat → List Nat) (wt : Nat × Nat → Nat → Nat) (most : Nat) (l : List Nat) : Prop := ∀ l', Broke next wt most l' → ¬ SLr l'.reverse l.reverse
theorem Ord.least {next : Nat → List Nat} {wt : Nat × Nat → Nat → Nat} {S most : Nat} {met : List (Nat × Nat)} {src : List ((Nat × Nat) × Nat)} {ks : List (Nat × Nat)} {k n : Nat} {l : List Nat} (h : Ord next wt most met src ks k n) (hm : Met next wt S most met src) (hk : k < met.length) (hP : Tr met src k l.reverse) : Least next wt most (l ++ [n]) := by
  rintro l' ⟨m, i, rfl, h1, h2, h3⟩ hs
  rw [List.reverse_append, List.reverse_append] at hs
  have hs' : SLr (i :: m.reverse) (n :: l.reverse) := hs
  obtain ⟨j, r, g1, g2, g3⟩ := h.ahead hm hk hP m.reverse (by rw [List.reverse_reverse]; exact h1) (slr_trans _ _ _ (slr_cons i _) hs')
  rw [List.reverse_reverse] at g1
  have hj : j < met.length := (List.getElem?_eq_some_iff.1 g1).1
  have hlt : lt2 (j, i) (k, n) := by
    have h4 : SLr (i :: r) (n :: l.reverse) := by
      refine slr_of_le ?_ hs'
      rcases g3 with rfl | g3
      · exact .inl rfl
      · exact .inr (.inl g3)
    rcases Nat.lt_trichotomy j k with hl | rfl | hl
    · exact .inl hl
    · rw [(h.sorted hm.nodup j j j r _ (Nat.le_refl _) (Nat.le_refl _) hj g2 hP).1 rfl] at h4
      rcases h4 with h4 | ⟨_, h4⟩
      · exact (slr_irrefl _ h4).elim
      · exact .inr ⟨rfl, h4⟩
    · have h5 := (h.sorted hm.nodup j k j _ r (Nat.le_refl _) (Nat.le_of_lt hl) hj hP g2).2 hl
      rcases h4 with h4 | ⟨h4, _⟩
      · exact (slr_irrefl _ (slr_trans _ _ _ h4 h5)).elim
      · rw [h4] at h5; exact (slr_irrefl _ h5).elim
  have := (h.cov j i _ hlt g1 h2).1
  omega
/-- there is one least -/
theorem Least.one {next : Nat → List Nat} {wt : Nat × Nat → Nat → Nat} {most : Nat} {l l' : List Nat} (h1 : Broke next wt most l) (h2 : Broke next wt most l') (m1 : Least next wt most l) (m2 : Least next wt most l') : l = l' := by
  rcases slr_total l.reverse l'.reverse with h | h | h
  · exact List.reverse_inj.1 h
  · exact (m2 _ h1 h).elim
  · exact (m1 _ h2 h).elim
end Pr
end
end Go.Proofs.YtjlkjhmmbaljiaaGreatDoor
