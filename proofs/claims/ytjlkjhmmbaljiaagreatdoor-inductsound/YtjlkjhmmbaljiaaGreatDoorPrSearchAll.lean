/-
  What stands in memory while package prop searches. The walk of package prop's search.
-/
import Derived.Test.YtjlkjhmmbaljiaaGreatDoorPrSmallAll
import Derived.Test.YtjlkjhmmbaljiaaGreatDoorPrLeastAll
namespace Go.Proofs.YtjlkjhmmbaljiaaGreatDoor
section
open Go.RowKit Go.Maps
theorem Tryz.infoPlace : (Tryz.prog.info? 79).map (fun i => (i.zero, i.size, i.bytes)) = some (some (.agg #[.int .i64 0, .int .i64 0]), 2, 16) := by kernel_rfl
def plCells (p : Nat × Nat) : List Value := [.int .i64 (p.1 : Int), .int .i64 (p.2 : Int)]
theorem pl_len : ∀ (l : List (Nat × Nat)), (l.flatMap plCells).length = l.length * 2
  | [] => rfl
  | _ :: l => by rw [List.flatMap_cons, List.length_append, pl_len l]; simp [plCells]; omega
theorem pl_at : ∀ (l : List (Nat × Nat)) (k : Nat) (p : Nat × Nat), l[k]? = some p → (l.flatMap plCells)[k * 2]? = some (.int .i64 (p.1 : Int)) ∧ (l.flatMap plCells)[k * 2 + 1]? = some (.int .i64 (p.2 : Int))
  | [], _, _, h => by simp at h
  | q :: l, 0, p, h => by
    simp at h
    subst h
    exact ⟨rfl, rfl⟩
  | q :: l, k + 1, p, h => by
    have h1 := pl_at l k p (by simpa using h)
    have e : (k + 1) * 2 = k * 2 + 1 + 1 := by omega
    rw [List.flatMap_cons, e]
    exact h1
structure SSt (w : World) (next : Nat → List Nat) (wt : Nat × Nat → Nat → Nat) (S most : Nat) (met : List (Nat × Nat)) (src : List ((Nat × Nat) × Nat)) (v : Value) (W : World) : Prop where
  ok : Pr.Met next wt S most met src
  beg : W.heap[w.heap.size]? = some (.cells #[.int .i64 0, .int .i64 0] 79 (0, 0))
  map : ∃ f, CMap W (w.heap.size + 1) met.length f ∧ (∀ (j : Nat) p, met[j]? = some p → f p = src[j]?) ∧ ∀ p, p ∉ met → f p = none
  own : W.ownsRow (w.heap.size + 2) 79 2 v met.length (met.flatMap plCells)
  bel : Below w.heap.size w W
theorem SSt.below {w W W' : World} {next : Nat → List Nat} {wt : Nat × Nat → Nat → Nat} {S most : Nat} {met : List (Nat × Nat)} {src : List ((Nat × Nat) × Nat)} {v : Value} (h : SSt w next wt S most met src v W) (hb : Below W.heap.size W W') : SSt w next wt S most met src v W' := by
  obtain ⟨f, h1, h2, h3⟩ := h.map
  exact ⟨h.ok, (hb.block _ (Array.getElem?_eq_some_iff.1 h.beg).1).trans h.beg, ⟨f, h1.kept (hb.block _ h1.lt), h2, h3⟩, own_below h.own hb, h.bel.trans (hb.mono h.bel.size)⟩
theorem SSt.few {w W : World} {next : Nat → List Nat} {wt : Nat × Nat → Nat → Nat} {S most : Nat} {met : List (Nat × Nat)} {src : List ((Nat × Nat) × Nat)} {v : Value} (h : SSt w next wt S most met src v W) (hS : S ≤ 4096) (hmo : most ≤ 20) : met.length ≤ 100000 := by
  have h1 := h.ok.few
  have h2 : S * (most + 1) ≤ 4096 * 21 := Nat.mul_le_mul hS (by omega)
  omega
/-- where the places lie -/
theorem SSt.row {w W : World} {next : Nat → List Nat} {wt : Nat × Nat → Nat → Nat} {S most k : Nat} {met : List (Nat × Nat)} {src : List ((Nat × Nat) × Nat)} {a : Option Addr} {c : Nat} {p : Nat × Nat} (h : SSt w next wt S most met src (.slice a met.length c) W) (hk : met[k]? = some p) : ∃ g, a = some ⟨g, 0, none⟩ ∧ met.length ≤ c ∧ W.cell? ⟨g, k * 2, none⟩ = some (.int .i64 (p.1 : Int)) ∧ W.cell? ⟨g, k * 2 + 1, none⟩ = some (.int .i64 (p.2 : Int)) := by
  have hkl : k < met.length := (List.getElem?_eq_some_iff.1 hk).1
  obtain ⟨h0, ⟨h1, h2⟩ | ⟨g, cap, cur, h1, hg, hb, hn, hcap, hcur, ht⟩⟩ := h.own
  · omega
  · simp only [Value.slice.injEq] at h1
    obtain ⟨rfl, _, rfl⟩ := h1
    obtain ⟨e1, e2⟩ := pl_at met k p hk
    have hx : ∀ (j : Nat) x, (met.flatMap plCells)[j]? = some x → W.cell? ⟨g, j, none⟩ = some x := fun j x hj => by
      rw [← ht] at hj
      have hjl : j < met.length * 2 := by
        have := (List.getElem?_eq_some_iff.1 hj).1
        rw [List.length_take] at this
        omega
      rw [List.getElem?_take_of_lt hjl, Array.getElem?_toList] at hj
      rw [Lib.cell_of_heap hb]
      exact hj
    exact ⟨g, rfl, hn, hx _ _ e1, hx _ _ e2⟩
theorem SSt.start (w : World) (next : Nat → List Nat) (wt : Nat × Nat → Nat → Nat) (S most : Nat) (hS : 1 ≤ S) (W : World) (f : Nat × Nat → Option ((Nat × Nat) × Nat)) (hb : W.heap[w.heap.size]? = some (.cells #[.int .i64 0, .int .i64 0] 79 (0, 0))) (hc : CMap W (w.heap.size + 1) 1 f) (hf : ∀ p, f p = if p = (0, 0) then some ((0, 0), 0) else none) (hbl : Below w.heap.size w W) (hz : w.heap.size + 2 ≤ W.heap.size) :
    SSt w next wt S most [(0, 0)] [((0, 0), 0)] (.slice (some ⟨W.heap.size, 0, none⟩) 1 1) (W.alloc (.cells #[.int .i64 0, .int .i64 0] 79)) := by
  refine ⟨Pr.Met.start next wt S most hS _ rfl, ?_, ⟨f, hc.kept (Below.heap_alloc _ _ _ hc.lt), fun j p hp => ?_, fun p hp => ?_⟩, ⟨rfl, .inr ⟨_, 1, _, rfl, hz, heap_alloc_new _ _, Nat.le_refl _, by unfold maxLen; omega, rfl, rfl⟩⟩, hbl.alloc hbl.size _⟩
  · rw [Below.heap_alloc _ _ _ (by omega)]; exact hb
  · cases j with
    | zero =>
      simp at hp
      subst hp
      rw [hf, if_pos rfl]
      rfl
    | succ j => simp at hp
  · rw [hf, if_neg]
    intro e
    exact hp (by simp [e])
theorem step_small {next : Nat → List Nat} {wt : Nat × Nat → Nat → Nat} {S most i : Nat} {p : Nat × Nat} (hS : S ≤ 4096) (hmo : most ≤ 20) (hi : i < (next p.1).length) (hw : wt p i ≤ most) (hx : ∀ s, s ∈ next p.1 → s < S) : Small (Pr.step next wt p i) := by
  refine ⟨?_, ?_⟩
  · have : (next p.1).getD i 0 < S := hx _ (by rw [List.getD_eq_getElem?_getD, List.getElem?_eq_getElem hi]; exact List.getElem_mem hi)
    show (next p.1).getD i 0 ≤ 100000
    omega
  · show wt p i ≤ 100000
    omega
/-- what the map tells of a place -/
theorem SSt.look {w W : World} {next : Nat → List Nat} {wt : Nat × Nat → Nat → Nat} {S most : Nat} {met : List (Nat × Nat)} {src : List ((Nat × Nat) × Nat)} {v : Value} (h : SSt w next wt S most met src v W) (q : Nat × Nat) (hq : Small q) : ∃ x : (Nat × Nat) × Nat, (Instr.lookup 118 (.map (some (w.heap.size + 1))) (plV q) true).run Tryz.prog W = .ok (.tuple #[stpV x, .bool (decide (q ∈ met))]) W := by
  obtain ⟨f, h1, h2, h3⟩ := h.map
  have h4 := h1.look true q hq
  refine ⟨(f q).getD ((0, 0), 0), h4.trans ?_⟩
  have h5 : (f q).isSome = decide (q ∈ met) := by
    by_cases hm : q ∈ met
    · rw [decide_eq_true hm]
      obtain ⟨j, hj, e⟩ := List.getElem_of_mem hm
      rw [h2 j q (by rw [List.getElem?_eq_getElem hj, e]), List.getElem?_eq_getElem (by rw [h.ok.len]; exact hj)]
      rfl
    · rw [decide_eq_false hm, h3 q hm]
      rfl
  show Result.ok (Value.tuple #[stpV ((f q).getD ((0, 0), 0)), .bool (f q).isSome]) W = _
  rw [h5]
theorem SSt.store {w W : World} {next : Nat → List Nat} {wt : Nat × Nat → Nat → Nat} {S most k i : Nat} {met : List (Nat × Nat)} {src : List ((Nat × Nat) × Nat)} {v : Value} {p : Nat × Nat} (h : SSt w next wt S most met src v W) (hS : S ≤ 4096) (hmo : most ≤ 20) (hk : met[k]? = some p) (hi : i < (next p.1).length) (hw : wt p i ≤ most) (hx : ∀ s, s ∈ next p.1 → s < S) (hn : Pr.step next wt p i ∉ met) :
    ∃ W4, (Instr.mapUpdate 118 (.map (some (w.heap.size + 1))) (plV (Pr.step next wt p i)) (stpV (p, i))).run Tryz.prog W = .ok () W4 ∧ W4.ownsRow (w.heap.size + 2) 79 2 v met.length (met.flatMap plCells) ∧ W.grownBy W4 (some (w.heap.size + 1)) ∧ ∀ (o : Obj) (g cap : Nat) (wC : World), wC.ownsRow (w.heap.size + 2) 79 2 (.slice (some ⟨g, 0, none⟩) (met.length + 1) cap) (met.length + 1) (met.flatMap plCells ++ plCells (Pr.step next wt p i)) → (W4.alloc o).grownBy wC v.ownBlock →
      SSt w next wt S most (met ++ [Pr.step next wt p i]) (src ++ [(p, i)]) (.slice (some ⟨g, 0, none⟩) (met.length + 1) cap) wC ∧ ∀ b, b < W.heap.size → b ≠ w.heap.size + 1 → some b ≠ v.ownBlock → wC.heap[b]? = W.heap[b]? := by
  obtain ⟨f, h1, h2, h3⟩ := h.map
  obtain ⟨W4, hrun, hc4, hg4⟩ := h1.put (by have := h.few hS hmo; omega) (Pr.step next wt p i) (p, i) (step_small hS hmo hi hw hx)
  have hlm := h1.lt
  have hvb : ∀ b, v.ownBlock = some b → w.heap.size + 2 ≤ b := fun b e => (h.own.lt b e).1
  have ho4 := h.own.kept hg4 (.inr (fun e => by have := hvb _ e; omega))
  refine ⟨W4, hrun, ho4, hg4, fun o g cap wC hown hgrow => ?_⟩
  have hsz := hg4.size
  have hold : ∀ b, b < W.heap.size → b ≠ w.heap.size + 1 → some b ≠ v.ownBlock → wC.heap[b]? = W.heap[b]? := fun b hb hne hv => by
    rw [hgrow.block b (by simp; omega) hv, Below.heap_alloc _ _ _ (by omega), hg4.block b hb (fun e => hne (Option.some.inj e))]
  have hlb : w.heap.size < W.heap.size := (Array.getElem?_eq_some_iff.1 h.beg).1
  refine ⟨⟨h.ok.put hk hi hw hx hn, ?_, ⟨fun q => if q = Pr.step next wt p i then some (p, i) else f q, ?_, ?_, ?_⟩, ?_, ?_⟩, hold⟩
  · rw [hold _ hlb (by omega) (fun e => by have := hvb _ e.symm; omega)]; exact h.beg
  · have hm4 : wC.heap[w.heap.size + 1]? = W4.heap[w.heap.size + 1]? := by
      rw [hgrow.block _ (by simp; omega) (fun e => by have := hvb _ e.symm; omega), Below.heap_alloc _ _ _ (by omega)]
    have := hc4.kept hm4
    rw [List.length_append]
    exact this
  · intro j q hq
    dsimp only
    by_cases hjl : j < met.length
    · rw [List.getElem?_append_left hjl] at hq
      have hne : q ≠ Pr.step next wt p i := fun e => hn (e ▸ List.mem_of_getElem? hq)
      rw [List.getElem?_append_left (by rw [h.ok.len]; exact hjl), if_neg hne]
      exact h2 j q hq
    · have hje : j = met.length := by
        have := (List.getElem?_eq_some_iff.1 hq).1
        simp at this
        omega
      subst hje
      rw [List.getElem?_append_right (Nat.le_refl _)] at hq
      simp at hq
      rw [List.getElem?_append_right (by rw [h.ok.len]; exact Nat.le_refl _), h.ok.len, if_pos hq.symm]
      simp
  · intro q hq
    dsimp only
    rw [if_neg (fun e => hq (by simp [e]))]
    exact h3 q (fun hm => hq (List.mem_append_left _ hm))
  · rw [List.length_append, List.flatMap_append]
    simpa using hown
  · have h5 : Below w.heap.size w W4 := h.bel.grown hg4 h.bel.size (fun b e => by cases e; omega)
    exact (h5.alloc h5.size o).grown hgrow (by simp; have := h5.size; omega) (fun b e => by have := hvb b e; omega)
end
section
open Go.RowKit Go.Maps
/-- a function that tells how long one waits -/
def Waiting (w : World) (S most I : Nat) (f : Value) (wt : Nat × Nat → Nat → Nat) : Prop := ∃ K cap, f = .func (.func K) #[] cap ∧ (∀ args w, (callFunc K args).run Tryz.prog w = .ok (.enter K args) w) ∧ ∀ (p : Nat × Nat) (i : Nat) (W : World), Below w.heap.size w W → p.1 < S → p.2 ≤ most → i < I → Calls Tryz.prog K (#[.agg #[.int .i64 (p.1 : Int), .int .i64 (p.2 : Int)], .int .i64 (i : Int)] ++ cap) W fun e w' => e = .returned (.int .i64 (wt p i : Int)) ∧ Below W.heap.size W w'
/-- what search comes to -/
def Searched (w : World) (next : Nat → List Nat) (wt : Nat × Nat → Nat → Nat) (most : Nat) (e : Ending) (w' : World) : Prop := Below w.heap.size w w' ∧ ((e = .returned (.tuple #[.bool true, .slice none 0 0]) ∧ Pr.Held next wt most) ∨ ∃ l g c, e = .returned (.tuple #[.bool false, .slice (some ⟨g, 0, none⟩) l.length c]) ∧ Pr.Broke next wt most l ∧ Pr.Least next wt most l ∧ w'.ownsRow w.heap.size 3 1 (.slice (some ⟨g, 0, none⟩) l.length c) l.length (l.map natV) ∧ l.length ≤ 100001)
set_option maxHeartbeats 8000000 in
set_option maxRecDepth 100000 in
theorem search_any (bm S I gN most : Nat) (next : Nat → List Nat) (uN : List Nat) (f : Value) (wt : Nat × Nat → Nat → Nat) (w : World) (h : NextAt w bm S I next gN uN) (hS1 : 1 ≤ S) (hS : S ≤ 4096) (hI : I ≤ 64) (hmo : most ≤ 20) (hnl : ∀ s, (next s).length = I) (hnx : ∀ f s, f < S → s ∈ next f → s < S) (hwt : Waiting w S most I f wt) (hwl : ∀ p i, p.2 ≤ most → wt p i ≤ most + 1) :
    Calls Tryz.prog 23 #[.pointer (some ⟨bm, 0, none⟩), .int .i64 (most : Int), f] w (Searched w next wt most) := by
  obtain ⟨i0, hi0, hz0, hz1, hz2⟩ := info_parts Tryz.infoInt
  obtain ⟨i1, hi1, hy0, hy1, hy2⟩ := info_parts Tryz.infoPlace
  have hmf : ∀ (fn : Fn) (first cap : Array Value) (w : World), (Instr.makeFunc fn first cap).run Tryz.prog w = .ok (.func fn first cap) w := fun _ _ _ _ => rfl
  obtain ⟨KF, cap, rfl, hcall, hwt⟩ := hwt
  have hmm := @run_makeMap Tryz.prog
  have HWT := hide hwt
  have HWL := hide hwl
  have HNA := hide h
  have HNL := hide hnl
  have HNX := hide hnx
  obtain ⟨w1, hw1⟩ : ∃ w1, w1 = w.alloc (.cells #[.int .i64 0, .int .i64 0] 79) := ⟨_, rfl⟩
  have hz1' : w1.heap.size = w.heap.size + 1 := by rw [hw1]; simp
  obtain ⟨w3, hrun3, hc3, hg3⟩ := (CMap.made w1).put (by omega) (0, 0) ((0, 0), 0) ⟨Nat.zero_le _, Nat.zero_le _⟩
  have hins : (Instr.mapUpdate 118 (.map (some w1.heap.size)) (.agg #[.int .i64 0, .int .i64 0]) (.agg #[.int .i64 0, .int .i64 0, .int .i64 0])).run Tryz.prog (w1.alloc (.map #[] 0)) = .ok () w3 := hrun3
  have hb1 : Below w.heap.size w w1 := by rw [hw1]; exact (Below.refl _ _).alloc (Nat.le_refl _) _
  have hb2 : Below w.heap.size w (w1.alloc (.map #[] 0)) := hb1.alloc hb1.size _
  have hb3 : Below w.heap.size w w3 := hb2.grown hg3 (by simp; omega) (fun k e => by cases e; omega)
  have hsz3 := hg3.size
  rw [World.size_alloc, hz1'] at hsz3
  have hbeg : w3.heap[w.heap.size]? = some (.cells #[.int .i64 0, .int .i64 0] 79 (0, 0)) := by
    rw [hg3.block _ (by simp; omega) (fun e => by have := Option.some.inj e; omega), Below.heap_alloc _ _ _ (by omega), hw1]
    exact heap_alloc_new _ _
  rw [hz1'] at hc3 hins
  have HS0 := hide (SSt.start w next wt S most hS1 w3 _ hbeg hc3 (fun p => rfl) hb3 hsz3)
  obtain ⟨b0, b1, _, _⟩ := two_cells hbeg
  rw [hw1] at hins
  clear hrun3 hc3 hg3 hb1 hb2 hb3 hbeg hw1 hz1' h hnl hnx hwt hwl
  go_enter Tryz.func23, Tryz.ntmps23
  go_wp2_with fail
  go_loopw [10, 11] (fun v i wr => ∃ k met src a c, i = .int .i64 ((k : Nat) : Int) ∧ v = .slice a met.length c ∧ k ≤ met.length ∧ Hid (SSt w next wt S most met src (.slice a met.length c) wr) ∧ Hid (Pr.Shut next wt most met k ∧ ∃ ks, Pr.Ord next wt most met src ks k 0)) (fun _ i _ => S * (most + 1) - (intOf i).toNat)
  case atStart => exact ⟨0, [(0, 0)], [((0, 0), 0)], some ⟨w3.heap.size, 0, none⟩, 1, rfl, rfl, Nat.zero_le _, HS0.out, fun j p hj => absurd hj (Nat.not_lt_zero _), _, Pr.Ord.start next wt most _⟩
  case round =>
    obtain ⟨k, met, src, a, c, rfl, rfl, hk, HST, HSH⟩ := hrel
    have hfew := HST.out.few hS hmo
    by_cases hlt : k < met.length
    · obtain ⟨p, hp⟩ : ∃ p, met[k]? = some p := ⟨_, List.getElem?_eq_getElem hlt⟩
      obtain ⟨g, rfl, hcap, m0, m1⟩ := HST.out.row hp
      obtain ⟨hpS, hpm⟩ := HST.out.ok.low p (List.mem_of_getElem? hp)
      have hki : (k : Int) < (met.length : Int) := by omega
      obtain ⟨wA, hwA⟩ : ∃ wA, wA = wr.alloc (.cells #[.int .i64 (p.1 : Int), .int .i64 (p.2 : Int)] 79) := ⟨_, rfl⟩
      have hbA : Below wr.heap.size wr wA := by rw [hwA]; exact (Below.refl _ _).alloc (Nat.le_refl _) _
      have HSA := hide (HST.out.below hbA)
      have HNO := hide (nextOf_any bm S I gN p.1 next uN wA (HNA.out.below HSA.out.bel) hpS hS)
      have HP := hide hp
      have HAT : Hid (wA.heap[wr.heap.size]? = some (.cells #[.int .i64 (p.1 : Int), .int .i64 (p.2 : Int)] 79 (0, 0))) := by show wA.heap[_]? = _; rw [hwA]; exact heap_alloc_new _ _
      have HNB : Hid (∀ b, (Value.slice (some ⟨g, 0, none⟩) met.length c).ownBlock = some b → b ≠ wr.heap.size) := fun b e => by have := (HST.out.own.lt b e).2; omega
      obtain ⟨a0, a1, _, _⟩ := two_cells HAT.out
      have hszA : wA.heap.size = wr.heap.size + 1 := by rw [hwA]; simp
      rw [hwA] at HNO a0 a1
      have HWA := hide hwA
      clear hp hbA hwA
      go_wp2_with fail
      refine HNO.out.mono ?_
      rintro e wB ⟨⟨bN, hbN, rfl⟩, hwB⟩
      rw [hwB, ← HWA.out]
      rw [← HWA.out] at a0 a1
      have HBN := hide hbN
      clear hbN hwB HNO m0 m1
      go_wp2_with fail
      obtain ⟨wo, rfl⟩ : ∃ wo, wo = wr := ⟨_, rfl⟩
      have hzo := HST.out.bel.size
      have hmo1 := HST.out.map
      have hlM : w.heap.size + 1 < wo.heap.size := by obtain ⟨_, h1, _⟩ := hmo1; exact h1.lt
      clear hmo1 a0 a1 b0 b1
      go_loopw [10, 39] (fun v x wr => ∃ (i : Nat) (met : List (Nat × Nat)) (src : List ((Nat × Nat) × Nat)) (a : Option Addr) (c : Nat), x = .int .i64 (i : Int) ∧ v = .slice a met.length c ∧ i ≤ I ∧ Hid (SSt w next wt S most met src (.slice a met.length c) wr) ∧ Hid (Pr.Shut next wt most met k ∧ Pr.ShutIn next wt most met p i ∧ met[k]? = some p ∧ ∃ ks, Pr.Ord next wt most met src ks k i) ∧ Hid (wr.heap[wo.heap.size]? = some (.cells #[.int .i64 (p.1 : Int), .int .i64 (p.2 : Int)] 79 (0, 0))) ∧ Hid (∀ b, (Value.slice a met.length c).ownBlock = some b → b ≠ wo.heap.size)) (fun _ x _ => I - (intOf x).toNat)
      case atStart => exact ⟨0, met, src, some ⟨g, 0, none⟩, c, rfl, rfl, Nat.zero_le _, HSA.out, ⟨HSH.out.1, fun j hj => absurd hj (Nat.not_lt_zero _), HP.out, HSH.out.2⟩, HAT.out, HNB.out⟩
      case round =>
        clear HST HSH HP HAT HNB HSA hk hfew hlt hcap hki
        obtain ⟨i, met, src, a, c, rfl, rfl, hi, HST, HSH, HAT, HNB⟩ := hrel
        have hfew := HST.out.few hS hmo
        have hkl : k < met.length := (List.getElem?_eq_some_iff.1 HSH.out.2.2.1).1
        by_cases hiI : i < I
        · have hil : i < (next p.1).length := by rw [HNL.out]; exact hiI
          have hx2 := List.getElem?_eq_getElem hil
          have hxS := HNX.out p.1 _ hpS (List.getElem_mem hil)
          have hstep : Pr.step next wt p i = ((next p.1)[i], wt p i) := by
            unfold Pr.step
            rw [List.getD_eq_getElem?_getD, hx2]
            rfl
          have x0 := (((HNA.out.below HST.out.bel).2.2 p.1 bN HBN.out).2) i _ hx2
          have HXN : Hid (∀ s, s ∈ next p.1 → s < S) := fun s hs => HNX.out p.1 s hpS hs
          have HIL := hide hil
          generalize (next p.1)[i] = x at *
          have HSP := hide hstep
          obtain ⟨a0, a1, _, _⟩ := two_cells HAT.out
          have HCW := hide (HWT.out p i wr HST.out.bel hpS hpm hiI)
          have hii : (i : Int) < (I : Int) := by omega
          have hwle := HWL.out p i hpm
          have haW : wo.heap.size < wr.heap.size := (Array.getElem?_eq_some_iff.1 HAT.out).1
          clear hx2 hstep hil
          go_wp2_with fail
          refine HCW.out.mono ?_
          rintro e wE ⟨rfl, hbE⟩
          obtain ⟨y, hy⟩ : ∃ y, y = wt p i := ⟨_, rfl⟩
          rw [← hy] at hwle HSP ⊢
          have HY := hide hy
          obtain ⟨wT, hwT⟩ : ∃ wT, wT = wE.alloc (.cells #[.int .i64 (x : Int), .int .i64 (y : Int)] 79) := ⟨_, rfl⟩
          have hbT : Below wr.heap.size wr wT := by rw [hwT]; exact hbE.alloc hbE.size _
          have HSW := hide (HST.out.below hbT)
          have HAW := hide ((hbT.block _ haW).trans HAT.out)
          have hTO : wT.heap[wE.heap.size]? = some (.cells #[.int .i64 (x : Int), .int .i64 (y : Int)] 79 (0, 0)) := by rw [hwT]; exact heap_alloc_new _ _
          have HTO := hide hTO
          obtain ⟨d0, d1, _, _⟩ := two_cells hTO
          obtain ⟨a0, a1, _, _⟩ := two_cells HAW.out
          have hzE := hbE.size
          have hzT : wT.heap.size = wE.heap.size + 1 := by rw [hwT]; simp
          obtain ⟨s0, s1, _, _⟩ := two_cells HSW.out.beg
          have HWT2 := hide hwT
          have HBT := hide hbT
          by_cases hym : y ≤ most
          · have hyi : ¬ (most : Int) < (y : Int) := by omega
            have hwm : wt p i ≤ most := by rw [← hy]; exact hym
            obtain ⟨z, hlk⟩ := HSW.out.look _ (step_small hS hmo HIL.out hwm HXN.out)
            rw [HSP.out] at hlk
            obtain ⟨wK, hwK⟩ : ∃ wK, wK = wT.alloc (.cells #[.int .i64 (z.1.1 : Int), .int .i64 (z.1.2 : Int), .int .i64 (z.2 : Int)] 117) := ⟨_, rfl⟩
            have hbK : Below wT.heap.size wT wK := by rw [hwK]; exact (Below.refl _ _).alloc (Nat.le_refl _) _
            have HSK := hide (HSW.out.below hbK)
            have HAK := hide ((hbK.block _ (by omega)).trans HAW.out)
            have HTK := hide ((hbK.block _ (by omega)).trans HTO.out)
            have hzK : wK.heap.size = wT.heap.size + 1 := by rw [hwK]; simp
            have HWK := hide hwK
            unfold plV stpV at hlk
            have HWM := hide hwm
            by_cases hmem : Pr.step next wt p i ∈ met
            · have HMEM := hide hmem
              rw [HSP.out] at hmem
              rw [decide_eq_true hmem] at hlk
              rw [hwT] at hlk d0 d1 a0 a1
              clear hmem hwT hbE hbT hTO hwK hbK hy HCW hwm s0 s1
              go_wp2_with fail
              rw [← HWT2.out]
              rw [← HWK.out]
              exact ⟨⟨i + 1, met, src, a, c, by go_num, rfl, by omega, HSK.out, ⟨HSH.out.1, HSH.out.2.1.pass HWM.out HMEM.out, HSH.out.2.2.1, by obtain ⟨ks, ho⟩ := HSH.out.2.2.2; exact ⟨ks, ho.pass HSH.out.2.2.1 HWM.out HMEM.out⟩⟩, HAK.out, HNB.out⟩, by simp [intOf]; omega⟩
            · obtain ⟨W4, hrun, ho4, hg4, hfin⟩ := HSK.out.store hS hmo HSH.out.2.2.1 HIL.out hwm HXN.out hmem
              rw [HSP.out] at hmem hrun
              rw [decide_eq_false hmem] at hlk
              unfold plV stpV at hrun
              have hz4 := hg4.size
              have hT4 : W4.heap[wE.heap.size]? = some (.cells #[.int .i64 (x : Int), .int .i64 (y : Int)] 79 (0, 0)) := (hg4.block _ (by omega) (fun e => by have := Option.some.inj e; omega)).trans HTK.out
              obtain ⟨e0, e1, _, _⟩ := two_cells hT4
              obtain ⟨q0, q1, _, _⟩ := two_cells HTK.out
              obtain ⟨r0, r1, _, _⟩ := two_cells HAK.out
              have HOWN : Hid (∀ o, (W4.alloc o).ownsRow (w.heap.size + 2) 79 2 (.slice a met.length c) met.length (met.flatMap plCells)) := fun o => ho4.alloc o
              have HONE : Hid (∀ u ∈ [Value.int .i64 (x : Int), Value.int .i64 (y : Int)], u.oneCell' = true) := by
                intro u hu
                simp only [List.mem_cons, List.not_mem_nil, or_false] at hu
                rcases hu with rfl | rfl <;> rfl
              have HFIN : Hid (∀ (o : Obj) (g cap : Nat) (wC : World), wC.ownsRow (w.heap.size + 2) 79 2 (.slice (some ⟨g, 0, none⟩) (met.length + 1) cap) (met.length + 1) (met.flatMap plCells ++ [.int .i64 (x : Int), .int .i64 (y : Int)]) → (W4.alloc o).grownBy wC (Value.slice a met.length c).ownBlock → ((Value.slice a met.length c).ownBlock = some g ∨ g = W4.heap.size + 1) →
                  SSt w next wt S most (met ++ [Pr.step next wt p i]) (src ++ [(p, i)]) (.slice (some ⟨g, 0, none⟩) (met.length + 1) cap) wC ∧ wC.heap[wo.heap.size]? = some (.cells #[.int .i64 (p.1 : Int), .int .i64 (p.2 : Int)] 79 (0, 0)) ∧ g ≠ wo.heap.size) := fun o g cap wC hown hgrow hat => by
                obtain ⟨u1, u2⟩ := hfin o g cap wC (by rw [HSP.out]; exact hown) hgrow
                refine ⟨u1, (u2 _ (by omega) (by omega) (fun e => HNB.out _ e.symm rfl)).trans HAK.out, ?_⟩
                rcases hat with h | h
                · exact HNB.out g h
                · omega
              have HNW : Hid (∀ j u, [Value.int .i64 (x : Int), Value.int .i64 (y : Int)][j]? = some u → (W4.alloc (.cells #[.int .i64 (x : Int), .int .i64 (y : Int)] 79)).cell? ((⟨W4.heap.size, 0, none⟩ : Addr).add j) = some u) := World.news_of_block (heap_alloc_new W4 _)
              rw [HWK.out, HWT2.out] at hrun q0 q1 r0 r1
              rw [hwT] at hlk d0 d1 a0 a1
              have hz4' : w.heap.size + 2 ≤ W4.heap.size := by omega
              clear hmem hwT hbE hbT hTO hwK hbK hy HCW hwm s0 s1 hg4 hfin ho4 hT4 hzK
              go_wp2_with (at_builtin; refine wpList_append_lies _ rfl (.tmp 74) (.tmp 76) 119 rfl (w.heap.size + 2) 79 i1 _ 2 16 Tryz.underlying119 hi1 hy0 hy1 hy2 rfl (by decide) (.slice a met.length c) met.length (met.flatMap plCells) rfl (HOWN.out _) ⟨W4.heap.size, 0, none⟩ 1 1 [.int .i64 (x : Int), .int .i64 (y : Int)] rfl rfl HNW.out HONE.out (by decide) (by unfold maxLen; omega) (by omega) (by simp; omega) (W4.heap.size + 1) (by simp) ?_; intro g2 cap2 wC hown hgrow hat hltg; obtain ⟨hsC, haC, hgC⟩ := HFIN.out _ g2 cap2 wC hown hgrow hat; have HSC := hide hsC; have HAC := hide haC; clear hsC haC hown hgrow hat)
              refine ⟨⟨i + 1, met ++ [Pr.step next wt p i], src ++ [(p, i)], some ⟨g2, 0, none⟩, cap2, by go_num, by simp, by omega, ?_, ⟨HSH.out.1.put (by omega) _, HSH.out.2.1.put HWM.out, ?_, by obtain ⟨ks, ho⟩ := HSH.out.2.2.2; exact ⟨_, ho.put HST.out.ok.len HSH.out.2.2.1 HWM.out⟩⟩, HAC.out, ?_⟩, by simp [intOf]; omega⟩
              · show SSt _ _ _ _ _ _ _ (.slice _ (met ++ [Pr.step next wt p i]).length _) _
                rw [List.length_append]; exact HSC.out
              · rw [List.getElem?_append_left hkl]; exact HSH.out.2.2.1
              · intro b e
                have : g2 = b := Option.some.inj e
                omega
          · have hyi : (most : Int) < (y : Int) := by omega
            obtain ⟨fm, hcm, hfm, _⟩ := HSW.out.map
            have HPA := hide (path_any (w.heap.size + 1) _ S most k next wt met src fm p wT HSW.out.ok hcm (fun j q _ hq => hfm j q hq) HSH.out.2.2.1 hS hmo)
            unfold plV at HPA
            obtain ⟨v0, v1, _, _⟩ := two_cells (HST.out.below hbE).beg
            obtain ⟨n0, n1, _, _⟩ := two_cells ((hbE.block _ haW).trans HAT.out)
            have hlw : w.heap.size < wE.heap.size := by omega
            have hlw2 : wo.heap.size < wE.heap.size := by omega
            rw [hwT] at HPA d0 d1 a0 a1 s0 s1
            clear hwT hbE hbT hTO hcm hfm HCW hy
            go_wp2_with fail
            refine HPA.out.mono ?_
            rw [← HWT2.out]
            rintro e wP ⟨l, la, lc, rfl, hol, hfin, hgo, hll, htr, hbP⟩
            have HOWN : Hid (∀ o, (wP.alloc o).ownsRow wT.heap.size 3 1 (.slice la l.length lc) l.length (l.map natV)) := fun o => hol.alloc o
            have HONE : Hid (∀ u ∈ [Value.int .i64 (i : Int)], u.oneCell' = true) := by
              intro u hu
              simp only [List.mem_cons, List.not_mem_nil, or_false] at hu
              subst hu; rfl
            have HFIN : Hid (∀ (o : Obj) (g cap : Nat) (wC : World), wC.ownsRow wT.heap.size 3 1 (.slice (some ⟨g, 0, none⟩) (l.length + 1) cap) (l.length + 1) (l.map natV ++ [.int .i64 (i : Int)]) → (wP.alloc o).grownBy wC (Value.slice la l.length lc).ownBlock → Searched w next wt most (.returned (.tuple #[.bool false, .slice (some ⟨g, 0, none⟩) (l.length + 1) cap])) wC) := fun o g cap wC hown hgrow => by
              have hb1 : Below w.heap.size w wP := HSW.out.bel.trans (hbP.mono HSW.out.bel.size)
              have hzP := hbP.size
              refine ⟨(hb1.alloc hb1.size o).grown hgrow (by simp; have := hb1.size; omega) (fun b e => by have := (hol.lt b e).1; omega), .inr ⟨l ++ [i], g, cap, by simp, ⟨l, i, rfl, hfin, ?_, ?_⟩, by obtain ⟨ks, ho⟩ := HSH.out.2.2.2; exact ho.least HST.out.ok hkl htr, ?_, by simp; omega⟩⟩
              · rw [hgo]; exact HIL.out
              · rw [hgo, ← HY.out]; omega
              · rw [List.map_append, List.length_append]
                exact own_mono hown (by omega)
            have hzP := hbP.size
            have hlb : l.length ≤ 100000 := by omega
            clear hol hfin hgo hbP htr HPA
            go_wp2_with (at_builtin; refine wpList_append_lies _ rfl (.tmp 57) (.tmp 59) 33 rfl wT.heap.size 3 i0 _ 1 8 Tryz.underlying33 hi0 hz0 hz1 hz2 rfl (by decide) (.slice la l.length lc) l.length (l.map natV) rfl (HOWN.out _) ⟨wP.heap.size, 0, none⟩ 1 1 [.int .i64 (i : Int)] rfl rfl (World.news_of_block (heap_alloc_new wP _)) HONE.out (by decide) (by unfold maxLen; omega) (by omega) (by simp; omega) (wP.heap.size + 1) (by simp) ?_; intro g2 cap2 wC hown hgrow hat hltg; have HSE := hide (HFIN.out _ g2 cap2 wC hown hgrow); clear hown hgrow hat)
            refine bodyPost_ret (results_tmp2 rfl _ _ _) rfl ?_
            exact HSE.out
        · have hiI' : i = I := by omega
          have HSH2 : Hid (Pr.Shut next wt most met (k + 1) ∧ ∃ ks, Pr.Ord next wt most met src ks (k + 1) 0) := by
            refine ⟨HSH.out.1.next HSH.out.2.2.1 (by rw [HNL.out, ← hiI']; exact HSH.out.2.1), ?_⟩
            obtain ⟨ks, ho⟩ := HSH.out.2.2.2
            rw [hiI', ← HNL.out p.1] at ho
            exact ⟨ks, ho.next HSH.out.2.2.1⟩
          have hdn : k < S * (most + 1) := by have := HST.out.ok.few; omega
          go_wp2_with fail
          exact ⟨⟨k + 1, met, src, a, c, by go_num, rfl, by omega, HST.out, HSH2.out⟩, by simp [intOf]; omega⟩
    · have hkl : k = met.length := by omega
      subst hkl
      have HFN : Hid (Searched w next wt most (.returned (.tuple #[.bool true, .slice none 0 0])) wr) := ⟨HST.out.bel, .inl ⟨rfl, Pr.Held.of HST.out.ok HSH.out.1⟩⟩
      go_wp2_with fail
      refine bodyPost_ret (results_tmp2 rfl _ _ _) rfl ?_
      exact HFN.out
end
end Go.Proofs.YtjlkjhmmbaljiaaGreatDoor
