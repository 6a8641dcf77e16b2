/-
  What is left of a list, in memory: a list of the parts that are left. The walk of whole: what is left of a list. The walk of whole: one part, and more.
-/
import Derived.Test.YtgoabhclnicepaaGreatDoorTdPushAll
import Derived.Deep.RegionHeld3
namespace Go.Proofs.YtgoabhclnicepaaGreatDoor
open Go.RowKit Go.Maps
/-- what whole comes to: B is where the list's own memory begins -/
def Wholed (ok : Nat → Prop) (B mb : Nat) (tb : List (List UInt8)) (x : Ex) (w : World) (e : Ending) (w' : World) : Prop :=
  ∃ (v : Value) (n : Nat) (pv : Value) (more : List (List UInt8)), e = .returned (.agg #[v, .int .i64 (n : Int), pv]) ∧ IsTv (fun g => ok g ∨ B ≤ g) (tb ++ more) w' x v n pv ∧ Tbl mb (tb ++ more) w' ∧ more.length ≤ 1 ∧ w.grownBy w' (some mb)
theorem Made.wholed {ok : Nat → Prop} {B mb : Nat} {tb : List (List UInt8)} {x : Ex} {w : World} {e : Ending} {w' : World} (h : Made ok mb tb 1 x w e w') (hB : B ≤ w.heap.size) : Wholed ok B mb tb x w e w' := by
  obtain ⟨v, n, pv, more, he, hx, ht, hm, hg⟩ := h
  refine ⟨v, n, pv, more, he, hx.mono fun g hgo => ?_, ht, hm, hg⟩
  rcases hgo with h1 | h1
  · exact .inl h1
  · exact .inr (Nat.le_trans hB h1)
section
variable {ok : Nat → Prop} {B C mb gb sb k : Nat} {tb more : List (List UInt8)} {U : List Ex} {d : Bool} {pv : Value} {w w5 : World} {ts : List (Value × Nat × Value)} {g cap : Nat}
/-- the row's cells -/
theorem row_cells (ho : w.ownsRow C 111 3 (.slice (some ⟨g, 0, none⟩) U.length cap) U.length (tflat3 ts)) (hl : ts.length = U.length) (i : Nat) (t : Value × Nat × Value) (hi : ts[i]? = some t) :
    w.cell? ⟨g, i * 3, none⟩ = some t.1 ∧ w.cell? ⟨g, i * 3 + 1, none⟩ = some (.int .i64 (t.2.1 : Int)) ∧ w.cell? ⟨g, i * 3 + 2, none⟩ = some t.2.2 := by
  obtain ⟨h1, h2, h3⟩ := flat3_get ts i t hi
  have hil : i < ts.length := (List.getElem?_eq_some_iff.1 hi).1
  exact ⟨by rw [ho.cellAt (i * 3) (by omega)]; exact h1, by rw [ho.cellAt (i * 3 + 1) (by omega)]; exact h2, by rw [ho.cellAt (i * 3 + 2) (by omega)]; exact h3⟩
theorem row_num (ho : w.ownsRow C 111 3 (.slice (some ⟨g, 0, none⟩) U.length cap) U.length (tflat3 ts)) (hl : ts.length = U.length) {okx : Nat → Prop} (hxs : ∀ (i : Nat) (x : Ex) (t : Value × Nat × Value), U[i]? = some x → ts[i]? = some t → IsTv okx tb w x t.1 t.2.1 t.2.2) : RowN w g 0 (ts.map fun t => t.2.1) := by
  intro i m hi
  rw [List.getElem?_map] at hi
  cases ht : ts[i]? with
  | none => rw [ht] at hi; simp at hi
  | some t =>
    rw [ht] at hi
    simp only [Option.map_some, Option.some.injEq] at hi
    subst hi
    have hil : i < ts.length := (List.getElem?_eq_some_iff.1 ht).1
    have hx := hxs i U[i] t (List.getElem?_eq_getElem (by omega)) ht
    obtain ⟨tu, yu, e1⟩ := IsEx.iface _ _ hx.ex
    obtain ⟨a, b, c, e2⟩ := hx.slice
    obtain ⟨c1, c2, c3⟩ := row_cells ho hl i t ht
    exact ⟨tu, yu, a, b, c, by rw [Nat.zero_add, c1, e1], by rw [Nat.zero_add, c2], by rw [Nat.zero_add, c3, e2]⟩
theorem isTv_list (h : Gs ok B C mb gb sb k tb U d pv w) (hk : k = 6 ∨ k = 7) (hN : 2 ≤ U.length) (hNm : U.length ≤ 1000000) (hl : ts.length = U.length) (hpv : pv = .slice (some ⟨g, 0, none⟩) U.length cap) (ho : w.ownsRow C 111 3 pv U.length (tflat3 ts)) (hxs : ∀ (i : Nat) (x : Ex) (t : Value × Nat × Value), U[i]? = some x → ts[i]? = some t → IsTv (okp ok C pv) tb w x t.1 t.2.1 t.2.2)
    (hg : w.grownBy w5 (some mb)) {m mk T : Nat} (hm : (tb ++ more)[m]? = some (cat (Ex.sign k) (ts.map fun t => t.2.1))) (hmk : C ≤ mk) (hc : ∀ (i : Nat) (t : Value × Nat × Value), ts[i]? = some t → w5.cell? ⟨mk, i, none⟩ = some t.1) (hT : T = if k = 6 then 135 else 137) :
    IsTv (fun g => ok g ∨ C ≤ g) (tb ++ more) w5 ⟨k, [], U⟩ (.iface T (.slice (some ⟨mk, 0, none⟩) U.length U.length)) m pv := by
  have hx5 : ∀ (i : Nat) (x : Ex) (t : Value × Nat × Value), U[i]? = some x → ts[i]? = some t → IsTv (fun g => ok g ∨ C ≤ g) (tb ++ more) w5 x t.1 t.2.1 t.2.2 := fun i x t hi hti =>
    IsTv.stay more (Stay.turned _ h.tbl hg) (fun g hgo => hgo.1) x _ _ _ (hxs i x t hi hti)
  rw [IsTv.def]
  refine ⟨?_, ?_, .inr ⟨by omega, g, 0, cap, hpv, ?_, .inr ?_, ?_⟩⟩
  · have hlist : IsList (fun g => ok g ∨ C ≤ g) w5 T U.length (U.map fun x => IsEx (fun g => ok g ∨ C ≤ g) w5 x) (.iface T (.slice (some ⟨mk, 0, none⟩) U.length U.length)) := by
      refine ⟨hN, by omega, mk, U.length, rfl, Nat.le_refl _, .inr hmk, ?_⟩
      intro i P hP
      rw [List.getElem?_map] at hP
      cases hi : U[i]? with
      | none => rw [hi] at hP; simp at hP
      | some x =>
        rw [hi] at hP
        simp only [Option.map_some, Option.some.injEq] at hP
        have hil : i < U.length := (List.getElem?_eq_some_iff.1 hi).1
        have hti : ts[i]? = some (ts[i]'(by omega)) := List.getElem?_eq_getElem (by omega)
        exact ⟨_, hc i _ hti, by rw [← hP]; exact (hx5 i x _ hi hti).ex⟩
    rcases hk with rfl | rfl
    · simp only [IsEx]; rw [hT] at hlist ⊢; exact ⟨by trivial, hlist⟩
    · simp only [IsEx]; rw [hT] at hlist ⊢; exact ⟨by trivial, hlist⟩
  · rw [Ex.Num.def]
    refine ⟨ts.map fun t => t.2.1, by simpa using hl, ?_, ?_⟩
    · intro i y j hy hj
      rw [List.getElem?_map] at hj
      cases hti : ts[i]? with
      | none => rw [hti] at hj; simp at hj
      | some t =>
        rw [hti] at hj
        simp only [Option.map_some, Option.some.injEq] at hj
        rw [← hj]
        exact (hx5 i y t hy hti).num
    · rw [hm]; unfold Ex.code; rw [if_neg (by omega)]
  · rw [hpv] at ho
    rcases ho.2 with ⟨e, _⟩ | ⟨g', cap', cur, e, _, _, hn, _⟩
    · simp at e
    · simp only [Value.slice.injEq] at e
      rw [e.2.2]; exact hn
  · exact (ho.lt g (by rw [hpv]; rfl)).1
  · intro i y hy
    have hil : i < U.length := (List.getElem?_eq_some_iff.1 hy).1
    have hti : ts[i]? = some (ts[i]'(by omega)) := List.getElem?_eq_getElem (by omega)
    rw [hpv] at ho
    obtain ⟨c1, c2, c3⟩ := row_cells ho hl i _ hti
    rw [Nat.zero_add]
    exact ⟨_, _, _, cell_turned h.tbl hg c1, cell_turned h.tbl hg c2, cell_turned h.tbl hg c3, hx5 i y _ hy hti⟩
end
theorem IsEx.const {ok : Nat → Prop} {w : World} (b : Bool) : IsEx ok w ⟨if b then 1 else 0, [], []⟩ (.iface 113 (.bool b)) := by cases b <;> simp [IsEx]
set_option maxHeartbeats 4000000 in
set_option maxRecDepth 100000 in
theorem whole_const (ok : Nat → Prop) (B C mb gb sb k : Nat) (hk : k = 6 ∨ k = 7) (tb : List (List UInt8)) (U : List Ex) (d : Bool) (pv : Value) (w : World) (h : Gs ok B C mb gb sb k tb U d pv w) (hl : tb.length < 1000000) (hd : d = true ∨ U = []) :
    Calls Tryz.prog 98 #[.pointer (some ⟨gb, 0, none⟩)] w (Made ok mb tb 1 (if d = true then ⟨Ex.allK k, [], []⟩ else ⟨Ex.noneK k, [], []⟩) w) := by
  obtain ⟨w1, hw1⟩ : ∃ w1, w1 = w.alloc (.cells #[.nilIface, .int .i64 0, .slice none 0 0] 111) := ⟨_, rfl⟩
  have hb1 : Below w.heap.size w w1 := by rw [hw1]; exact (Below.refl _ _).alloc (Nat.le_refl _) _
  have hr1 : w1.heap[w.heap.size]? = some (.cells #[.nilIface, .int .i64 0, .slice none 0 0] 111 (0, 0)) := by rw [hw1]; exact heap_alloc_new w _
  have hs1 : w1.heap.size = w.heap.size + 1 := by rw [hw1]; simp
  have h1 := h.below hb1
  have e0 := h1.c0
  have e1 := h1.c1
  have e2 := h1.c2
  have e4 := h1.c4
  have hlt := h.lt
  have hpv : d = false → pv = .slice none 0 0 ∨ ∃ a c, pv = .slice (some a) 0 c := by
    intro hf
    have hU : U = [] := by rcases hd with e | e; · rw [hf] at e; cases e
                           · exact e
    subst hU
    obtain ⟨ts, _, ho, _⟩ := h.rows
    rcases ho.2 with ⟨hv, hn⟩ | ⟨g, cap, cur, hv, _⟩
    · exact .inl hv
    · exact .inr ⟨_, _, hv⟩
  have hok : ∀ g, ok g → g < w.heap.size := fun g hg => by have := h.okB g hg; have := h.gbB; omega
  have HL : Hid (∀ b : Bool, Calls Tryz.prog 69 #[.agg #[.map (some mb)], .iface 113 (.bool b)] w1.drew (Made ok mb tb 1 ⟨if b then 1 else 0, [], []⟩ w1.drew)) := fun b => leaf_any ok mb tb ⟨if b then 1 else 0, [], []⟩ _ w1.drew (h.tbl.kept (row := none) (grown_of_below hb1.drew _) (by simp)) hl (IsEx.const b) (by cases b <;> simp) rfl (by cases b <;> simp [Ex.text])
  have HEND : Hid (∀ (y : Ex) (e : Ending) (w4 : World), Made ok mb tb 1 y w1.drew e w4 → ∃ v' n' pv', e = .returned (.agg #[v', .int .i64 (n' : Int), pv']) ∧ (∃ tu yu, v' = .iface tu yu) ∧ (∃ a b c, pv' = .slice a b c) ∧ (w4.cell? ⟨gb, 0, none⟩ = some (.map (some mb)) ∧ w4.cell? ⟨gb, 1, none⟩ = some (.bool (decide (k = 6)))) ∧ Hid (w4.heap[w.heap.size]? = some (.cells #[.nilIface, .int .i64 0, .slice none 0 0] 111 (0, 0))) ∧ Hid (Made ok mb tb 1 y w e (((w4.setCell ⟨w.heap.size, 0, none⟩ v').setCell ⟨w.heap.size, 1, none⟩ (.int .i64 (n' : Int))).setCell ⟨w.heap.size, 2, none⟩ pv'))) := by
    intro y e w4 hm
    have hput := hm.put_after (grown_of_below hb1.drew _) (Nat.le_refl _) (by show w.heap.size < w1.heap.size; omega) h.tbl hok (Nat.le_refl _)
    obtain ⟨v', n', pv', more, rfl, hq, _, _, hgr⟩ := hm
    obtain ⟨tu, yu, hiu⟩ := IsEx.iface _ v' hq.ex
    obtain ⟨pa, pb, pc, hps⟩ := hq.slice
    have hmb := h.tbl.lt
    exact ⟨v', n', pv', rfl, ⟨tu, yu, hiu⟩, ⟨pa, pb, pc, hps⟩, ⟨cell_turned (h.tbl.kept (row := none) (grown_of_below hb1.drew _) (by simp)) hgr e0, cell_turned (h.tbl.kept (row := none) (grown_of_below hb1.drew _) (by simp)) hgr e1⟩, (hgr.block w.heap.size (by show w.heap.size < w1.heap.size; omega) (by simp; omega)).trans hr1, hput _ _ _⟩
  have HW1 := hide hw1
  rw [hw1] at e4
  clear hw1 hr1 hb1 h1 h hok
  cases d with
  | true =>
    rw [if_pos rfl]
    clear hpv e2 hd
    rcases hk with rfl | rfl
    · simp only [decide_true] at e1 HEND
      go_enter Tryz.func98, Tryz.ntmps98
      go_wp2_with fail
      rw [← HW1.out]
      go_region_held3 (fun W => W.cell? ⟨gb, 0, none⟩ = some (.map (some mb)) ∧ W.cell? ⟨gb, 1, none⟩ = some (.bool true)) ((first | go_keep | (refine ⟨?_, ?_⟩ <;> (repeat (rw [World.cell?_setCell_far _ _ _ _ (by dsimp only; omega)])) <;> assumption)))
        ((go_at_call 69; refine (HL.out false).mono ?_; rintro e w4 hm; obtain ⟨v', n', pv', rfl, ⟨tu, yu, rfl⟩, ⟨pa, pb, pc, rfl⟩, ⟨z0, z1⟩, HR4, HM4⟩ := HEND.out _ _ _ hm; have d0 : w4.cell? ⟨w.heap.size, 0, none⟩ = some .nilIface := (by rw [Lib.cell_of_heap HR4.out]; rfl); have d1 : w4.cell? ⟨w.heap.size, 1, none⟩ = some (.int .i64 0) := (by rw [Lib.cell_of_heap HR4.out]; rfl); have d2 : w4.cell? ⟨w.heap.size, 2, none⟩ = some (.slice none 0 0) := (by rw [Lib.cell_of_heap HR4.out]; rfl); have g0 := Lib.frozen_of_heap HR4.out 0; have g1 := Lib.frozen_of_heap HR4.out 1; have g2 := Lib.frozen_of_heap HR4.out 2))
      all_goals go_wp2_with fail
      all_goals
        refine bodyPost_ret_by (v := .agg #[.iface tu yu, .int .i64 (n' : Int), .slice pa pb pc]) ?_ rfl HM4.out
        obtain ⟨q0, q1, q2⟩ := three_out HR4.out (.iface tu yu) (.int .i64 (n' : Int)) (.slice pa pb pc)
        simp [results, Tryz.results98, go_sem, q0, q1, q2]
    · simp only [show decide (7 = 6) = false from rfl] at e1 HEND
      go_enter Tryz.func98, Tryz.ntmps98
      go_wp2_with fail
      rw [← HW1.out]
      go_region_held3 (fun W => W.cell? ⟨gb, 0, none⟩ = some (.map (some mb)) ∧ W.cell? ⟨gb, 1, none⟩ = some (.bool false)) ((first | go_keep | (refine ⟨?_, ?_⟩ <;> (repeat (rw [World.cell?_setCell_far _ _ _ _ (by dsimp only; omega)])) <;> assumption)))
        ((go_at_call 69; refine (HL.out true).mono ?_; rintro e w4 hm; obtain ⟨v', n', pv', rfl, ⟨tu, yu, rfl⟩, ⟨pa, pb, pc, rfl⟩, ⟨z0, z1⟩, HR4, HM4⟩ := HEND.out _ _ _ hm; have d0 : w4.cell? ⟨w.heap.size, 0, none⟩ = some .nilIface := (by rw [Lib.cell_of_heap HR4.out]; rfl); have d1 : w4.cell? ⟨w.heap.size, 1, none⟩ = some (.int .i64 0) := (by rw [Lib.cell_of_heap HR4.out]; rfl); have d2 : w4.cell? ⟨w.heap.size, 2, none⟩ = some (.slice none 0 0) := (by rw [Lib.cell_of_heap HR4.out]; rfl); have g0 := Lib.frozen_of_heap HR4.out 0; have g1 := Lib.frozen_of_heap HR4.out 1; have g2 := Lib.frozen_of_heap HR4.out 2))
      all_goals go_wp2_with fail
      all_goals
        refine bodyPost_ret_by (v := .agg #[.iface tu yu, .int .i64 (n' : Int), .slice pa pb pc]) ?_ rfl HM4.out
        obtain ⟨q0, q1, q2⟩ := three_out HR4.out (.iface tu yu) (.int .i64 (n' : Int)) (.slice pa pb pc)
        simp [results, Tryz.results98, go_sem, q0, q1, q2]
  | false =>
    rw [if_neg (by simp)]
    have hpv' := hpv rfl
    rw [HW1.out] at e2
    clear hpv hd
    rcases hpv' with rfl | ⟨a, c, rfl⟩
    · rcases hk with rfl | rfl
      · simp only [decide_true] at e1 HEND
        go_enter Tryz.func98, Tryz.ntmps98
        go_wp2_with fail
        rw [← HW1.out]
        go_region_held3 (fun W => W.cell? ⟨gb, 0, none⟩ = some (.map (some mb)) ∧ W.cell? ⟨gb, 1, none⟩ = some (.bool true)) ((first | go_keep | (refine ⟨?_, ?_⟩ <;> (repeat (rw [World.cell?_setCell_far _ _ _ _ (by dsimp only; omega)])) <;> assumption)))
          ((go_at_call 69; refine (HL.out true).mono ?_; rintro e w4 hm; obtain ⟨v', n', pv', rfl, ⟨tu, yu, rfl⟩, ⟨pa, pb, pc, rfl⟩, ⟨z0, z1⟩, HR4, HM4⟩ := HEND.out _ _ _ hm; have d0 : w4.cell? ⟨w.heap.size, 0, none⟩ = some .nilIface := (by rw [Lib.cell_of_heap HR4.out]; rfl); have d1 : w4.cell? ⟨w.heap.size, 1, none⟩ = some (.int .i64 0) := (by rw [Lib.cell_of_heap HR4.out]; rfl); have d2 : w4.cell? ⟨w.heap.size, 2, none⟩ = some (.slice none 0 0) := (by rw [Lib.cell_of_heap HR4.out]; rfl); have g0 := Lib.frozen_of_heap HR4.out 0; have g1 := Lib.frozen_of_heap HR4.out 1; have g2 := Lib.frozen_of_heap HR4.out 2))
        all_goals go_wp2_with fail
        all_goals
          refine bodyPost_ret_by (v := .agg #[.iface tu yu, .int .i64 (n' : Int), .slice pa pb pc]) ?_ rfl HM4.out
          obtain ⟨q0, q1, q2⟩ := three_out HR4.out (.iface tu yu) (.int .i64 (n' : Int)) (.slice pa pb pc)
          simp [results, Tryz.results98, go_sem, q0, q1, q2]
      · simp only [show decide (7 = 6) = false from rfl] at e1 HEND
        go_enter Tryz.func98, Tryz.ntmps98
        go_wp2_with fail
        rw [← HW1.out]
        go_region_held3 (fun W => W.cell? ⟨gb, 0, none⟩ = some (.map (some mb)) ∧ W.cell? ⟨gb, 1, none⟩ = some (.bool false)) ((first | go_keep | (refine ⟨?_, ?_⟩ <;> (repeat (rw [World.cell?_setCell_far _ _ _ _ (by dsimp only; omega)])) <;> assumption)))
          ((go_at_call 69; refine (HL.out false).mono ?_; rintro e w4 hm; obtain ⟨v', n', pv', rfl, ⟨tu, yu, rfl⟩, ⟨pa, pb, pc, rfl⟩, ⟨z0, z1⟩, HR4, HM4⟩ := HEND.out _ _ _ hm; have d0 : w4.cell? ⟨w.heap.size, 0, none⟩ = some .nilIface := (by rw [Lib.cell_of_heap HR4.out]; rfl); have d1 : w4.cell? ⟨w.heap.size, 1, none⟩ = some (.int .i64 0) := (by rw [Lib.cell_of_heap HR4.out]; rfl); have d2 : w4.cell? ⟨w.heap.size, 2, none⟩ = some (.slice none 0 0) := (by rw [Lib.cell_of_heap HR4.out]; rfl); have g0 := Lib.frozen_of_heap HR4.out 0; have g1 := Lib.frozen_of_heap HR4.out 1; have g2 := Lib.frozen_of_heap HR4.out 2))
        all_goals go_wp2_with fail
        all_goals
          refine bodyPost_ret_by (v := .agg #[.iface tu yu, .int .i64 (n' : Int), .slice pa pb pc]) ?_ rfl HM4.out
          obtain ⟨q0, q1, q2⟩ := three_out HR4.out (.iface tu yu) (.int .i64 (n' : Int)) (.slice pa pb pc)
          simp [results, Tryz.results98, go_sem, q0, q1, q2]
    · rcases hk with rfl | rfl
      · simp only [decide_true] at e1 HEND
        go_enter Tryz.func98, Tryz.ntmps98
        go_wp2_with fail
        rw [← HW1.out]
        go_region_held3 (fun W => W.cell? ⟨gb, 0, none⟩ = some (.map (some mb)) ∧ W.cell? ⟨gb, 1, none⟩ = some (.bool true)) ((first | go_keep | (refine ⟨?_, ?_⟩ <;> (repeat (rw [World.cell?_setCell_far _ _ _ _ (by dsimp only; omega)])) <;> assumption)))
          ((go_at_call 69; refine (HL.out true).mono ?_; rintro e w4 hm; obtain ⟨v', n', pv', rfl, ⟨tu, yu, rfl⟩, ⟨pa, pb, pc, rfl⟩, ⟨z0, z1⟩, HR4, HM4⟩ := HEND.out _ _ _ hm; have d0 : w4.cell? ⟨w.heap.size, 0, none⟩ = some .nilIface := (by rw [Lib.cell_of_heap HR4.out]; rfl); have d1 : w4.cell? ⟨w.heap.size, 1, none⟩ = some (.int .i64 0) := (by rw [Lib.cell_of_heap HR4.out]; rfl); have d2 : w4.cell? ⟨w.heap.size, 2, none⟩ = some (.slice none 0 0) := (by rw [Lib.cell_of_heap HR4.out]; rfl); have g0 := Lib.frozen_of_heap HR4.out 0; have g1 := Lib.frozen_of_heap HR4.out 1; have g2 := Lib.frozen_of_heap HR4.out 2))
        all_goals go_wp2_with fail
        all_goals
          refine bodyPost_ret_by (v := .agg #[.iface tu yu, .int .i64 (n' : Int), .slice pa pb pc]) ?_ rfl HM4.out
          obtain ⟨q0, q1, q2⟩ := three_out HR4.out (.iface tu yu) (.int .i64 (n' : Int)) (.slice pa pb pc)
          simp [results, Tryz.results98, go_sem, q0, q1, q2]
      · simp only [show decide (7 = 6) = false from rfl] at e1 HEND
        go_enter Tryz.func98, Tryz.ntmps98
        go_wp2_with fail
        rw [← HW1.out]
        go_region_held3 (fun W => W.cell? ⟨gb, 0, none⟩ = some (.map (some mb)) ∧ W.cell? ⟨gb, 1, none⟩ = some (.bool false)) ((first | go_keep | (refine ⟨?_, ?_⟩ <;> (repeat (rw [World.cell?_setCell_far _ _ _ _ (by dsimp only; omega)])) <;> assumption)))
          ((go_at_call 69; refine (HL.out false).mono ?_; rintro e w4 hm; obtain ⟨v', n', pv', rfl, ⟨tu, yu, rfl⟩, ⟨pa, pb, pc, rfl⟩, ⟨z0, z1⟩, HR4, HM4⟩ := HEND.out _ _ _ hm; have d0 : w4.cell? ⟨w.heap.size, 0, none⟩ = some .nilIface := (by rw [Lib.cell_of_heap HR4.out]; rfl); have d1 : w4.cell? ⟨w.heap.size, 1, none⟩ = some (.int .i64 0) := (by rw [Lib.cell_of_heap HR4.out]; rfl); have d2 : w4.cell? ⟨w.heap.size, 2, none⟩ = some (.slice none 0 0) := (by rw [Lib.cell_of_heap HR4.out]; rfl); have g0 := Lib.frozen_of_heap HR4.out 0; have g1 := Lib.frozen_of_heap HR4.out 1; have g2 := Lib.frozen_of_heap HR4.out 2))
        all_goals go_wp2_with fail
        all_goals
          refine bodyPost_ret_by (v := .agg #[.iface tu yu, .int .i64 (n' : Int), .slice pa pb pc]) ?_ rfl HM4.out
          obtain ⟨q0, q1, q2⟩ := three_out HR4.out (.iface tu yu) (.int .i64 (n' : Int)) (.slice pa pb pc)
          simp [results, Tryz.results98, go_sem, q0, q1, q2]
set_option maxHeartbeats 4000000 in
set_option maxRecDepth 100000 in
theorem whole_one (ok : Nat → Prop) (B C mb gb sb k : Nat) (tb : List (List UInt8)) (y : Ex) (pv : Value) (w : World) (h : Gs ok B C mb gb sb k tb [y] false pv w) :
    Calls Tryz.prog 98 #[.pointer (some ⟨gb, 0, none⟩)] w (Wholed ok C mb tb y w) := by
  obtain ⟨ts, hl, ho, hxs, _⟩ := h.rows
  obtain ⟨t, hts⟩ : ∃ t, ts = [t] := by
    match ts, hl with
    | [t], _ => exact ⟨t, rfl⟩
  subst hts
  have hx := hxs 0 y t rfl rfl
  obtain ⟨v, n, q⟩ := t
  obtain ⟨tu, yu, e1⟩ := IsEx.iface _ _ hx.ex
  obtain ⟨pa, pb, pc, e2⟩ := hx.slice
  simp only at e1 e2
  subst e1 e2
  obtain ⟨g, cap, hpv⟩ : ∃ g cap, pv = .slice (some ⟨g, 0, none⟩) 1 cap := by
    rcases ho.2 with ⟨_, hn⟩ | ⟨g, cap, cur, hv, _⟩
    · simp at hn
    · exact ⟨g, cap, hv⟩
  subst hpv
  obtain ⟨r0, r1, r2⟩ := row_cells (U := [y]) ho hl 0 _ rfl
  have hgl : g < w.heap.size := World.block_lt_of_cell? _ _ r0
  obtain ⟨w1, hw1⟩ : ∃ w1, w1 = w.alloc (.cells #[.nilIface, .int .i64 0, .slice none 0 0] 111) := ⟨_, rfl⟩
  have hb1 : Below w.heap.size w w1 := by rw [hw1]; exact (Below.refl _ _).alloc (Nat.le_refl _) _
  have a2 := (h.below hb1).c2
  have a4 := (h.below hb1).c4
  have s0 := (hb1.cell (p := ⟨g, 0 * 3, none⟩) hgl).trans r0
  have s1 := (hb1.cell (p := ⟨g, 0 * 3 + 1, none⟩) hgl).trans r1
  have s2 := (hb1.cell (p := ⟨g, 0 * 3 + 2, none⟩) hgl).trans r2
  simp only [Nat.zero_mul, Nat.zero_add] at s0 s1 s2
  have hbf : Below w.heap.size w (w.alloc (.cells #[.iface tu yu, .int .i64 (n : Int), .slice pa pb pc] 111)) := (Below.refl _ _).alloc (Nat.le_refl _) _
  have HEND : Hid (Wholed ok C mb tb y w (.returned (.agg #[.iface tu yu, .int .i64 (n : Int), .slice pa pb pc])) (w.alloc (.cells #[.iface tu yu, .int .i64 (n : Int), .slice pa pb pc] 111))) := by
    refine ⟨_, n, _, [], rfl, IsTv.stay [] (Stay.below hbf) (fun g hg => hg.1) y _ n _ hx, by rw [List.append_nil]; exact h.tbl.kept (row := none) (grown_of_below hbf _) (by simp), by simp, grown_of_below hbf _⟩
  rw [hw1] at a2 a4 s0 s1 s2
  clear hw1 hb1 hbf h ho hxs hx r0 r1 r2
  go_enter Tryz.func98, Tryz.ntmps98
  go_wp2_with fail
  refine bodyPost_ret_by (v := .agg #[.iface tu yu, .int .i64 (n : Int), .slice pa pb pc]) ?_ rfl HEND.out
  simp [results, Tryz.results98, go_sem]
end Go.Proofs.YtgoabhclnicepaaGreatDoor
