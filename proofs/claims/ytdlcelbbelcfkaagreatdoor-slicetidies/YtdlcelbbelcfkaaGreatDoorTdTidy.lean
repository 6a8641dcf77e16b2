/-
  The walks of list and tidy: an expression made tidy. The walk of tidy, all its ways; Tidy. The walk of Tidy.
-/
import Derived.Test.YtdlcelbbelcfkaaGreatDoorTdWholeAll
import Derived.Test.YtdlcelbbelcfkaaGreatDoorTdWholeC
namespace Go.Proofs.YtdlcelbbelcfkaaGreatDoor
open Go.RowKit Go.Maps
theorem as_noAnd {ok : Nat → Prop} {w : World} (x : Ex) (v : Value) (h : IsEx ok w x v) (h6 : x.kind ≠ 6) (w' : World) : (Instr.typeAssert v 64 169 true).run Tryz.prog w' = .ok (.tuple #[.slice none 0 0, .bool false]) w' := by
  obtain ⟨k, nm, l⟩ := x
  match k, h with
  | 0, h => simp only [IsEx] at h; rw [h.2.2]; exact asConstAnd _ w'
  | 1, h => simp only [IsEx] at h; rw [h.2.2]; exact asConstAnd _ w'
  | 2, h => simp only [IsEx] at h; rw [h.2.2]; exact asBitAnd _ w'
  | 3, h => simp only [IsEx] at h; rw [h.2.2]; exact asRiseAnd _ w'
  | 4, h => simp only [IsEx] at h; rw [h.2.2]; exact asFallAnd _ w'
  | 5, h => simp only [IsEx] at h; obtain ⟨_, _, u, h, _⟩ := h; rw [h]; exact asNotAnd _ w'
  | 6, _ => simp at h6
  | 7, h => simp only [IsEx] at h; obtain ⟨_, _, _, _, _, h, _⟩ := h; rw [h]; exact asOrAnd _ w'
  | n + 8, h => simp only [IsEx] at h
theorem as_noOr {ok : Nat → Prop} {w : World} (x : Ex) (v : Value) (h : IsEx ok w x v) (h7 : x.kind ≠ 7) (w' : World) : (Instr.typeAssert v 64 171 true).run Tryz.prog w' = .ok (.tuple #[.slice none 0 0, .bool false]) w' := by
  obtain ⟨k, nm, l⟩ := x
  match k, h with
  | 0, h => simp only [IsEx] at h; rw [h.2.2]; exact asConstOr _ w'
  | 1, h => simp only [IsEx] at h; rw [h.2.2]; exact asConstOr _ w'
  | 2, h => simp only [IsEx] at h; rw [h.2.2]; exact asBitOr _ w'
  | 3, h => simp only [IsEx] at h; rw [h.2.2]; exact asRiseOr _ w'
  | 4, h => simp only [IsEx] at h; rw [h.2.2]; exact asFallOr _ w'
  | 5, h => simp only [IsEx] at h; obtain ⟨_, _, u, h, _⟩ := h; rw [h]; exact asNotOr _ w'
  | 6, h => simp only [IsEx] at h; obtain ⟨_, _, _, _, _, h, _⟩ := h; rw [h]; exact asAndOr _ w'
  | 7, _ => simp at h7
  | n + 8, h => simp only [IsEx] at h
set_option maxHeartbeats 8000000 in
set_option maxRecDepth 100000 in
theorem tlist_any (l : List Ex) (hT : TakeOK l) (k : Nat) (hk : k = 6 ∨ k = 7) (nm : List UInt8) (ok : Nat → Prop) (mb : Nat) (tb : List (List UInt8)) (w : World) (g cap : Nat) (h : Tbl mb tb w) (hp : Pow w) (hok : ∀ g, ok g → g < w.heap.size) (hw : Ex.Wf ⟨k, nm, l⟩) (hcap : l.length ≤ cap) (hmx : l.length ≤ 9223372036854775807) (hog : ok g)
    (hrow : ∀ (i : Nat) (y : Ex), l[i]? = some y → ∃ u, w.cell? ⟨g, i, none⟩ = some u ∧ IsEx ok w y u) (hc : tb.length + (1 + costL l) ≤ 1000000) :
    Calls Tryz.prog 86 #[.agg #[.map (some mb)], .slice (some ⟨g, 0, none⟩) l.length cap, .bool (decide (k = 6))] w (Made ok mb tb (1 + costL l) (Ex.tidy ⟨k, nm, l⟩) w) := by
  obtain ⟨kb, hkb⟩ : ∃ kb, kb = decide (k = 6) := ⟨_, rfl⟩
  obtain ⟨w2, hw2⟩ : ∃ w2, w2 = (w.alloc (.cells #[.map (some mb)] 127)).alloc (.cells #[.nilIface, .int .i64 0, .slice none 0 0] 130) := ⟨_, rfl⟩
  have hs2 : w2.heap.size = w.heap.size + 1 + 1 := by rw [hw2]; simp
  have hb2 : Below w.heap.size w w2 := by rw [hw2]; exact ((Below.refl _ _).alloc (Nat.le_refl _) _).alloc (by simp) _
  obtain ⟨w3, hw3⟩ : ∃ w3, w3 = w2.alloc (.map #[] 0) := ⟨_, rfl⟩
  obtain ⟨w4, hw4⟩ : ∃ w4, w4 = w3.alloc (.cells #[.map (some mb), .bool kb, .slice none 0 0, .map (some (w.heap.size + 1 + 1)), .bool false] 203) := ⟨_, rfl⟩
  have hs3 : w3.heap.size = w.heap.size + 1 + 1 + 1 := by rw [hw3]; simp; omega
  have hs4 : w4.heap.size = w.heap.size + 1 + 1 + 1 + 1 := by rw [hw4]; simp; omega
  have hb3 : Below w.heap.size w w3 := by rw [hw3]; exact hb2.alloc hb2.size _
  have hb4 : Below w.heap.size w w4 := by rw [hw4]; exact hb3.alloc hb3.size _
  have hr4 : w4.heap[w.heap.size + 1]? = some (.cells #[.nilIface, .int .i64 0, .slice none 0 0] 130 (0, 0)) := by
    have e := heap_alloc_new (w.alloc (.cells #[.map (some mb)] 127)) (.cells #[.nilIface, .int .i64 0, .slice none 0 0] 130)
    rw [World.size_alloc] at e
    rw [hw4, heap_alloc_old _ _ (by omega), hw3, heap_alloc_old _ _ (by omega), hw2]; exact e
  have hG : Gs ok w.heap.size w4.heap.size mb (w.heap.size + 1 + 1 + 1) (w.heap.size + 1 + 1) k tb [] false (.slice none 0 0) w4 := by
    have hmap : w3.ownsMap Tryz.prog 3 (unitElem (H := Unit)) (w.heap.size + 1 + 1) 0 (.map []) := by
      have := World.ownsMap_made (H := Unit) w2 Tryz.prog 3 unitElem
      rw [hs2] at this
      rw [hw3]; exact this
    refine ⟨h.kept (row := none) (grown_of_below hb4 _) (by simp), hp.block (hb4.block _ hp.lt), hp.lt, h.lt, by omega, by omega, by omega, by omega, by omega, Nat.le_refl _, hok, ?_, ⟨[], rfl, World.ownsRow_nil _ _ _ _, fun i x t hi => by simp at hi, .map [], ?_, fun m => by simp [Maps.has]⟩, fun x hx => by simp at hx⟩
    · have := heap_alloc_new w3 (.cells #[.map (some mb), .bool kb, .slice none 0 0, .map (some (w.heap.size + 1 + 1)), .bool false] 203)
      rw [hs3] at this
      rw [hw4, this, hkb]
    · rw [hw4]; exact hmap.alloc _
  have hl := ((Ex.Wf.def _ _ _).1 hw).2
  have HC1 := hide (hT ok w.heap.size w4.heap.size mb (w.heap.size + 1 + 1 + 1) (w.heap.size + 1 + 1) k tb [] [] false (.slice none 0 0) w4 g cap hk hG (Ex.Gth.nil k) (fun y hy => by simp at hy) hl hcap hmx hog (fun i y hi => by
    obtain ⟨u, hu, hx⟩ := hrow i y hi
    exact ⟨u, (hb4.cell (p := ⟨g, i, none⟩) (hok g hog)).trans hu, IsEx.stay (Stay.below hb4) (fun _ h => h) y u hx⟩) (by omega) (by simp; omega))
  rw [List.nil_append] at HC1
  have HC2 : Hid (∀ more U d pv w5, Gs ok w.heap.size w4.heap.size mb (w.heap.size + 1 + 1 + 1) (w.heap.size + 1 + 1) k (tb ++ more) U d pv w5 → more.length ≤ costL l → U.length ≤ ([] : List Ex).length + costL l → Calls Tryz.prog 125 #[.pointer (some ⟨w.heap.size + 1 + 1 + 1, 0, none⟩)] w5 (Wholed ok w4.heap.size mb (tb ++ more) (if d = true then ⟨Ex.allK k, [], []⟩ else Ex.wrap k U) w5)) := by
    intro more U d pv w5 h5 h6 h7
    simp only [List.length_nil, Nat.zero_add] at h7
    exact twhole_any ok _ _ mb _ _ k hk (tb ++ more) U d pv w5 h5 (by rw [List.length_append]; omega) (by omega)
  have HEND : Hid (∀ more U d pv w5 e w6, Gs ok w.heap.size w4.heap.size mb (w.heap.size + 1 + 1 + 1) (w.heap.size + 1 + 1) k (tb ++ more) U d pv w5 → Ex.Gth k (l.map fun x => Ex.sq k x).flatten U d → more.length ≤ costL l → Gf mb (w.heap.size + 1 + 1 + 1) (w.heap.size + 1 + 1) (.slice none 0 0) pv w4 w5 → Wholed ok w4.heap.size mb (tb ++ more) (if d = true then ⟨Ex.allK k, [], []⟩ else Ex.wrap k U) w5 e w6 →
      ∃ v n q, e = .returned (.agg #[v, .int .i64 (n : Int), q]) ∧ (∃ tu yu, v = .iface tu yu) ∧ (∃ a b c, q = .slice a b c) ∧ Hid (w6.heap[w.heap.size + 1]? = some (.cells #[.nilIface, .int .i64 0, .slice none 0 0] 130 (0, 0))) ∧ Hid (Made ok mb tb (1 + costL l) (Ex.tidy ⟨k, nm, l⟩) w e (((w6.setCell ⟨w.heap.size + 1, 0, none⟩ v).setCell ⟨w.heap.size + 1, 1, none⟩ (.int .i64 (n : Int))).setCell ⟨w.heap.size + 1, 2, none⟩ q))) := by
    rintro more U d pv w5 e w6 h5 h6 h7 h8 ⟨v, n, q, more2, rfl, hx, ht, hm, hgr⟩
    have hmb := h.lt
    have ex : Ex.tidy ⟨k, nm, l⟩ = if d = true then ⟨Ex.allK k, [], []⟩ else Ex.wrap k U := by
      rw [Ex.tidy_sq k (by omega) (by omega) nm l hw]; exact h6.whole
    have hs5 := h8.size
    have e5 : w5.heap[w.heap.size + 1]? = w4.heap[w.heap.size + 1]? := h8.block _ (by omega) (by omega) (by omega) (by omega) (by simp [Value.ownBlock])
    have e6 : w6.heap[w.heap.size + 1]? = some (.cells #[.nilIface, .int .i64 0, .slice none 0 0] 130 (0, 0)) := (hgr.block _ (by omega) (by simp; omega)).trans (e5.trans hr4)
    have hk3 := three_kept w6 (w.heap.size + 1) v (.int .i64 (n : Int)) q
    have hg6 : w.grownBy w6 (some mb) := by
      refine ⟨hgr.os.trans (h8.os.trans hb4.os), hgr.tape.trans (h8.tape.trans hb4.tape), hgr.output.trans (h8.output.trans hb4.output), by have := hgr.size; omega, fun b hb hne => ?_⟩
      rw [hgr.block b (by omega) hne, h8.block b (by omega) (by simpa using hne) (by omega) (by omega) (by simp [Value.ownBlock]), hb4.block b hb]
    refine ⟨v, n, q, rfl, IsEx.iface _ _ hx.ex, hx.slice, e6, ?_⟩
    refine ⟨v, n, q, more ++ more2, rfl, ?_, ?_, by rw [List.length_append]; omega, ?_⟩
    · rw [ex, ← List.append_assoc]
      have := IsTv.stay (ok := fun g => ok g ∨ w4.heap.size ≤ g) (ok' := fun g => ok g ∨ w.heap.size ≤ g) [] (Stay.grown hk3 (fun g hg => by
        intro e
        simp only [Option.some.injEq] at e
        rcases hg with h1 | h1
        · have := hok g h1; omega
        · omega)) (fun g hg => by
        rcases hg with h1 | h1
        · exact .inl h1
        · exact .inr (by omega)) _ v n q hx
      rwa [List.append_nil] at this
    · rw [← List.append_assoc]; exact ht.kept hk3 (by simp; omega)
    · exact ⟨hk3.os.trans hg6.os, hk3.tape.trans hg6.tape, hk3.output.trans hg6.output, Nat.le_trans hg6.size hk3.size, fun b hb hne => (hk3.block b (Nat.lt_of_lt_of_le hb hg6.size) (by simp; omega)).trans (hg6.block b hb hne)⟩
  rw [← hkb]
  have HW2 := hide hw2
  have HW3 := hide hw3
  have HW4 := hide hw4
  have hmm := @run_makeMap Tryz.prog
  generalize Ex.tidy ⟨k, nm, l⟩ = tx at *
  clear hkb hw2 hw3 hw4 hs2 hs3 hs4 hb2 hb3 hb4 hr4 hG hl h hp hok hw hcap hog hrow hc hT
  go_enter Tryz.func86, Tryz.ntmps86
  go_wp2_with fail
  rw [← HW2.out, ← HW3.out, ← HW4.out]
  refine HC1.out.mono ?_
  rintro e w5 ⟨rfl, more, U, d, pv, g1, g2, g3, g4, g5⟩
  have HC3 := hide (HC2.out more U d pv w5 g1 g3 g4)
  have HE := hide (fun e w6 => HEND.out more U d pv w5 e w6 g1 g2 g3 g5)
  clear g1 g2 g3 g4 g5 HC1 HC2 HEND
  go_wp2_with fail
  refine HC3.out.mono ?_
  intro e w6 hwh
  obtain ⟨v, n, q, rfl, ⟨tu, yu, rfl⟩, ⟨a, b, c, rfl⟩, HR6, HM6⟩ := HE.out e w6 hwh
  have d0 : w6.cell? ⟨w.heap.size + 1, 0, none⟩ = some .nilIface := by rw [Lib.cell_of_heap HR6.out]; rfl
  have d1 : w6.cell? ⟨w.heap.size + 1, 1, none⟩ = some (.int .i64 0) := by rw [Lib.cell_of_heap HR6.out]; rfl
  have d2 : w6.cell? ⟨w.heap.size + 1, 2, none⟩ = some (.slice none 0 0) := by rw [Lib.cell_of_heap HR6.out]; rfl
  have f0 := Lib.frozen_of_heap HR6.out 0
  have f1 := Lib.frozen_of_heap HR6.out 1
  have f2 := Lib.frozen_of_heap HR6.out 2
  clear hwh
  go_wp2_with fail
  refine bodyPost_ret_by (v := .agg #[.iface tu yu, .int .i64 (n : Int), .slice a b c]) ?_ rfl HM6.out
  obtain ⟨q0, q1, q2⟩ := three_out HR6.out (.iface tu yu) (.int .i64 (n : Int)) (.slice a b c)
  simp [results, Tryz.results86, go_sem, q0, q1, q2]
/-- what tidy's own result block bears, and what was made behind it -/
theorem made_out {ok : Nat → Prop} {mb : Nat} {tb : List (List UInt8)} {c c' : Nat} {x : Ex} {w w1 w4 : World} {e : Ending} {b : Nat} (h : Made ok mb tb c x w1 e w4) (hg : w.grownBy w1 (some mb)) (hb : w.heap.size ≤ b) (hT : Tbl mb tb w) (hok : ∀ g, ok g → g < w.heap.size) (hc : c ≤ c') (hr : w1.heap[b]? = some (.cells #[.nilIface, .int .i64 0, .slice none 0 0] 130 (0, 0))) :
    ∃ v n q, e = .returned (.agg #[v, .int .i64 (n : Int), q]) ∧ (∃ tu yu, v = .iface tu yu) ∧ (∃ a b c, q = .slice a b c) ∧ Hid (w4.heap[b]? = some (.cells #[.nilIface, .int .i64 0, .slice none 0 0] 130 (0, 0))) ∧ Hid (Made ok mb tb c' x w e (((w4.setCell ⟨b, 0, none⟩ v).setCell ⟨b, 1, none⟩ (.int .i64 (n : Int))).setCell ⟨b, 2, none⟩ q)) := by
  have hb1 : b < w1.heap.size := (Array.getElem?_eq_some_iff.1 hr).1
  have hout := h.put_after hg hb hb1 hT hok hc
  obtain ⟨v, n, q, more, rfl, hq, hq2, _, hgr⟩ := h
  have hlt := hT.lt
  exact ⟨v, n, q, rfl, IsEx.iface _ _ hq.ex, hq.slice, (hgr.block b hb1 (by simp; omega)).trans hr, hout _ _ _⟩
set_option maxHeartbeats 8000000 in
set_option maxRecDepth 100000 in
theorem tidy_leaf_walk (k : Nat) (hk : k ≤ 4) (nm : List UInt8) (l : List Ex) : TidyOK ⟨k, nm, l⟩ := by
  intro ok mb tb v w h hp hok hx hw hc
  have hl : l = [] := by
    have := ((Ex.Wf.def _ _ _).1 hw).1
    rcases this with h1 | h1 | h1 | h1
    · exact List.length_eq_zero_iff.1 h1.2.2
    · exact List.length_eq_zero_iff.1 h1.2.2.2
    · omega
    · omega
  subst hl
  rw [Ex.tidy_leaf k hk]
  have htx : (⟨k, nm, []⟩ : Ex).text.length ≤ 1000000 := by
    have hnm : nm.length ≤ 8 := by
      match k, hx with
      | 0, hx => simp only [IsEx] at hx; rw [hx.1]; simp
      | 1, hx => simp only [IsEx] at hx; rw [hx.1]; simp
      | 2, hx => simp only [IsEx] at hx; exact hx.2.1
      | 3, hx => simp only [IsEx] at hx; exact hx.2.1
      | 4, hx => simp only [IsEx] at hx; exact hx.2.1
      | j + 5, _ => omega
    match k, hk with
    | 0, _ => simp [Ex.text]
    | 1, _ => simp [Ex.text]
    | 2, _ => simp [Ex.text]; omega
    | 3, _ => simp [Ex.text]; omega
    | 4, _ => simp [Ex.text]; omega
    | j + 5, _ => omega
  have hcp := Ex.cost_pos ⟨k, nm, []⟩
  obtain ⟨w2, hw2⟩ : ∃ w2, w2 = (w.alloc (.cells #[.map (some mb)] 127)).alloc (.cells #[.nilIface, .int .i64 0, .slice none 0 0] 130) := ⟨_, rfl⟩
  have hb2 : Below w.heap.size w w2 := by rw [hw2]; exact ((Below.refl _ _).alloc (Nat.le_refl _) _).alloc (by simp) _
  have hr2 : w2.heap[w.heap.size + 1]? = some (.cells #[.nilIface, .int .i64 0, .slice none 0 0] 130 (0, 0)) := by
    have := heap_alloc_new (w.alloc (.cells #[.map (some mb)] 127)) (.cells #[.nilIface, .int .i64 0, .slice none 0 0] 130)
    rw [World.size_alloc] at this
    rw [hw2]; exact this
  have HC := hide (leaf_any ok mb tb ⟨k, nm, []⟩ v w2 (h.kept (row := none) (grown_of_below hb2 _) (by simp)) (by omega) (IsEx.stay (Stay.below hb2) (fun _ h => h) _ v hx) hk rfl htx)
  have HE : Hid (∀ e w4, Made ok mb tb 1 ⟨k, nm, []⟩ w2 e w4 → _) := fun e w4 hm => made_out hm (grown_of_below hb2 _) (b := w.heap.size + 1) (by omega) h hok hcp hr2
  have hA : ∀ w', (Instr.typeAssert v 64 166 true).run Tryz.prog w' = .ok (.tuple #[.agg #[.nilIface], .bool false]) w' := as_noNot ⟨k, nm, []⟩ v hx (by show k ≠ 5; omega)
  have hA6 : ∀ w', (Instr.typeAssert v 64 169 true).run Tryz.prog w' = .ok (.tuple #[.slice none 0 0, .bool false]) w' := as_noAnd ⟨k, nm, []⟩ v hx (by show k ≠ 6; omega)
  have hA7 : ∀ w', (Instr.typeAssert v 64 171 true).run Tryz.prog w' = .ok (.tuple #[.slice none 0 0, .bool false]) w' := as_noOr ⟨k, nm, []⟩ v hx (by show k ≠ 7; omega)
  obtain ⟨tu, yu, hiu⟩ := IsEx.iface _ v hx
  subst hiu
  have HW2 := hide hw2
  clear hw2 hb2 hr2 h hp hok hx hw hc htx hcp hk
  go_enter Tryz.func57, Tryz.ntmps57
  go_wp2_with fail
  rw [← HW2.out]
  refine HC.out.mono ?_
  intro e w4 hm
  obtain ⟨v, n, q, rfl, ⟨t1, y1, rfl⟩, ⟨a, b, c, rfl⟩, HR6, HM6⟩ := HE.out e w4 hm
  have d0 : w4.cell? ⟨w.heap.size + 1, 0, none⟩ = some .nilIface := by rw [Lib.cell_of_heap HR6.out]; rfl
  have d1 : w4.cell? ⟨w.heap.size + 1, 1, none⟩ = some (.int .i64 0) := by rw [Lib.cell_of_heap HR6.out]; rfl
  have d2 : w4.cell? ⟨w.heap.size + 1, 2, none⟩ = some (.slice none 0 0) := by rw [Lib.cell_of_heap HR6.out]; rfl
  have f0 := Lib.frozen_of_heap HR6.out 0
  have f1 := Lib.frozen_of_heap HR6.out 1
  have f2 := Lib.frozen_of_heap HR6.out 2
  clear hm
  go_wp2_with fail
  refine bodyPost_ret_by (v := .agg #[.iface t1 y1, .int .i64 (n : Int), .slice a b c]) ?_ rfl HM6.out
  obtain ⟨q0, q1, q2⟩ := three_out HR6.out (.iface t1 y1) (.int .i64 (n : Int)) (.slice a b c)
  simp [results, Tryz.results57, go_sem, q0, q1, q2]
set_option maxHeartbeats 8000000 in
set_option maxRecDepth 100000 in
theorem tidy_list_walk (k : Nat) (hk : k = 6 ∨ k = 7) (nm : List UInt8) (l : List Ex) (hT : TakeOK l) : TidyOK ⟨k, nm, l⟩ := by
  intro ok mb tb v w h hp hok hx hw hc
  obtain ⟨T, g, cap, hTT, hv, hcap, hmx, hog, hrow⟩ := IsEx.list hk hx
  have hcs : Ex.cost ⟨k, nm, l⟩ = 1 + costL l := Ex.cost_def k nm l
  obtain ⟨w2, hw2⟩ : ∃ w2, w2 = (w.alloc (.cells #[.map (some mb)] 127)).alloc (.cells #[.nilIface, .int .i64 0, .slice none 0 0] 130) := ⟨_, rfl⟩
  have hb2 : Below w.heap.size w w2 := by rw [hw2]; exact ((Below.refl _ _).alloc (Nat.le_refl _) _).alloc (by simp) _
  have hr2 : w2.heap[w.heap.size + 1]? = some (.cells #[.nilIface, .int .i64 0, .slice none 0 0] 130 (0, 0)) := by
    have := heap_alloc_new (w.alloc (.cells #[.map (some mb)] 127)) (.cells #[.nilIface, .int .i64 0, .slice none 0 0] 130)
    rw [World.size_alloc] at this
    rw [hw2]; exact this
  have HC := hide (tlist_any l hT k hk nm ok mb tb w2 g cap (h.kept (row := none) (grown_of_below hb2 _) (by simp)) (hp.block (hb2.block _ hp.lt)) (fun g hg => Nat.lt_of_lt_of_le (hok g hg) hb2.size) hw hcap hmx hog (fun i y hi => by
    obtain ⟨u, hu, hxu⟩ := hrow i y hi
    exact ⟨u, (hb2.cell (p := ⟨g, i, none⟩) (hok g hog)).trans hu, IsEx.stay (Stay.below hb2) (fun _ h => h) y u hxu⟩) (by omega))
  have HE : Hid (∀ e w4, Made ok mb tb (1 + costL l) (Ex.tidy ⟨k, nm, l⟩) w2 e w4 → _) := fun e w4 hm => made_out hm (grown_of_below hb2 _) (b := w.heap.size + 1) (by omega) h hok (show 1 + costL l ≤ Ex.cost ⟨k, nm, l⟩ by omega) hr2
  have hvT : v = .iface (if k = 6 then 169 else 171) (.slice (some ⟨g, 0, none⟩) l.length cap) := by
    rcases hk with rfl | rfl
    · simp only [IsEx] at hx
      obtain ⟨_, _, _, g', cap', h3, _⟩ := hx
      rw [hv] at h3 ⊢
      simp only [Value.iface.injEq] at h3
      rw [h3.1]; rfl
    · simp only [IsEx] at hx
      obtain ⟨_, _, _, g', cap', h3, _⟩ := hx
      rw [hv] at h3 ⊢
      simp only [Value.iface.injEq] at h3
      rw [h3.1]; rfl
  subst hvT
  have HW2 := hide hw2
  generalize Ex.tidy ⟨k, nm, l⟩ = tx at *
  generalize Ex.cost ⟨k, nm, l⟩ = cx at *
  clear hw2 hb2 hr2 h hp hok hx hw hc hrow hcs hT hv hTT
  rcases hk with rfl | rfl
  all_goals
    go_enter Tryz.func57, Tryz.ntmps57
    go_wp2_with fail
    rw [← HW2.out]
    refine HC.out.mono ?_
    intro e w4 hm
    obtain ⟨v, n, q, rfl, ⟨t1, y1, rfl⟩, ⟨a, b, c, rfl⟩, HR6, HM6⟩ := HE.out e w4 hm
    have d0 : w4.cell? ⟨w.heap.size + 1, 0, none⟩ = some .nilIface := by rw [Lib.cell_of_heap HR6.out]; rfl
    have d1 : w4.cell? ⟨w.heap.size + 1, 1, none⟩ = some (.int .i64 0) := by rw [Lib.cell_of_heap HR6.out]; rfl
    have d2 : w4.cell? ⟨w.heap.size + 1, 2, none⟩ = some (.slice none 0 0) := by rw [Lib.cell_of_heap HR6.out]; rfl
    have f0 := Lib.frozen_of_heap HR6.out 0
    have f1 := Lib.frozen_of_heap HR6.out 1
    have f2 := Lib.frozen_of_heap HR6.out 2
    clear hm
    go_wp2_with fail
    refine bodyPost_ret_by (v := .agg #[.iface t1 y1, .int .i64 (n : Int), .slice a b c]) ?_ rfl HM6.out
    obtain ⟨q0, q1, q2⟩ := three_out HR6.out (.iface t1 y1) (.int .i64 (n : Int)) (.slice a b c)
    simp [results, Tryz.results57, go_sem, q0, q1, q2]
set_option maxHeartbeats 8000000 in
set_option maxRecDepth 100000 in
theorem tidy_not_walk (nm : List UInt8) (y : Ex) (hY : TidyOK y) : TidyOK ⟨5, nm, [y]⟩ := by
  intro ok mb tb v w h hp hok hx hw hc
  simp only [IsEx] at hx
  obtain ⟨_, _, u, rfl, hu⟩ := hx
  have hxu : IsEx ok w y u := hu _ rfl
  obtain ⟨tu, yu, rfl⟩ := IsEx.iface y u hxu
  have hwy : Ex.Wf y := ((Ex.Wf.def _ _ _).1 hw).2 y (by simp)
  have hcs : Ex.cost ⟨5, nm, [y]⟩ = 1 + (Ex.cost y + y.size) := by rw [Ex.cost_def]; simp
  rw [Ex.tidy5]
  obtain ⟨w3, hw3⟩ : ∃ w3, w3 = ((w.alloc (.cells #[.map (some mb)] 127)).alloc (.cells #[.nilIface, .int .i64 0, .slice none 0 0] 130)).alloc (.cells #[.iface tu yu] 166) := ⟨_, rfl⟩
  have hs3 : w3.heap.size = w.heap.size + 1 + 1 + 1 := by rw [hw3]; simp
  have hb3 : Below w.heap.size w w3 := by rw [hw3]; exact (((Below.refl _ _).alloc (Nat.le_refl _) _).alloc (by simp) _).alloc (by simp; omega) _
  have ht3 : w3.heap[w.heap.size]? = some (.cells #[.map (some mb)] 127 (0, 0)) := by
    rw [hw3, heap_alloc_old _ _ (by simp; omega), heap_alloc_old _ _ (by simp)]
    exact heap_alloc_new w _
  have hr3 : w3.heap[w.heap.size + 1]? = some (.cells #[.nilIface, .int .i64 0, .slice none 0 0] 130 (0, 0)) := by
    have := heap_alloc_new (w.alloc (.cells #[.map (some mb)] 127)) (.cells #[.nilIface, .int .i64 0, .slice none 0 0] 130)
    rw [World.size_alloc] at this
    rw [hw3, heap_alloc_old _ _ (by simp)]; exact this
  have hn3 : w3.heap[w.heap.size + 1 + 1]? = some (.cells #[.iface tu yu] 166 (0, 0)) := by
    have := heap_alloc_new ((w.alloc (.cells #[.map (some mb)] 127)).alloc (.cells #[.nilIface, .int .i64 0, .slice none 0 0] 130)) (.cells #[.iface tu yu] 166)
    rw [World.size_alloc, World.size_alloc] at this
    rw [hw3]; exact this
  have a0 : w3.cell? ⟨w.heap.size, 0, none⟩ = some (.map (some mb)) := by rw [Lib.cell_of_heap ht3]; rfl
  have a1 : w3.cell? ⟨w.heap.size + 1 + 1, 0, none⟩ = some (.iface tu yu) := by rw [Lib.cell_of_heap hn3]; rfl
  have hT3 : Tbl mb tb w3.drew := h.kept (row := none) (grown_of_below hb3.drew _) (by simp)
  have HC1 := hide (hY ok mb tb (.iface tu yu) w3.drew hT3 (hp.block (hb3.drew.block _ hp.lt)) (fun g hg => Nat.lt_of_lt_of_le (hok g hg) hb3.size) (IsEx.stay (Stay.below hb3.drew) (fun _ h => h) y _ hxu) hwy (by omega))
  have HC2 : Hid (∀ v1 n1 q1 more w5, IsTv (fun g => ok g ∨ w3.drew.heap.size ≤ g) (tb ++ more) w5 y.tidy v1 n1 q1 → Tbl mb (tb ++ more) w5 → more.length ≤ Ex.cost y → w3.drew.grownBy w5 (some mb) →
      (w5.cell? ⟨w.heap.size, 0, none⟩ = some (.map (some mb)) ∧ w5.cell? ⟨w.heap.size + 1 + 1, 0, none⟩ = some (.iface tu yu)) ∧ Calls Tryz.prog 85 #[.agg #[.map (some mb)], .agg #[v1, .int .i64 (n1 : Int), q1]] w5 fun e w6 => (w6.cell? ⟨w.heap.size, 0, none⟩ = some (.map (some mb)) ∧ w6.cell? ⟨w.heap.size + 1 + 1, 0, none⟩ = some (.iface tu yu)) ∧ ∃ v n q, e = .returned (.agg #[v, .int .i64 (n : Int), q]) ∧ (∃ tu yu, v = .iface tu yu) ∧ (∃ a b c, q = .slice a b c) ∧ Hid (w6.heap[w.heap.size + 1]? = some (.cells #[.nilIface, .int .i64 0, .slice none 0 0] 130 (0, 0))) ∧ Hid (Made ok mb tb (Ex.cost ⟨5, nm, [y]⟩) (Ex.notT y.tidy) w e (((w6.setCell ⟨w.heap.size + 1, 0, none⟩ v).setCell ⟨w.heap.size + 1, 1, none⟩ (.int .i64 (n : Int))).setCell ⟨w.heap.size + 1, 2, none⟩ q))) := by
    intro v1 n1 q1 more w5 h1 h2 h3 h4
    refine ⟨⟨cell_turned hT3 h4 (show w3.drew.cell? _ = _ from a0), cell_turned hT3 h4 (show w3.drew.cell? _ = _ from a1)⟩, ?_⟩
    have h1' := IsTv.lt _ _ _ _ h1
    refine (tnot_any _ mb (tb ++ more) y.tidy v1 n1 q1 w5 h2 (by rw [List.length_append]; omega) ((hp.block (hb3.drew.block _ hp.lt) : Pow w3.drew).turned hT3 h4) h1' (Ex.td_tidy y hwy) (fun g hg => hg.2)).mono ?_
    rintro e w6 ⟨v, n, q, more2, rfl, hx6, ht6, hm6, hg6⟩
    have hmb := h.lt
    have hs5 := h4.size
    have hg3 : w3.drew.grownBy w6 (some mb) := h4.trans hg6
    have hg0 : w.grownBy w6 (some mb) := (grown_of_below hb3.drew _).trans hg3
    have e6 : w6.heap[w.heap.size + 1]? = some (.cells #[.nilIface, .int .i64 0, .slice none 0 0] 130 (0, 0)) := (hg3.block _ (by show _ < w3.heap.size; omega) (by simp; omega)).trans hr3
    refine ⟨⟨cell_turned hT3 hg3 (show w3.drew.cell? _ = _ from a0), cell_turned hT3 hg3 (show w3.drew.cell? _ = _ from a1)⟩, v, n, q, rfl, IsEx.iface _ _ hx6.ex, hx6.slice, e6, ?_⟩
    have hk3 := three_kept w6 (w.heap.size + 1) v (.int .i64 (n : Int)) q
    have hd3 : w3.drew.heap.size = w3.heap.size := rfl
    refine ⟨v, n, q, more ++ more2, rfl, ?_, ?_, by rw [List.length_append]; omega, ?_⟩
    · rw [← List.append_assoc]
      have := IsTv.stay (ok' := fun g => ok g ∨ w.heap.size ≤ g) [] (Stay.grown hk3 (fun g hg => by
        intro e
        simp only [Option.some.injEq] at e
        rcases hg with ⟨h1 | h1, _⟩ | h1
        · have := hok g h1; omega
        · omega
        · omega)) (fun g hg => by
        rcases hg with ⟨h1 | h1, _⟩ | h1
        · exact .inl h1
        · exact .inr (by omega)
        · exact .inr (by omega)) _ v n q hx6
      rwa [List.append_nil] at this
    · rw [← List.append_assoc]; exact ht6.kept hk3 (by simp; omega)
    · exact ⟨hk3.os.trans hg0.os, hk3.tape.trans hg0.tape, hk3.output.trans hg0.output, Nat.le_trans hg0.size hk3.size, fun b hb hne => (hk3.block b (Nat.lt_of_lt_of_le hb hg0.size) (by simp; omega)).trans (hg0.block b hb hne)⟩
  have HW3 := hide hw3
  generalize Ex.cost ⟨5, nm, [y]⟩ = cx at *
  clear hw3 hb3 hs3 ht3 hr3 hn3 hT3 h hp hok hw hc hxu hwy hcs hY hu
  go_enter Tryz.func57, Tryz.ntmps57
  go_wp2_with fail
  rw [← HW3.out]
  go_region_held3 (fun W => W.cell? ⟨w.heap.size, 0, none⟩ = some (.map (some mb)) ∧ W.cell? ⟨w.heap.size + 1 + 1, 0, none⟩ = some (.iface tu yu)) ((first | go_keep | (refine ⟨?_, ?_⟩ <;> (repeat (rw [World.cell?_setCell_far _ _ _ _ (by dsimp only; omega)])) <;> assumption)))
    ((first | (go_at_call 57; refine HC1.out.mono ?_; rintro e w5 ⟨v1, n1, q1, more, rfl, g1, g2, g3, g4⟩; obtain ⟨⟨z0, z1⟩, hcall⟩ := HC2.out v1 n1 q1 more w5 g1 g2 g3 g4; have HCALL := hide hcall; clear g1 g2 g3 g4 hcall) | (go_at_call 85; refine HCALL.out.mono ?_; rintro e w6 ⟨⟨x0, x1⟩, v, n, q, rfl, ⟨t1, y1, rfl⟩, ⟨a, b, c, rfl⟩, HR6, HM6⟩; have d0 : w6.cell? ⟨w.heap.size + 1, 0, none⟩ = some .nilIface := (by rw [Lib.cell_of_heap HR6.out]; rfl); have d1 : w6.cell? ⟨w.heap.size + 1, 1, none⟩ = some (.int .i64 0) := (by rw [Lib.cell_of_heap HR6.out]; rfl); have d2 : w6.cell? ⟨w.heap.size + 1, 2, none⟩ = some (.slice none 0 0) := (by rw [Lib.cell_of_heap HR6.out]; rfl); have f0 := Lib.frozen_of_heap HR6.out 0; have f1 := Lib.frozen_of_heap HR6.out 1; have f2 := Lib.frozen_of_heap HR6.out 2)))
  all_goals go_wp2_with fail
  all_goals
    refine bodyPost_ret_by (v := .agg #[.iface t1 y1, .int .i64 (n : Int), .slice a b c]) ?_ rfl HM6.out
    obtain ⟨q0, q1, q2⟩ := three_out HR6.out (.iface t1 y1) (.int .i64 (n : Int)) (.slice a b c)
    simp [results, Tryz.results57, go_sem, q0, q1, q2]
theorem tidy_all (x : Ex) : TidyOK x ∧ TakeOK x.of := by
  induction x using Ex.ind with
  | h k nm l ih =>
    have hT : TakeOK l := ttake_any l ih
    refine ⟨?_, hT⟩
    by_cases h4 : k ≤ 4
    · exact tidy_leaf_walk k h4 nm l
    · by_cases h5 : k = 5
      · subst h5
        intro ok mb tb v w h hp hok hx hw hc
        have hl := ((Ex.Wf.def _ _ _).1 hw).1
        have hl1 : l.length = 1 := by
          rcases hl with h1 | h1 | h1 | h1
          · omega
          · omega
          · exact h1.2.2
          · omega
        match l, hl1, ih, hx, hw, hc with
        | [y], _, ih, hx, hw, hc => exact tidy_not_walk nm y (ih y (by simp)).1 ok mb tb v w h hp hok hx hw hc
      · by_cases h67 : k = 6 ∨ k = 7
        · exact tidy_list_walk k h67 nm l hT
        · intro ok mb tb v w h hp hok hx hw hc
          have := IsEx.le7 _ v hx
          simp only at this
          omega
@[go_sem] theorem field_made (t : Nat) (y : Value) (n : Int) (a : Option Addr) (b c : Nat) (w : World) : (Instr.field 130 (.agg #[.iface t y, .int .i64 n, .slice a b c]) 0).run Tryz.prog w = .ok (.iface t y) w := by kernel_rfl
/-- a text is not much longer than its expression is great -/
theorem text_size (x : Ex) : Ex.Wf x → x.text.length + 5 ≤ 20 * x.size := by
  induction x using Ex.ind with
  | h k nm l ih =>
    intro hw
    rw [Ex.Wf.def] at hw
    obtain ⟨hs, hl⟩ := hw
    rw [Ex.size_def]
    have hsum : ∀ (q : Nat) (r : List Ex), (∀ y, y ∈ r → y.text.length + 5 ≤ 20 * y.size) → ((r.map fun x => Ex.par (decide (q ≤ x.kind)) x.text).map List.length).sum + 3 * r.length ≤ 20 * (r.map fun x => x.size).sum := by
      intro q r
      induction r with
      | nil => intro _; simp
      | cons a r ihr =>
        intro h
        have h1 := h a (by simp)
        have h2 := ihr fun y hy => h y (by simp [hy])
        have h3 := (Ex.par_le (decide (q ≤ a.kind)) a.text).2
        simp only [List.map_cons, List.sum_cons, List.length_cons] at *
        omega
    rcases hs with ⟨h1, rfl, h3⟩ | ⟨h1, h2, h3, h4⟩ | ⟨rfl, rfl, h3⟩ | ⟨h1, h2, rfl, h4⟩
    · rcases Nat.le_one_iff_eq_zero_or_eq_one.1 h1 with rfl | rfl
      · simp [Ex.text]; omega
      · simp [Ex.text]; omega
    · have hn : nm.length ≤ 8 := by
        have := name_len nm h3
        omega
      have hk : k = 2 ∨ k = 3 ∨ k = 4 := by omega
      rcases hk with rfl | rfl | rfl
      · simp [Ex.text]; omega
      · simp [Ex.text]; omega
      · simp [Ex.text]; omega
    · match l, h3, ih, hl with
      | [y], _, ih, hl =>
        have h5 := ih y (by simp) (hl y (by simp))
        have h6 := (Ex.par_le (decide (6 ≤ y.kind)) y.text).2
        rw [Ex.text5]
        simp only [List.length_cons, List.map_cons, List.map_nil, List.sum_cons, List.sum_nil]
        omega
    · have hne : l ≠ [] := by intro e; rw [e] at h4; simp at h4
      have hk : k = 6 ∨ k = 7 := by omega
      rcases hk with rfl | rfl
      · rw [Ex.text6]
        have h5 := Ex.join_len [32, 38, 32] rfl (l.map fun x => Ex.par (decide (6 ≤ x.kind)) x.text) (by simpa using hne)
        have h6 := hsum 6 l fun y hy => ih y hy (hl y hy)
        rw [List.length_map] at h5
        omega
      · rw [Ex.text7]
        have h5 := Ex.join_len [32, 124, 32] rfl (l.map fun x => Ex.par (decide (7 ≤ x.kind)) x.text) (by simpa using hne)
        have h6 := hsum 7 l fun y hy => ih y hy (hl y hy)
        rw [List.length_map] at h5
        omega
set_option maxHeartbeats 4000000 in
set_option maxRecDepth 100000 in
theorem Tidy_any (x : Ex) (v : Value) (w : World) (hx : IsEx (fun _ => True) w x v) (hp : Pow w) (hw : Ex.Wf x) (hc : Ex.cost x ≤ 1000000) :
    Calls Tryz.prog 31 #[v] w fun e w' => ∃ v', e = .returned v' ∧ IsEx (fun _ => True) w' x.tidy v' ∧ Below w.heap.size w w' := by
  obtain ⟨w2, hw2⟩ : ∃ w2, w2 = (w.alloc (.map #[] 0)).alloc (.cells #[.map (some w.heap.size)] 127) := ⟨_, rfl⟩
  have hb2 : Below w.heap.size w w2 := by rw [hw2]; exact ((Below.refl _ _).alloc (Nat.le_refl _) _).alloc (by simp) _
  have hT : Tbl w.heap.size [] w2 := by
    have hm := World.ownsMap_made (H := Unit) w Tryz.prog 9 (plainElem Tryz.prog 3)
    refine ⟨⟨.map [], ?_, fun s => by simp [Maps.has], fun i s hi => by simp at hi, by simp [Maps.size]⟩, List.nodup_nil⟩
    rw [hw2]; exact hm.alloc _
  have HC := hide ((tidy_all x).1 (fun g => g < w.heap.size) w.heap.size [] v w2 hT (hp.block (hb2.block _ hp.lt)) (fun g hg => Nat.lt_of_lt_of_le hg hb2.size) (IsEx.stay (Stay.below hb2) (fun g hg => hg.2) x v (IsEx.lt x v hx)) hw (by simpa using hc))
  have HB2 := hide hb2
  obtain ⟨tu, yu, hiu⟩ := IsEx.iface x v hx
  subst hiu
  have HW2 := hide hw2
  have hmm := @run_makeMap Tryz.prog
  clear hw2 hb2 hT hx hp hw hc
  go_enter Tryz.func31, Tryz.ntmps31
  go_wp2_with fail
  rw [← HW2.out]
  refine HC.out.mono ?_
  rintro e w4 ⟨v', n', q', more, rfl, hq, _, _, hgr⟩
  obtain ⟨t1, y1, rfl⟩ := IsEx.iface _ v' hq.ex
  obtain ⟨pa, pb, pc, rfl⟩ := hq.slice
  have HEND : Hid (IsEx (fun _ => True) w4 x.tidy (.iface t1 y1) ∧ Below w.heap.size w w4) := by
    refine ⟨IsEx.stay (Stay.refl _ _) (fun _ _ => trivial) _ _ hq.ex, ?_⟩
    have hb := HB2.out
    exact ⟨hgr.os.trans hb.os, hgr.tape.trans hb.tape, hgr.output.trans hb.output, Nat.le_trans hb.size hgr.size, fun k hk => (hgr.block k (Nat.lt_of_lt_of_le hk hb.size) (by simp; omega)).trans (hb.block k hk)⟩
  clear hq hgr
  go_wp2_with fail
  go_ret
  exact ⟨_, rfl, HEND.out⟩
end Go.Proofs.YtdlcelbbelcfkaaGreatDoor
