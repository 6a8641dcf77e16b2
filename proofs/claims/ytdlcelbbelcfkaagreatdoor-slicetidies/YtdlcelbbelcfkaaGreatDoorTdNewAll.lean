/-
  The walk of otherSide: the number of the other side of a part. The walk of not: what is made of Not of what was made tidy. The walk of not, its third way: a new Not. The walk of alike: is an expression a list of the kind that is gathered?
-/
import Derived.Test.YtdlcelbbelcfkaaGreatDoorTdStAll
import Derived.Deep.RegionHeld3
namespace Go.Proofs.YtdlcelbbelcfkaaGreatDoor
section
open Go.RowKit Go.Maps
theorem as_noConst {ok : Nat → Prop} {w : World} (x : Ex) (v : Value) (h : IsEx ok w x v) (h2 : 2 ≤ x.kind) (w' : World) : (Instr.typeAssert v 64 132 true).run Tryz.prog w' = .ok (.tuple #[.bool false, .bool false]) w' := by
  obtain ⟨k, nm, l⟩ := x
  match k, h with
  | 0, _ => simp at h2
  | 1, _ => simp at h2
  | 2, h => simp only [IsEx] at h; rw [h.2.2]; exact asBitConst _ w'
  | 3, h => simp only [IsEx] at h; rw [h.2.2]; exact asRiseConst _ w'
  | 4, h => simp only [IsEx] at h; rw [h.2.2]; exact asFallConst _ w'
  | 5, h => simp only [IsEx] at h; obtain ⟨_, _, u, h, _⟩ := h; rw [h]; exact asNotConst _ w'
  | 6, h => simp only [IsEx] at h; obtain ⟨_, _, _, _, _, h, _⟩ := h; rw [h]; exact asAndConst _ w'
  | 7, h => simp only [IsEx] at h; obtain ⟨_, _, _, _, _, h, _⟩ := h; rw [h]; exact asOrConst _ w'
  | n + 8, h => simp only [IsEx] at h
theorem as_noNot {ok : Nat → Prop} {w : World} (x : Ex) (v : Value) (h : IsEx ok w x v) (h5 : x.kind ≠ 5) (w' : World) : (Instr.typeAssert v 64 166 true).run Tryz.prog w' = .ok (.tuple #[.agg #[.nilIface], .bool false]) w' := by
  obtain ⟨k, nm, l⟩ := x
  match k, h with
  | 0, h => simp only [IsEx] at h; rw [h.2.2]; exact asConstNot _ w'
  | 1, h => simp only [IsEx] at h; rw [h.2.2]; exact asConstNot _ w'
  | 2, h => simp only [IsEx] at h; rw [h.2.2]; exact asBitNot _ w'
  | 3, h => simp only [IsEx] at h; rw [h.2.2]; exact asRiseNot _ w'
  | 4, h => simp only [IsEx] at h; rw [h.2.2]; exact asFallNot _ w'
  | 5, _ => simp at h5
  | 6, h => simp only [IsEx] at h; obtain ⟨_, _, _, _, _, h, _⟩ := h; rw [h]; exact asAndNot _ w'
  | 7, h => simp only [IsEx] at h; obtain ⟨_, _, _, _, _, h, _⟩ := h; rw [h]; exact asOrNot _ w'
  | n + 8, h => simp only [IsEx] at h
/-- a Not's part, in the row of its parts -/
theorem IsTv.part {ok : Nat → Prop} {tb : List (List UInt8)} {w : World} {y : Ex} {v : Value} {n : Nat} {pv : Value} (h : IsTv ok tb w ⟨5, [], [y]⟩ v n pv) : ∃ (tu : Nat) (yu : Value) (g o cap : Nat) (v1 : Value) (m : Nat) (q : Value), v = .iface 166 (.agg #[.iface tu yu]) ∧ pv = .slice (some ⟨g, o, none⟩) 1 cap ∧ 1 ≤ cap ∧ ok g ∧ w.cell? ⟨g, o, none⟩ = some v1 ∧ w.cell? ⟨g, o + 1, none⟩ = some (.int .i64 (m : Int)) ∧ w.cell? ⟨g, o + 2, none⟩ = some q ∧ IsTv ok tb w y v1 m q := by
  rw [IsTv.def] at h
  obtain ⟨h1, _, h3 | ⟨_, g, o, cap, h5, h6, hg, h7⟩⟩ := h
  · omega
  · simp only [IsEx] at h1
    obtain ⟨_, _, u, hv, hu⟩ := h1
    obtain ⟨tu, yu, rfl⟩ := IsEx.iface y u (hu _ rfl)
    obtain ⟨v1, m, q, c1, c2, c3, hq⟩ := h7 0 y rfl
    exact ⟨tu, yu, g, o, cap, v1, m, q, hv, h5, h6, hg, by simpa using c1, by simpa using c2, by simpa using c3, hq⟩
/-- the number of a Not, told by its part's -/
theorem num_not {tb : List (List UInt8)} {x : Ex} {n m : Nat} (hx : Ex.Num tb x n) (hm : tb[m]? = some (cat 33 [n])) : Ex.Num tb ⟨5, [], [x]⟩ m := by
  rw [Ex.Num.def]
  refine ⟨[n], rfl, ?_, ?_⟩
  · intro i y j hy hj
    match i, hy, hj with
    | 0, hy, hj => simp at hy hj; subst hy hj; exact hx
    | i + 1, hy, _ => simp at hy
  · rw [hm]; unfold Ex.code; rw [if_neg (by omega)]; rfl
/-- the numbers of a new row of one -/
theorem rowN_new (w : World) (tu : Nat) (yu : Value) (n : Nat) (pa : Option Addr) (pb pc : Nat) : RowN (w.alloc (.cells #[.iface tu yu, .int .i64 (n : Int), .slice pa pb pc] 130)) w.heap.size 0 [n] := by
  intro i m hi
  match i, hi with
  | 0, hi =>
    simp at hi
    subst hi
    have hr := heap_alloc_new w (.cells #[.iface tu yu, .int .i64 (n : Int), .slice pa pb pc] 130)
    exact ⟨tu, yu, pa, pb, pc, by rw [Lib.cell_of_heap hr]; rfl, by rw [Lib.cell_of_heap hr]; rfl, by rw [Lib.cell_of_heap hr]; rfl⟩
  | i + 1, hi => simp at hi
def Numbers (mb : Nat) (tb : List (List UInt8)) (x : Ex) (w : World) (e : Ending) (w' : World) : Prop :=
  ∃ (m : Nat) (more : List (List UInt8)), e = .returned (.int .i64 (m : Int)) ∧ Tbl mb (tb ++ more) w' ∧ Ex.Num (tb ++ more) x m ∧ more.length ≤ 1 ∧ w.grownBy w' (some mb)
set_option maxHeartbeats 4000000 in
set_option maxRecDepth 100000 in
theorem otherSide_any (ok : Nat → Prop) (mb gb : Nat) (tb : List (List UInt8)) (x : Ex) (v : Value) (n : Nat) (pv : Value) (w : World) (h : Tbl mb tb w) (hl : tb.length < 1000000) (hp : Pow w) (hx : IsTv ok tb w x v n pv) (ht : Ex.Td x) (hg : w.cell? ⟨gb, 0, none⟩ = some (.map (some mb))) :
    Calls Tryz.prog 185 #[.pointer (some ⟨gb, 0, none⟩), .agg #[v, .int .i64 (n : Int), pv]] w (Numbers mb tb (Ex.other x) w) := by
  have hgb : gb < w.heap.size := World.block_lt_of_cell? _ _ hg
  by_cases h5 : x.kind = 5
  · obtain ⟨y, rfl, hty, _, _⟩ := ht.not h5
    obtain ⟨tu, yu, g, o, cap, v1, m, q, rfl, rfl, hcap, _, c1, c2, c3, hy⟩ := hx.part
    have HN := hide hy.num
    have HT := hide h
    have hgl : g < w.heap.size := World.block_lt_of_cell? _ _ c1
    clear h hx ht hty hy h5 hp
    go_enter Tryz.func185, Tryz.ntmps185
    go_wp2_with fail
    go_ret
    have hb : Below w.heap.size w ((w.alloc (.cells #[.iface 166 (.agg #[.iface tu yu]), .int .i64 (n : Int), .slice (some ⟨g, o, none⟩) 1 cap] 130)).alloc (.cells #[.iface tu yu] 166)) := ((Below.refl _ _).alloc (Nat.le_refl _) _).alloc (by simp) _
    refine ⟨m, [], rfl, ?_, ?_, by simp, ⟨hb.os, hb.tape, hb.output, hb.size, fun k hk _ => hb.block k hk⟩⟩
    · rw [List.append_nil]; exact HT.out.kept (row := none) ⟨hb.os, hb.tape, hb.output, hb.size, fun k hk _ => hb.block k hk⟩ (by simp)
    · rw [List.append_nil]; exact HN.out
  · have hA := as_noNot x v hx.ex h5
    have hnl := num_lt hx.num
    obtain ⟨tu, yu, hiu⟩ := IsEx.iface x v hx.ex
    obtain ⟨pa, pb, pc, hps⟩ := hx.slice
    subst hiu hps
    obtain ⟨w2, hw2⟩ : ∃ w2, w2 = (w.alloc (.cells #[.iface tu yu, .int .i64 (n : Int), .slice pa pb pc] 130)).alloc (.cells #[.nilIface] 166) := ⟨_, rfl⟩
    have hs2 : w2.heap.size = w.heap.size + 1 + 1 := by rw [hw2]; simp
    have hb2 : Below w.heap.size w w2 := by rw [hw2]; exact ((Below.refl _ _).alloc (Nat.le_refl _) _).alloc (by simp) _
    have hr2 : w2.heap[w.heap.size]? = some (.cells #[.iface tu yu, .int .i64 (n : Int), .slice pa pb pc] 130 (0, 0)) := by
      rw [hw2, heap_alloc_old _ _ (by simp)]
      exact heap_alloc_new w _
    have cg : w2.cell? ⟨gb, 0, none⟩ = some (.map (some mb)) := (hb2.cell (p := ⟨gb, 0, none⟩) hgb).trans hg
    have cn : (w2.alloc (.cells #[.iface tu yu, .int .i64 (n : Int), .slice pa pb pc] 130)).cell? ⟨gb, 0, none⟩ = some (.map (some mb)) := by rw [World.cell?_alloc_lt _ _ ⟨gb, 0, none⟩ (by show gb < _; omega)]; exact cg
    have d0 : w2.cell? ⟨w.heap.size, 0, none⟩ = some (.iface tu yu) := by rw [Lib.cell_of_heap hr2]; rfl
    have d1 : w2.cell? ⟨w.heap.size, 1, none⟩ = some (.int .i64 (n : Int)) := by rw [Lib.cell_of_heap hr2]; rfl
    have d2 : w2.cell? ⟨w.heap.size, 2, none⟩ = some (.slice pa pb pc) := by rw [Lib.cell_of_heap hr2]; rfl
    have HB2 := hide hb2
    have HW2 := hide hw2
    have HS2 := hide hs2
    have HN := hide hx.num
    have HT := hide h
    have HP := hide hp
    have HO : Hid (Ex.other x = ⟨5, [], [x]⟩) := by show _ = _; unfold Ex.other; rw [if_neg h5]
    obtain ⟨w3, hw3⟩ : ∃ w3, w3 = (w2.alloc (.cells #[.iface tu yu, .int .i64 (n : Int), .slice pa pb pc] 130)).drew := ⟨_, rfl⟩
    have hb3 : Below w.heap.size w w3 := by rw [hw3]; exact (hb2.alloc hb2.size _).drew
    have HC := hide (numberOf_any mb tb 33 w2.heap.size 0 1 [n] w3 (h.kept (row := none) ⟨hb3.os, hb3.tape, hb3.output, hb3.size, fun k hk _ => hb3.block k hk⟩ (by simp)) hl (hp.block (hb3.block _ hp.lt)) (by rw [hw3]; exact rowN_new w2 tu yu n pa pb pc) (by simp) (by simp) (by intro m hm; simp at hm; omega) (by rw [hw3]; simp))
    rw [hw3] at HC
    have HG3 : Hid (w.grownBy ((w2.alloc (.cells #[.iface tu yu, .int .i64 (n : Int), .slice pa pb pc] 130)).drew) (some mb)) := by rw [← hw3]; exact ⟨hb3.os, hb3.tape, hb3.output, hb3.size, fun k hk _ => hb3.block k hk⟩
    clear h hx ht h5 hp hw2 hb2 hr2 hs2 hg hw3 hb3
    go_enter Tryz.func185, Tryz.ntmps185
    go_wp2_with fail
    rw [← HW2.out]
    go_region_with (go_at_call 123; refine HC.out.mono ?_; rintro e w4 ⟨m, more, rfl, hq1, hq2, hq3, hq4⟩)
    all_goals go_wp2_with fail
    all_goals go_ret
    all_goals
      rw [HO.out]
      exact ⟨m, more, rfl, hq1, num_not (HN.out.mono tb more x n) hq2, hq3, HG3.out.trans hq4⟩
theorem Stay.refl (ok : Nat → Prop) (w : World) : Stay ok w w := fun _ _ _ _ h => h
theorem IsTv.mono {ok ok' : Nat → Prop} {tb : List (List UInt8)} {w : World} {x : Ex} {v : Value} {n : Nat} {pv : Value} (h : IsTv ok tb w x v n pv) (hok : ∀ g, ok g → ok' g) : IsTv ok' tb w x v n pv := by
  have := IsTv.stay [] (Stay.refl ok w) hok x v n pv h
  rwa [List.append_nil] at this
theorem Made.after {ok : Nat → Prop} {mb : Nat} {tb : List (List UInt8)} {c c' : Nat} {x : Ex} {w w1 : World} {e : Ending} {w' : World} (hg : w.grownBy w1 (some mb)) (h : Made ok mb tb c x w1 e w') (hc : c ≤ c') : Made ok mb tb c' x w e w' := by
  obtain ⟨v, n, pv, more, he, hx, ht, hm, hgr⟩ := h
  refine ⟨v, n, pv, more, he, hx.mono fun g hgo => ?_, ht, Nat.le_trans hm hc, hg.trans hgr⟩
  rcases hgo with h1 | h1
  · exact .inl h1
  · exact .inr (Nat.le_trans hg.size h1)
theorem grown_of_below {w w' : World} (h : Below w.heap.size w w') (row : Option Nat) : w.grownBy w' row := ⟨h.os, h.tape, h.output, h.size, fun k hk _ => h.block k hk⟩
/-- Not of what was made tidy -/
theorem isTv_not {ok : Nat → Prop} {mb : Nat} {tb more : List (List UInt8)} {x : Ex} {v : Value} {n : Nat} {pv : Value} {w w5 : World} {m g : Nat} (hT : Tbl mb tb w) (hx : IsTv ok tb w x v n pv) (hg : w.grownBy w5 (some mb)) (hm : (tb ++ more)[m]? = some (cat 33 [n])) (hgs : w.heap.size ≤ g)
    (c0 : w5.cell? ⟨g, 0, none⟩ = some v) (c1 : w5.cell? ⟨g, 1, none⟩ = some (.int .i64 (n : Int))) (c2 : w5.cell? ⟨g, 2, none⟩ = some pv) : IsTv (fun g => ok g ∨ w.heap.size ≤ g) (tb ++ more) w5 ⟨5, [], [x]⟩ (.iface 166 (.agg #[v])) m (.slice (some ⟨g, 0, none⟩) 1 1) := by
  have hx5 : IsTv (fun g => ok g ∨ w.heap.size ≤ g) (tb ++ more) w5 x v n pv := IsTv.stay more (Stay.turned ok hT hg) (fun _ h => .inl h) x v n pv hx
  rw [IsTv.def]
  refine ⟨?_, num_not hx5.num hm, .inr ⟨by omega, g, 0, 1, rfl, by simp, .inr hgs, ?_⟩⟩
  · simp only [IsEx]
    refine ⟨by trivial, by simp, v, rfl, ?_⟩
    intro P hP
    simp only [List.map_cons, List.getElem?_cons_zero, Option.some.injEq] at hP
    rw [← hP]
    exact hx5.ex
  · intro i y hy
    match i, hy with
    | 0, hy =>
      simp only [List.getElem?_cons_zero, Option.some.injEq] at hy
      subst hy
      exact ⟨v, n, pv, c0, c1, c2, hx5⟩
    | i + 1, hy => simp at hy
/-- a result that lies in three cells is handed back -/
theorem three_out {w : World} {b : Nat} {x0 x1 x2 : Value} {T : TypeId} (h : w.heap[b]? = some (.cells #[x0, x1, x2] T (0, 0))) (v0 v1 v2 : Value) :
    (((w.setCell ⟨b, 0, none⟩ v0).setCell ⟨b, 1, none⟩ v1).setCell ⟨b, 2, none⟩ v2).cell? ⟨b, 0, none⟩ = some v0 ∧ (((w.setCell ⟨b, 0, none⟩ v0).setCell ⟨b, 1, none⟩ v1).setCell ⟨b, 2, none⟩ v2).cell? ⟨b, 1, none⟩ = some v1 ∧ (((w.setCell ⟨b, 0, none⟩ v0).setCell ⟨b, 1, none⟩ v1).setCell ⟨b, 2, none⟩ v2).cell? ⟨b, 2, none⟩ = some v2 := by
  have hr := three_set h v0 v1 v2
  exact ⟨by rw [Lib.cell_of_heap hr]; rfl, by rw [Lib.cell_of_heap hr]; rfl, by rw [Lib.cell_of_heap hr]; rfl⟩
/-- .. and what was made behind that block is still what was made -/
theorem Made.put_after {ok : Nat → Prop} {mb : Nat} {tb : List (List UInt8)} {c c' : Nat} {x : Ex} {w w1 w4 : World} {e : Ending} {b : Nat} (h : Made ok mb tb c x w1 e w4) (hg : w.grownBy w1 (some mb)) (hb : w.heap.size ≤ b) (hb1 : b < w1.heap.size) (hT : Tbl mb tb w) (hok : ∀ g, ok g → g < w.heap.size) (hc : c ≤ c') (v0 v1 v2 : Value) :
    Made ok mb tb c' x w e (((w4.setCell ⟨b, 0, none⟩ v0).setCell ⟨b, 1, none⟩ v1).setCell ⟨b, 2, none⟩ v2) := by
  obtain ⟨v, n, pv, more, he, hx, ht, hm, hgr⟩ := h
  have hk := three_kept w4 b v0 v1 v2
  have hmb := hT.lt
  have hgw := hg.trans hgr
  refine ⟨v, n, pv, more, he, ?_, ht.kept hk (by simp; omega), Nat.le_trans hm hc, ?_⟩
  · have := IsTv.stay (ok := fun g => ok g ∨ w1.heap.size ≤ g) (ok' := fun g => ok g ∨ w.heap.size ≤ g) [] (Stay.grown hk (fun g hg => by
      intro e
      simp only [Option.some.injEq] at e
      rcases hg with h1 | h1
      · have := hok g h1; omega
      · omega)) (fun g h => by
      rcases h with h | h
      · exact .inl h
      · exact .inr (Nat.le_trans hg.size h)) x v n pv hx
    rwa [List.append_nil] at this
  · exact ⟨hk.os.trans hgw.os, hk.tape.trans hgw.tape, hk.output.trans hgw.output, Nat.le_trans hgw.size hk.size, fun k hk' hne => (hk.block k (Nat.lt_of_lt_of_le hk' hgw.size) (by simp; omega)).trans (hgw.block k hk' hne)⟩
set_option maxHeartbeats 4000000 in
set_option maxRecDepth 100000 in
theorem not_const (ok : Nat → Prop) (mb : Nat) (tb : List (List UInt8)) (b : Bool) (n : Nat) (w : World) (h : Tbl mb tb w) (hl : tb.length < 1000000) (hok : ∀ g, ok g → g < w.heap.size) :
    Calls Tryz.prog 85 #[.agg #[.map (some mb)], .agg #[.iface 132 (.bool b), .int .i64 (n : Int), .slice none 0 0]] w (Made ok mb tb 1 ⟨if b then 0 else 1, [], []⟩ w) := by
  obtain ⟨w3, hw3⟩ : ∃ w3, w3 = ((w.alloc (.cells #[.map (some mb)] 127)).alloc (.cells #[.iface 132 (.bool b), .int .i64 (n : Int), .slice none 0 0] 130)).alloc (.cells #[.nilIface, .int .i64 0, .slice none 0 0] 130) := ⟨_, rfl⟩
  have hb3 : Below w.heap.size w w3 := by rw [hw3]; exact (((Below.refl _ _).alloc (Nat.le_refl _) _).alloc (by simp) _).alloc (by simp; omega) _
  have hs3 : w3.heap.size = w.heap.size + 1 + 1 + 1 := by rw [hw3]; simp
  have hr3 : w3.heap[w.heap.size + 1 + 1]? = some (.cells #[.nilIface, .int .i64 0, .slice none 0 0] 130 (0, 0)) := by
    have := heap_alloc_new ((w.alloc (.cells #[.map (some mb)] 127)).alloc (.cells #[.iface 132 (.bool b), .int .i64 (n : Int), .slice none 0 0] 130)) (.cells #[.nilIface, .int .i64 0, .slice none 0 0] 130)
    rw [World.size_alloc, World.size_alloc] at this
    rw [hw3]; exact this
  have hg3 : w.grownBy w3 (some mb) := grown_of_below hb3 _
  have hT3 : Tbl mb tb w3 := h.kept (row := none) (grown_of_below hb3 _) (by simp)
  have HL := hide (leaf_any ok mb tb ⟨if b then 0 else 1, [], []⟩ (.iface 132 (.bool (!b))) w3 hT3 hl (by cases b <;> simp [IsEx]) (by cases b <;> simp) rfl (by cases b <;> simp [Ex.text]))
  obtain ⟨y, hy⟩ : ∃ y : Ex, y = ⟨if b then 0 else 1, [], []⟩ := ⟨_, rfl⟩
  rw [← hy] at HL ⊢
  clear hy
  have HW3 := hide hw3
  have HR3 := hide hr3
  have HG3 := hide hg3
  have HS3 := hide hs3
  have HT := hide h
  have HOK := hide hok
  clear hw3 hr3 hg3 hs3 h hok hT3 hb3 hl
  cases b
  all_goals
    go_enter Tryz.func85, Tryz.ntmps85
    go_wp2_with fail
    rw [← HW3.out]
    refine HL.out.mono ?_
    rintro e w4 hmade
    have hout := hmade.put_after HG3.out (b := w.heap.size + 1 + 1) (by omega) (by rw [HS3.out]; omega) HT.out HOK.out (Nat.le_refl _)
    obtain ⟨v', n', pv', more, rfl, hq, hq2, _, hgr⟩ := hmade
    obtain ⟨tu, yu, hiu⟩ := IsEx.iface _ v' hq.ex
    obtain ⟨pa, pb, pc, hps⟩ := hq.slice
    subst hiu hps
    have hlt := HT.out.lt
    have hr4 := (hgr.block (w.heap.size + 1 + 1) (by rw [HS3.out]; omega) (by simp; omega)).trans HR3.out
    have HOUT := hide (hout (.iface tu yu) (.int .i64 (n' : Int)) (.slice pa pb pc))
    have HR4 := hide hr4
    have d0 : w4.cell? ⟨w.heap.size + 1 + 1, 0, none⟩ = some .nilIface := by rw [Lib.cell_of_heap hr4]; rfl
    have d1 : w4.cell? ⟨w.heap.size + 1 + 1, 1, none⟩ = some (.int .i64 0) := by rw [Lib.cell_of_heap hr4]; rfl
    have d2 : w4.cell? ⟨w.heap.size + 1 + 1, 2, none⟩ = some (.slice none 0 0) := by rw [Lib.cell_of_heap hr4]; rfl
    have g0 := Lib.frozen_of_heap hr4 0
    have g1 := Lib.frozen_of_heap hr4 1
    have g2 := Lib.frozen_of_heap hr4 2
    clear hout hr4 hq hq2 hgr HL
    go_wp2_with fail
    obtain ⟨q0, q1, q2⟩ := three_out HR4.out (.iface tu yu) (.int .i64 (n' : Int)) (.slice pa pb pc)
    refine bodyPost_ret_by (v := .agg #[.iface tu yu, .int .i64 (n' : Int), .slice pa pb pc]) ?_ rfl HOUT.out
    simp [results, Tryz.results85, go_sem, q0, q1, q2]
set_option maxHeartbeats 4000000 in
set_option maxRecDepth 100000 in
theorem not_part (ok : Nat → Prop) (mb : Nat) (tb : List (List UInt8)) (y : Ex) (v : Value) (n : Nat) (pv : Value) (w : World) (h : Tbl mb tb w) (hx : IsTv ok tb w ⟨5, [], [y]⟩ v n pv) :
    Calls Tryz.prog 85 #[.agg #[.map (some mb)], .agg #[v, .int .i64 (n : Int), pv]] w (Made ok mb tb 1 y w) := by
  obtain ⟨tu, yu, g, o, cap, v1, m, q, rfl, rfl, hcap, hog, c0, c1, c2, hy⟩ := hx.part
  obtain ⟨tv, yv, hiv⟩ := IsEx.iface _ v1 hy.ex
  obtain ⟨pa, pb, pc, hps⟩ := hy.slice
  subst hiv hps
  obtain ⟨w3, hw3⟩ : ∃ w3, w3 = ((w.alloc (.cells #[.map (some mb)] 127)).alloc (.cells #[.iface 166 (.agg #[.iface tu yu]), .int .i64 (n : Int), .slice (some ⟨g, o, none⟩) 1 cap] 130)).alloc (.cells #[.nilIface, .int .i64 0, .slice none 0 0] 130) := ⟨_, rfl⟩
  have hb3 : Below w.heap.size w w3 := by rw [hw3]; exact (((Below.refl _ _).alloc (Nat.le_refl _) _).alloc (by simp) _).alloc (by simp; omega) _
  have hgl : g < w.heap.size := World.block_lt_of_cell? _ _ c0
  have hb4 : Below w.heap.size w (w3.alloc (.cells #[.iface tu yu] 166)) := hb3.alloc hb3.size _
  have e0 := (hb4.cell (p := ⟨g, o, none⟩) hgl).trans c0
  have e1 := (hb4.cell (p := ⟨g, o + 1, none⟩) hgl).trans c1
  have e2 := (hb4.cell (p := ⟨g, o + 2, none⟩) hgl).trans c2
  rw [hw3] at e0 e1 e2
  have HT := hide h
  have HY := hide hy
  clear hw3 h hb3 hx hy c0 c1 c2 hb4
  go_enter Tryz.func85, Tryz.ntmps85
  go_wp2_with fail
  refine bodyPost_ret_by (v := .agg #[.iface tv yv, .int .i64 (m : Int), .slice pa pb pc]) ?_ rfl ?_
  · simp [results, Tryz.results85, go_sem]
  · have hb : Below w.heap.size w ((((w.alloc (.cells #[.map (some mb)] 127)).alloc (.cells #[.iface 166 (.agg #[.iface tu yu]), .int .i64 (n : Int), .slice (some ⟨g, o, none⟩) 1 cap] 130)).alloc (.cells #[.iface tv yv, .int .i64 (m : Int), .slice pa pb pc] 130)).alloc (.cells #[.iface tu yu] 166)) := ((((Below.refl _ _).alloc (Nat.le_refl _) _).alloc (by simp) _).alloc (by simp; omega) _).alloc (by simp; omega) _
    refine ⟨_, m, _, [], rfl, ?_, by rw [List.append_nil]; exact HT.out.kept (grown_of_below hb none) (by simp), by simp, grown_of_below hb _⟩
    exact IsTv.stay [] (Stay.below hb) (fun _ h => .inl h) y _ m _ HY.out
end
section
open Go.RowKit Go.Maps
theorem not_end {ok : Nat → Prop} {mb : Nat} {tb more : List (List UInt8)} {x : Ex} {tu : Nat} {yu : Value} {n : Nat} {pa : Option Addr} {pb pc : Nat} {w wz : World} {m g b : Nat} (hT : Tbl mb tb w) (hx : IsTv ok tb w x (.iface tu yu) n (.slice pa pb pc)) (hgz : w.grownBy wz (some mb)) (htz : Tbl mb (tb ++ more) wz) (hm : (tb ++ more)[m]? = some (cat 33 [n])) (hml : more.length ≤ 1) (hb : w.heap.size ≤ b) (hg : w.heap.size ≤ g) (hgb : g ≠ b)
    (hr : wz.heap[g]? = some (.cells #[.iface tu yu, .int .i64 (n : Int), .slice pa pb pc] 130 (0, 0))) :
    Made ok mb tb 1 ⟨5, [], [x]⟩ w (.returned (.agg #[.iface 166 (.agg #[.iface tu yu]), .int .i64 (m : Int), .slice (some ⟨g, 0, none⟩) 1 1])) (((wz.setCell ⟨b, 0, none⟩ (.iface 166 (.agg #[.iface tu yu]))).setCell ⟨b, 1, none⟩ (.int .i64 (m : Int))).setCell ⟨b, 2, none⟩ (.slice (some ⟨g, 0, none⟩) 1 1)) := by
  have hk := three_kept wz b (.iface 166 (.agg #[.iface tu yu])) (.int .i64 (m : Int)) (.slice (some ⟨g, 0, none⟩) 1 1)
  have hlt := hT.lt
  have hgl : g < wz.heap.size := (Array.getElem?_eq_some_iff.1 hr).1
  have hgw : w.grownBy (((wz.setCell ⟨b, 0, none⟩ (.iface 166 (.agg #[.iface tu yu]))).setCell ⟨b, 1, none⟩ (.int .i64 (m : Int))).setCell ⟨b, 2, none⟩ (.slice (some ⟨g, 0, none⟩) 1 1)) (some mb) :=
    ⟨hk.os.trans hgz.os, hk.tape.trans hgz.tape, hk.output.trans hgz.output, Nat.le_trans hgz.size hk.size, fun k hk' hne => (hk.block k (Nat.lt_of_lt_of_le hk' hgz.size) (by simp; omega)).trans (hgz.block k hk' hne)⟩
  have hr5 := (hk.block g hgl (by simpa using hgb)).trans hr
  exact ⟨_, m, _, more, rfl, isTv_not hT hx hgw hm hg (by rw [Lib.cell_of_heap hr5]; rfl) (by rw [Lib.cell_of_heap hr5]; rfl) (by rw [Lib.cell_of_heap hr5]; rfl), htz.kept hk (by simp; omega), hml, hgw⟩
set_option maxHeartbeats 8000000 in
set_option maxRecDepth 100000 in
theorem not_new (ok : Nat → Prop) (mb : Nat) (tb : List (List UInt8)) (x : Ex) (v : Value) (n : Nat) (pv : Value) (w : World) (h : Tbl mb tb w) (hl : tb.length < 1000000) (hp : Pow w) (hx : IsTv ok tb w x v n pv) (h2 : 2 ≤ x.kind) (h5 : x.kind ≠ 5) (hok : ∀ g, ok g → g < w.heap.size) :
    Calls Tryz.prog 85 #[.agg #[.map (some mb)], .agg #[v, .int .i64 (n : Int), pv]] w (Made ok mb tb 1 ⟨5, [], [x]⟩ w) := by
  have hA := as_noNot x v hx.ex h5
  have hA2 := as_noConst x v hx.ex h2
  have hnl := num_lt hx.num
  obtain ⟨tu, yu, hiu⟩ := IsEx.iface x v hx.ex
  obtain ⟨pa, pb, pc, hps⟩ := hx.slice
  subst hiu hps
  obtain ⟨o1, ho1⟩ : ∃ o1, o1 = (.cells #[.iface tu yu, .int .i64 (n : Int), .slice pa pb pc] 130 : Obj) := ⟨_, rfl⟩
  obtain ⟨w3, hw3⟩ : ∃ w3, w3 = ((w.alloc (.cells #[.map (some mb)] 127)).alloc o1).alloc (.cells #[.nilIface, .int .i64 0, .slice none 0 0] 130) := ⟨_, rfl⟩
  have hb3 : Below w.heap.size w w3 := by rw [hw3]; exact (((Below.refl _ _).alloc (Nat.le_refl _) _).alloc (by simp) _).alloc (by simp; omega) _
  have hs3 : w3.heap.size = w.heap.size + 1 + 1 + 1 := by rw [hw3]; simp
  have hr3 : w3.heap[w.heap.size + 1 + 1]? = some (.cells #[.nilIface, .int .i64 0, .slice none 0 0] 130 (0, 0)) := by
    have := heap_alloc_new ((w.alloc (.cells #[.map (some mb)] 127)).alloc o1) (.cells #[.nilIface, .int .i64 0, .slice none 0 0] 130)
    rw [World.size_alloc, World.size_alloc] at this
    rw [hw3]; exact this
  have hx3 : w3.heap[w.heap.size + 1]? = some (.cells #[.iface tu yu, .int .i64 (n : Int), .slice pa pb pc] 130 (0, 0)) := by
    rw [hw3, heap_alloc_old _ _ (by simp)]
    have := heap_alloc_new (w.alloc (.cells #[.map (some mb)] 127)) o1
    rw [World.size_alloc] at this
    rw [this, ho1]
  have ht3 : w3.heap[w.heap.size]? = some (.cells #[.map (some mb)] 127 (0, 0)) := by
    rw [hw3, heap_alloc_old _ _ (by simp; omega), heap_alloc_old _ _ (by simp)]
    exact heap_alloc_new w _
  have HFACT : Hid (∀ W : World, Below w3.heap.size w3 W → W.cell? ⟨w.heap.size, 0, none⟩ = some (.map (some mb)) ∧ (W.cell? ⟨w.heap.size + 1, 0, none⟩ = some (.iface tu yu) ∧ W.cell? ⟨w.heap.size + 1, 1, none⟩ = some (.int .i64 (n : Int)) ∧ W.cell? ⟨w.heap.size + 1, 2, none⟩ = some (.slice pa pb pc)) ∧ W.heap[w.heap.size + 1 + 1]? = some (.cells #[.nilIface, .int .i64 0, .slice none 0 0] 130 (0, 0)) ∧ Tbl mb tb W ∧ Pow W ∧ w.grownBy W (some mb)) := by
    intro W hW
    have hbW : Below w.heap.size w W := hb3.trans (hW.mono hb3.size)
    have e1 := (hW.block _ (by omega)).trans hx3
    have e2 := (hW.block _ (by omega)).trans ht3
    exact ⟨by rw [Lib.cell_of_heap e2]; rfl, ⟨by rw [Lib.cell_of_heap e1]; rfl, by rw [Lib.cell_of_heap e1]; rfl, by rw [Lib.cell_of_heap e1]; rfl⟩, (hW.block _ (by omega)).trans hr3, h.kept (row := none) (grown_of_below hbW _) (by simp), hp.block (hbW.block _ hp.lt), grown_of_below hbW _⟩
  have HAFT : Hid (∀ W w4 : World, Below w3.heap.size w3 W → W.grownBy w4 (some mb) → w4.cell? ⟨w.heap.size, 0, none⟩ = some (.map (some mb)) ∧ (w4.cell? ⟨w.heap.size + 1, 0, none⟩ = some (.iface tu yu) ∧ w4.cell? ⟨w.heap.size + 1, 1, none⟩ = some (.int .i64 (n : Int)) ∧ w4.cell? ⟨w.heap.size + 1, 2, none⟩ = some (.slice pa pb pc)) ∧ (w4.cell? ⟨w.heap.size + 1 + 1, 0, none⟩ = some .nilIface ∧ w4.cell? ⟨w.heap.size + 1 + 1, 1, none⟩ = some (.int .i64 0) ∧ w4.cell? ⟨w.heap.size + 1 + 1, 2, none⟩ = some (.slice none 0 0)) ∧ (w4.frozen? ⟨w.heap.size + 1 + 1, 0, none⟩ = false ∧ w4.frozen? ⟨w.heap.size + 1 + 1, 1, none⟩ = false ∧ w4.frozen? ⟨w.heap.size + 1 + 1, 2, none⟩ = false) ∧ Hid (w4.heap[w.heap.size + 1 + 1]? = some (.cells #[.nilIface, .int .i64 0, .slice none 0 0] 130 (0, 0)))) := by
    intro W w4 hW hg
    have hlt := h.lt
    have hsW := hW.size
    have e1 := (hg.block _ (by omega) (by simp; omega)).trans ((hW.block _ (by omega)).trans hx3)
    have e2 := (hg.block _ (by omega) (by simp; omega)).trans ((hW.block _ (by omega)).trans hr3)
    have e0 := (hg.block _ (by omega) (by simp; omega)).trans ((hW.block _ (by omega)).trans ht3)
    exact ⟨by rw [Lib.cell_of_heap e0]; rfl, ⟨by rw [Lib.cell_of_heap e1]; rfl, by rw [Lib.cell_of_heap e1]; rfl, by rw [Lib.cell_of_heap e1]; rfl⟩, ⟨by rw [Lib.cell_of_heap e2]; rfl, by rw [Lib.cell_of_heap e2]; rfl, by rw [Lib.cell_of_heap e2]; rfl⟩, ⟨Lib.frozen_of_heap e2 0, Lib.frozen_of_heap e2 1, Lib.frozen_of_heap e2 2⟩, e2⟩
  have hB0 : Below w3.heap.size w3 w3 := Below.refl _ _
  have hB1 : Below w3.heap.size w3 (w3.alloc o1) := (Below.refl _ _).alloc (Nat.le_refl _) _
  have hB2 : Below w3.heap.size w3 ((w3.alloc o1).alloc o1) := hB1.alloc (by simp) _
  obtain ⟨a0, ⟨a1, a2, a3⟩, _⟩ := HFACT.out _ hB0
  have HROW1 : Hid (RowN (w3.alloc o1).drew w3.heap.size 0 [n]) := by rw [ho1]; exact rowN_new w3 tu yu n pa pb pc
  have HROW2 : Hid (RowN ((w3.alloc o1).alloc o1).drew w3.heap.size 0 [n]) := HROW1.out.below (B := (w3.alloc o1).drew.heap.size) ⟨rfl, rfl, rfl, by simp [World.drew], fun k hk => heap_alloc_old (w3.alloc o1) o1 hk⟩ (by simp [World.drew])
  have HROW3 : Hid (RowN ((w3.alloc o1).alloc o1).drew (w3.heap.size + 1) 0 [n]) := by
    have := rowN_new (w3.alloc o1) tu yu n pa pb pc
    rw [World.size_alloc] at this
    rw [ho1] at this ⊢; exact this
  have HNEW2 : Hid (((w3.alloc o1).alloc o1).drew.heap[w3.heap.size + 1]? = some (.cells #[.iface tu yu, .int .i64 (n : Int), .slice pa pb pc] 130 (0, 0))) := by
    have := heap_alloc_new (w3.alloc o1) o1
    rw [World.size_alloc] at this
    show ((w3.alloc o1).alloc o1).heap[w3.heap.size + 1]? = _
    rw [this, ho1]
  have HNEW3 : Hid (((w3.alloc o1).alloc o1).drew.heap[w3.heap.size]? = some (.cells #[.iface tu yu, .int .i64 (n : Int), .slice pa pb pc] 130 (0, 0))) := by
    show ((w3.alloc o1).alloc o1).heap[w3.heap.size]? = _
    rw [heap_alloc_old _ _ (by simp), heap_alloc_new w3 o1, ho1]
  have HM : Hid (∀ m, m ∈ [n] → m ≤ 1000000) := by intro m hm; simp at hm; omega
  have HC1 := hide (numberOf_any mb tb 33 w3.heap.size 0 1 [n] (w3.alloc o1).drew (HFACT.out _ hB1.drew).2.2.2.1 hl (HFACT.out _ hB1.drew).2.2.2.2.1 HROW1.out (by simp) (by simp) HM.out (by simp [World.drew]))
  have HC2 := hide (numberOf_any mb tb 33 w3.heap.size 0 1 [n] ((w3.alloc o1).alloc o1).drew (HFACT.out _ hB2.drew).2.2.2.1 hl (HFACT.out _ hB2.drew).2.2.2.2.1 HROW2.out (by simp) (by simp) HM.out (by simp [World.drew]; omega))
  have HC3 := hide (numberOf_any mb tb 33 (w3.heap.size + 1) 0 1 [n] ((w3.alloc o1).alloc o1).drew (HFACT.out _ hB2.drew).2.2.2.1 hl (HFACT.out _ hB2.drew).2.2.2.2.1 HROW3.out (by simp) (by simp) HM.out (by simp [World.drew]))
  rw [show [n].length = 1 from rfl] at HC1 HC2 HC3
  have HW3 := hide hw3
  have HT := hide h
  have HX := hide hx
  have HB1 := hide hB1
  have HB2 := hide hB2
  have HS3 := hide hs3
  have HLT := hide h.lt
  have HOK := hide hok
  rw [ho1] at *
  clear ho1 o1
  clear hw3 h hp hx h2 h5 hb3 hs3 hr3 hx3 ht3 hB0 hB1 hB2 HROW1 HROW2 HROW3 HM hok
  go_enter Tryz.func85, Tryz.ntmps85
  go_wp2_with fail
  rw [← HW3.out]
  go_region_held3 (fun W => W.cell? ⟨w.heap.size, 0, none⟩ = some (.map (some mb)) ∧ W.cell? ⟨w.heap.size + 1, 0, none⟩ = some (.iface tu yu) ∧ W.cell? ⟨w.heap.size + 1, 1, none⟩ = some (.int .i64 (n : Int)) ∧ W.cell? ⟨w.heap.size + 1, 2, none⟩ = some (.slice pa pb pc)) ((refine ⟨?_, ?_, ?_, ?_⟩ <;> (repeat (rw [World.cell?_setCell_far _ _ _ _ (by dsimp only; omega)])) <;> simp [*, World.cell?_alloc_some])) ((go_at_call 123; first | ((with_reducible refine HC1.out.mono ?_); rintro e w4 ⟨m, more, rfl, hq1, hq2, hq3, hq4⟩; obtain ⟨f0, ⟨f1, f2, f3⟩, ⟨r1, r2, r3⟩, ⟨z1, z2, z3⟩, HR4⟩ := HAFT.out _ _ HB1.out.drew hq4; obtain ⟨_, ⟨_, _, _⟩, ⟨r4, r5, r6⟩, ⟨z4, z5, z6⟩, HR5⟩ := HAFT.out _ (w4.alloc (.cells #[.iface tu yu, .int .i64 (n : Int), .slice pa pb pc] 130)) HB1.out.drew (hq4.trans (World.grownBy_alloc _ _ _))) | ((with_reducible refine HC2.out.mono ?_); rintro e w4 ⟨m, more, rfl, hq1, hq2, hq3, hq4⟩; obtain ⟨f0, ⟨f1, f2, f3⟩, ⟨r1, r2, r3⟩, ⟨z1, z2, z3⟩, HR4⟩ := HAFT.out _ _ HB2.out.drew hq4; obtain ⟨_, ⟨_, _, _⟩, ⟨r4, r5, r6⟩, ⟨z4, z5, z6⟩, HR5⟩ := HAFT.out _ (w4.alloc (.cells #[.iface tu yu, .int .i64 (n : Int), .slice pa pb pc] 130)) HB2.out.drew (hq4.trans (World.grownBy_alloc _ _ _))) | ((with_reducible refine HC3.out.mono ?_); rintro e w4 ⟨m, more, rfl, hq1, hq2, hq3, hq4⟩; obtain ⟨f0, ⟨f1, f2, f3⟩, ⟨r1, r2, r3⟩, ⟨z1, z2, z3⟩, HR4⟩ := HAFT.out _ _ HB2.out.drew hq4; obtain ⟨_, ⟨_, _, _⟩, ⟨r4, r5, r6⟩, ⟨z4, z5, z6⟩, HR5⟩ := HAFT.out _ (w4.alloc (.cells #[.iface tu yu, .int .i64 (n : Int), .slice pa pb pc] 130)) HB2.out.drew (hq4.trans (World.grownBy_alloc _ _ _)))))
  all_goals go_wp2_with fail
  · refine bodyPost_ret_by (v := .agg #[.iface 166 (.agg #[.iface tu yu]), .int .i64 (m : Int), .slice (some ⟨w4.heap.size, 0, none⟩) 1 1]) ?_ rfl (not_end HT.out HX.out (((HFACT.out _ HB1.out.drew).2.2.2.2.2.trans hq4).trans (World.grownBy_alloc _ _ _)) (hq1.kept (World.grownBy_alloc _ _ none) (by simp)) hq2 hq3 (by omega) (by have := ((HFACT.out _ HB1.out.drew).2.2.2.2.2.trans hq4).size; omega) (by have := hq4.size; have := HS3.out; have := HB1.out.size; simp [World.drew] at *; omega) (heap_alloc_new w4 _))
    obtain ⟨q0, q1, q2⟩ := three_out HR5.out (.iface 166 (.agg #[.iface tu yu])) (.int .i64 (m : Int)) (.slice (some ⟨w4.heap.size, 0, none⟩) 1 1)
    simp [results, Tryz.results85, go_sem, q0, q1, q2]
  · refine bodyPost_ret_by (v := .agg #[.iface 166 (.agg #[.iface tu yu]), .int .i64 (m : Int), .slice (some ⟨w3.heap.size + 1, 0, none⟩) 1 1]) ?_ rfl (not_end HT.out HX.out ((HFACT.out _ HB2.out.drew).2.2.2.2.2.trans hq4) hq1 hq2 hq3 (by omega) (by have := HS3.out; omega) (by have := HS3.out; omega) ((hq4.block _ (by simp [World.drew]) (by have := HS3.out; have := HLT.out; simp; omega)).trans HNEW2.out))
    obtain ⟨q0, q1, q2⟩ := three_out HR4.out (.iface 166 (.agg #[.iface tu yu])) (.int .i64 (m : Int)) (.slice (some ⟨w3.heap.size + 1, 0, none⟩) 1 1)
    simp [results, Tryz.results85, go_sem, q0, q1, q2]
  · refine bodyPost_ret_by (v := .agg #[.iface 166 (.agg #[.iface tu yu]), .int .i64 (m : Int), .slice (some ⟨w3.heap.size, 0, none⟩) 1 1]) ?_ rfl (not_end HT.out HX.out ((HFACT.out _ HB2.out.drew).2.2.2.2.2.trans hq4) hq1 hq2 hq3 (by omega) (by have := HS3.out; omega) (by have := HS3.out; omega) ((hq4.block _ (by simp [World.drew]; omega) (by have := HS3.out; have := HLT.out; simp; omega)).trans HNEW3.out))
    obtain ⟨q0, q1, q2⟩ := three_out HR4.out (.iface 166 (.agg #[.iface tu yu])) (.int .i64 (m : Int)) (.slice (some ⟨w3.heap.size, 0, none⟩) 1 1)
    simp [results, Tryz.results85, go_sem, q0, q1, q2]
/-- not: what is made of Not of what was made tidy -/
theorem tnot_any (ok : Nat → Prop) (mb : Nat) (tb : List (List UInt8)) (x : Ex) (v : Value) (n : Nat) (pv : Value) (w : World) (h : Tbl mb tb w) (hl : tb.length < 1000000) (hp : Pow w) (hx : IsTv ok tb w x v n pv) (ht : Ex.Td x) (hok : ∀ g, ok g → g < w.heap.size) :
    Calls Tryz.prog 85 #[.agg #[.map (some mb)], .agg #[v, .int .i64 (n : Int), pv]] w (Made ok mb tb 1 (Ex.notT x) w) := by
  by_cases h5 : x.kind = 5
  · obtain ⟨y, rfl, _, _, _⟩ := ht.not h5
    exact not_part ok mb tb y v n pv w h hx
  · by_cases h2 : 2 ≤ x.kind
    · have e : Ex.notT x = ⟨5, [], [x]⟩ := by
        unfold Ex.notT Ex.other
        rw [if_neg (by omega), if_neg (by omega), if_neg h5]
      rw [e]
      exact not_new ok mb tb x v n pv w h hl hp hx h2 h5 hok
    · obtain ⟨k, nm, l⟩ := x
      rw [IsTv.def] at hx
      obtain ⟨h1, _, h3⟩ := hx
      have hpv : pv = .slice none 0 0 := by
        rcases h3 with h3 | h3
        · exact h3.2
        · simp only at h2; omega
      subst hpv
      match k, h1 with
      | 0, h1 =>
        simp only [IsEx] at h1
        obtain ⟨rfl, rfl, rfl⟩ := h1
        exact not_const ok mb tb false n w h hl hok
      | 1, h1 =>
        simp only [IsEx] at h1
        obtain ⟨rfl, rfl, rfl⟩ := h1
        exact not_const ok mb tb true n w h hl hok
      | k + 2, _ => simp at h2
theorem ret_bool' {a b : Bool} (h : a = b) : Ending.returned (.bool a) = .returned (.bool b) := by rw [h]
set_option maxHeartbeats 2000000 in
theorem alike_any (ok : Nat → Prop) (gb k : Nat) (hk : k = 6 ∨ k = 7) (x : Ex) (v : Value) (w0 w : World) (h : IsEx ok w0 x v) (hc : w.cell? ⟨gb, 1, none⟩ = some (.bool (decide (k = 6)))) :
    Calls Tryz.prog 158 #[.pointer (some ⟨gb, 0, none⟩), v] w fun e w' => e = .returned (.bool (decide (x.kind = k))) ∧ w' = w := by
  have H1 := hide (fun w => isAnd_any ok x v w0 w h)
  have H2 := hide (fun w => isOr_any ok x v w0 w h)
  clear h
  rcases hk with rfl | rfl
  · simp only [decide_true] at hc
    go_enter Tryz.func158, Tryz.ntmps158
    go_wp2_with fail
    refine (H1.out _).mono ?_
    rintro e w' ⟨rfl, rfl⟩
    go_wp2_with fail
    go_ret
    exact ⟨ret_bool' (by rw [Bool.eq_iff_iff]; simp), rfl⟩
  · simp only [show decide (7 = 6) = false from rfl] at hc
    go_enter Tryz.func158, Tryz.ntmps158
    go_wp2_with fail
    refine (H2.out _).mono ?_
    rintro e w' ⟨rfl, rfl⟩
    go_wp2_with fail
    go_ret
    exact ⟨ret_bool' (by rw [Bool.eq_iff_iff]; simp), rfl⟩
end
end Go.Proofs.YtdlcelbbelcfkaaGreatDoor
