/-
  The walk of otherSide: the number of the other side of a part. The walk of not: what is made of Not of what was made tidy.
-/
import Derived.Test.YtpidknogiiclfaaGreatDoorTdSt
namespace Go.Proofs.YtpidknogiiclfaaGreatDoor
open Go.RowKit Go.Maps
theorem as_noConst {ok : Nat → Prop} {w : World} (x : Ex) (v : Value) (h : IsEx ok w x v) (h2 : 2 ≤ x.kind) (w' : World) : (Instr.typeAssert v 24 81 true).run Tryz.prog w' = .ok (.tuple #[.bool false, .bool false]) w' := by
  obtain ⟨k, nm, l⟩ := x
  match k, h with
  | 0, _ => simp at h2
  | 1, _ => simp at h2
  | 2, h => simp only [IsEx] at h; rw [h.2.2]; exact asBitConst _ w'
  | 3, h => simp only [IsEx] at h; rw [h.2.2]; exact asRiseConst _ w'
  | 4, h => simp only [IsEx] at h; rw [h.2.2]; exact asFallConst _ w'
  | 5, h => simp only [IsEx] at h; obtain ⟨_, _, u, h, _⟩ := h; rw [h]; exact asNotConst _ w'
  | 6, h => simp only [IsEx] at h; obtain ⟨_, _, _, _, _, h, _⟩ := h; rw [h]; exact asAndConst _ w'
  | 7, h => simp only [IsEx] at h; obtain ⟨_, _, _, _, _, h, _⟩ := h; rw [h]; exact asOrConst _ w'
  | n + 8, h => simp only [IsEx] at h
theorem as_noNot {ok : Nat → Prop} {w : World} (x : Ex) (v : Value) (h : IsEx ok w x v) (h5 : x.kind ≠ 5) (w' : World) : (Instr.typeAssert v 24 86 true).run Tryz.prog w' = .ok (.tuple #[.agg #[.nilIface], .bool false]) w' := by
  obtain ⟨k, nm, l⟩ := x
  match k, h with
  | 0, h => simp only [IsEx] at h; rw [h.2.2]; exact asConstNot _ w'
  | 1, h => simp only [IsEx] at h; rw [h.2.2]; exact asConstNot _ w'
  | 2, h => simp only [IsEx] at h; rw [h.2.2]; exact asBitNot _ w'
  | 3, h => simp only [IsEx] at h; rw [h.2.2]; exact asRiseNot _ w'
  | 4, h => simp only [IsEx] at h; rw [h.2.2]; exact asFallNot _ w'
  | 5, _ => simp at h5
  | 6, h => simp only [IsEx] at h; obtain ⟨_, _, _, _, _, h, _⟩ := h; rw [h]; exact asAndNot _ w'
  | 7, h => simp only [IsEx] at h; obtain ⟨_, _, _, _, _, h, _⟩ := h; rw [h]; exact asOrNot _ w'
  | n + 8, h => simp only [IsEx] at h
/-- a Not's part, in the row of its parts -/
theorem IsTv.part {ok : Nat → Prop} {tb : List (List UInt8)} {w : World} {y : Ex} {v : Value} {n : Nat} {pv : Value} (h : IsTv ok tb w ⟨5, [], [y]⟩ v n pv) : ∃ (tu : Nat) (yu : Value) (g o cap : Nat) (v1 : Value) (m : Nat) (q : Value), v = .iface 86 (.agg #[.iface tu yu]) ∧ pv = .slice (some ⟨g, o, none⟩) 1 cap ∧ 1 ≤ cap ∧ ok g ∧ w.cell? ⟨g, o, none⟩ = some v1 ∧ w.cell? ⟨g, o + 1, none⟩ = some (.int .i64 (m : Int)) ∧ w.cell? ⟨g, o + 2, none⟩ = some q ∧ IsTv ok tb w y v1 m q := by
  rw [IsTv.def] at h
  obtain ⟨h1, _, h3 | ⟨_, g, o, cap, h5, h6, hg, h7⟩⟩ := h
  · omega
  · simp only [IsEx] at h1
    obtain ⟨_, _, u, hv, hu⟩ := h1
    obtain ⟨tu, yu, rfl⟩ := IsEx.iface y u (hu _ rfl)
    obtain ⟨v1, m, q, c1, c2, c3, hq⟩ := h7 0 y rfl
    exact ⟨tu, yu, g, o, cap, v1, m, q, hv, h5, h6, hg, by simpa using c1, by simpa using c2, by simpa using c3, hq⟩
/-- the number of a Not, told by its part's -/
theorem num_not {tb : List (List UInt8)} {x : Ex} {n m : Nat} (hx : Ex.Num tb x n) (hm : tb[m]? = some (cat 33 [n])) : Ex.Num tb ⟨5, [], [x]⟩ m := by
  rw [Ex.Num.def]
  refine ⟨[n], rfl, ?_, ?_⟩
  · intro i y j hy hj
    match i, hy, hj with
    | 0, hy, hj => simp at hy hj; subst hy hj; exact hx
    | i + 1, hy, _ => simp at hy
  · rw [hm]; unfold Ex.code; rw [if_neg (by omega)]; rfl
/-- the numbers of a new row of one -/
theorem rowN_new (w : World) (tu : Nat) (yu : Value) (n : Nat) (pa : Option Addr) (pb pc : Nat) : RowN (w.alloc (.cells #[.iface tu yu, .int .i64 (n : Int), .slice pa pb pc] 66)) w.heap.size 0 [n] := by
  intro i m hi
  match i, hi with
  | 0, hi =>
    simp at hi
    subst hi
    have hr := heap_alloc_new w (.cells #[.iface tu yu, .int .i64 (n : Int), .slice pa pb pc] 66)
    exact ⟨tu, yu, pa, pb, pc, by rw [Lib.cell_of_heap hr]; rfl, by rw [Lib.cell_of_heap hr]; rfl, by rw [Lib.cell_of_heap hr]; rfl⟩
  | i + 1, hi => simp at hi
def Numbers (mb : Nat) (tb : List (List UInt8)) (x : Ex) (w : World) (e : Ending) (w' : World) : Prop :=
  ∃ (m : Nat) (more : List (List UInt8)), e = .returned (.int .i64 (m : Int)) ∧ Tbl mb (tb ++ more) w' ∧ Ex.Num (tb ++ more) x m ∧ more.length ≤ 1 ∧ w.grownBy w' (some mb)
set_option maxHeartbeats 4000000 in
set_option maxRecDepth 100000 in
theorem otherSide_any (ok : Nat → Prop) (mb gb : Nat) (tb : List (List UInt8)) (x : Ex) (v : Value) (n : Nat) (pv : Value) (w : World) (h : Tbl mb tb w) (hl : tb.length < 1000000) (hp : Pow w) (hx : IsTv ok tb w x v n pv) (ht : Ex.Td x) (hg : w.cell? ⟨gb, 0, none⟩ = some (.map (some mb))) :
    Calls Tryz.prog 110 #[.pointer (some ⟨gb, 0, none⟩), .agg #[v, .int .i64 (n : Int), pv]] w (Numbers mb tb (Ex.other x) w) := by
  have hgb : gb < w.heap.size := World.block_lt_of_cell? _ _ hg
  by_cases h5 : x.kind = 5
  · obtain ⟨y, rfl, hty, _, _⟩ := ht.not h5
    obtain ⟨tu, yu, g, o, cap, v1, m, q, rfl, rfl, hcap, _, c1, c2, c3, hy⟩ := hx.part
    have HN := hide hy.num
    have HT := hide h
    have hgl : g < w.heap.size := World.block_lt_of_cell? _ _ c1
    clear h hx ht hty hy h5 hp
    go_enter Tryz.func110, Tryz.ntmps110
    go_wp2_with fail
    go_ret
    have hb : Below w.heap.size w ((w.alloc (.cells #[.iface 86 (.agg #[.iface tu yu]), .int .i64 (n : Int), .slice (some ⟨g, o, none⟩) 1 cap] 66)).alloc (.cells #[.iface tu yu] 86)) := ((Below.refl _ _).alloc (Nat.le_refl _) _).alloc (by simp) _
    refine ⟨m, [], rfl, ?_, ?_, by simp, ⟨hb.os, hb.tape, hb.output, hb.size, fun k hk _ => hb.block k hk⟩⟩
    · rw [List.append_nil]; exact HT.out.kept (row := none) ⟨hb.os, hb.tape, hb.output, hb.size, fun k hk _ => hb.block k hk⟩ (by simp)
    · rw [List.append_nil]; exact HN.out
  · have hA := as_noNot x v hx.ex h5
    have hnl := num_lt hx.num
    obtain ⟨tu, yu, hiu⟩ := IsEx.iface x v hx.ex
    obtain ⟨pa, pb, pc, hps⟩ := hx.slice
    subst hiu hps
    obtain ⟨w2, hw2⟩ : ∃ w2, w2 = (w.alloc (.cells #[.iface tu yu, .int .i64 (n : Int), .slice pa pb pc] 66)).alloc (.cells #[.nilIface] 86) := ⟨_, rfl⟩
    have hs2 : w2.heap.size = w.heap.size + 1 + 1 := by rw [hw2]; simp
    have hb2 : Below w.heap.size w w2 := by rw [hw2]; exact ((Below.refl _ _).alloc (Nat.le_refl _) _).alloc (by simp) _
    have hr2 : w2.heap[w.heap.size]? = some (.cells #[.iface tu yu, .int .i64 (n : Int), .slice pa pb pc] 66 (0, 0)) := by
      rw [hw2, heap_alloc_old _ _ (by simp)]
      exact heap_alloc_new w _
    have cg : w2.cell? ⟨gb, 0, none⟩ = some (.map (some mb)) := (hb2.cell (p := ⟨gb, 0, none⟩) hgb).trans hg
    have cn : (w2.alloc (.cells #[.iface tu yu, .int .i64 (n : Int), .slice pa pb pc] 66)).cell? ⟨gb, 0, none⟩ = some (.map (some mb)) := by rw [World.cell?_alloc_lt _ _ ⟨gb, 0, none⟩ (by show gb < _; omega)]; exact cg
    have d0 : w2.cell? ⟨w.heap.size, 0, none⟩ = some (.iface tu yu) := by rw [Lib.cell_of_heap hr2]; rfl
    have d1 : w2.cell? ⟨w.heap.size, 1, none⟩ = some (.int .i64 (n : Int)) := by rw [Lib.cell_of_heap hr2]; rfl
    have d2 : w2.cell? ⟨w.heap.size, 2, none⟩ = some (.slice pa pb pc) := by rw [Lib.cell_of_heap hr2]; rfl
    have HB2 := hide hb2
    have HW2 := hide hw2
    have HS2 := hide hs2
    have HN := hide hx.num
    have HT := hide h
    have HP := hide hp
    have HO : Hid (Ex.other x = ⟨5, [], [x]⟩) := by show _ = _; unfold Ex.other; rw [if_neg h5]
    obtain ⟨w3, hw3⟩ : ∃ w3, w3 = (w2.alloc (.cells #[.iface tu yu, .int .i64 (n : Int), .slice pa pb pc] 66)).drew := ⟨_, rfl⟩
    have hb3 : Below w.heap.size w w3 := by rw [hw3]; exact (hb2.alloc hb2.size _).drew
    have HC := hide (numberOf_any mb tb 33 w2.heap.size 0 1 [n] w3 (h.kept (row := none) ⟨hb3.os, hb3.tape, hb3.output, hb3.size, fun k hk _ => hb3.block k hk⟩ (by simp)) hl (hp.block (hb3.block _ hp.lt)) (by rw [hw3]; exact rowN_new w2 tu yu n pa pb pc) (by simp) (by simp) (by intro m hm; simp at hm; omega) (by rw [hw3]; simp))
    rw [hw3] at HC
    have HG3 : Hid (w.grownBy ((w2.alloc (.cells #[.iface tu yu, .int .i64 (n : Int), .slice pa pb pc] 66)).drew) (some mb)) := by rw [← hw3]; exact ⟨hb3.os, hb3.tape, hb3.output, hb3.size, fun k hk _ => hb3.block k hk⟩
    clear h hx ht h5 hp hw2 hb2 hr2 hs2 hg hw3 hb3
    go_enter Tryz.func110, Tryz.ntmps110
    go_wp2_with fail
    rw [← HW2.out]
    go_region_with (go_at_call 64; refine HC.out.mono ?_; rintro e w4 ⟨m, more, rfl, hq1, hq2, hq3, hq4⟩)
    all_goals go_wp2_with fail
    all_goals go_ret
    all_goals
      rw [HO.out]
      exact ⟨m, more, rfl, hq1, num_not (HN.out.mono tb more x n) hq2, hq3, HG3.out.trans hq4⟩
theorem Stay.refl (ok : Nat → Prop) (w : World) : Stay ok w w := fun _ _ _ _ h => h
theorem IsTv.mono {ok ok' : Nat → Prop} {tb : List (List UInt8)} {w : World} {x : Ex} {v : Value} {n : Nat} {pv : Value} (h : IsTv ok tb w x v n pv) (hok : ∀ g, ok g → ok' g) : IsTv ok' tb w x v n pv := by
  have := IsTv.stay [] (Stay.refl ok w) hok x v n pv h
  rwa [List.append_nil] at this
theorem Made.after {ok : Nat → Prop} {mb : Nat} {tb : List (List UInt8)} {c c' : Nat} {x : Ex} {w w1 : World} {e : Ending} {w' : World} (hg : w.grownBy w1 (some mb)) (h : Made ok mb tb c x w1 e w') (hc : c ≤ c') : Made ok mb tb c' x w e w' := by
  obtain ⟨v, n, pv, more, he, hx, ht, hm, hgr⟩ := h
  refine ⟨v, n, pv, more, he, hx.mono fun g hgo => ?_, ht, Nat.le_trans hm hc, hg.trans hgr⟩
  rcases hgo with h1 | h1
  · exact .inl h1
  · exact .inr (Nat.le_trans hg.size h1)
theorem grown_of_below {w w' : World} (h : Below w.heap.size w w') (row : Option Nat) : w.grownBy w' row := ⟨h.os, h.tape, h.output, h.size, fun k hk _ => h.block k hk⟩
/-- Not of what was made tidy -/
theorem isTv_not {ok : Nat → Prop} {mb : Nat} {tb more : List (List UInt8)} {x : Ex} {v : Value} {n : Nat} {pv : Value} {w w5 : World} {m g : Nat} (hT : Tbl mb tb w) (hx : IsTv ok tb w x v n pv) (hg : w.grownBy w5 (some mb)) (hm : (tb ++ more)[m]? = some (cat 33 [n])) (hgs : w.heap.size ≤ g)
    (c0 : w5.cell? ⟨g, 0, none⟩ = some v) (c1 : w5.cell? ⟨g, 1, none⟩ = some (.int .i64 (n : Int))) (c2 : w5.cell? ⟨g, 2, none⟩ = some pv) : IsTv (fun g => ok g ∨ w.heap.size ≤ g) (tb ++ more) w5 ⟨5, [], [x]⟩ (.iface 86 (.agg #[v])) m (.slice (some ⟨g, 0, none⟩) 1 1) := by
  have hx5 : IsTv (fun g => ok g ∨ w.heap.size ≤ g) (tb ++ more) w5 x v n pv := IsTv.stay more (Stay.turned ok hT hg) (fun _ h => .inl h) x v n pv hx
  rw [IsTv.def]
  refine ⟨?_, num_not hx5.num hm, .inr ⟨by omega, g, 0, 1, rfl, by simp, .inr hgs, ?_⟩⟩
  · simp only [IsEx]
    refine ⟨by trivial, by simp, v, rfl, ?_⟩
    intro P hP
    simp only [List.map_cons, List.getElem?_cons_zero, Option.some.injEq] at hP
    rw [← hP]
    exact hx5.ex
  · intro i y hy
    match i, hy with
    | 0, hy =>
      simp only [List.getElem?_cons_zero, Option.some.injEq] at hy
      subst hy
      exact ⟨v, n, pv, c0, c1, c2, hx5⟩
    | i + 1, hy => simp at hy
/-- a result that lies in three cells is handed back -/
theorem three_out {w : World} {b : Nat} {x0 x1 x2 : Value} {T : TypeId} (h : w.heap[b]? = some (.cells #[x0, x1, x2] T (0, 0))) (v0 v1 v2 : Value) :
    (((w.setCell ⟨b, 0, none⟩ v0).setCell ⟨b, 1, none⟩ v1).setCell ⟨b, 2, none⟩ v2).cell? ⟨b, 0, none⟩ = some v0 ∧ (((w.setCell ⟨b, 0, none⟩ v0).setCell ⟨b, 1, none⟩ v1).setCell ⟨b, 2, none⟩ v2).cell? ⟨b, 1, none⟩ = some v1 ∧ (((w.setCell ⟨b, 0, none⟩ v0).setCell ⟨b, 1, none⟩ v1).setCell ⟨b, 2, none⟩ v2).cell? ⟨b, 2, none⟩ = some v2 := by
  have hr := three_set h v0 v1 v2
  exact ⟨by rw [Lib.cell_of_heap hr]; rfl, by rw [Lib.cell_of_heap hr]; rfl, by rw [Lib.cell_of_heap hr]; rfl⟩
/-- .. and what was made behind that block is still what was made -/
theorem Made.put_after {ok : Nat → Prop} {mb : Nat} {tb : List (List UInt8)} {c c' : Nat} {x : Ex} {w w1 w4 : World} {e : Ending} {b : Nat} (h : Made ok mb tb c x w1 e w4) (hg : w.grownBy w1 (some mb)) (hb : w.heap.size ≤ b) (hb1 : b < w1.heap.size) (hT : Tbl mb tb w) (hok : ∀ g, ok g → g < w.heap.size) (hc : c ≤ c') (v0 v1 v2 : Value) :
    Made ok mb tb c' x w e (((w4.setCell ⟨b, 0, none⟩ v0).setCell ⟨b, 1, none⟩ v1).setCell ⟨b, 2, none⟩ v2) := by
  obtain ⟨v, n, pv, more, he, hx, ht, hm, hgr⟩ := h
  have hk := three_kept w4 b v0 v1 v2
  have hmb := hT.lt
  have hgw := hg.trans hgr
  refine ⟨v, n, pv, more, he, ?_, ht.kept hk (by simp; omega), Nat.le_trans hm hc, ?_⟩
  · have := IsTv.stay (ok := fun g => ok g ∨ w1.heap.size ≤ g) (ok' := fun g => ok g ∨ w.heap.size ≤ g) [] (Stay.grown hk (fun g hg => by
      intro e
      simp only [Option.some.injEq] at e
      rcases hg with h1 | h1
      · have := hok g h1; omega
      · omega)) (fun g h => by
      rcases h with h | h
      · exact .inl h
      · exact .inr (Nat.le_trans hg.size h)) x v n pv hx
    rwa [List.append_nil] at this
  · exact ⟨hk.os.trans hgw.os, hk.tape.trans hgw.tape, hk.output.trans hgw.output, Nat.le_trans hgw.size hk.size, fun k hk' hne => (hk.block k (Nat.lt_of_lt_of_le hk' hgw.size) (by simp; omega)).trans (hgw.block k hk' hne)⟩
set_option maxHeartbeats 4000000 in
set_option maxRecDepth 100000 in
theorem not_const (ok : Nat → Prop) (mb : Nat) (tb : List (List UInt8)) (b : Bool) (n : Nat) (w : World) (h : Tbl mb tb w) (hl : tb.length < 1000000) (hok : ∀ g, ok g → g < w.heap.size) :
    Calls Tryz.prog 49 #[.agg #[.map (some mb)], .agg #[.iface 81 (.bool b), .int .i64 (n : Int), .slice none 0 0]] w (Made ok mb tb 1 ⟨if b then 0 else 1, [], []⟩ w) := by
  obtain ⟨w3, hw3⟩ : ∃ w3, w3 = ((w.alloc (.cells #[.map (some mb)] 63)).alloc (.cells #[.iface 81 (.bool b), .int .i64 (n : Int), .slice none 0 0] 66)).alloc (.cells #[.nilIface, .int .i64 0, .slice none 0 0] 66) := ⟨_, rfl⟩
  have hb3 : Below w.heap.size w w3 := by rw [hw3]; exact (((Below.refl _ _).alloc (Nat.le_refl _) _).alloc (by simp) _).alloc (by simp; omega) _
  have hs3 : w3.heap.size = w.heap.size + 1 + 1 + 1 := by rw [hw3]; simp
  have hr3 : w3.heap[w.heap.size + 1 + 1]? = some (.cells #[.nilIface, .int .i64 0, .slice none 0 0] 66 (0, 0)) := by
    have := heap_alloc_new ((w.alloc (.cells #[.map (some mb)] 63)).alloc (.cells #[.iface 81 (.bool b), .int .i64 (n : Int), .slice none 0 0] 66)) (.cells #[.nilIface, .int .i64 0, .slice none 0 0] 66)
    rw [World.size_alloc, World.size_alloc] at this
    rw [hw3]; exact this
  have hg3 : w.grownBy w3 (some mb) := grown_of_below hb3 _
  have hT3 : Tbl mb tb w3 := h.kept (row := none) (grown_of_below hb3 _) (by simp)
  have HL := hide (leaf_any ok mb tb ⟨if b then 0 else 1, [], []⟩ (.iface 81 (.bool (!b))) w3 hT3 hl (by cases b <;> simp [IsEx]) (by cases b <;> simp) rfl (by cases b <;> simp [Ex.text]))
  obtain ⟨y, hy⟩ : ∃ y : Ex, y = ⟨if b then 0 else 1, [], []⟩ := ⟨_, rfl⟩
  rw [← hy] at HL ⊢
  clear hy
  have HW3 := hide hw3
  have HR3 := hide hr3
  have HG3 := hide hg3
  have HS3 := hide hs3
  have HT := hide h
  have HOK := hide hok
  clear hw3 hr3 hg3 hs3 h hok hT3 hb3 hl
  cases b
  all_goals
    go_enter Tryz.func49, Tryz.ntmps49
    go_wp2_with fail
    rw [← HW3.out]
    refine HL.out.mono ?_
    rintro e w4 hmade
    have hout := hmade.put_after HG3.out (b := w.heap.size + 1 + 1) (by omega) (by rw [HS3.out]; omega) HT.out HOK.out (Nat.le_refl _)
    obtain ⟨v', n', pv', more, rfl, hq, hq2, _, hgr⟩ := hmade
    obtain ⟨tu, yu, hiu⟩ := IsEx.iface _ v' hq.ex
    obtain ⟨pa, pb, pc, hps⟩ := hq.slice
    subst hiu hps
    have hlt := HT.out.lt
    have hr4 := (hgr.block (w.heap.size + 1 + 1) (by rw [HS3.out]; omega) (by simp; omega)).trans HR3.out
    have HOUT := hide (hout (.iface tu yu) (.int .i64 (n' : Int)) (.slice pa pb pc))
    have HR4 := hide hr4
    have d0 : w4.cell? ⟨w.heap.size + 1 + 1, 0, none⟩ = some .nilIface := by rw [Lib.cell_of_heap hr4]; rfl
    have d1 : w4.cell? ⟨w.heap.size + 1 + 1, 1, none⟩ = some (.int .i64 0) := by rw [Lib.cell_of_heap hr4]; rfl
    have d2 : w4.cell? ⟨w.heap.size + 1 + 1, 2, none⟩ = some (.slice none 0 0) := by rw [Lib.cell_of_heap hr4]; rfl
    have g0 := Lib.frozen_of_heap hr4 0
    have g1 := Lib.frozen_of_heap hr4 1
    have g2 := Lib.frozen_of_heap hr4 2
    clear hout hr4 hq hq2 hgr HL
    go_wp2_with fail
    obtain ⟨q0, q1, q2⟩ := three_out HR4.out (.iface tu yu) (.int .i64 (n' : Int)) (.slice pa pb pc)
    refine bodyPost_ret_by (v := .agg #[.iface tu yu, .int .i64 (n' : Int), .slice pa pb pc]) ?_ rfl HOUT.out
    simp [results, Tryz.results49, go_sem, q0, q1, q2]
set_option maxHeartbeats 4000000 in
set_option maxRecDepth 100000 in
theorem not_part (ok : Nat → Prop) (mb : Nat) (tb : List (List UInt8)) (y : Ex) (v : Value) (n : Nat) (pv : Value) (w : World) (h : Tbl mb tb w) (hx : IsTv ok tb w ⟨5, [], [y]⟩ v n pv) :
    Calls Tryz.prog 49 #[.agg #[.map (some mb)], .agg #[v, .int .i64 (n : Int), pv]] w (Made ok mb tb 1 y w) := by
  obtain ⟨tu, yu, g, o, cap, v1, m, q, rfl, rfl, hcap, hog, c0, c1, c2, hy⟩ := hx.part
  obtain ⟨tv, yv, hiv⟩ := IsEx.iface _ v1 hy.ex
  obtain ⟨pa, pb, pc, hps⟩ := hy.slice
  subst hiv hps
  obtain ⟨w3, hw3⟩ : ∃ w3, w3 = ((w.alloc (.cells #[.map (some mb)] 63)).alloc (.cells #[.iface 86 (.agg #[.iface tu yu]), .int .i64 (n : Int), .slice (some ⟨g, o, none⟩) 1 cap] 66)).alloc (.cells #[.nilIface, .int .i64 0, .slice none 0 0] 66) := ⟨_, rfl⟩
  have hb3 : Below w.heap.size w w3 := by rw [hw3]; exact (((Below.refl _ _).alloc (Nat.le_refl _) _).alloc (by simp) _).alloc (by simp; omega) _
  have hgl : g < w.heap.size := World.block_lt_of_cell? _ _ c0
  have hb4 : Below w.heap.size w (w3.alloc (.cells #[.iface tu yu] 86)) := hb3.alloc hb3.size _
  have e0 := (hb4.cell (p := ⟨g, o, none⟩) hgl).trans c0
  have e1 := (hb4.cell (p := ⟨g, o + 1, none⟩) hgl).trans c1
  have e2 := (hb4.cell (p := ⟨g, o + 2, none⟩) hgl).trans c2
  rw [hw3] at e0 e1 e2
  have HT := hide h
  have HY := hide hy
  clear hw3 h hb3 hx hy c0 c1 c2 hb4
  go_enter Tryz.func49, Tryz.ntmps49
  go_wp2_with fail
  refine bodyPost_ret_by (v := .agg #[.iface tv yv, .int .i64 (m : Int), .slice pa pb pc]) ?_ rfl ?_
  · simp [results, Tryz.results49, go_sem]
  · have hb : Below w.heap.size w ((((w.alloc (.cells #[.map (some mb)] 63)).alloc (.cells #[.iface 86 (.agg #[.iface tu yu]), .int .i64 (n : Int), .slice (some ⟨g, o, none⟩) 1 cap] 66)).alloc (.cells #[.iface tv yv, .int .i64 (m : Int), .slice pa pb pc] 66)).alloc (.cells #[.iface tu yu] 86)) := ((((Below.refl _ _).alloc (Nat.le_refl _) _).alloc (by simp) _).alloc (by simp; omega) _).alloc (by simp; omega) _
    refine ⟨_, m, _, [], rfl, ?_, by rw [List.append_nil]; exact HT.out.kept (grown_of_below hb none) (by simp), by simp, grown_of_below hb _⟩
    exact IsTv.stay [] (Stay.below hb) (fun _ h => .inl h) y _ m _ HY.out
end Go.Proofs.YtpidknogiiclfaaGreatDoor
