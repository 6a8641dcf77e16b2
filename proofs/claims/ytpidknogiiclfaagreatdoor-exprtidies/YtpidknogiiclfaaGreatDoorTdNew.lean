/-
  The walk of not, its third way: a new Not. The walk of alike: is an expression a list of the kind that is gathered?
-/
import Derived.Test.YtpidknogiiclfaaGreatDoorTdNot
import Derived.Deep.RegionHeld3
namespace Go.Proofs.YtpidknogiiclfaaGreatDoor
open Go.RowKit Go.Maps
theorem not_end {ok : Nat → Prop} {mb : Nat} {tb more : List (List UInt8)} {x : Ex} {tu : Nat} {yu : Value} {n : Nat} {pa : Option Addr} {pb pc : Nat} {w wz : World} {m g b : Nat} (hT : Tbl mb tb w) (hx : IsTv ok tb w x (.iface tu yu) n (.slice pa pb pc)) (hgz : w.grownBy wz (some mb)) (htz : Tbl mb (tb ++ more) wz) (hm : (tb ++ more)[m]? = some (cat 33 [n])) (hml : more.length ≤ 1) (hb : w.heap.size ≤ b) (hg : w.heap.size ≤ g) (hgb : g ≠ b)
    (hr : wz.heap[g]? = some (.cells #[.iface tu yu, .int .i64 (n : Int), .slice pa pb pc] 66 (0, 0))) :
    Made ok mb tb 1 ⟨5, [], [x]⟩ w (.returned (.agg #[.iface 86 (.agg #[.iface tu yu]), .int .i64 (m : Int), .slice (some ⟨g, 0, none⟩) 1 1])) (((wz.setCell ⟨b, 0, none⟩ (.iface 86 (.agg #[.iface tu yu]))).setCell ⟨b, 1, none⟩ (.int .i64 (m : Int))).setCell ⟨b, 2, none⟩ (.slice (some ⟨g, 0, none⟩) 1 1)) := by
  have hk := three_kept wz b (.iface 86 (.agg #[.iface tu yu])) (.int .i64 (m : Int)) (.slice (some ⟨g, 0, none⟩) 1 1)
  have hlt := hT.lt
  have hgl : g < wz.heap.size := (Array.getElem?_eq_some_iff.1 hr).1
  have hgw : w.grownBy (((wz.setCell ⟨b, 0, none⟩ (.iface 86 (.agg #[.iface tu yu]))).setCell ⟨b, 1, none⟩ (.int .i64 (m : Int))).setCell ⟨b, 2, none⟩ (.slice (some ⟨g, 0, none⟩) 1 1)) (some mb) :=
    ⟨hk.os.trans hgz.os, hk.tape.trans hgz.tape, hk.output.trans hgz.output, Nat.le_trans hgz.size hk.size, fun k hk' hne => (hk.block k (Nat.lt_of_lt_of_le hk' hgz.size) (by simp; omega)).trans (hgz.block k hk' hne)⟩
  have hr5 := (hk.block g hgl (by simpa using hgb)).trans hr
  exact ⟨_, m, _, more, rfl, isTv_not hT hx hgw hm hg (by rw [Lib.cell_of_heap hr5]; rfl) (by rw [Lib.cell_of_heap hr5]; rfl) (by rw [Lib.cell_of_heap hr5]; rfl), htz.kept hk (by simp; omega), hml, hgw⟩
set_option maxHeartbeats 8000000 in
set_option maxRecDepth 100000 in
theorem not_new (ok : Nat → Prop) (mb : Nat) (tb : List (List UInt8)) (x : Ex) (v : Value) (n : Nat) (pv : Value) (w : World) (h : Tbl mb tb w) (hl : tb.length < 1000000) (hp : Pow w) (hx : IsTv ok tb w x v n pv) (h2 : 2 ≤ x.kind) (h5 : x.kind ≠ 5) (hok : ∀ g, ok g → g < w.heap.size) :
    Calls Tryz.prog 49 #[.agg #[.map (some mb)], .agg #[v, .int .i64 (n : Int), pv]] w (Made ok mb tb 1 ⟨5, [], [x]⟩ w) := by
  have hA := as_noNot x v hx.ex h5
  have hA2 := as_noConst x v hx.ex h2
  have hnl := num_lt hx.num
  obtain ⟨tu, yu, hiu⟩ := IsEx.iface x v hx.ex
  obtain ⟨pa, pb, pc, hps⟩ := hx.slice
  subst hiu hps
  obtain ⟨o1, ho1⟩ : ∃ o1, o1 = (.cells #[.iface tu yu, .int .i64 (n : Int), .slice pa pb pc] 66 : Obj) := ⟨_, rfl⟩
  obtain ⟨w3, hw3⟩ : ∃ w3, w3 = ((w.alloc (.cells #[.map (some mb)] 63)).alloc o1).alloc (.cells #[.nilIface, .int .i64 0, .slice none 0 0] 66) := ⟨_, rfl⟩
  have hb3 : Below w.heap.size w w3 := by rw [hw3]; exact (((Below.refl _ _).alloc (Nat.le_refl _) _).alloc (by simp) _).alloc (by simp; omega) _
  have hs3 : w3.heap.size = w.heap.size + 1 + 1 + 1 := by rw [hw3]; simp
  have hr3 : w3.heap[w.heap.size + 1 + 1]? = some (.cells #[.nilIface, .int .i64 0, .slice none 0 0] 66 (0, 0)) := by
    have := heap_alloc_new ((w.alloc (.cells #[.map (some mb)] 63)).alloc o1) (.cells #[.nilIface, .int .i64 0, .slice none 0 0] 66)
    rw [World.size_alloc, World.size_alloc] at this
    rw [hw3]; exact this
  have hx3 : w3.heap[w.heap.size + 1]? = some (.cells #[.iface tu yu, .int .i64 (n : Int), .slice pa pb pc] 66 (0, 0)) := by
    rw [hw3, heap_alloc_old _ _ (by simp)]
    have := heap_alloc_new (w.alloc (.cells #[.map (some mb)] 63)) o1
    rw [World.size_alloc] at this
    rw [this, ho1]
  have ht3 : w3.heap[w.heap.size]? = some (.cells #[.map (some mb)] 63 (0, 0)) := by
    rw [hw3, heap_alloc_old _ _ (by simp; omega), heap_alloc_old _ _ (by simp)]
    exact heap_alloc_new w _
  have HFACT : Hid (∀ W : World, Below w3.heap.size w3 W → W.cell? ⟨w.heap.size, 0, none⟩ = some (.map (some mb)) ∧ (W.cell? ⟨w.heap.size + 1, 0, none⟩ = some (.iface tu yu) ∧ W.cell? ⟨w.heap.size + 1, 1, none⟩ = some (.int .i64 (n : Int)) ∧ W.cell? ⟨w.heap.size + 1, 2, none⟩ = some (.slice pa pb pc)) ∧ W.heap[w.heap.size + 1 + 1]? = some (.cells #[.nilIface, .int .i64 0, .slice none 0 0] 66 (0, 0)) ∧ Tbl mb tb W ∧ Pow W ∧ w.grownBy W (some mb)) := by
    intro W hW
    have hbW : Below w.heap.size w W := hb3.trans (hW.mono hb3.size)
    have e1 := (hW.block _ (by omega)).trans hx3
    have e2 := (hW.block _ (by omega)).trans ht3
    exact ⟨by rw [Lib.cell_of_heap e2]; rfl, ⟨by rw [Lib.cell_of_heap e1]; rfl, by rw [Lib.cell_of_heap e1]; rfl, by rw [Lib.cell_of_heap e1]; rfl⟩, (hW.block _ (by omega)).trans hr3, h.kept (row := none) (grown_of_below hbW _) (by simp), hp.block (hbW.block _ hp.lt), grown_of_below hbW _⟩
  have HAFT : Hid (∀ W w4 : World, Below w3.heap.size w3 W → W.grownBy w4 (some mb) → w4.cell? ⟨w.heap.size, 0, none⟩ = some (.map (some mb)) ∧ (w4.cell? ⟨w.heap.size + 1, 0, none⟩ = some (.iface tu yu) ∧ w4.cell? ⟨w.heap.size + 1, 1, none⟩ = some (.int .i64 (n : Int)) ∧ w4.cell? ⟨w.heap.size + 1, 2, none⟩ = some (.slice pa pb pc)) ∧ (w4.cell? ⟨w.heap.size + 1 + 1, 0, none⟩ = some .nilIface ∧ w4.cell? ⟨w.heap.size + 1 + 1, 1, none⟩ = some (.int .i64 0) ∧ w4.cell? ⟨w.heap.size + 1 + 1, 2, none⟩ = some (.slice none 0 0)) ∧ (w4.frozen? ⟨w.heap.size + 1 + 1, 0, none⟩ = false ∧ w4.frozen? ⟨w.heap.size + 1 + 1, 1, none⟩ = false ∧ w4.frozen? ⟨w.heap.size + 1 + 1, 2, none⟩ = false) ∧ Hid (w4.heap[w.heap.size + 1 + 1]? = some (.cells #[.nilIface, .int .i64 0, .slice none 0 0] 66 (0, 0)))) := by
    intro W w4 hW hg
    have hlt := h.lt
    have hsW := hW.size
    have e1 := (hg.block _ (by omega) (by simp; omega)).trans ((hW.block _ (by omega)).trans hx3)
    have e2 := (hg.block _ (by omega) (by simp; omega)).trans ((hW.block _ (by omega)).trans hr3)
    have e0 := (hg.block _ (by omega) (by simp; omega)).trans ((hW.block _ (by omega)).trans ht3)
    exact ⟨by rw [Lib.cell_of_heap e0]; rfl, ⟨by rw [Lib.cell_of_heap e1]; rfl, by rw [Lib.cell_of_heap e1]; rfl, by rw [Lib.cell_of_heap e1]; rfl⟩, ⟨by rw [Lib.cell_of_heap e2]; rfl, by rw [Lib.cell_of_heap e2]; rfl, by rw [Lib.cell_of_heap e2]; rfl⟩, ⟨Lib.frozen_of_heap e2 0, Lib.frozen_of_heap e2 1, Lib.frozen_of_heap e2 2⟩, e2⟩
  have hB0 : Below w3.heap.size w3 w3 := Below.refl _ _
  have hB1 : Below w3.heap.size w3 (w3.alloc o1) := (Below.refl _ _).alloc (Nat.le_refl _) _
  have hB2 : Below w3.heap.size w3 ((w3.alloc o1).alloc o1) := hB1.alloc (by simp) _
  obtain ⟨a0, ⟨a1, a2, a3⟩, _⟩ := HFACT.out _ hB0
  have HROW1 : Hid (RowN (w3.alloc o1).drew w3.heap.size 0 [n]) := by rw [ho1]; exact rowN_new w3 tu yu n pa pb pc
  have HROW2 : Hid (RowN ((w3.alloc o1).alloc o1).drew w3.heap.size 0 [n]) := HROW1.out.below (B := (w3.alloc o1).drew.heap.size) ⟨rfl, rfl, rfl, by simp [World.drew], fun k hk => heap_alloc_old (w3.alloc o1) o1 hk⟩ (by simp [World.drew])
  have HROW3 : Hid (RowN ((w3.alloc o1).alloc o1).drew (w3.heap.size + 1) 0 [n]) := by
    have := rowN_new (w3.alloc o1) tu yu n pa pb pc
    rw [World.size_alloc] at this
    rw [ho1] at this ⊢; exact this
  have HNEW2 : Hid (((w3.alloc o1).alloc o1).drew.heap[w3.heap.size + 1]? = some (.cells #[.iface tu yu, .int .i64 (n : Int), .slice pa pb pc] 66 (0, 0))) := by
    have := heap_alloc_new (w3.alloc o1) o1
    rw [World.size_alloc] at this
    show ((w3.alloc o1).alloc o1).heap[w3.heap.size + 1]? = _
    rw [this, ho1]
  have HNEW3 : Hid (((w3.alloc o1).alloc o1).drew.heap[w3.heap.size]? = some (.cells #[.iface tu yu, .int .i64 (n : Int), .slice pa pb pc] 66 (0, 0))) := by
    show ((w3.alloc o1).alloc o1).heap[w3.heap.size]? = _
    rw [heap_alloc_old _ _ (by simp), heap_alloc_new w3 o1, ho1]
  have HM : Hid (∀ m, m ∈ [n] → m ≤ 1000000) := by intro m hm; simp at hm; omega
  have HC1 := hide (numberOf_any mb tb 33 w3.heap.size 0 1 [n] (w3.alloc o1).drew (HFACT.out _ hB1.drew).2.2.2.1 hl (HFACT.out _ hB1.drew).2.2.2.2.1 HROW1.out (by simp) (by simp) HM.out (by simp [World.drew]))
  have HC2 := hide (numberOf_any mb tb 33 w3.heap.size 0 1 [n] ((w3.alloc o1).alloc o1).drew (HFACT.out _ hB2.drew).2.2.2.1 hl (HFACT.out _ hB2.drew).2.2.2.2.1 HROW2.out (by simp) (by simp) HM.out (by simp [World.drew]; omega))
  have HC3 := hide (numberOf_any mb tb 33 (w3.heap.size + 1) 0 1 [n] ((w3.alloc o1).alloc o1).drew (HFACT.out _ hB2.drew).2.2.2.1 hl (HFACT.out _ hB2.drew).2.2.2.2.1 HROW3.out (by simp) (by simp) HM.out (by simp [World.drew]))
  rw [show [n].length = 1 from rfl] at HC1 HC2 HC3
  have HW3 := hide hw3
  have HT := hide h
  have HX := hide hx
  have HB1 := hide hB1
  have HB2 := hide hB2
  have HS3 := hide hs3
  have HLT := hide h.lt
  have HOK := hide hok
  rw [ho1] at *
  clear ho1 o1
  clear hw3 h hp hx h2 h5 hb3 hs3 hr3 hx3 ht3 hB0 hB1 hB2 HROW1 HROW2 HROW3 HM hok
  go_enter Tryz.func49, Tryz.ntmps49
  go_wp2_with fail
  rw [← HW3.out]
  go_region_held3 (fun W => W.cell? ⟨w.heap.size, 0, none⟩ = some (.map (some mb)) ∧ W.cell? ⟨w.heap.size + 1, 0, none⟩ = some (.iface tu yu) ∧ W.cell? ⟨w.heap.size + 1, 1, none⟩ = some (.int .i64 (n : Int)) ∧ W.cell? ⟨w.heap.size + 1, 2, none⟩ = some (.slice pa pb pc)) ((refine ⟨?_, ?_, ?_, ?_⟩ <;> (repeat (rw [World.cell?_setCell_far _ _ _ _ (by dsimp only; omega)])) <;> simp [*, World.cell?_alloc_some])) ((go_at_call 64; first | ((with_reducible refine HC1.out.mono ?_); rintro e w4 ⟨m, more, rfl, hq1, hq2, hq3, hq4⟩; obtain ⟨f0, ⟨f1, f2, f3⟩, ⟨r1, r2, r3⟩, ⟨z1, z2, z3⟩, HR4⟩ := HAFT.out _ _ HB1.out.drew hq4; obtain ⟨_, ⟨_, _, _⟩, ⟨r4, r5, r6⟩, ⟨z4, z5, z6⟩, HR5⟩ := HAFT.out _ (w4.alloc (.cells #[.iface tu yu, .int .i64 (n : Int), .slice pa pb pc] 66)) HB1.out.drew (hq4.trans (World.grownBy_alloc _ _ _))) | ((with_reducible refine HC2.out.mono ?_); rintro e w4 ⟨m, more, rfl, hq1, hq2, hq3, hq4⟩; obtain ⟨f0, ⟨f1, f2, f3⟩, ⟨r1, r2, r3⟩, ⟨z1, z2, z3⟩, HR4⟩ := HAFT.out _ _ HB2.out.drew hq4; obtain ⟨_, ⟨_, _, _⟩, ⟨r4, r5, r6⟩, ⟨z4, z5, z6⟩, HR5⟩ := HAFT.out _ (w4.alloc (.cells #[.iface tu yu, .int .i64 (n : Int), .slice pa pb pc] 66)) HB2.out.drew (hq4.trans (World.grownBy_alloc _ _ _))) | ((with_reducible refine HC3.out.mono ?_); rintro e w4 ⟨m, more, rfl, hq1, hq2, hq3, hq4⟩; obtain ⟨f0, ⟨f1, f2, f3⟩, ⟨r1, r2, r3⟩, ⟨z1, z2, z3⟩, HR4⟩ := HAFT.out _ _ HB2.out.drew hq4; obtain ⟨_, ⟨_, _, _⟩, ⟨r4, r5, r6⟩, ⟨z4, z5, z6⟩, HR5⟩ := HAFT.out _ (w4.alloc (.cells #[.iface tu yu, .int .i64 (n : Int), .slice pa pb pc] 66)) HB2.out.drew (hq4.trans (World.grownBy_alloc _ _ _)))))
  all_goals go_wp2_with fail
  · refine bodyPost_ret_by (v := .agg #[.iface 86 (.agg #[.iface tu yu]), .int .i64 (m : Int), .slice (some ⟨w4.heap.size, 0, none⟩) 1 1]) ?_ rfl (not_end HT.out HX.out (((HFACT.out _ HB1.out.drew).2.2.2.2.2.trans hq4).trans (World.grownBy_alloc _ _ _)) (hq1.kept (World.grownBy_alloc _ _ none) (by simp)) hq2 hq3 (by omega) (by have := ((HFACT.out _ HB1.out.drew).2.2.2.2.2.trans hq4).size; omega) (by have := hq4.size; have := HS3.out; have := HB1.out.size; simp [World.drew] at *; omega) (heap_alloc_new w4 _))
    obtain ⟨q0, q1, q2⟩ := three_out HR5.out (.iface 86 (.agg #[.iface tu yu])) (.int .i64 (m : Int)) (.slice (some ⟨w4.heap.size, 0, none⟩) 1 1)
    simp [results, Tryz.results49, go_sem, q0, q1, q2]
  · refine bodyPost_ret_by (v := .agg #[.iface 86 (.agg #[.iface tu yu]), .int .i64 (m : Int), .slice (some ⟨w3.heap.size + 1, 0, none⟩) 1 1]) ?_ rfl (not_end HT.out HX.out ((HFACT.out _ HB2.out.drew).2.2.2.2.2.trans hq4) hq1 hq2 hq3 (by omega) (by have := HS3.out; omega) (by have := HS3.out; omega) ((hq4.block _ (by simp [World.drew]) (by have := HS3.out; have := HLT.out; simp; omega)).trans HNEW2.out))
    obtain ⟨q0, q1, q2⟩ := three_out HR4.out (.iface 86 (.agg #[.iface tu yu])) (.int .i64 (m : Int)) (.slice (some ⟨w3.heap.size + 1, 0, none⟩) 1 1)
    simp [results, Tryz.results49, go_sem, q0, q1, q2]
  · refine bodyPost_ret_by (v := .agg #[.iface 86 (.agg #[.iface tu yu]), .int .i64 (m : Int), .slice (some ⟨w3.heap.size, 0, none⟩) 1 1]) ?_ rfl (not_end HT.out HX.out ((HFACT.out _ HB2.out.drew).2.2.2.2.2.trans hq4) hq1 hq2 hq3 (by omega) (by have := HS3.out; omega) (by have := HS3.out; omega) ((hq4.block _ (by simp [World.drew]; omega) (by have := HS3.out; have := HLT.out; simp; omega)).trans HNEW3.out))
    obtain ⟨q0, q1, q2⟩ := three_out HR4.out (.iface 86 (.agg #[.iface tu yu])) (.int .i64 (m : Int)) (.slice (some ⟨w3.heap.size, 0, none⟩) 1 1)
    simp [results, Tryz.results49, go_sem, q0, q1, q2]
/-- not: what is made of Not of what was made tidy -/
theorem tnot_any (ok : Nat → Prop) (mb : Nat) (tb : List (List UInt8)) (x : Ex) (v : Value) (n : Nat) (pv : Value) (w : World) (h : Tbl mb tb w) (hl : tb.length < 1000000) (hp : Pow w) (hx : IsTv ok tb w x v n pv) (ht : Ex.Td x) (hok : ∀ g, ok g → g < w.heap.size) :
    Calls Tryz.prog 49 #[.agg #[.map (some mb)], .agg #[v, .int .i64 (n : Int), pv]] w (Made ok mb tb 1 (Ex.notT x) w) := by
  by_cases h5 : x.kind = 5
  · obtain ⟨y, rfl, _, _, _⟩ := ht.not h5
    exact not_part ok mb tb y v n pv w h hx
  · by_cases h2 : 2 ≤ x.kind
    · have e : Ex.notT x = ⟨5, [], [x]⟩ := by
        unfold Ex.notT Ex.other
        rw [if_neg (by omega), if_neg (by omega), if_neg h5]
      rw [e]
      exact not_new ok mb tb x v n pv w h hl hp hx h2 h5 hok
    · obtain ⟨k, nm, l⟩ := x
      rw [IsTv.def] at hx
      obtain ⟨h1, _, h3⟩ := hx
      have hpv : pv = .slice none 0 0 := by
        rcases h3 with h3 | h3
        · exact h3.2
        · simp only at h2; omega
      subst hpv
      match k, h1 with
      | 0, h1 =>
        simp only [IsEx] at h1
        obtain ⟨rfl, rfl, rfl⟩ := h1
        exact not_const ok mb tb false n w h hl hok
      | 1, h1 =>
        simp only [IsEx] at h1
        obtain ⟨rfl, rfl, rfl⟩ := h1
        exact not_const ok mb tb true n w h hl hok
      | k + 2, _ => simp at h2
theorem ret_bool' {a b : Bool} (h : a = b) : Ending.returned (.bool a) = .returned (.bool b) := by rw [h]
set_option maxHeartbeats 2000000 in
theorem alike_any (ok : Nat → Prop) (gb k : Nat) (hk : k = 6 ∨ k = 7) (x : Ex) (v : Value) (w0 w : World) (h : IsEx ok w0 x v) (hc : w.cell? ⟨gb, 1, none⟩ = some (.bool (decide (k = 6)))) :
    Calls Tryz.prog 85 #[.pointer (some ⟨gb, 0, none⟩), v] w fun e w' => e = .returned (.bool (decide (x.kind = k))) ∧ w' = w := by
  have H1 := hide (fun w => isAnd_any ok x v w0 w h)
  have H2 := hide (fun w => isOr_any ok x v w0 w h)
  clear h
  rcases hk with rfl | rfl
  · simp only [decide_true] at hc
    go_enter Tryz.func85, Tryz.ntmps85
    go_wp2_with fail
    refine (H1.out _).mono ?_
    rintro e w' ⟨rfl, rfl⟩
    go_wp2_with fail
    go_ret
    exact ⟨ret_bool' (by rw [Bool.eq_iff_iff]; simp), rfl⟩
  · simp only [show decide (7 = 6) = false from rfl] at hc
    go_enter Tryz.func85, Tryz.ntmps85
    go_wp2_with fail
    refine (H2.out _).mono ?_
    rintro e w' ⟨rfl, rfl⟩
    go_wp2_with fail
    go_ret
    exact ⟨ret_bool' (by rw [Bool.eq_iff_iff]; simp), rfl⟩
end Go.Proofs.YtpidknogiiclfaaGreatDoor
