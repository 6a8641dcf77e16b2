/-
  The walk of package ladder's lines: those lines that are not of blanks alone, each with the place of its first byte.
-/
import Derived.Test.YtefpelmdelkpmaaGreatDoorLdWords
namespace Go.Proofs.YtefpelmdelkpmaaGreatDoor
open Go.RowKit
attribute [local go_sem] Oper.semAt_some
/-- a line, and the place of its first byte -/
abbrev Line := { p : Nat × List UInt8 // p.1 ≤ 1000000000 ∧ p.2.length ≤ 20000 }
namespace Ld
/-- where the next line begins -/
def total : List (List UInt8) → Nat
  | [] => 0
  | a :: r => a.length + 1 + total r
theorem total_snoc (l : List (List UInt8)) (a : List UInt8) : total (l ++ [a]) = total l + (a.length + 1) := by
  induction l with
  | nil => simp [total]
  | cons x r ih => simp only [List.cons_append, total, ih]; omega
theorem placed_snoc (a : List UInt8) : ∀ (l : List (List UInt8)) (i : Nat), placed i (l ++ [a]) = placed i l ++ [(i + total l, a)]
  | [], i => by simp [placed, total]
  | x :: r, i => by rw [List.cons_append, placed, placed, placed_snoc a r]; simp [total]; omega
theorem placed_app (b : List (List UInt8)) : ∀ (l : List (List UInt8)) (i : Nat), placed i (l ++ b) = placed i l ++ placed (i + total l) b
  | [], i => by simp [placed, total]
  | x :: r, i => by
    rw [List.cons_append, placed, placed, placed_app b r, List.cons_append]
    have : i + x.length + 1 + total r = i + total (x :: r) := by simp only [total]; omega
    rw [this]
/-- the lines among some pieces -/
def linesOf (l : List (List UInt8)) : List (Nat × List UInt8) := (placed 0 l).filter fun p => !isBlank p.2
theorem linesOf_snoc (l : List (List UInt8)) (a : List UInt8) : linesOf (l ++ [a]) = linesOf l ++ (if isBlank a then [] else [(total l, a)]) := by
  unfold linesOf
  rw [placed_snoc, List.filter_append]
  congr 1
  cases h : isBlank a <;> simp [h]
theorem linesOf_pre (l b : List (List UInt8)) : ∃ r, linesOf (l ++ b) = linesOf l ++ r := by
  unfold linesOf
  rw [placed_app, List.filter_append]
  exact ⟨_, rfl⟩
theorem placed_len : ∀ (l : List (List UInt8)) (i : Nat), (placed i l).length = l.length
  | [], _ => rfl
  | _ :: r, i => by simp [placed, placed_len r]
theorem linesOf_len (l : List (List UInt8)) : (linesOf l).length ≤ l.length := Nat.le_trans (List.length_filter_le _ _) (by rw [placed_len]; exact Nat.le_refl _)
theorem total_le (l : List (List UInt8)) (h : ∀ a, a ∈ l → a.length ≤ 20000) : total l ≤ 20001 * l.length := by
  induction l with
  | nil => simp [total]
  | cons a r ih =>
    have h1 := ih fun b hb => h b (by simp [hb])
    have h2 := h a (by simp)
    simp only [total, List.length_cons]
    omega
theorem drop_mem (p : UInt8 → Bool) (b : UInt8) (hp : p b = false) : ∀ l : List UInt8, b ∈ l → b ∈ l.dropWhile p
  | [], h => h
  | a :: r, h => by
    rw [List.dropWhile_cons]
    by_cases ha : p a = true
    · rw [if_pos ha]
      rw [List.mem_cons] at h
      rcases h with rfl | h
      · rw [hp] at ha; cases ha
      · exact drop_mem p b hp r h
    · rw [if_neg ha]; exact h
theorem drop_all (p : UInt8 → Bool) : ∀ l : List UInt8, (∀ x, x ∈ l → p x = true) → l.dropWhile p = []
  | [], _ => rfl
  | a :: r, h => by rw [List.dropWhile_cons, if_pos (h a (by simp))]; exact drop_all p r fun x hx => h x (by simp [hx])
theorem trim_blank (l : List UInt8) : (Lib.trimB l 32).isEmpty = isBlank l := by
  cases hb : isBlank l with
  | true =>
    unfold isBlank at hb
    rw [List.all_eq_true] at hb
    have : l.reverse.dropWhile (· == 32) = [] := drop_all _ _ fun x hx => hb x (List.mem_reverse.1 hx)
    unfold Lib.trimB Lib.trimRightB Lib.trimLeftB
    rw [this]; rfl
  | false =>
    unfold isBlank at hb
    rw [List.all_eq_false] at hb
    obtain ⟨x, hx, hn⟩ := hb
    have hn' : (x == 32) = false := by simpa using hn
    have h1 : x ∈ Lib.trimRightB l 32 := by
      unfold Lib.trimRightB
      rw [List.mem_reverse]
      exact drop_mem _ x hn' _ (List.mem_reverse.2 hx)
    have h2 : x ∈ Lib.trimB l 32 := drop_mem _ x hn' _ h1
    cases ht : Lib.trimB l 32 with
    | nil => rw [ht] at h2; simp at h2
    | cons a r => rfl
end Ld
set_option maxHeartbeats 4000000 in
set_option maxRecDepth 100000 in
theorem lines1_seq (s : List UInt8) (bt : Nat) (w : World) (hs : s.length ≤ 20000) (ht : w.heap[bt]? = some (.cells #[.string ⟨s.toArray⟩] 9 (0, 0))) :
    SeqX Tryz.prog 75 #[.pointer (some ⟨bt, 0, none⟩)] (fun x : Line => #[.int .i64 (x.1.1 : Int), .string ⟨x.1.2.toArray⟩]) (fun n k => n ≤ k ∧ k < n + 7) 7 (fun xs => xs.map (·.1) = Ld.lns s) (fun pre => ∃ r, Ld.lns s = pre.map (·.1) ++ r) (s.length + 1) w := by
  intro l J Jx W hW hJ hJx hY h0
  have hlt : bt < w.heap.size := (Array.getElem?_eq_some_iff.1 ht).1
  have k0 := (hW.block _ hlt).trans ht
  have hltW : bt < W.heap.size := (Array.getElem?_eq_some_iff.1 k0).1
  have c0 : W.cell? ⟨bt, 0, none⟩ = some (.string ⟨s.toArray⟩) := by rw [Lib.cell_of_heap k0]; rfl
  have HSS := hide (SplitSeq_any s 10)
  have HY := hide hY
  have HJ := hide hJ
  have HJX := hide hJx
  have H0 := hide h0
  clear hY hJ hJx h0 k0 ht hW
  refine callsIn_wide.1 (callsIn_of_wp_marks (n := 0) Tryz.func75 rfl trivial ?_ rfl)
  simp only [Tryz.ntmps75, List.size_toArray, List.length_cons, List.length_nil, Nat.reduceAdd, Nat.reduceSub, Array.replicate_succ, Array.replicate_zero, List.push_toArray, List.append_toArray, List.nil_append, List.cons_append]
  gi_wp2_with fail
  refine ⟨trivial, rfl, ?_⟩
  refine (callsIn_wide.2 (HSS.out _)).mono ?_
  rintro e w1 ⟨rfl, hw1⟩
  obtain ⟨V, hV⟩ : ∃ V, V = (W.alloc (.cells #[.func (.yield l) #[] #[]] 145)).alloc (.cells #[.int .i64 0] 3) := ⟨_, rfl⟩
  have hVs : V.heap.size = W.heap.size + 2 := by rw [hV]; simp
  rw [← hV] at hw1
  have hat := boxed3_at V s 10
  have hsz := boxed3_size V s 10
  have hbl := boxed3_below V s 10
  rw [← hw1] at hat hsz hbl
  rw [hVs] at hat hsz hbl
  have hy0 : w1.heap[W.heap.size]? = some (.cells #[.func (.yield l) #[] #[]] 145 (0, 0)) := by
    rw [hbl.block _ (by omega), hV, Below.heap_alloc _ _ _ (by simp)]; exact heap_alloc_new W _
  have hst0 : w1.heap[W.heap.size + 1]? = some (.cells #[.int .i64 0] 3 (0, 0)) := by
    rw [hbl.block _ (by omega), hV]
    have := heap_alloc_new (W.alloc (.cells #[.func (.yield l) #[] #[]] 145)) (.cells #[.int .i64 0] 3)
    rwa [World.size_alloc] at this
  have hgr : W.grownBy w1 none := by
    have h1 : Below W.heap.size W w1 := by
      have h2 : Below W.heap.size W V := by rw [hV]; exact ((Below.refl _ W).alloc (Nat.le_refl _) _).alloc (by simp) _
      exact h2.trans (hbl.mono (by omega))
    exact ⟨h1.os, h1.tape, h1.output, h1.size, fun k hk _ => h1.block k hk⟩
  have hseq := splitSeq1_seq 10 s (W.heap.size + 2) (W.heap.size + 2 + 1) (W.heap.size + 2 + 2) 20000 w1 hs (by omega) hat.1 hat.2.1 hat.2.2 (by omega) (by omega)
  have hJ1 : J [] w1 := HJ.out _ _ _ none H0.out hgr (fun r e => by cases e)
  have HJ1 := hide hJ1
  have HY0 := hide hy0
  have HST0 := hide hst0
  have HSEQ := hide hseq
  have HSZ := hide hsz
  have eV : ((W.alloc (.cells #[.func (.yield l) #[] #[]] 145)).alloc (.cells #[.int .i64 0] 3)).heap.size = W.heap.size + 2 := by simp
  rw [eV]
  clear hV hVs hw1 hat hbl hy0 hst0 hgr hseq hJ1 hsz eV HSS
  gi_wp2_with fail
  have hsz1 : w1.heap.size = W.heap.size + 5 := by have := HSZ.out; omega
  refine range_law (α := Piece 20000) (gf := 145) (lb := #[.pointer (some ⟨W.heap.size + 2 + 1, 0, none⟩), .pointer (some ⟨W.heap.size + 2, 0, none⟩), .pointer (some ⟨W.heap.size + 2 + 2, 0, none⟩)]) rfl (fun _ _ => by kernel_rfl) HSEQ.out (fun k hk => by omega) (fun _ => rfl)
    (fun pre' Wr => ∃ pre : List Line, pre.map (·.1) = Ld.linesOf (pre'.map (·.1)) ∧ J pre Wr ∧ Wr.heap[W.heap.size]? = some (.cells #[.func (.yield l) #[] #[]] 145 (0, 0)) ∧ Wr.heap[W.heap.size + 1]? = some (.cells #[.int .i64 ((Ld.total (pre'.map (·.1)) : Nat) : Int)] 3 (0, 0)))
    (fun pre' Wr => ∃ pre : List Line, pre.map (·.1) = Ld.linesOf (pre'.map (·.1)) ∧ Jx pre Wr) ?hI ?hIx
    ⟨[], rfl, HJ1.out, HY0.out, HST0.out⟩
    (fun x => { tmps := #[.func (.yield l) #[] #[], .pointer (some ⟨bt, 0, none⟩), .pointer (some ⟨W.heap.size, 0, none⟩), .pointer (some ⟨W.heap.size + 1, 0, none⟩), .string ⟨x.1.toArray⟩, .string ⟨s.toArray⟩, .func (.func 145) #[] #[.pointer (some ⟨W.heap.size + 2 + 1, 0, none⟩), .pointer (some ⟨W.heap.size + 2, 0, none⟩), .pointer (some ⟨W.heap.size + 2 + 2, 0, none⟩)], .string ⟨x.1.toArray⟩, undef, undef, undef, undef, undef, undef, undef, undef, undef, undef, undef, undef, undef, undef, undef], defers := [] }) ?assign ?body ?done ?stop
  case hI =>
    rintro pre' A B row ⟨pre, q1, q2, q3, q4⟩ hg hr
    have hr' : ∀ k, row = some k → W.heap.size + 2 ≤ k ∧ k < W.heap.size + 7 := fun k e => by have := hr k e; unfold TurnX at this; omega
    refine ⟨pre, q1, HJ.out _ _ _ row q2 hg (fun k e => by have := hr' k e; omega), ?_, ?_⟩
    · rw [hg.block _ (Array.getElem?_eq_some_iff.1 q3).1 (fun e => by have := hr' _ e.symm; omega)]; exact q3
    · rw [hg.block _ (Array.getElem?_eq_some_iff.1 q4).1 (fun e => by have := hr' _ e.symm; omega)]; exact q4
  case hIx =>
    rintro pre' A B row ⟨pre, q1, q2⟩ hg hr
    exact ⟨pre, q1, HJX.out _ _ _ row q2 hg (fun k e => by have := hr k e; unfold TurnX at this; omega)⟩
  case assign =>
    intro l x W K hK
    gi_wp2
    exact hK
  case body =>
    rintro l' pre' ⟨y, hy⟩ Wr hszW ⟨pre, q1, q2, q3, q4⟩ hlen
    have HTB := hide (Ld.trim_blank y)
    have HTR := hide (Tryz.strings_Trim_one ⟨y.toArray⟩ 32 (by decide))
    have ey : (⟨y.toArray⟩ : ByteArray).data.toList = y := rfl
    have esz : (⟨y.toArray⟩ : ByteArray).size = y.length := by simp [ByteArray.size]
    rw [ey, esz] at HTR
    have hle : Ld.total (pre'.map (·.1)) ≤ 20001 * pre'.length := by
      have := Ld.total_le (pre'.map (·.1)) (fun a ha => by obtain ⟨z, _, rfl⟩ := List.mem_map.1 ha; exact z.2)
      simpa using this
    have HTS := hide (Ld.total_snoc (pre'.map (·.1)) y)
    have HLS := hide (Ld.linesOf_snoc (pre'.map (·.1)) y)
    have d0 : Wr.cell? ⟨W.heap.size, 0, none⟩ = some (.func (.yield l) #[] #[]) := by rw [Lib.cell_of_heap q3]; rfl
    have d1 : Wr.cell? ⟨W.heap.size + 1, 0, none⟩ = some (.int .i64 ((Ld.total (pre'.map (·.1)) : Nat) : Int)) := by rw [Lib.cell_of_heap q4]; rfl
    have f1 : Wr.frozen? ⟨W.heap.size + 1, 0, none⟩ = false := Lib.frozen_of_heap q4 0
    have hpl : pre.length < s.length + 1 := by
      have h1 := congrArg List.length q1
      have h2 := Ld.linesOf_len (pre'.map (·.1))
      rw [List.length_map] at h1 h2
      omega
    have hl400 : Ld.total (pre'.map (·.1)) ≤ 400080000 := by omega
    have hwrp : IntKind.i64.wrap ((y.length : Int) + 1) = (y.length : Int) + 1 := by rw [IntKind.wrap_i64]; omega
    have hmap : (pre' ++ [(⟨y, hy⟩ : Piece 20000)]).map (·.1) = pre'.map (·.1) ++ [y] := by simp
    have HMAP := hide hmap
    generalize htot : Ld.total (pre'.map (·.1)) = tot at *
    have hwrp2 : IntKind.i64.wrap ((tot : Int) + ((y.length : Int) + 1)) = ((tot + (y.length + 1) : Nat) : Int) := by rw [IntKind.wrap_i64]; omega
    generalize htb : Lib.trimB y 32 = tb at *
    have hbtb := bytes_list tb
    have Q1 := hide q1
    have Q2 := hide q2
    have Q3 := hide q3
    have Q4 := hide q4
    have hszW' : W.heap.size + 7 ≤ Wr.heap.size := by omega
    clear hmap htot htb q1 q2 q3 q4 ey
    gi_wp2_with fail
    refine ⟨trivial, rfl, ?_⟩
    refine (CallsIn.inRound l' (callsIn_wide.2 (HTR.out Wr (by omega)))).mono ?_
    rintro e Wt ⟨rfl, hWt⟩
    have hgt : Wr.grownBy Wt none ∧ Wt.heap = Wr.heap := by
      rcases hWt with rfl | rfl
      · exact ⟨⟨rfl, rfl, rfl, Nat.le_refl _, fun _ _ _ => rfl⟩, rfl⟩
      · exact ⟨⟨rfl, rfl, rfl, Nat.le_refl _, fun _ _ _ => rfl⟩, rfl⟩
    have T2 := hide (HJ.out _ _ _ none Q2.out hgt.1 (fun k e => by cases e))
    have T3 : Hid (Wt.heap[W.heap.size]? = some (.cells #[.func (.yield l) #[] #[]] 145 (0, 0))) := by show _ = _; rw [hgt.2]; exact Q3.out
    have T4 : Hid (Wt.heap[W.heap.size + 1]? = some (.cells #[.int .i64 (tot : Int)] 3 (0, 0))) := by show _ = _; rw [hgt.2]; exact Q4.out
    have HWT := hide hgt.2
    have t0 : Wt.cell? ⟨W.heap.size, 0, none⟩ = some (.func (.yield l) #[] #[]) := by rw [Lib.cell_of_heap T3.out]; rfl
    have t1 : Wt.cell? ⟨W.heap.size + 1, 0, none⟩ = some (.int .i64 (tot : Int)) := by rw [Lib.cell_of_heap T4.out]; rfl
    have tf1 : Wt.frozen? ⟨W.heap.size + 1, 0, none⟩ = false := Lib.frozen_of_heap T4.out 0
    have hszT : W.heap.size + 7 ≤ Wt.heap.size := by rw [hgt.2]; exact hszW'
    clear hWt hgt d0 d1 f1 HTR
    cases hbk : Ld.isBlank y with
    | true =>
      have hemp : tb.isEmpty = true := by rw [HTB.out, hbk]
      have HL2 : Hid (Ld.linesOf (pre'.map (·.1) ++ [y]) = Ld.linesOf (pre'.map (·.1))) := by show _ = _; rw [HLS.out, hbk]; simp
      gi_wp2_with fail
      refine ⟨fun _ h => (by cases h), ?_⟩
      gi_wp2_with fail
      refine ⟨⟨?_, ?_⟩, pre, ?_, ?_, ?_, ?_⟩
      · have h1 : Wt.heap.size = Wr.heap.size := by rw [HWT.out]
        simp [World.setCell]; omega
      · intro k hk
        unfold TurnX at hk
        rw [Below.heap_setCell _ _ _ _ (fun e => by simp at e; omega), HWT.out]
      · rw [HMAP.out, HL2.out]; exact Q1.out
      · exact HJ.out _ _ _ (some (W.heap.size + 1)) T2.out ⟨rfl, rfl, rfl, by simp [World.setCell], fun k _ hk => Below.heap_setCell _ _ _ _ (fun e => hk (by simp [e]))⟩ (fun k e => by cases e; omega)
      · rw [Below.heap_setCell _ _ _ _ (fun e => by simp at e)]; exact T3.out
      · rw [HMAP.out, HTS.out]
        simp [World.setCell, Array.getElem?_modify, T4.out]
    | false =>
      have hemp : tb.isEmpty = false := by rw [HTB.out, hbk]
      obtain ⟨fn, tmps, assign, body, hyy, hR⟩ := HY.out pre ⟨(tot, y), by omega, hy⟩ Wt T2.out hpl (by omega)
      dsimp only at hyy
      have HR := hide hR
      have HL2 : Hid (Ld.linesOf (pre'.map (·.1) ++ [y]) = Ld.linesOf (pre'.map (·.1)) ++ [(tot, y)]) := by show _ = _; rw [HLS.out, hbk]; simp
      clear hR
      gi_wp2_with fail
      refine ⟨rfl, ?_⟩
      have hRR : RoundIn (Fence.wide.inRound l') 0 Tryz.prog l fn tmps assign body Wt _ := HR.out
      refine hRR.mono ?_
      rintro e W' (⟨rfl, hJ', hk⟩ | ⟨rfl, hJx', hk⟩)
      · have g3 := (hk.2 W.heap.size (by omega)).trans T3.out
        have g4 := (hk.2 (W.heap.size + 1) (by omega)).trans T4.out
        have e1 : W'.cell? ⟨W.heap.size + 1, 0, none⟩ = some (.int .i64 (tot : Int)) := by rw [Lib.cell_of_heap g4]; rfl
        have e2 : W'.frozen? ⟨W.heap.size + 1, 0, none⟩ = false := Lib.frozen_of_heap g4 0
        have HJ' := hide hJ'
        have HK' := hide hk
        have G3 := hide g3
        have G4 := hide g4
        clear hJ' hk g3 g4 hRR HR hyy t0 t1 tf1
        gi_wp2_with fail
        refine ⟨⟨?_, ?_⟩, pre ++ [⟨(tot, y), by omega, hy⟩], ?_, ?_, ?_, ?_⟩
        · have h1 : Wt.heap.size = Wr.heap.size := by rw [HWT.out]
          have := HK'.out.1
          simp [World.setCell]; omega
        · intro k hk
          unfold TurnX at hk
          rw [Below.heap_setCell _ _ _ _ (fun e => by simp at e; omega), HK'.out.2 k (by omega), HWT.out]
        · rw [HMAP.out, HL2.out, List.map_append, Q1.out]; rfl
        · exact HJ.out _ _ _ (some (W.heap.size + 1)) HJ'.out ⟨rfl, rfl, rfl, by simp [World.setCell], fun k _ hk => Below.heap_setCell _ _ _ _ (fun e => hk (by simp [e]))⟩ (fun k e => by cases e; omega)
        · rw [Below.heap_setCell _ _ _ _ (fun e => by simp at e)]; exact G3.out
        · rw [HMAP.out, HTS.out]
          simp [World.setCell, Array.getElem?_modify, G4.out]
      · have HJ' := hide hJx'
        have HK' := hide hk
        clear hJx' hk hRR HR hyy t0 t1 tf1
        gi_wp2_with fail
        refine ⟨⟨?_, ?_⟩, pre ++ [⟨(tot, y), by omega, hy⟩], ?_, HJ'.out⟩
        · have h1 : Wt.heap.size = Wr.heap.size := by rw [HWT.out]
          have := HK'.out.1
          omega
        · intro k hk
          unfold TurnX at hk
          rw [HK'.out.2 k (by omega), HWT.out]
        · rw [HMAP.out, HL2.out, List.map_append, Q1.out]; rfl
  case done =>
    rintro xs Wr hS ⟨pre, q1, q2, q3, q4⟩ hD
    have HD := hide hD
    have HQ2 := hide q2
    have HL : Hid (pre.map (·.1) = Ld.lns s) := by
      show _ = _
      rw [q1, hS]; rfl
    clear hD q2 q3 q4 q1 hS
    gi_wp2_with fail
    refine ⟨by simp, .inl ⟨_, _, rfl, run_takeDeferred HD.out, ?_⟩⟩
    have hg := grownBy_putObj' Wr w1.heap.size (.deferred none)
    refine ⟨_, by simp [results, Tryz.results75, go_sem]; rfl, ⟨_, rfl⟩, .inl ⟨pre, HL.out, HJ.out _ _ _ _ HQ2.out hg (fun k e => by cases e; omega)⟩⟩
  case stop =>
    rintro pre' Wr ⟨r, hr⟩ ⟨pre, q1, q2⟩ hD
    have HD := hide hD
    have HQ2 := hide q2
    have HL : Hid (∃ r, Ld.lns s = pre.map (·.1) ++ r) := by
      obtain ⟨r2, h2⟩ := Ld.linesOf_pre (pre'.map (·.1)) r
      refine ⟨r2, ?_⟩
      rw [q1, ← h2, ← hr]; rfl
    clear hD q2 q1 hr
    gi_wp2_with fail
    refine ⟨by simp, .inl ⟨_, _, rfl, run_takeDeferred HD.out, ?_⟩⟩
    have hg := grownBy_putObj' Wr w1.heap.size (.deferred none)
    refine ⟨_, by simp [results, Tryz.results75, go_sem]; rfl, ⟨_, rfl⟩, .inr ⟨pre, HL.out, HJX.out _ _ _ _ HQ2.out hg (fun k e => by cases e; omega)⟩⟩
end Go.Proofs.YtefpelmdelkpmaaGreatDoor
