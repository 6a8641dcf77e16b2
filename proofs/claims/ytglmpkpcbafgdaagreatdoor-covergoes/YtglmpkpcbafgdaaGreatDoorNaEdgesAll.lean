/-
  The walk of package ladder's lines: those lines that are not of blanks alone, each with the place of its first byte. What was read is a program; the walks of package ladder's lines and inText. An append of nothing. (Out of LdEdges.) The walk of slices.Clone at names. (Out of McCopied.) The walk of Edges: the names of which an expression asks what they were, in order of bytes, each once.
-/
import Derived.Test.YtglmpkpcbafgdaaGreatDoorLdWords
import Derived.Test.YtglmpkpcbafgdaaGreatDoorLdTakeRAll
import Derived.Test.YtglmpkpcbafgdaaGreatDoorTxAssertAll
import Derived.Laws.OwnMore
import Derived.Lib.AppendZeros
import Derived.Deep.RegionLaw
import Derived.Maps.AppendAt
import Derived.Test.YtglmpkpcbafgdaaGreatDoorLdCheckAll
namespace Go.Proofs.YtglmpkpcbafgdaaGreatDoor
section
open Go.RowKit
attribute [local go_sem] Oper.semAt_some
/-- a line, and the place of its first byte -/
abbrev Line := { p : Nat × List UInt8 // p.1 ≤ 1000000000 ∧ p.2.length ≤ 20000 }
namespace Ld
/-- where the next line begins -/
def total : List (List UInt8) → Nat
  | [] => 0
  | a :: r => a.length + 1 + total r
theorem total_snoc (l : List (List UInt8)) (a : List UInt8) : total (l ++ [a]) = total l + (a.length + 1) := by
  induction l with
  | nil => simp [total]
  | cons x r ih => simp only [List.cons_append, total, ih]; omega
theorem placed_snoc (a : List UInt8) : ∀ (l : List (List UInt8)) (i : Nat), placed i (l ++ [a]) = placed i l ++ [(i + total l, a)]
  | [], i => by simp [placed, total]
  | x :: r, i => by rw [List.cons_append, placed, placed, placed_snoc a r]; simp [total]; omega
theorem placed_app (b : List (List UInt8)) : ∀ (l : List (List UInt8)) (i : Nat), placed i (l ++ b) = placed i l ++ placed (i + total l) b
  | [], i => by simp [placed, total]
  | x :: r, i => by
    rw [List.cons_append, placed, placed, placed_app b r, List.cons_append]
    have : i + x.length + 1 + total r = i + total (x :: r) := by simp only [total]; omega
    rw [this]
/-- the lines among some pieces -/
def linesOf (l : List (List UInt8)) : List (Nat × List UInt8) := (placed 0 l).filter fun p => !isBlank p.2
theorem linesOf_snoc (l : List (List UInt8)) (a : List UInt8) : linesOf (l ++ [a]) = linesOf l ++ (if isBlank a then [] else [(total l, a)]) := by
  unfold linesOf
  rw [placed_snoc, List.filter_append]
  congr 1
  cases h : isBlank a <;> simp [h]
theorem linesOf_pre (l b : List (List UInt8)) : ∃ r, linesOf (l ++ b) = linesOf l ++ r := by
  unfold linesOf
  rw [placed_app, List.filter_append]
  exact ⟨_, rfl⟩
theorem placed_len : ∀ (l : List (List UInt8)) (i : Nat), (placed i l).length = l.length
  | [], _ => rfl
  | _ :: r, i => by simp [placed, placed_len r]
theorem linesOf_len (l : List (List UInt8)) : (linesOf l).length ≤ l.length := Nat.le_trans (List.length_filter_le _ _) (by rw [placed_len]; exact Nat.le_refl _)
theorem total_le (l : List (List UInt8)) (h : ∀ a, a ∈ l → a.length ≤ 20000) : total l ≤ 20001 * l.length := by
  induction l with
  | nil => simp [total]
  | cons a r ih =>
    have h1 := ih fun b hb => h b (by simp [hb])
    have h2 := h a (by simp)
    simp only [total, List.length_cons]
    omega
theorem drop_mem (p : UInt8 → Bool) (b : UInt8) (hp : p b = false) : ∀ l : List UInt8, b ∈ l → b ∈ l.dropWhile p
  | [], h => h
  | a :: r, h => by
    rw [List.dropWhile_cons]
    by_cases ha : p a = true
    · rw [if_pos ha]
      rw [List.mem_cons] at h
      rcases h with rfl | h
      · rw [hp] at ha; cases ha
      · exact drop_mem p b hp r h
    · rw [if_neg ha]; exact h
theorem drop_all (p : UInt8 → Bool) : ∀ l : List UInt8, (∀ x, x ∈ l → p x = true) → l.dropWhile p = []
  | [], _ => rfl
  | a :: r, h => by rw [List.dropWhile_cons, if_pos (h a (by simp))]; exact drop_all p r fun x hx => h x (by simp [hx])
theorem trim_blank (l : List UInt8) : (Lib.trimB l 32).isEmpty = isBlank l := by
  cases hb : isBlank l with
  | true =>
    unfold isBlank at hb
    rw [List.all_eq_true] at hb
    have : l.reverse.dropWhile (· == 32) = [] := drop_all _ _ fun x hx => hb x (List.mem_reverse.1 hx)
    unfold Lib.trimB Lib.trimRightB Lib.trimLeftB
    rw [this]; rfl
  | false =>
    unfold isBlank at hb
    rw [List.all_eq_false] at hb
    obtain ⟨x, hx, hn⟩ := hb
    have hn' : (x == 32) = false := by simpa using hn
    have h1 : x ∈ Lib.trimRightB l 32 := by
      unfold Lib.trimRightB
      rw [List.mem_reverse]
      exact drop_mem _ x hn' _ (List.mem_reverse.2 hx)
    have h2 : x ∈ Lib.trimB l 32 := drop_mem _ x hn' _ h1
    cases ht : Lib.trimB l 32 with
    | nil => rw [ht] at h2; simp at h2
    | cons a r => rfl
end Ld
set_option maxHeartbeats 4000000 in
set_option maxRecDepth 100000 in
theorem lines1_seq (s : List UInt8) (bt : Nat) (w : World) (hs : s.length ≤ 20000) (ht : w.heap[bt]? = some (.cells #[.string ⟨s.toArray⟩] 9 (0, 0))) :
    SeqX Tryz.prog 71 #[.pointer (some ⟨bt, 0, none⟩)] (fun x : Line => #[.int .i64 (x.1.1 : Int), .string ⟨x.1.2.toArray⟩]) (fun n k => n ≤ k ∧ k < n + 7) 7 (fun xs => xs.map (·.1) = Ld.lns s) (fun pre => ∃ r, Ld.lns s = pre.map (·.1) ++ r) (s.length + 1) w := by
  intro l J Jx W hW hJ hJx hY h0
  have hlt : bt < w.heap.size := (Array.getElem?_eq_some_iff.1 ht).1
  have k0 := (hW.block _ hlt).trans ht
  have hltW : bt < W.heap.size := (Array.getElem?_eq_some_iff.1 k0).1
  have c0 : W.cell? ⟨bt, 0, none⟩ = some (.string ⟨s.toArray⟩) := by rw [Lib.cell_of_heap k0]; rfl
  have HSS := hide (SplitSeq_any s 10)
  have HY := hide hY
  have HJ := hide hJ
  have HJX := hide hJx
  have H0 := hide h0
  clear hY hJ hJx h0 k0 ht hW
  refine callsIn_wide.1 (callsIn_of_wp_marks (n := 0) Tryz.func71 rfl trivial ?_ rfl)
  simp only [Tryz.ntmps71, List.size_toArray, List.length_cons, List.length_nil, Nat.reduceAdd, Nat.reduceSub, Array.replicate_succ, Array.replicate_zero, List.push_toArray, List.append_toArray, List.nil_append, List.cons_append]
  gi_wp2_with fail
  refine ⟨trivial, rfl, ?_⟩
  refine (callsIn_wide.2 (HSS.out _)).mono ?_
  rintro e w1 ⟨rfl, hw1⟩
  obtain ⟨V, hV⟩ : ∃ V, V = (W.alloc (.cells #[.func (.yield l) #[] #[]] 166)).alloc (.cells #[.int .i64 0] 3) := ⟨_, rfl⟩
  have hVs : V.heap.size = W.heap.size + 2 := by rw [hV]; simp
  rw [← hV] at hw1
  have hat := boxed3_at V s 10
  have hsz := boxed3_size V s 10
  have hbl := boxed3_below V s 10
  rw [← hw1] at hat hsz hbl
  rw [hVs] at hat hsz hbl
  have hy0 : w1.heap[W.heap.size]? = some (.cells #[.func (.yield l) #[] #[]] 166 (0, 0)) := by
    rw [hbl.block _ (by omega), hV, Below.heap_alloc _ _ _ (by simp)]; exact heap_alloc_new W _
  have hst0 : w1.heap[W.heap.size + 1]? = some (.cells #[.int .i64 0] 3 (0, 0)) := by
    rw [hbl.block _ (by omega), hV]
    have := heap_alloc_new (W.alloc (.cells #[.func (.yield l) #[] #[]] 166)) (.cells #[.int .i64 0] 3)
    rwa [World.size_alloc] at this
  have hgr : W.grownBy w1 none := by
    have h1 : Below W.heap.size W w1 := by
      have h2 : Below W.heap.size W V := by rw [hV]; exact ((Below.refl _ W).alloc (Nat.le_refl _) _).alloc (by simp) _
      exact h2.trans (hbl.mono (by omega))
    exact ⟨h1.os, h1.tape, h1.output, h1.size, fun k hk _ => h1.block k hk⟩
  have hseq := splitSeq1_seq 10 s (W.heap.size + 2) (W.heap.size + 2 + 1) (W.heap.size + 2 + 2) 20000 w1 hs (by omega) hat.1 hat.2.1 hat.2.2 (by omega) (by omega)
  have hJ1 : J [] w1 := HJ.out _ _ _ none H0.out hgr (fun r e => by cases e)
  have HJ1 := hide hJ1
  have HY0 := hide hy0
  have HST0 := hide hst0
  have HSEQ := hide hseq
  have HSZ := hide hsz
  have eV : ((W.alloc (.cells #[.func (.yield l) #[] #[]] 166)).alloc (.cells #[.int .i64 0] 3)).heap.size = W.heap.size + 2 := by simp
  rw [eV]
  clear hV hVs hw1 hat hbl hy0 hst0 hgr hseq hJ1 hsz eV HSS
  gi_wp2_with fail
  have hsz1 : w1.heap.size = W.heap.size + 5 := by have := HSZ.out; omega
  refine range_law (α := Piece 20000) (gf := 127) (lb := #[.pointer (some ⟨W.heap.size + 2 + 1, 0, none⟩), .pointer (some ⟨W.heap.size + 2, 0, none⟩), .pointer (some ⟨W.heap.size + 2 + 2, 0, none⟩)]) rfl (fun _ _ => by kernel_rfl) HSEQ.out (fun k hk => by omega) (fun _ => rfl)
    (fun pre' Wr => ∃ pre : List Line, pre.map (·.1) = Ld.linesOf (pre'.map (·.1)) ∧ J pre Wr ∧ Wr.heap[W.heap.size]? = some (.cells #[.func (.yield l) #[] #[]] 166 (0, 0)) ∧ Wr.heap[W.heap.size + 1]? = some (.cells #[.int .i64 ((Ld.total (pre'.map (·.1)) : Nat) : Int)] 3 (0, 0)))
    (fun pre' Wr => ∃ pre : List Line, pre.map (·.1) = Ld.linesOf (pre'.map (·.1)) ∧ Jx pre Wr) ?hI ?hIx
    ⟨[], rfl, HJ1.out, HY0.out, HST0.out⟩
    (fun x => { tmps := #[.func (.yield l) #[] #[], .pointer (some ⟨bt, 0, none⟩), .pointer (some ⟨W.heap.size, 0, none⟩), .pointer (some ⟨W.heap.size + 1, 0, none⟩), .string ⟨x.1.toArray⟩, .string ⟨s.toArray⟩, .func (.func 127) #[] #[.pointer (some ⟨W.heap.size + 2 + 1, 0, none⟩), .pointer (some ⟨W.heap.size + 2, 0, none⟩), .pointer (some ⟨W.heap.size + 2 + 2, 0, none⟩)], .string ⟨x.1.toArray⟩, undef, undef, undef, undef, undef, undef, undef, undef, undef, undef, undef, undef, undef, undef, undef], defers := [] }) ?assign ?body ?done ?stop
  case hI =>
    rintro pre' A B row ⟨pre, q1, q2, q3, q4⟩ hg hr
    have hr' : ∀ k, row = some k → W.heap.size + 2 ≤ k ∧ k < W.heap.size + 7 := fun k e => by have := hr k e; unfold TurnX at this; omega
    refine ⟨pre, q1, HJ.out _ _ _ row q2 hg (fun k e => by have := hr' k e; omega), ?_, ?_⟩
    · rw [hg.block _ (Array.getElem?_eq_some_iff.1 q3).1 (fun e => by have := hr' _ e.symm; omega)]; exact q3
    · rw [hg.block _ (Array.getElem?_eq_some_iff.1 q4).1 (fun e => by have := hr' _ e.symm; omega)]; exact q4
  case hIx =>
    rintro pre' A B row ⟨pre, q1, q2⟩ hg hr
    exact ⟨pre, q1, HJX.out _ _ _ row q2 hg (fun k e => by have := hr k e; unfold TurnX at this; omega)⟩
  case assign =>
    intro l x W K hK
    gi_wp2
    exact hK
  case body =>
    rintro l' pre' ⟨y, hy⟩ Wr hszW ⟨pre, q1, q2, q3, q4⟩ hlen
    have HTB := hide (Ld.trim_blank y)
    have HTR := hide (Tryz.strings_Trim_one ⟨y.toArray⟩ 32 (by decide))
    have ey : (⟨y.toArray⟩ : ByteArray).data.toList = y := rfl
    have esz : (⟨y.toArray⟩ : ByteArray).size = y.length := by simp [ByteArray.size]
    rw [ey, esz] at HTR
    have hle : Ld.total (pre'.map (·.1)) ≤ 20001 * pre'.length := by
      have := Ld.total_le (pre'.map (·.1)) (fun a ha => by obtain ⟨z, _, rfl⟩ := List.mem_map.1 ha; exact z.2)
      simpa using this
    have HTS := hide (Ld.total_snoc (pre'.map (·.1)) y)
    have HLS := hide (Ld.linesOf_snoc (pre'.map (·.1)) y)
    have d0 : Wr.cell? ⟨W.heap.size, 0, none⟩ = some (.func (.yield l) #[] #[]) := by rw [Lib.cell_of_heap q3]; rfl
    have d1 : Wr.cell? ⟨W.heap.size + 1, 0, none⟩ = some (.int .i64 ((Ld.total (pre'.map (·.1)) : Nat) : Int)) := by rw [Lib.cell_of_heap q4]; rfl
    have f1 : Wr.frozen? ⟨W.heap.size + 1, 0, none⟩ = false := Lib.frozen_of_heap q4 0
    have hpl : pre.length < s.length + 1 := by
      have h1 := congrArg List.length q1
      have h2 := Ld.linesOf_len (pre'.map (·.1))
      rw [List.length_map] at h1 h2
      omega
    have hl400 : Ld.total (pre'.map (·.1)) ≤ 400080000 := by omega
    have hwrp : IntKind.i64.wrap ((y.length : Int) + 1) = (y.length : Int) + 1 := by rw [IntKind.wrap_i64]; omega
    have hmap : (pre' ++ [(⟨y, hy⟩ : Piece 20000)]).map (·.1) = pre'.map (·.1) ++ [y] := by simp
    have HMAP := hide hmap
    generalize htot : Ld.total (pre'.map (·.1)) = tot at *
    have hwrp2 : IntKind.i64.wrap ((tot : Int) + ((y.length : Int) + 1)) = ((tot + (y.length + 1) : Nat) : Int) := by rw [IntKind.wrap_i64]; omega
    generalize htb : Lib.trimB y 32 = tb at *
    have hbtb := bytes_list tb
    have Q1 := hide q1
    have Q2 := hide q2
    have Q3 := hide q3
    have Q4 := hide q4
    have hszW' : W.heap.size + 7 ≤ Wr.heap.size := by omega
    clear hmap htot htb q1 q2 q3 q4 ey
    gi_wp2_with fail
    refine ⟨trivial, rfl, ?_⟩
    refine (CallsIn.inRound l' (callsIn_wide.2 (HTR.out Wr (by omega)))).mono ?_
    rintro e Wt ⟨rfl, hWt⟩
    have hgt : Wr.grownBy Wt none ∧ Wt.heap = Wr.heap := by
      rcases hWt with rfl | rfl
      · exact ⟨⟨rfl, rfl, rfl, Nat.le_refl _, fun _ _ _ => rfl⟩, rfl⟩
      · exact ⟨⟨rfl, rfl, rfl, Nat.le_refl _, fun _ _ _ => rfl⟩, rfl⟩
    have T2 := hide (HJ.out _ _ _ none Q2.out hgt.1 (fun k e => by cases e))
    have T3 : Hid (Wt.heap[W.heap.size]? = some (.cells #[.func (.yield l) #[] #[]] 166 (0, 0))) := by show _ = _; rw [hgt.2]; exact Q3.out
    have T4 : Hid (Wt.heap[W.heap.size + 1]? = some (.cells #[.int .i64 (tot : Int)] 3 (0, 0))) := by show _ = _; rw [hgt.2]; exact Q4.out
    have HWT := hide hgt.2
    have t0 : Wt.cell? ⟨W.heap.size, 0, none⟩ = some (.func (.yield l) #[] #[]) := by rw [Lib.cell_of_heap T3.out]; rfl
    have t1 : Wt.cell? ⟨W.heap.size + 1, 0, none⟩ = some (.int .i64 (tot : Int)) := by rw [Lib.cell_of_heap T4.out]; rfl
    have tf1 : Wt.frozen? ⟨W.heap.size + 1, 0, none⟩ = false := Lib.frozen_of_heap T4.out 0
    have hszT : W.heap.size + 7 ≤ Wt.heap.size := by rw [hgt.2]; exact hszW'
    clear hWt hgt d0 d1 f1 HTR
    cases hbk : Ld.isBlank y with
    | true =>
      have hemp : tb.isEmpty = true := by rw [HTB.out, hbk]
      have HL2 : Hid (Ld.linesOf (pre'.map (·.1) ++ [y]) = Ld.linesOf (pre'.map (·.1))) := by show _ = _; rw [HLS.out, hbk]; simp
      gi_wp2_with fail
      refine ⟨fun _ h => (by cases h), ?_⟩
      gi_wp2_with fail
      refine ⟨⟨?_, ?_⟩, pre, ?_, ?_, ?_, ?_⟩
      · have h1 : Wt.heap.size = Wr.heap.size := by rw [HWT.out]
        simp [World.setCell]; omega
      · intro k hk
        unfold TurnX at hk
        rw [Below.heap_setCell _ _ _ _ (fun e => by simp at e; omega), HWT.out]
      · rw [HMAP.out, HL2.out]; exact Q1.out
      · exact HJ.out _ _ _ (some (W.heap.size + 1)) T2.out ⟨rfl, rfl, rfl, by simp [World.setCell], fun k _ hk => Below.heap_setCell _ _ _ _ (fun e => hk (by simp [e]))⟩ (fun k e => by cases e; omega)
      · rw [Below.heap_setCell _ _ _ _ (fun e => by simp at e)]; exact T3.out
      · rw [HMAP.out, HTS.out]
        simp [World.setCell, Array.getElem?_modify, T4.out]
    | false =>
      have hemp : tb.isEmpty = false := by rw [HTB.out, hbk]
      obtain ⟨fn, tmps, assign, body, hyy, hR⟩ := HY.out pre ⟨(tot, y), by omega, hy⟩ Wt T2.out hpl (by omega)
      dsimp only at hyy
      have HR := hide hR
      have HL2 : Hid (Ld.linesOf (pre'.map (·.1) ++ [y]) = Ld.linesOf (pre'.map (·.1)) ++ [(tot, y)]) := by show _ = _; rw [HLS.out, hbk]; simp
      clear hR
      gi_wp2_with fail
      refine ⟨rfl, ?_⟩
      have hRR : RoundIn (Fence.wide.inRound l') 0 Tryz.prog l fn tmps assign body Wt _ := HR.out
      refine hRR.mono ?_
      rintro e W' (⟨rfl, hJ', hk⟩ | ⟨rfl, hJx', hk⟩)
      · have g3 := (hk.2 W.heap.size (by omega)).trans T3.out
        have g4 := (hk.2 (W.heap.size + 1) (by omega)).trans T4.out
        have e1 : W'.cell? ⟨W.heap.size + 1, 0, none⟩ = some (.int .i64 (tot : Int)) := by rw [Lib.cell_of_heap g4]; rfl
        have e2 : W'.frozen? ⟨W.heap.size + 1, 0, none⟩ = false := Lib.frozen_of_heap g4 0
        have HJ' := hide hJ'
        have HK' := hide hk
        have G3 := hide g3
        have G4 := hide g4
        clear hJ' hk g3 g4 hRR HR hyy t0 t1 tf1
        gi_wp2_with fail
        refine ⟨⟨?_, ?_⟩, pre ++ [⟨(tot, y), by omega, hy⟩], ?_, ?_, ?_, ?_⟩
        · have h1 : Wt.heap.size = Wr.heap.size := by rw [HWT.out]
          have := HK'.out.1
          simp [World.setCell]; omega
        · intro k hk
          unfold TurnX at hk
          rw [Below.heap_setCell _ _ _ _ (fun e => by simp at e; omega), HK'.out.2 k (by omega), HWT.out]
        · rw [HMAP.out, HL2.out, List.map_append, Q1.out]; rfl
        · exact HJ.out _ _ _ (some (W.heap.size + 1)) HJ'.out ⟨rfl, rfl, rfl, by simp [World.setCell], fun k _ hk => Below.heap_setCell _ _ _ _ (fun e => hk (by simp [e]))⟩ (fun k e => by cases e; omega)
        · rw [Below.heap_setCell _ _ _ _ (fun e => by simp at e)]; exact G3.out
        · rw [HMAP.out, HTS.out]
          simp [World.setCell, Array.getElem?_modify, G4.out]
      · have HJ' := hide hJx'
        have HK' := hide hk
        clear hJx' hk hRR HR hyy t0 t1 tf1
        gi_wp2_with fail
        refine ⟨⟨?_, ?_⟩, pre ++ [⟨(tot, y), by omega, hy⟩], ?_, HJ'.out⟩
        · have h1 : Wt.heap.size = Wr.heap.size := by rw [HWT.out]
          have := HK'.out.1
          omega
        · intro k hk
          unfold TurnX at hk
          rw [HK'.out.2 k (by omega), HWT.out]
        · rw [HMAP.out, HL2.out, List.map_append, Q1.out]; rfl
  case done =>
    rintro xs Wr hS ⟨pre, q1, q2, q3, q4⟩ hD
    have HD := hide hD
    have HQ2 := hide q2
    have HL : Hid (pre.map (·.1) = Ld.lns s) := by
      show _ = _
      rw [q1, hS]; rfl
    clear hD q2 q3 q4 q1 hS
    gi_wp2_with fail
    refine ⟨by simp, .inl ⟨_, _, rfl, run_takeDeferred HD.out, ?_⟩⟩
    have hg := grownBy_putObj' Wr w1.heap.size (.deferred none)
    refine ⟨_, by simp [results, Tryz.results71, go_sem]; rfl, ⟨_, rfl⟩, .inl ⟨pre, HL.out, HJ.out _ _ _ _ HQ2.out hg (fun k e => by cases e; omega)⟩⟩
  case stop =>
    rintro pre' Wr ⟨r, hr⟩ ⟨pre, q1, q2⟩ hD
    have HD := hide hD
    have HQ2 := hide q2
    have HL : Hid (∃ r, Ld.lns s = pre.map (·.1) ++ r) := by
      obtain ⟨r2, h2⟩ := Ld.linesOf_pre (pre'.map (·.1)) r
      refine ⟨r2, ?_⟩
      rw [q1, ← h2, ← hr]; rfl
    clear hD q2 q1 hr
    gi_wp2_with fail
    refine ⟨by simp, .inl ⟨_, _, rfl, run_takeDeferred HD.out, ?_⟩⟩
    have hg := grownBy_putObj' Wr w1.heap.size (.deferred none)
    refine ⟨_, by simp [results, Tryz.results71, go_sem]; rfl, ⟨_, rfl⟩, .inr ⟨pre, HL.out, HJX.out _ _ _ _ HQ2.out hg (fun k e => by cases e; omega)⟩⟩
end
section
open Go.RowKit
theorem flat3 {α : Type} (f : α → List Value) (hf : ∀ a, (f a).length = 3) : ∀ (l : List α) (i : Nat) (a : α), l[i]? = some a → ∀ j, j < 3 → (l.flatMap f)[i * 3 + j]? = (f a)[j]?
  | [], i, a, h, _, _ => by simp at h
  | b :: r, 0, a, h, j, hj => by
    simp only [List.getElem?_cons_zero, Option.some.injEq] at h
    subst h
    rw [List.flatMap_cons, List.getElem?_append_left (by rw [hf]; omega)]
    congr 1
    omega
  | b :: r, i + 1, a, h, j, hj => by
    simp only [List.getElem?_cons_succ] at h
    have ih := flat3 f hf r i a h j hj
    rw [List.flatMap_cons, List.getElem?_append_right (by rw [hf]; omega), hf]
    have : (i + 1) * 3 + j - 3 = i * 3 + j := by omega
    rw [this]; exact ih
theorem RdX.prg {b q : Nat} {w0 : World} {r : Ld.Rdg} {nv rv sv : Value} {vs : List Value} {W : World} (h : RdX b q w0 r nv rv sv vs W) (hn : r.names.length ≤ 1000000) (hr : r.rungs.length ≤ 1000000) : IsPrg W ⟨r.names, r.rungs⟩ (.agg #[nv, rv]) := by
  refine ⟨nv, rv, rfl, ?_, ?_⟩
  · rcases h.on.2 with ⟨rfl, h0⟩ | ⟨g, cap, cur, rfl, _, hcur, hcap, _, _, htk⟩
    · exact .inl ⟨List.length_eq_zero_iff.1 h0, _, _, rfl⟩
    · refine .inr ⟨g, cap, rfl, hcap, hn, ?_⟩
      intro i n hi
      have hc := fun j hj => flat3 nmCells (fun _ => rfl) r.names i n hi j hj
      have hb := h.bn n (List.mem_of_getElem? hi)
      exact ⟨row_cell hcur htk (hc 0 (by omega)), row_cell hcur htk (hc 1 (by omega)), row_cell hcur htk (hc 2 (by omega)), by unfold maxLen; omega, hb.2⟩
  · rcases h.org.2 with ⟨rfl, h0⟩ | ⟨g, cap, cur, rfl, _, hcur, hcap, _, _, htk⟩
    · exact .inl ⟨List.length_eq_zero_iff.1 h0, _, _, rfl⟩
    · refine .inr ⟨g, cap, rfl, hcap, hr, ?_⟩
      intro i gr hi
      have hil : i < r.rungs.length := (List.getElem?_eq_some_iff.1 hi).1
      have hvi : vs[i]? = some (vs[i]'(by rw [h.len]; exact hil)) := List.getElem?_eq_getElem _
      generalize vs[i]'(by rw [h.len]; exact hil) = v at hvi
      have hz : (r.rungs.zip vs)[i]? = some (gr, v) := by rw [List.getElem?_zip_eq_some]; exact ⟨hi, hvi⟩
      have hc := fun j hj => flat3 rgCells (fun _ => rfl) (r.rungs.zip vs) i (gr, v) hz j hj
      have hb := h.br gr (List.mem_of_getElem? hi)
      obtain ⟨x, l, e1, e2, e3⟩ := h.ex i gr v hi hvi
      have hbd := Ex.parse_bnd l x e2
      refine ⟨v, row_cell hcur htk (hc 0 (by omega)), row_cell hcur htk (hc 1 (by omega)), row_cell hcur htk (hc 2 (by omega)), by unfold maxLen; omega, hb.2, ?_⟩
      rw [e1]
      exact ⟨IsEx.stay (fun _ _ _ _ hc => hc) (fun _ _ => trivial) x v e3, by omega, by omega⟩
theorem RdX.parsed {b q : Nat} {w0 : World} {r : Ld.Rdg} {nv rv sv : Value} {vs : List Value} {W : World} (h : RdX b q w0 r nv rv sv vs W) : ∀ g, g ∈ r.rungs → ∀ x, g.cond = some x → ∃ l, Ex.parse l = .inr x := by
  intro g hg x hx
  obtain ⟨i, hi, rfl⟩ := List.getElem_of_mem hg
  obtain ⟨y, l, e1, e2, _⟩ := h.ex i _ (vs[i]'(by rw [h.len]; exact hi)) (List.getElem?_eq_getElem hi) (List.getElem?_eq_getElem _)
  rw [hx] at e1
  cases e1
  exact ⟨l, e2⟩
namespace Ld
theorem takeN_len (r r' : Rdg) (st : Nat) (line : List UInt8) (h : takeN r st line = .inr r') : r'.names.length + r'.rungs.length = r.names.length + r.rungs.length + 1 ∧ r'.starts = r.starts := by
  unfold takeN at h
  split at h
  · cases h
  · split at h
    · cases h; simp; omega
    · cases h
theorem takeR_len (r r' : Rdg) (st : Nat) (hd t : List UInt8) (h : takeR r st hd t = .inr r') : r'.names.length + r'.rungs.length = r.names.length + r.rungs.length + 1 ∧ r'.starts = r.starts := by
  unfold takeR at h
  split at h
  · cases h
  · split at h
    · cases h
    · cases h; simp; omega
theorem take_len (r r' : Rdg) (st : Nat) (line : List UInt8) (h : take r st line = .inr r') : r'.names.length + r'.rungs.length = r.names.length + r.rungs.length + 1 ∧ r'.starts.length = r.starts.length + 1 := by
  rw [take_is] at h
  split at h
  · have := takeN_len _ _ _ _ h
    exact ⟨this.1, by rw [this.2]; simp⟩
  · have := takeR_len _ _ _ _ _ h
    exact ⟨this.1, by rw [this.2]; simp⟩
theorem takes_snoc (p : Nat × List UInt8) : ∀ (l : List (Nat × List UInt8)) (r : Rdg), takes r (l ++ [p]) = match takes r l with
    | .inl e => .inl e
    | .inr r' => take r' p.1 p.2
  | [], r => by
    simp only [List.nil_append, takes]
    cases take r p.1 p.2 <;> rfl
  | a :: t, r => by
    rw [List.cons_append, takes, takes]
    cases take r a.1 a.2 with
    | inl e => rfl
    | inr r' => exact takes_snoc p t r'
theorem takes_app (b : List (Nat × List UInt8)) : ∀ (l : List (Nat × List UInt8)) (r : Rdg) (e : Nat × Nat), takes r l = .inl e → takes r (l ++ b) = .inl e
  | [], r, e, h => by simp [takes] at h
  | a :: t, r, e, h => by
    rw [takes] at h
    rw [List.cons_append, takes]
    cases ht : take r a.1 a.2 with
    | inl q => rw [ht] at h; exact h
    | inr r' => rw [ht] at h; exact takes_app b t r' e h
theorem check_place (p : Prg) (e i : Nat) (h : check p = some (e, some i)) : i < p.names.length + p.rungs.length := by
  unfold check at h
  split at h
  · cases h
  · split at h
    · rename_i q hq
      simp only [Option.some.injEq, Prod.mk.injEq] at h
      have := bad_lt _ _ _ _ hq
      omega
    · split at h
      · rename_i q hq
        simp only [Option.some.injEq, Prod.mk.injEq] at h
        have := bad_lt _ _ _ _ hq
        omega
      · cases h
end Ld
theorem lines_any (s : List UInt8) (w : World) : Calls Tryz.prog 44 #[.string ⟨s.toArray⟩] w fun e w' => e = .returned (.func (.func 71) #[] #[.pointer (some ⟨w.heap.size, 0, none⟩)]) ∧ w' = w.alloc (.cells #[.string ⟨s.toArray⟩] 9) := by
  have hmf : ∀ (fn : Fn) (first cap : Array Value) (w : World), (Instr.makeFunc fn first cap).run Tryz.prog w = .ok (.func fn first cap) w := fun _ _ _ _ => rfl
  go_enter Tryz.func44, Tryz.ntmps44
  go_wp2_with fail
  go_ret
  exact ⟨rfl, rfl⟩
set_option maxHeartbeats 2000000 in
set_option maxRecDepth 100000 in
theorem inText_any (b q : Nat) (w0 : World) (r : Ld.Rdg) (v : Value) (er : Nat) (pl : Option Nat) (W : World) (h : Rdm b q w0 r W) (hv : ErrIs W v (some (er, pl))) (hp : ∀ i, pl = some i → i < r.starts.length) (_hl : r.starts.length ≤ 1000000) :
    Calls Tryz.prog 46 #[.pointer (some ⟨b, 0, none⟩), v] W fun e W' => ∃ u, e = .returned u ∧ ErrIs W' u (some (er, pl.map fun i => r.starts.getD i 0)) ∧ Below W.heap.size W W' := by
  cases pl with
  | none =>
    obtain rfl : v = .iface 31 (.int .i64 (er : Int)) := hv
    have sE := ErAs.atE
    clear h
    go_enter Tryz.func46, Tryz.ntmps46
    go_wp2_with fail
    go_ret
    exact ⟨_, rfl, rfl, Below.refl _ _⟩
  | some i =>
    obtain ⟨a, rfl, h0, h1⟩ := hv
    have hi := hp i rfl
    obtain ⟨nv, rv, sv, vs, hx⟩ := h
    have b2 : W.cell? ⟨b, 2, none⟩ = some sv := by rw [Lib.cell_of_heap hx.blk]; rfl
    have sA := ErAs.atA
    have halt : a < W.heap.size := World.block_lt_of_cell? _ _ h0
    have hblt := hx.lt
    rcases hx.os.2 with ⟨_, h00⟩ | ⟨g, cap, cur, rfl, _, hcur, hcap, _, _, htk⟩
    · omega
    have hsi : W.cell? ⟨g, i, none⟩ = some (.int .i64 ((r.starts.getD i 0 : Nat) : Int)) := by
      refine row_cell hcur htk ?_
      rw [List.getElem?_map, List.getElem?_eq_getElem hi]
      simp [intV, List.getD_eq_getElem?_getD, List.getElem?_eq_getElem hi]
    have hglt : g < W.heap.size := World.block_lt_of_cell? _ _ hsi
    obtain ⟨stv, hstv⟩ : ∃ stv, stv = r.starts.getD i 0 := ⟨_, rfl⟩
    rw [← hstv] at hsi
    have HSTV := hide hstv
    clear hstv
    generalize r.starts.length = n at *
    clear hx hcur htk hp
    go_enter Tryz.func46, Tryz.ntmps46
    go_wp2_with fail
    go_region_held3 (fun W => W.cell? ⟨a, 0, none⟩ = some (.int .i64 (er : Int)) ∧ W.cell? ⟨a, 1, none⟩ = some (.int .i64 (i : Int)) ∧ W.cell? ⟨b, 2, none⟩ = some (.slice (some ⟨g, 0, none⟩) n cap) ∧ W.cell? ⟨g, i, none⟩ = some (.int .i64 (stv : Int))) (go_keep) (fail)
    all_goals go_wp2_with fail
    all_goals go_ret
    all_goals
      refine ⟨_, rfl, ?_, ⟨rfl, rfl, rfl, by simp, fun k hk => Below.heap_alloc _ _ _ hk⟩⟩
      show ErrIs _ _ (some (er, some (r.starts.getD i 0)))
      rw [← HSTV.out]
      exact ⟨W.heap.size, rfl, by simp [go_sem], by simp [go_sem]⟩
end
section
open Go.RowKit
/-- an append whose run is known, at a step of a region that draws its order -/
theorem step_append_run {P : Program} (w : World) {ops : Array Oper} {o : Oper} {a : Act} {K : Act → World → Prop} {Q : Exit → Act → World → Prop} {E : Prop} (hgd : o.guard = none) (s x : Operand) (t tn : TypeId)
    (ho : o.op = .call { callee := .builtin .append, args := #[s, x], argTypes := #[t, tn] }) (vs vx : Value) (hs : a.eval s = vs) (hx : a.eval x = vx)
    (v' : Value) (w' : World) (hr : (Builtin.append_ #[t, tn] o.type #[vs, vx]).run P w = .ok v' w') (h : K (a.put o.dst v') w') : if Region.wanted o (yielded ops a.tmps) = true then Oper.wp P o a w K Q else E := by
  have hw : Region.wanted o (yielded ops a.tmps) = true := by simp [Region.wanted, hgd]
  rw [if_pos hw]
  exact Lib.wp_append_run w s x t tn ho vs vx hs hx v' w' hr h
/-- nothing is appended -/
theorem append_zero {W : World} (base : Nat) (t ty e : TypeId) (i : TypeInfo) (size : Nat) (ht : Tryz.prog.underlying t = some (.slice e)) (hi : Tryz.prog.info? e = some i) (v : Value) (n : Nat) (xs : List Value) (hown : W.ownsRow base e size v n xs) (a : Option Addr) (c : Nat) :
    (Builtin.append_ #[t, t] ty #[v, .slice a 0 c]).run Tryz.prog W = .ok v W := by
  rcases hown.2 with ⟨rfl, rfl⟩ | ⟨g, cap, cur, rfl, _, _, hnc, _⟩
  · cases a <;> simp [Builtin.append_, run_underlying ht, sizeOf, typeInfo, hi, Builtin.lenOf, Builtin.firstCells, loadCells, loadCellsFrom]
  · cases a <;> simp [Builtin.append_, run_underlying ht, sizeOf, typeInfo, hi, Builtin.lenOf, Builtin.firstCells, hnc, storeCells, loadCells, loadCellsFrom]
end
section
open Go.RowKit
theorem own_zero (W : World) (q : Nat) (e : TypeId) (s : Nat) (hq : q ≤ W.heap.size) : (W.alloc (.cells #[] e)).ownsRow q e s (.slice (some ⟨W.heap.size, 0, none⟩) 0 0) 0 [] :=
  ⟨by simp, .inr ⟨W.heap.size, 0, #[], rfl, hq, heap_alloc_new W _, Nat.le_refl _, by decide, by simp, by simp⟩⟩
theorem names_cells {W : World} {g : Nat} {ns : List Ld.Nme} (h : ∀ (i : Nat) (n : Ld.Nme), ns[i]? = some n → NameAt W g i n) : ∀ j u, (ns.flatMap nmCells)[j]? = some u → W.cell? ((⟨g, 0, none⟩ : Addr).add j) = some u := by
  intro j u hu
  have e : (⟨g, 0, none⟩ : Addr).add j = ⟨g, j, none⟩ := by unfold Addr.add; split <;> simp_all
  rw [e]
  have hl : ∀ l : List Ld.Nme, (l.flatMap nmCells).length = l.length * 3 := fun l => by
    induction l with
    | nil => rfl
    | cons a r ih => rw [List.flatMap_cons, List.length_append, ih, List.length_cons]; simp [nmCells]; omega
  have hj : j < ns.length * 3 := by rw [← hl]; exact (List.getElem?_eq_some_iff.1 hu).1
  have hi : j / 3 < ns.length := by omega
  have hn := List.getElem?_eq_getElem hi
  obtain ⟨h1, h2, h3, _⟩ := h (j / 3) _ hn
  have hf := flat3 nmCells (fun _ => rfl) ns (j / 3) _ hn (j % 3) (by omega)
  rw [show j / 3 * 3 + j % 3 = j by omega, hu] at hf
  have hm : j % 3 = 0 ∨ j % 3 = 1 ∨ j % 3 = 2 := by omega
  rcases hm with hm | hm | hm
  · rw [hm] at hf
    rw [show j = j / 3 * 3 by omega, h1]; exact hf.symm
  · rw [hm] at hf
    rw [show j = j / 3 * 3 + 1 by omega, h2]; exact hf.symm
  · rw [hm] at hf
    rw [show j = j / 3 * 3 + 2 by omega, h3]; exact hf.symm
theorem eqNil_none (w : World) (n c : Nat) : (binOp BinOp.eql 34 (.slice none n c) (.slice none 0 0)).run Tryz.prog w = .ok (.bool true) w := by kernel_rfl
theorem eqNil_some (w : World) (a : Addr) (n c : Nat) : (binOp BinOp.eql 34 (.slice (some a) n c) (.slice none 0 0)).run Tryz.prog w = .ok (.bool false) w := by kernel_rfl
set_option maxHeartbeats 2000000 in
set_option maxRecDepth 100000 in
theorem cloneN_any (ns : List Ld.Nme) (nv : Value) (w : World) (h : NamesAt w nv ns) :
    Calls Tryz.prog 54 #[nv] w fun e w' => ∃ v, e = .returned v ∧ NamesAt w' v ns ∧ Below w.heap.size w w' := by
  obtain ⟨i0, hi0, hz0, hz1, hz2⟩ := info_parts Tryz.infoName
  have q0 := fun n c => eqNil_none w n c
  have q1 := fun a n c => eqNil_some w a n c
  have HBA : Hid (Below w.heap.size w (w.alloc (.cells #[] 50))) := (Below.refl _ w).alloc (Nat.le_refl _) _
  rcases h with ⟨rfl, a, cap, rfl⟩ | ⟨g, cap, rfl, hcap, hlen, hat⟩
  · cases a with
    | none =>
      go_enter Tryz.func54, Tryz.ntmps54
      go_wp2_with fail
      go_ret
      exact ⟨_, rfl, .inl ⟨rfl, _, _, rfl⟩, Below.refl _ _⟩
    | some ad =>
      go_enter Tryz.func54, Tryz.ntmps54
      go_wp2_with (at_builtin; refine Lib.wpList_append_run _ rfl (.tmp 5) (.tmp 6) 34 34 rfl _ _ rfl rfl _ _ (append_zero w.heap.size _ _ _ i0 3 Tryz.underlying34 hi0 _ 0 [] (own_zero w w.heap.size 50 3 (Nat.le_refl _)) _ _) ?_)
      go_ret
      exact ⟨_, rfl, .inl ⟨rfl, _, _, rfl⟩, HBA.out⟩
  · by_cases hne : ns.length = 0
    · obtain rfl := List.length_eq_zero_iff.1 hne
      go_enter Tryz.func54, Tryz.ntmps54
      go_wp2_with (at_builtin; refine Lib.wpList_append_run _ rfl (.tmp 5) (.tmp 6) 34 34 rfl _ _ rfl rfl _ _ (append_zero w.heap.size _ _ _ i0 3 Tryz.underlying34 hi0 _ 0 [] (own_zero w w.heap.size 50 3 (Nat.le_refl _)) _ _) ?_)
      go_ret
      exact ⟨_, rfl, .inl ⟨rfl, _, _, rfl⟩, HBA.out⟩
    · have hlc : (ns.flatMap nmCells).length = ns.length * 3 := by
        clear hat hlen hcap hne
        induction ns with
        | nil => rfl
        | cons a r ih => rw [List.flatMap_cons, List.length_append, ih, List.length_cons]; simp [nmCells]; omega
      have HOWN : Hid ((w.alloc (.cells #[] 50)).ownsRow w.heap.size 50 3 (.slice (some ⟨w.heap.size, 0, none⟩) 0 0) 0 []) := own_zero w w.heap.size 50 3 (Nat.le_refl _)
      have HNEW : Hid (∀ j u, (ns.flatMap nmCells)[j]? = some u → (w.alloc (.cells #[] 50)).cell? ((⟨g, 0, none⟩ : Addr).add j) = some u) := names_cells (fun i n hi => (hat i n hi).below HBA.out)
      have HONE : Hid (∀ u ∈ ns.flatMap nmCells, u.oneCell' = true) := by
        intro u hu
        obtain ⟨n, _, hn⟩ := List.mem_flatMap.1 hu
        simp only [nmCells, List.mem_cons, List.not_mem_nil, or_false] at hn
        rcases hn with rfl | rfl | rfl <;> rfl
      have HAT := hide hat
      obtain ⟨n, hnn⟩ : ∃ n, n = ns.length := ⟨_, rfl⟩
      have HN := hide hnn
      have HLC := hide hlc
      rw [← hnn] at hlen hcap hne HLC ⊢
      clear hat hnn hlc
      have hn0 : 0 < n := by omega
      go_enter Tryz.func54, Tryz.ntmps54
      go_wp2_with (at_builtin; refine wpList_append_lies _ rfl (.tmp 5) (.tmp 6) 34 rfl w.heap.size 50 i0 _ 3 32 Tryz.underlying34 hi0 hz0 hz1 hz2 rfl (by decide) (.slice (some ⟨w.heap.size, 0, none⟩) 0 0) 0 [] rfl HOWN.out ⟨g, 0, none⟩ n cap (ns.flatMap nmCells) rfl HLC.out HNEW.out HONE.out hn0 (by unfold maxLen; omega) (by omega) (by simp) (w.heap.size + 1) (by simp) ?_; intro g2 cap2 wC hown hgrow hat2 hltg)
      go_ret
      refine ⟨_, rfl, ?_, HBA.out.grown hgrow (by simp) (fun j e => by simp only [Value.ownBlock, Option.some.injEq] at e; omega)⟩
      rcases hown.2 with ⟨hx, _⟩ | ⟨g3, cap3, cur, hx, _, hcur, hc3, _, _, htk⟩
      · cases hx
      · simp only [Value.slice.injEq, Option.some.injEq, Addr.mk.injEq] at hx
        obtain ⟨⟨rfl, _⟩, _, rfl⟩ := hx
        refine .inr ⟨g2, cap2, by rw [← HN.out]; rfl, by rw [← HN.out]; omega, by rw [← HN.out]; exact hlen, fun i y hy => ?_⟩
        have hc := fun j hj => flat3 nmCells (fun _ => rfl) ns i y hy j hj
        obtain ⟨_, _, _, k4⟩ := HAT.out i y hy
        exact ⟨row_cell hcur htk (hc 0 (by omega)), row_cell hcur htk (hc 1 (by omega)), row_cell hcur htk (hc 2 (by omega)), k4⟩
end
section
open Go.RowKit
open Go.Sort
set_option maxHeartbeats 1000000 in
set_option maxRecDepth 100000 in
theorem edges1_any : Gathers 50 (fun e => e) := by
  refine ⟨fun _ _ => by kernel_rfl, ?_⟩
  intro p nm edge ns w h hlen
  cases edge with
  | false =>
    have H := hide h
    clear h
    go_enter Tryz.func50, Tryz.ntmps50
    go_wp2_with fail
    go_end0
    exact ⟨rfl, by simpa using H.out, Kn.refl _ _⟩
  | true =>
    obtain ⟨i0, hi0, hz0, hz1, hz2⟩ := info_parts Tryz.infoStr
    obtain ⟨v, hp, ho⟩ := h.ex
    have HP := hide hp
    have HO := hide ho
    have HO2 := hide (ho.alloc (.cells #[.string ⟨nm.toArray⟩] 9))
    have hlt := h.lt
    have c0 : w.cell? ⟨p, 0, none⟩ = some v := by rw [Lib.cell_of_heap hp]; rfl
    have hv0 : ∃ a n c, v = .slice a n c := by
      rcases ho.2 with ⟨hv, _⟩ | ⟨g, cap, cur, hv, _⟩
      · exact ⟨_, _, _, hv⟩
      · exact ⟨_, _, _, hv⟩
    clear h hp ho
    obtain ⟨a, n, c, rfl⟩ := hv0
    go_enter Tryz.func50, Tryz.ntmps50
    go_wp2_with (at_builtin; refine wpList_append_own _ rfl _ _ 77 rfl (p + 1) 9 i0 (.string ⟨#[]⟩) 1 16 Tryz.underlying77 hi0 hz0 hz1 hz2 rfl (by decide) _ ns.length (ns.map strV) rfl HO2.out ⟨w.heap.size, 0, none⟩ 1 1 [.string ⟨nm.toArray⟩] rfl rfl (cell_one_new _ _ _) ?c2 ?c3 ?c4 ?c5 ?_)
    case c2 => intro z hz; simp at hz; subst hz; rfl
    case c3 => unfold maxLen; omega
    case c4 => omega
    case c5 => simp; omega
    intro v' w2 hown' hgrow _
    have hput := St.put HP.out HO.out hown' hgrow
    have HB2 := hide hput.1
    have HK2 := hide hput.2.1
    have HS2 := hide hput.2.2
    have d0 : w2.cell? ⟨p, 0, none⟩ = some (.slice a n c) := by rw [Lib.cell_of_heap hput.1]; rfl
    have f0 : w2.frozen? ⟨p, 0, none⟩ = false := Lib.frozen_of_heap hput.1 0
    obtain ⟨g, cap, hv'⟩ : ∃ g cap, v' = .slice (some ⟨g, 0, none⟩) (ns.length + 1) cap := by
      rcases hown'.2 with ⟨_, h0⟩ | ⟨g, cap, cur, hv, _⟩
      · omega
      · exact ⟨g, cap, hv⟩
    rw [hv'] at HS2
    rw [hv']
    clear hown' hgrow hv' hput HO HO2 HP c0 HB2
    go_wp2_with fail
    go_end0
    exact ⟨rfl, HS2.out, HK2.out.setCell ⟨p, 0, none⟩ rfl _⟩
set_option maxHeartbeats 1000000 in
set_option maxRecDepth 100000 in
theorem Edges_any (ok : Nat → Prop) (x : Ex) (v : Value) (w : World) (h : IsEx ok w x v) (hlen : x.size ≤ 1000000) :
    Calls Tryz.prog 24 #[v] w fun e w' => ∃ sv, e = .returned sv ∧ Strs w' sv ((ordered (x.named false)).map toBA) ∧ Below w.heap.size w w' := by
  have hmf : ∀ (fn : Fn) (first cap : Array Value) (w : World), (Instr.makeFunc fn first cap).run Tryz.prog w = .ok (.func fn first cap) w := fun _ _ _ _ => rfl
  have hb : Below w.heap.size w (w.alloc (.cells #[.slice none 0 0] 77)) := (Below.refl _ w).alloc (Nat.le_refl _) _
  have hx : IsEx (fun g => g < w.heap.size) (w.alloc (.cells #[.slice none 0 0] 77)) x v := IsEx.stay (Stay.below hb) (fun g hg => hg.2) x v (IsEx.lt x v h)
  have hst : St w.heap.size [] (w.alloc (.cells #[.slice none 0 0] 77)) := ⟨_, heap_alloc_new w _, World.ownsRow_nil _ _ _ _⟩
  have HC := hide (each_any 50 false _ edges1_any rfl rfl x w.heap.size v [] _ hx hst (by simpa using hlen))
  have HB := hide hb
  have HNL := hide (Ex.named_le false x)
  obtain ⟨tu, yu, hiu⟩ := IsEx.iface x v h
  subst hiu
  clear h hb hx hst
  go_enter Tryz.func24, Tryz.ntmps24
  go_wp2_with fail
  refine HC.out.mono ?_
  rintro e w1 ⟨rfl, hs, hk⟩
  rw [List.nil_append] at hs
  obtain ⟨sv, hp, ho⟩ := hs.ex
  have HO := hide ho
  have c0 : w1.cell? ⟨w.heap.size, 0, none⟩ = some sv := by rw [Lib.cell_of_heap hp]; rfl
  have HI := hide (inOrder_any _ sv _ w1 ho (by have := HNL.out; omega))
  have HB1 := hide (HB.out.trans hk.1)
  obtain ⟨a, n, c, hsv⟩ : ∃ a n c, sv = .slice a n c := by
    rcases ho.2 with ⟨hv, _⟩ | ⟨g, cap, cur, hv, _⟩
    · exact ⟨_, _, _, hv⟩
    · exact ⟨_, _, _, hv⟩
  subst hsv
  clear hs hk hp ho HC
  go_wp2_with fail
  refine HI.out.mono ?_
  rintro e w2 ⟨sv2, rfl, hs2, hg2⟩
  have HS2 := hide hs2
  have HB2 := hide (HB1.out.grown hg2 HB1.out.size (fun k hk => by have := (HO.out.lt k hk).1; omega))
  obtain ⟨a2, n2, c2, hsv2⟩ : ∃ a n c, sv2 = .slice a n c := by
    rcases hs2 with ⟨_, a, cap, h⟩ | ⟨g, o, cap, h, _⟩
    · exact ⟨_, _, _, h⟩
    · exact ⟨_, _, _, h⟩
  subst hsv2
  clear hs2 hg2 HI
  go_wp2_with fail
  go_ret
  exact ⟨.slice a2 n2 c2, rfl, HS2.out, HB2.out⟩
end
end Go.Proofs.YtglmpkpcbafgdaaGreatDoor
