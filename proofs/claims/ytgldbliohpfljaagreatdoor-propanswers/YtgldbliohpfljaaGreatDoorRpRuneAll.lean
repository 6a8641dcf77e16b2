/-
  The walk of package ladder's lines: those lines that are not of blanks alone, each with the place of its first byte. What was read is a program; the walks of package ladder's lines and inText. What the walks of the document's own reader (package signalcabinref) go by: its cells in memory, expressions as it lays them; its skip, next and fail. The walks of strings.ContainsRune over the signs that end words, at each byte.
-/
import Derived.Test.YtgldbliohpfljaaGreatDoorLdWordsAll
import Derived.Test.YtgldbliohpfljaaGreatDoorLdCheckAll
import Derived.Test.YtgldbliohpfljaaGreatDoorLdTakeRAll
import Derived.Test.YtgldbliohpfljaaGreatDoorRdListAll
import Derived.Test.YtgldbliohpfljaaGreatDoorLdRepAll
import Derived.Test.YtgldbliohpfljaaGreatDoorShelf
import Derived.WalkMore
namespace Go.Proofs.YtgldbliohpfljaaGreatDoor
section
open Go.RowKit
attribute [local go_sem] Oper.semAt_some
/-- a line, and the place of its first byte -/
abbrev Line := { p : Nat × List UInt8 // p.1 ≤ 1000000000 ∧ p.2.length ≤ 20000 }
namespace Ld
/-- where the next line begins -/
def total : List (List UInt8) → Nat
  | [] => 0
  | a :: r => a.length + 1 + total r
theorem total_snoc (l : List (List UInt8)) (a : List UInt8) : total (l ++ [a]) = total l + (a.length + 1) := by
  induction l with
  | nil => simp [total]
  | cons x r ih => simp only [List.cons_append, total, ih]; omega
theorem placed_snoc (a : List UInt8) : ∀ (l : List (List UInt8)) (i : Nat), placed i (l ++ [a]) = placed i l ++ [(i + total l, a)]
  | [], i => by simp [placed, total]
  | x :: r, i => by rw [List.cons_append, placed, placed, placed_snoc a r]; simp [total]; omega
theorem placed_app (b : List (List UInt8)) : ∀ (l : List (List UInt8)) (i : Nat), placed i (l ++ b) = placed i l ++ placed (i + total l) b
  | [], i => by simp [placed, total]
  | x :: r, i => by
    rw [List.cons_append, placed, placed, placed_app b r, List.cons_append]
    have : i + x.length + 1 + total r = i + total (x :: r) := by simp only [total]; omega
    rw [this]
/-- the lines among some pieces -/
def linesOf (l : List (List UInt8)) : List (Nat × List UInt8) := (placed 0 l).filter fun p => !isBlank p.2
theorem linesOf_snoc (l : List (List UInt8)) (a : List UInt8) : linesOf (l ++ [a]) = linesOf l ++ (if isBlank a then [] else [(total l, a)]) := by
  unfold linesOf
  rw [placed_snoc, List.filter_append]
  congr 1
  cases h : isBlank a <;> simp [h]
theorem linesOf_pre (l b : List (List UInt8)) : ∃ r, linesOf (l ++ b) = linesOf l ++ r := by
  unfold linesOf
  rw [placed_app, List.filter_append]
  exact ⟨_, rfl⟩
theorem placed_len : ∀ (l : List (List UInt8)) (i : Nat), (placed i l).length = l.length
  | [], _ => rfl
  | _ :: r, i => by simp [placed, placed_len r]
theorem linesOf_len (l : List (List UInt8)) : (linesOf l).length ≤ l.length := Nat.le_trans (List.length_filter_le _ _) (by rw [placed_len]; exact Nat.le_refl _)
theorem total_le (l : List (List UInt8)) (h : ∀ a, a ∈ l → a.length ≤ 20000) : total l ≤ 20001 * l.length := by
  induction l with
  | nil => simp [total]
  | cons a r ih =>
    have h1 := ih fun b hb => h b (by simp [hb])
    have h2 := h a (by simp)
    simp only [total, List.length_cons]
    omega
theorem drop_mem (p : UInt8 → Bool) (b : UInt8) (hp : p b = false) : ∀ l : List UInt8, b ∈ l → b ∈ l.dropWhile p
  | [], h => h
  | a :: r, h => by
    rw [List.dropWhile_cons]
    by_cases ha : p a = true
    · rw [if_pos ha]
      rw [List.mem_cons] at h
      rcases h with rfl | h
      · rw [hp] at ha; cases ha
      · exact drop_mem p b hp r h
    · rw [if_neg ha]; exact h
theorem drop_all (p : UInt8 → Bool) : ∀ l : List UInt8, (∀ x, x ∈ l → p x = true) → l.dropWhile p = []
  | [], _ => rfl
  | a :: r, h => by rw [List.dropWhile_cons, if_pos (h a (by simp))]; exact drop_all p r fun x hx => h x (by simp [hx])
theorem trim_blank (l : List UInt8) : (Lib.trimB l 32).isEmpty = isBlank l := by
  cases hb : isBlank l with
  | true =>
    unfold isBlank at hb
    rw [List.all_eq_true] at hb
    have : l.reverse.dropWhile (· == 32) = [] := drop_all _ _ fun x hx => hb x (List.mem_reverse.1 hx)
    unfold Lib.trimB Lib.trimRightB Lib.trimLeftB
    rw [this]; rfl
  | false =>
    unfold isBlank at hb
    rw [List.all_eq_false] at hb
    obtain ⟨x, hx, hn⟩ := hb
    have hn' : (x == 32) = false := by simpa using hn
    have h1 : x ∈ Lib.trimRightB l 32 := by
      unfold Lib.trimRightB
      rw [List.mem_reverse]
      exact drop_mem _ x hn' _ (List.mem_reverse.2 hx)
    have h2 : x ∈ Lib.trimB l 32 := drop_mem _ x hn' _ h1
    cases ht : Lib.trimB l 32 with
    | nil => rw [ht] at h2; simp at h2
    | cons a r => rfl
end Ld
set_option maxHeartbeats 4000000 in
set_option maxRecDepth 100000 in
theorem lines1_seq (s : List UInt8) (bt : Nat) (w : World) (hs : s.length ≤ 20000) (ht : w.heap[bt]? = some (.cells #[.string ⟨s.toArray⟩] 9 (0, 0))) :
    SeqX Tryz.prog 150 #[.pointer (some ⟨bt, 0, none⟩)] (fun x : Line => #[.int .i64 (x.1.1 : Int), .string ⟨x.1.2.toArray⟩]) (fun n k => n ≤ k ∧ k < n + 7) 7 (fun xs => xs.map (·.1) = Ld.lns s) (fun pre => ∃ r, Ld.lns s = pre.map (·.1) ++ r) (s.length + 1) w := by
  intro l J Jx W hW hJ hJx hY h0
  have hlt : bt < w.heap.size := (Array.getElem?_eq_some_iff.1 ht).1
  have k0 := (hW.block _ hlt).trans ht
  have hltW : bt < W.heap.size := (Array.getElem?_eq_some_iff.1 k0).1
  have c0 : W.cell? ⟨bt, 0, none⟩ = some (.string ⟨s.toArray⟩) := by rw [Lib.cell_of_heap k0]; rfl
  have HSS := hide (SplitSeq_any s 10)
  have HY := hide hY
  have HJ := hide hJ
  have HJX := hide hJx
  have H0 := hide h0
  clear hY hJ hJx h0 k0 ht hW
  refine callsIn_wide.1 (callsIn_of_wp_marks (n := 0) Tryz.func150 rfl trivial ?_ rfl)
  simp only [Tryz.ntmps150, List.size_toArray, List.length_cons, List.length_nil, Nat.reduceAdd, Nat.reduceSub, Array.replicate_succ, Array.replicate_zero, List.push_toArray, List.append_toArray, List.nil_append, List.cons_append]
  gi_wp2_with fail
  refine ⟨trivial, rfl, ?_⟩
  refine (callsIn_wide.2 (HSS.out _)).mono ?_
  rintro e w1 ⟨rfl, hw1⟩
  obtain ⟨V, hV⟩ : ∃ V, V = (W.alloc (.cells #[.func (.yield l) #[] #[]] 267)).alloc (.cells #[.int .i64 0] 3) := ⟨_, rfl⟩
  have hVs : V.heap.size = W.heap.size + 2 := by rw [hV]; simp
  rw [← hV] at hw1
  have hat := boxed3_at V s 10
  have hsz := boxed3_size V s 10
  have hbl := boxed3_below V s 10
  rw [← hw1] at hat hsz hbl
  rw [hVs] at hat hsz hbl
  have hy0 : w1.heap[W.heap.size]? = some (.cells #[.func (.yield l) #[] #[]] 267 (0, 0)) := by
    rw [hbl.block _ (by omega), hV, Below.heap_alloc _ _ _ (by simp)]; exact heap_alloc_new W _
  have hst0 : w1.heap[W.heap.size + 1]? = some (.cells #[.int .i64 0] 3 (0, 0)) := by
    rw [hbl.block _ (by omega), hV]
    have := heap_alloc_new (W.alloc (.cells #[.func (.yield l) #[] #[]] 267)) (.cells #[.int .i64 0] 3)
    rwa [World.size_alloc] at this
  have hgr : W.grownBy w1 none := by
    have h1 : Below W.heap.size W w1 := by
      have h2 : Below W.heap.size W V := by rw [hV]; exact ((Below.refl _ W).alloc (Nat.le_refl _) _).alloc (by simp) _
      exact h2.trans (hbl.mono (by omega))
    exact ⟨h1.os, h1.tape, h1.output, h1.size, fun k hk _ => h1.block k hk⟩
  have hseq := splitSeq1_seq 10 s (W.heap.size + 2) (W.heap.size + 2 + 1) (W.heap.size + 2 + 2) 20000 w1 hs (by omega) hat.1 hat.2.1 hat.2.2 (by omega) (by omega)
  have hJ1 : J [] w1 := HJ.out _ _ _ none H0.out hgr (fun r e => by cases e)
  have HJ1 := hide hJ1
  have HY0 := hide hy0
  have HST0 := hide hst0
  have HSEQ := hide hseq
  have HSZ := hide hsz
  have eV : ((W.alloc (.cells #[.func (.yield l) #[] #[]] 267)).alloc (.cells #[.int .i64 0] 3)).heap.size = W.heap.size + 2 := by simp
  rw [eV]
  clear hV hVs hw1 hat hbl hy0 hst0 hgr hseq hJ1 hsz eV HSS
  gi_wp2_with fail
  have hsz1 : w1.heap.size = W.heap.size + 5 := by have := HSZ.out; omega
  refine range_law (α := Piece 20000) (gf := 229) (lb := #[.pointer (some ⟨W.heap.size + 2 + 1, 0, none⟩), .pointer (some ⟨W.heap.size + 2, 0, none⟩), .pointer (some ⟨W.heap.size + 2 + 2, 0, none⟩)]) rfl (fun _ _ => by kernel_rfl) HSEQ.out (fun k hk => by omega) (fun _ => rfl)
    (fun pre' Wr => ∃ pre : List Line, pre.map (·.1) = Ld.linesOf (pre'.map (·.1)) ∧ J pre Wr ∧ Wr.heap[W.heap.size]? = some (.cells #[.func (.yield l) #[] #[]] 267 (0, 0)) ∧ Wr.heap[W.heap.size + 1]? = some (.cells #[.int .i64 ((Ld.total (pre'.map (·.1)) : Nat) : Int)] 3 (0, 0)))
    (fun pre' Wr => ∃ pre : List Line, pre.map (·.1) = Ld.linesOf (pre'.map (·.1)) ∧ Jx pre Wr) ?hI ?hIx
    ⟨[], rfl, HJ1.out, HY0.out, HST0.out⟩
    (fun x => { tmps := #[.func (.yield l) #[] #[], .pointer (some ⟨bt, 0, none⟩), .pointer (some ⟨W.heap.size, 0, none⟩), .pointer (some ⟨W.heap.size + 1, 0, none⟩), .string ⟨x.1.toArray⟩, .string ⟨s.toArray⟩, .func (.func 229) #[] #[.pointer (some ⟨W.heap.size + 2 + 1, 0, none⟩), .pointer (some ⟨W.heap.size + 2, 0, none⟩), .pointer (some ⟨W.heap.size + 2 + 2, 0, none⟩)], .string ⟨x.1.toArray⟩, undef, undef, undef, undef, undef, undef, undef, undef, undef, undef, undef, undef, undef, undef, undef], defers := [] }) ?assign ?body ?done ?stop
  case hI =>
    rintro pre' A B row ⟨pre, q1, q2, q3, q4⟩ hg hr
    have hr' : ∀ k, row = some k → W.heap.size + 2 ≤ k ∧ k < W.heap.size + 7 := fun k e => by have := hr k e; unfold TurnX at this; omega
    refine ⟨pre, q1, HJ.out _ _ _ row q2 hg (fun k e => by have := hr' k e; omega), ?_, ?_⟩
    · rw [hg.block _ (Array.getElem?_eq_some_iff.1 q3).1 (fun e => by have := hr' _ e.symm; omega)]; exact q3
    · rw [hg.block _ (Array.getElem?_eq_some_iff.1 q4).1 (fun e => by have := hr' _ e.symm; omega)]; exact q4
  case hIx =>
    rintro pre' A B row ⟨pre, q1, q2⟩ hg hr
    exact ⟨pre, q1, HJX.out _ _ _ row q2 hg (fun k e => by have := hr k e; unfold TurnX at this; omega)⟩
  case assign =>
    intro l x W K hK
    gi_wp2
    exact hK
  case body =>
    rintro l' pre' ⟨y, hy⟩ Wr hszW ⟨pre, q1, q2, q3, q4⟩ hlen
    have HTB := hide (Ld.trim_blank y)
    have HTR := hide (Tryz.strings_Trim_one ⟨y.toArray⟩ 32 (by decide))
    have ey : (⟨y.toArray⟩ : ByteArray).data.toList = y := rfl
    have esz : (⟨y.toArray⟩ : ByteArray).size = y.length := by simp [ByteArray.size]
    rw [ey, esz] at HTR
    have hle : Ld.total (pre'.map (·.1)) ≤ 20001 * pre'.length := by
      have := Ld.total_le (pre'.map (·.1)) (fun a ha => by obtain ⟨z, _, rfl⟩ := List.mem_map.1 ha; exact z.2)
      simpa using this
    have HTS := hide (Ld.total_snoc (pre'.map (·.1)) y)
    have HLS := hide (Ld.linesOf_snoc (pre'.map (·.1)) y)
    have d0 : Wr.cell? ⟨W.heap.size, 0, none⟩ = some (.func (.yield l) #[] #[]) := by rw [Lib.cell_of_heap q3]; rfl
    have d1 : Wr.cell? ⟨W.heap.size + 1, 0, none⟩ = some (.int .i64 ((Ld.total (pre'.map (·.1)) : Nat) : Int)) := by rw [Lib.cell_of_heap q4]; rfl
    have f1 : Wr.frozen? ⟨W.heap.size + 1, 0, none⟩ = false := Lib.frozen_of_heap q4 0
    have hpl : pre.length < s.length + 1 := by
      have h1 := congrArg List.length q1
      have h2 := Ld.linesOf_len (pre'.map (·.1))
      rw [List.length_map] at h1 h2
      omega
    have hl400 : Ld.total (pre'.map (·.1)) ≤ 400080000 := by omega
    have hwrp : IntKind.i64.wrap ((y.length : Int) + 1) = (y.length : Int) + 1 := by rw [IntKind.wrap_i64]; omega
    have hmap : (pre' ++ [(⟨y, hy⟩ : Piece 20000)]).map (·.1) = pre'.map (·.1) ++ [y] := by simp
    have HMAP := hide hmap
    generalize htot : Ld.total (pre'.map (·.1)) = tot at *
    have hwrp2 : IntKind.i64.wrap ((tot : Int) + ((y.length : Int) + 1)) = ((tot + (y.length + 1) : Nat) : Int) := by rw [IntKind.wrap_i64]; omega
    generalize htb : Lib.trimB y 32 = tb at *
    have hbtb := bytes_list tb
    have Q1 := hide q1
    have Q2 := hide q2
    have Q3 := hide q3
    have Q4 := hide q4
    have hszW' : W.heap.size + 7 ≤ Wr.heap.size := by omega
    clear hmap htot htb q1 q2 q3 q4 ey
    gi_wp2_with fail
    refine ⟨trivial, rfl, ?_⟩
    refine (CallsIn.inRound l' (callsIn_wide.2 (HTR.out Wr (by omega)))).mono ?_
    rintro e Wt ⟨rfl, hWt⟩
    have hgt : Wr.grownBy Wt none ∧ Wt.heap = Wr.heap := by
      rcases hWt with rfl | rfl
      · exact ⟨⟨rfl, rfl, rfl, Nat.le_refl _, fun _ _ _ => rfl⟩, rfl⟩
      · exact ⟨⟨rfl, rfl, rfl, Nat.le_refl _, fun _ _ _ => rfl⟩, rfl⟩
    have T2 := hide (HJ.out _ _ _ none Q2.out hgt.1 (fun k e => by cases e))
    have T3 : Hid (Wt.heap[W.heap.size]? = some (.cells #[.func (.yield l) #[] #[]] 267 (0, 0))) := by show _ = _; rw [hgt.2]; exact Q3.out
    have T4 : Hid (Wt.heap[W.heap.size + 1]? = some (.cells #[.int .i64 (tot : Int)] 3 (0, 0))) := by show _ = _; rw [hgt.2]; exact Q4.out
    have HWT := hide hgt.2
    have t0 : Wt.cell? ⟨W.heap.size, 0, none⟩ = some (.func (.yield l) #[] #[]) := by rw [Lib.cell_of_heap T3.out]; rfl
    have t1 : Wt.cell? ⟨W.heap.size + 1, 0, none⟩ = some (.int .i64 (tot : Int)) := by rw [Lib.cell_of_heap T4.out]; rfl
    have tf1 : Wt.frozen? ⟨W.heap.size + 1, 0, none⟩ = false := Lib.frozen_of_heap T4.out 0
    have hszT : W.heap.size + 7 ≤ Wt.heap.size := by rw [hgt.2]; exact hszW'
    clear hWt hgt d0 d1 f1 HTR
    cases hbk : Ld.isBlank y with
    | true =>
      have hemp : tb.isEmpty = true := by rw [HTB.out, hbk]
      have HL2 : Hid (Ld.linesOf (pre'.map (·.1) ++ [y]) = Ld.linesOf (pre'.map (·.1))) := by show _ = _; rw [HLS.out, hbk]; simp
      gi_wp2_with fail
      refine ⟨fun _ h => (by cases h), ?_⟩
      gi_wp2_with fail
      refine ⟨⟨?_, ?_⟩, pre, ?_, ?_, ?_, ?_⟩
      · have h1 : Wt.heap.size = Wr.heap.size := by rw [HWT.out]
        simp [World.setCell]; omega
      · intro k hk
        unfold TurnX at hk
        rw [Below.heap_setCell _ _ _ _ (fun e => by simp at e; omega), HWT.out]
      · rw [HMAP.out, HL2.out]; exact Q1.out
      · exact HJ.out _ _ _ (some (W.heap.size + 1)) T2.out ⟨rfl, rfl, rfl, by simp [World.setCell], fun k _ hk => Below.heap_setCell _ _ _ _ (fun e => hk (by simp [e]))⟩ (fun k e => by cases e; omega)
      · rw [Below.heap_setCell _ _ _ _ (fun e => by simp at e)]; exact T3.out
      · rw [HMAP.out, HTS.out]
        simp [World.setCell, Array.getElem?_modify, T4.out]
    | false =>
      have hemp : tb.isEmpty = false := by rw [HTB.out, hbk]
      obtain ⟨fn, tmps, assign, body, hyy, hR⟩ := HY.out pre ⟨(tot, y), by omega, hy⟩ Wt T2.out hpl (by omega)
      dsimp only at hyy
      have HR := hide hR
      have HL2 : Hid (Ld.linesOf (pre'.map (·.1) ++ [y]) = Ld.linesOf (pre'.map (·.1)) ++ [(tot, y)]) := by show _ = _; rw [HLS.out, hbk]; simp
      clear hR
      gi_wp2_with fail
      refine ⟨rfl, ?_⟩
      have hRR : RoundIn (Fence.wide.inRound l') 0 Tryz.prog l fn tmps assign body Wt _ := HR.out
      refine hRR.mono ?_
      rintro e W' (⟨rfl, hJ', hk⟩ | ⟨rfl, hJx', hk⟩)
      · have g3 := (hk.2 W.heap.size (by omega)).trans T3.out
        have g4 := (hk.2 (W.heap.size + 1) (by omega)).trans T4.out
        have e1 : W'.cell? ⟨W.heap.size + 1, 0, none⟩ = some (.int .i64 (tot : Int)) := by rw [Lib.cell_of_heap g4]; rfl
        have e2 : W'.frozen? ⟨W.heap.size + 1, 0, none⟩ = false := Lib.frozen_of_heap g4 0
        have HJ' := hide hJ'
        have HK' := hide hk
        have G3 := hide g3
        have G4 := hide g4
        clear hJ' hk g3 g4 hRR HR hyy t0 t1 tf1
        gi_wp2_with fail
        refine ⟨⟨?_, ?_⟩, pre ++ [⟨(tot, y), by omega, hy⟩], ?_, ?_, ?_, ?_⟩
        · have h1 : Wt.heap.size = Wr.heap.size := by rw [HWT.out]
          have := HK'.out.1
          simp [World.setCell]; omega
        · intro k hk
          unfold TurnX at hk
          rw [Below.heap_setCell _ _ _ _ (fun e => by simp at e; omega), HK'.out.2 k (by omega), HWT.out]
        · rw [HMAP.out, HL2.out, List.map_append, Q1.out]; rfl
        · exact HJ.out _ _ _ (some (W.heap.size + 1)) HJ'.out ⟨rfl, rfl, rfl, by simp [World.setCell], fun k _ hk => Below.heap_setCell _ _ _ _ (fun e => hk (by simp [e]))⟩ (fun k e => by cases e; omega)
        · rw [Below.heap_setCell _ _ _ _ (fun e => by simp at e)]; exact G3.out
        · rw [HMAP.out, HTS.out]
          simp [World.setCell, Array.getElem?_modify, G4.out]
      · have HJ' := hide hJx'
        have HK' := hide hk
        clear hJx' hk hRR HR hyy t0 t1 tf1
        gi_wp2_with fail
        refine ⟨⟨?_, ?_⟩, pre ++ [⟨(tot, y), by omega, hy⟩], ?_, HJ'.out⟩
        · have h1 : Wt.heap.size = Wr.heap.size := by rw [HWT.out]
          have := HK'.out.1
          omega
        · intro k hk
          unfold TurnX at hk
          rw [HK'.out.2 k (by omega), HWT.out]
        · rw [HMAP.out, HL2.out, List.map_append, Q1.out]; rfl
  case done =>
    rintro xs Wr hS ⟨pre, q1, q2, q3, q4⟩ hD
    have HD := hide hD
    have HQ2 := hide q2
    have HL : Hid (pre.map (·.1) = Ld.lns s) := by
      show _ = _
      rw [q1, hS]; rfl
    clear hD q2 q3 q4 q1 hS
    gi_wp2_with fail
    refine ⟨by simp, .inl ⟨_, _, rfl, run_takeDeferred HD.out, ?_⟩⟩
    have hg := grownBy_putObj' Wr w1.heap.size (.deferred none)
    refine ⟨_, by simp [results, Tryz.results150, go_sem]; rfl, ⟨_, rfl⟩, .inl ⟨pre, HL.out, HJ.out _ _ _ _ HQ2.out hg (fun k e => by cases e; omega)⟩⟩
  case stop =>
    rintro pre' Wr ⟨r, hr⟩ ⟨pre, q1, q2⟩ hD
    have HD := hide hD
    have HQ2 := hide q2
    have HL : Hid (∃ r, Ld.lns s = pre.map (·.1) ++ r) := by
      obtain ⟨r2, h2⟩ := Ld.linesOf_pre (pre'.map (·.1)) r
      refine ⟨r2, ?_⟩
      rw [q1, ← h2, ← hr]; rfl
    clear hD q2 q1 hr
    gi_wp2_with fail
    refine ⟨by simp, .inl ⟨_, _, rfl, run_takeDeferred HD.out, ?_⟩⟩
    have hg := grownBy_putObj' Wr w1.heap.size (.deferred none)
    refine ⟨_, by simp [results, Tryz.results150, go_sem]; rfl, ⟨_, rfl⟩, .inr ⟨pre, HL.out, HJX.out _ _ _ _ HQ2.out hg (fun k e => by cases e; omega)⟩⟩
end
section
open Go.RowKit
theorem RdX.prg {b q : Nat} {w0 : World} {r : Ld.Rdg} {nv rv sv : Value} {vs : List Value} {W : World} (h : RdX b q w0 r nv rv sv vs W) (hn : r.names.length ≤ 1000000) (hr : r.rungs.length ≤ 1000000) : IsPrg W ⟨r.names, r.rungs⟩ (.agg #[nv, rv]) := by
  refine ⟨nv, rv, rfl, ?_, ?_⟩
  · rcases h.on.2 with ⟨rfl, h0⟩ | ⟨g, cap, cur, rfl, _, hcur, hcap, _, _, htk⟩
    · exact .inl ⟨List.length_eq_zero_iff.1 h0, _, _, rfl⟩
    · refine .inr ⟨g, cap, rfl, hcap, hn, ?_⟩
      intro i n hi
      have hc := fun j hj => flat3 nmCells (fun _ => rfl) r.names i n hi j hj
      have hb := h.bn n (List.mem_of_getElem? hi)
      exact ⟨row_cell hcur htk (hc 0 (by omega)), row_cell hcur htk (hc 1 (by omega)), row_cell hcur htk (hc 2 (by omega)), by unfold maxLen; omega, hb.2⟩
  · rcases h.org.2 with ⟨rfl, h0⟩ | ⟨g, cap, cur, rfl, _, hcur, hcap, _, _, htk⟩
    · exact .inl ⟨List.length_eq_zero_iff.1 h0, _, _, rfl⟩
    · refine .inr ⟨g, cap, rfl, hcap, hr, ?_⟩
      intro i gr hi
      have hil : i < r.rungs.length := (List.getElem?_eq_some_iff.1 hi).1
      have hvi : vs[i]? = some (vs[i]'(by rw [h.len]; exact hil)) := List.getElem?_eq_getElem _
      generalize vs[i]'(by rw [h.len]; exact hil) = v at hvi
      have hz : (r.rungs.zip vs)[i]? = some (gr, v) := by rw [List.getElem?_zip_eq_some]; exact ⟨hi, hvi⟩
      have hc := fun j hj => flat3 rgCells (fun _ => rfl) (r.rungs.zip vs) i (gr, v) hz j hj
      have hb := h.br gr (List.mem_of_getElem? hi)
      obtain ⟨x, l, e1, e2, e3⟩ := h.ex i gr v hi hvi
      have hbd := Ex.parse_bnd l x e2
      refine ⟨v, row_cell hcur htk (hc 0 (by omega)), row_cell hcur htk (hc 1 (by omega)), row_cell hcur htk (hc 2 (by omega)), by unfold maxLen; omega, hb.2, ?_⟩
      rw [e1]
      exact ⟨IsEx.stay (fun _ _ _ _ hc => hc) (fun _ _ => trivial) x v e3, by omega, by omega⟩
theorem RdX.parsed {b q : Nat} {w0 : World} {r : Ld.Rdg} {nv rv sv : Value} {vs : List Value} {W : World} (h : RdX b q w0 r nv rv sv vs W) : ∀ g, g ∈ r.rungs → ∀ x, g.cond = some x → ∃ l, Ex.parse l = .inr x := by
  intro g hg x hx
  obtain ⟨i, hi, rfl⟩ := List.getElem_of_mem hg
  obtain ⟨y, l, e1, e2, _⟩ := h.ex i _ (vs[i]'(by rw [h.len]; exact hi)) (List.getElem?_eq_getElem hi) (List.getElem?_eq_getElem _)
  rw [hx] at e1
  cases e1
  exact ⟨l, e2⟩
namespace Ld
theorem takeN_len (r r' : Rdg) (st : Nat) (line : List UInt8) (h : takeN r st line = .inr r') : r'.names.length + r'.rungs.length = r.names.length + r.rungs.length + 1 ∧ r'.starts = r.starts := by
  unfold takeN at h
  split at h
  · cases h
  · split at h
    · cases h; simp; omega
    · cases h
theorem takeR_len (r r' : Rdg) (st : Nat) (hd t : List UInt8) (h : takeR r st hd t = .inr r') : r'.names.length + r'.rungs.length = r.names.length + r.rungs.length + 1 ∧ r'.starts = r.starts := by
  unfold takeR at h
  split at h
  · cases h
  · split at h
    · cases h
    · cases h; simp; omega
theorem take_len (r r' : Rdg) (st : Nat) (line : List UInt8) (h : take r st line = .inr r') : r'.names.length + r'.rungs.length = r.names.length + r.rungs.length + 1 ∧ r'.starts.length = r.starts.length + 1 := by
  rw [take_is] at h
  split at h
  · have := takeN_len _ _ _ _ h
    exact ⟨this.1, by rw [this.2]; simp⟩
  · have := takeR_len _ _ _ _ _ h
    exact ⟨this.1, by rw [this.2]; simp⟩
theorem takes_snoc (p : Nat × List UInt8) : ∀ (l : List (Nat × List UInt8)) (r : Rdg), takes r (l ++ [p]) = match takes r l with
    | .inl e => .inl e
    | .inr r' => take r' p.1 p.2
  | [], r => by
    simp only [List.nil_append, takes]
    cases take r p.1 p.2 <;> rfl
  | a :: t, r => by
    rw [List.cons_append, takes, takes]
    cases take r a.1 a.2 with
    | inl e => rfl
    | inr r' => exact takes_snoc p t r'
theorem takes_app (b : List (Nat × List UInt8)) : ∀ (l : List (Nat × List UInt8)) (r : Rdg) (e : Nat × Nat), takes r l = .inl e → takes r (l ++ b) = .inl e
  | [], r, e, h => by simp [takes] at h
  | a :: t, r, e, h => by
    rw [takes] at h
    rw [List.cons_append, takes]
    cases ht : take r a.1 a.2 with
    | inl q => rw [ht] at h; exact h
    | inr r' => rw [ht] at h; exact takes_app b t r' e h
theorem check_place (p : Prg) (e i : Nat) (h : check p = some (e, some i)) : i < p.names.length + p.rungs.length := by
  unfold check at h
  split at h
  · cases h
  · split at h
    · rename_i q hq
      simp only [Option.some.injEq, Prod.mk.injEq] at h
      have := bad_lt _ _ _ _ hq
      omega
    · split at h
      · rename_i q hq
        simp only [Option.some.injEq, Prod.mk.injEq] at h
        have := bad_lt _ _ _ _ hq
        omega
      · cases h
end Ld
theorem lines_any (s : List UInt8) (w : World) : Calls Tryz.prog 114 #[.string ⟨s.toArray⟩] w fun e w' => e = .returned (.func (.func 150) #[] #[.pointer (some ⟨w.heap.size, 0, none⟩)]) ∧ w' = w.alloc (.cells #[.string ⟨s.toArray⟩] 9) := by
  have hmf : ∀ (fn : Fn) (first cap : Array Value) (w : World), (Instr.makeFunc fn first cap).run Tryz.prog w = .ok (.func fn first cap) w := fun _ _ _ _ => rfl
  go_enter Tryz.func114, Tryz.ntmps114
  go_wp2_with fail
  go_ret
  exact ⟨rfl, rfl⟩
set_option maxHeartbeats 2000000 in
set_option maxRecDepth 100000 in
theorem inText_any (b q : Nat) (w0 : World) (r : Ld.Rdg) (v : Value) (er : Nat) (pl : Option Nat) (W : World) (h : Rdm b q w0 r W) (hv : ErrIs W v (some (er, pl))) (hp : ∀ i, pl = some i → i < r.starts.length) (_hl : r.starts.length ≤ 1000000) :
    Calls Tryz.prog 116 #[.pointer (some ⟨b, 0, none⟩), v] W fun e W' => ∃ u, e = .returned u ∧ ErrIs W' u (some (er, pl.map fun i => r.starts.getD i 0)) ∧ Below W.heap.size W W' := by
  cases pl with
  | none =>
    obtain rfl : v = .iface 40 (.int .i64 (er : Int)) := hv
    have sE := ErAs.atE
    clear h
    go_enter Tryz.func116, Tryz.ntmps116
    go_wp2_with fail
    go_ret
    exact ⟨_, rfl, rfl, Below.refl _ _⟩
  | some i =>
    obtain ⟨a, rfl, h0, h1⟩ := hv
    have hi := hp i rfl
    obtain ⟨nv, rv, sv, vs, hx⟩ := h
    have b2 : W.cell? ⟨b, 2, none⟩ = some sv := by rw [Lib.cell_of_heap hx.blk]; rfl
    have sA := ErAs.atA
    have halt : a < W.heap.size := World.block_lt_of_cell? _ _ h0
    have hblt := hx.lt
    rcases hx.os.2 with ⟨_, h00⟩ | ⟨g, cap, cur, rfl, _, hcur, hcap, _, _, htk⟩
    · omega
    have hsi : W.cell? ⟨g, i, none⟩ = some (.int .i64 ((r.starts.getD i 0 : Nat) : Int)) := by
      refine row_cell hcur htk ?_
      rw [List.getElem?_map, List.getElem?_eq_getElem hi]
      simp [intV, List.getD_eq_getElem?_getD, List.getElem?_eq_getElem hi]
    have hglt : g < W.heap.size := World.block_lt_of_cell? _ _ hsi
    obtain ⟨stv, hstv⟩ : ∃ stv, stv = r.starts.getD i 0 := ⟨_, rfl⟩
    rw [← hstv] at hsi
    have HSTV := hide hstv
    clear hstv
    generalize r.starts.length = n at *
    clear hx hcur htk hp
    go_enter Tryz.func116, Tryz.ntmps116
    go_wp2_with fail
    go_region_held3 (fun W => W.cell? ⟨a, 0, none⟩ = some (.int .i64 (er : Int)) ∧ W.cell? ⟨a, 1, none⟩ = some (.int .i64 (i : Int)) ∧ W.cell? ⟨b, 2, none⟩ = some (.slice (some ⟨g, 0, none⟩) n cap) ∧ W.cell? ⟨g, i, none⟩ = some (.int .i64 (stv : Int))) (go_keep) (fail)
    all_goals go_wp2_with fail
    all_goals go_ret
    all_goals
      refine ⟨_, rfl, ?_, ⟨rfl, rfl, rfl, by simp, fun k hk => Below.heap_alloc _ _ _ hk⟩⟩
      show ErrIs _ _ (some (er, some (r.starts.getD i 0)))
      rw [← HSTV.out]
      exact ⟨W.heap.size, rfl, by simp [go_sem], by simp [go_sem]⟩
end
section
open Go.RowKit
/-- The document's reader lies in block b: its text, where it is, its fault. -/
structure Rp (b : Nat) (s : ByteArray) (i : Nat) (err pl : Int) (w : World) : Prop where
  c0 : w.cell? ⟨b, 0, none⟩ = some (.string s)
  c1 : w.cell? ⟨b, 1, none⟩ = some (.int .i64 (i : Int))
  c2 : w.cell? ⟨b, 2, none⟩ = some (.int .i64 err)
  c3 : w.cell? ⟨b, 3, none⟩ = some (.int .i64 pl)
  f1 : w.frozen? ⟨b, 1, none⟩ = false
  f2 : w.frozen? ⟨b, 2, none⟩ = false
  f3 : w.frozen? ⟨b, 3, none⟩ = false
namespace Rp
variable {b : Nat} {s : ByteArray} {i : Nat} {err pl : Int} {w w' : World}
theorem lt (h : Rp b s i err pl w) : b < w.heap.size := World.block_lt_of_cell? _ _ h.c0
theorem drew (h : Rp b s i err pl w) : Rp b s i err pl w.drew := ⟨h.c0, h.c1, h.c2, h.c3, h.f1, h.f2, h.f3⟩
theorem drewN (n : Nat) (h : Rp b s i err pl w) : Rp b s i err pl (w.drewN n) := ⟨h.c0, h.c1, h.c2, h.c3, h.f1, h.f2, h.f3⟩
theorem of_block (h : Rp b s i err pl w) (e : w'.heap[b]? = w.heap[b]?) : Rp b s i err pl w' :=
  ⟨(World.cell?_of_block (w := w) e).trans h.c0, (World.cell?_of_block (w := w) e).trans h.c1, (World.cell?_of_block (w := w) e).trans h.c2, (World.cell?_of_block (w := w) e).trans h.c3, (World.frozen?_of_block (w := w) e).trans h.f1, (World.frozen?_of_block (w := w) e).trans h.f2, (World.frozen?_of_block (w := w) e).trans h.f3⟩
theorem below (h : Rp b s i err pl w) (hb : Below w.heap.size w w') : Rp b s i err pl w' := h.of_block (hb.block b h.lt)
theorem alloc (h : Rp b s i err pl w) (o : Obj) : Rp b s i err pl (w.alloc o) := h.below ((Below.refl _ _).alloc (Nat.le_refl _) o)
theorem grown {row : Option Nat} (h : Rp b s i err pl w) (hg : w.grownBy w' row) (hb : some b ≠ row) : Rp b s i err pl w' := h.of_block (hg.block b h.lt hb)
theorem set1 (h : Rp b s i err pl w) (j : Nat) : Rp b s j err pl (w.setCell ⟨b, 1, none⟩ (.int .i64 (j : Int))) :=
  ⟨(World.cell?_setCell_other w _ _ _ (by simp)).trans h.c0, World.cell?_setCell_same w _ _ h.c1, (World.cell?_setCell_other w _ _ _ (by simp)).trans h.c2, (World.cell?_setCell_other w _ _ _ (by simp)).trans h.c3, by simp [h.f1], by simp [h.f2], by simp [h.f3]⟩
theorem set2 (h : Rp b s i err pl w) (e : Int) : Rp b s i e pl (w.setCell ⟨b, 2, none⟩ (.int .i64 e)) :=
  ⟨(World.cell?_setCell_other w _ _ _ (by simp)).trans h.c0, (World.cell?_setCell_other w _ _ _ (by simp)).trans h.c1, World.cell?_setCell_same w _ _ h.c2, (World.cell?_setCell_other w _ _ _ (by simp)).trans h.c3, by simp [h.f1], by simp [h.f2], by simp [h.f3]⟩
theorem set3 (h : Rp b s i err pl w) (e : Int) : Rp b s i err e (w.setCell ⟨b, 3, none⟩ (.int .i64 e)) :=
  ⟨(World.cell?_setCell_other w _ _ _ (by simp)).trans h.c0, (World.cell?_setCell_other w _ _ _ (by simp)).trans h.c1, (World.cell?_setCell_other w _ _ _ (by simp)).trans h.c2, World.cell?_setCell_same w _ _ h.c3, by simp [h.f1], by simp [h.f2], by simp [h.f3]⟩
end Rp
set_option maxHeartbeats 1000000 in
set_option maxRecDepth 100000 in
theorem rskip_any (b : Nat) (s : ByteArray) (i : Nat) (err pl : Int) (w : World) (h : Rp b s i err pl w) (hi : i ≤ s.size) (hs : s.size ≤ 2000) :
    Calls Tryz.prog 132 #[.pointer (some ⟨b, 0, none⟩)] w fun e w' =>
      e = .returned (.tuple #[]) ∧ Rp b s (Ex.skip s.data.toList i) err pl w' ∧ Keep b w w' := by
  have HL : Hid (s.data.toList.length = s.size) := by show _ = _; simp
  go_enter Tryz.func132, Tryz.ntmps132
  go_wp2
  go_loopg [] (s.size - i) (fun n wr => ∃ j : Nat, j ≤ s.size ∧ n = s.size - j ∧ Rp b s j err pl wr ∧ Keep b w wr ∧ Ex.skip s.data.toList j = Ex.skip s.data.toList i)
  case atStart => exact ⟨i, hi, rfl, h, Keep.refl _ _, rfl⟩
  case round =>
    obtain ⟨j, hj, hn, hr, hk, hsk⟩ := hrel
    have HN := hide hn
    have HR := hide hr
    have HK := hide hk
    have HS := hide hsk
    obtain ⟨c0, c1, c2, c3, f1, f2, f3⟩ := hr
    clear hn hk hsk h
    by_cases hlt : j < s.size
    · have hlt' : (j : Int) < (s.size : Int) := by omega
      cases hb : ((s[j].toNat : Int) == 32) with
      | true =>
        have HX : Hid (Ex.skip s.data.toList (j + 1) = Ex.skip s.data.toList i) := by
          show _ = _
          rw [← Ex.skip_blank s.data.toList j (by rw [HL.out]; exact hlt) (blank_at s j hlt hb)]; exact HS.out
        go_wp2_with fail
        go_quiet (fail)
        go_wp2
        go_roundg (s.size - (j + 1))
        case measure => rw [HN.out]; omega
        case rel => exact ⟨j + 1, by omega, rfl, ((HR.out.drewN _).set1 (j + 1)), (HK.out.drewN _).setCell rfl _, HX.out⟩
      | false =>
        have HX : Hid (Ex.skip s.data.toList i = j) := by
          show _ = _
          rw [← HS.out]; exact Ex.skip_stop s.data.toList j (by rw [HL.out]; exact hlt) (not_blank_at s j hlt hb)
        go_wp2_with fail
        go_quiet (fail)
        go_wp2
        go_end0
        refine ⟨rfl, ?_, ?_⟩
        · rw [HX.out]; exact HR.out.drewN _
        · exact HK.out.drewN _
    · have hlt' : decide ((j : Int) < (s.size : Int)) = false := decide_eq_false (by omega)
      have HX : Hid (Ex.skip s.data.toList i = j) := by
        show _ = _
        rw [← HS.out]; exact Ex.skip_end s.data.toList j (by rw [HL.out]; omega)
      go_wp2_with fail
      go_quiet (fail)
      go_wp2
      go_end0
      refine ⟨rfl, ?_, ?_⟩
      · rw [HX.out]; exact HR.out.drewN _
      · exact HK.out.drewN _
/-- the sign's first byte, 0 behind the end -/
def rsg (l : List UInt8) (i : Nat) : Nat := if i < l.length then (l.getD i 0).toNat else 0
theorem rsg_at (s : ByteArray) (i : Nat) (h : i < s.size) : rsg s.data.toList i = s[i].toNat := by
  unfold rsg
  have e : s.data.toList.length = s.size := by simp
  rw [if_pos (by rw [e]; exact h), getD_byte s i h]
theorem rsg_end (s : ByteArray) (i : Nat) (h : ¬ i < s.size) : rsg s.data.toList i = 0 := by
  unfold rsg
  have e : s.data.toList.length = s.size := by simp
  rw [if_neg (by rw [e]; exact h)]
/-- of signs that are neither 0 nor blanks both say the same -/
theorem rsg_iff (l : List UInt8) (i c : Nat) (h0 : c ≠ 0) (h32 : c ≠ 32) : rsg l i = c ↔ Ex.sg l i = c := by
  unfold rsg Ex.sg
  by_cases h : i < l.length
  · rw [if_pos h, if_pos h]
  · rw [if_neg h, if_neg h]; omega
set_option maxRecDepth 100000 in
theorem rnext_any (b : Nat) (s : ByteArray) (i : Nat) (err pl : Int) (w : World) (h : Rp b s i err pl w) (hi : i ≤ s.size) (hs : s.size ≤ 2000) :
    Calls Tryz.prog 81 #[.pointer (some ⟨b, 0, none⟩)] w fun e w' =>
      e = .returned (.int .u8 (rsg s.data.toList (Ex.skip s.data.toList i))) ∧ Rp b s (Ex.skip s.data.toList i) err pl w' ∧ Keep b w w' := by
  have HL : Hid (s.data.toList.length = s.size) := by show _ = _; simp
  have HS := hide (rskip_any b s i err pl w h hi hs)
  have hle := Ex.skip_le s.data.toList i (by rw [HL.out]; exact hi)
  rw [HL.out] at hle
  clear h
  generalize Ex.skip s.data.toList i = j at *
  go_enter Tryz.func81, Tryz.ntmps81
  go_wp2_with fail
  refine HS.out.mono ?_
  rintro e w1 ⟨rfl, hr, hk⟩
  have HR := hide hr
  have HK := hide hk
  obtain ⟨c0, c1, c2, c3, f1, f2, f3⟩ := hr
  clear hk HS
  by_cases hlt : j < s.size
  · have hlt' : (j : Int) < (s.size : Int) := by omega
    have HX := hide (rsg_at s j hlt)
    go_wp2_with fail
    go_quiet (fail)
    go_wp2
    go_quiet (fail)
    go_wp2
    go_ret
    exact ⟨ret_u8 (by rw [HX.out]), (HR.out.drewN _).drewN _, (HK.out.drewN _).drewN _⟩
  · have hlt' : decide ((j : Int) < (s.size : Int)) = false := decide_eq_false (by omega)
    have HX := hide (rsg_end s j hlt)
    go_wp2_with fail
    go_quiet (fail)
    go_wp2
    go_ret
    exact ⟨ret_u8 (by rw [HX.out]; rfl), HR.out.drewN _, HK.out.drewN _⟩
set_option maxRecDepth 100000 in
theorem rfail_any (b : Nat) (s : ByteArray) (i : Nat) (pl n : Int) (w : World) (h : Rp b s i 0 pl w) (hi : i ≤ s.size) (hs : s.size ≤ 2000) :
    Calls Tryz.prog 82 #[.pointer (some ⟨b, 0, none⟩), .int .i64 n] w fun e w' =>
      e = .returned (.pointer none) ∧ Rp b s (Ex.skip s.data.toList i) n (Ex.skip s.data.toList i : Nat) w' ∧ Keep b w w' := by
  have HS := hide (rskip_any b s i 0 pl w h hi hs)
  clear h
  generalize Ex.skip s.data.toList i = j at *
  go_enter Tryz.func82, Tryz.ntmps82
  go_wp2_with fail
  refine HS.out.mono ?_
  rintro e w1 ⟨rfl, hr, hk⟩
  have HR := hide hr
  have HK := hide hk
  obtain ⟨c0, c1, c2, c3, f1, f2, f3⟩ := hr
  clear hk HS
  go_wp2_with fail
  go_ret
  exact ⟨rfl, (HR.out.set2 n).set3 _, (HK.out.setCell rfl _).setCell rfl _⟩
def endSigns : ByteArray := ⟨#[32, 38, 124, 33, 94, 126, 40, 41, 61]⟩
theorem endSigns1 : (endSigns[1]'(by decide)).toNat = 38 := by decide
theorem encode_high : ∀ c : Fin 128, (Utf8.encode ((128 + c.val : Nat) : Int)).size = 2 ∧ 128 ≤ ((Utf8.encode ((128 + c.val : Nat) : Int)).get! 1).toNat ∧ Lib.indexByte (endSigns.extract 2 9).data.toList ((Utf8.encode ((128 + c.val : Nat) : Int)).get! 1) = -1 := by decide +kernel
set_option maxHeartbeats 2000000 in
set_option maxRecDepth 100000 in
theorem indexRune_walk (s rs : ByteArray) (c yn : Nat) (h1 : 128 ≤ c) (h2 : c < 256) (hsz : s.size = 9) (hs1 : (s[1]'(by omega)).toNat = 38) (hen : Utf8.encode (c : Int) = rs) (hrs : rs.size = 2) (hrs1 : (rs[1]'(by omega)).toNat = yn) (hy : 128 ≤ yn)
    (hx : Lib.indexByte (s.extract 2 9).data.toList (yn : Int).toNat.toUInt8 = -1) (w : World) :
    Calls Tryz.prog 238 #[.string s, .int .i32 (c : Int)] w fun e w' => e = .returned (.int .i64 (-1)) ∧ ∃ n, w' = w.drewN n := by
  have hv : Lib.validRune (c : Int) = true := by unfold Lib.validRune; simp; omega
  have e1 : ¬ (c : Int) < 128 := by omega
  have e2 : ((c : Int) == 65533) = false := beq_eq_false_iff_ne.2 (by omega)
  have e3 : ((38 : Int) != (yn : Int)) = true := by simp; omega
  have hw2 : IntKind.i64.wrap 2 = 2 := by decide
  clear hy
  go_enter Tryz.func238, Tryz.ntmps238
  go_wp2_with fail
  refine (Tryz.utf8_ValidRune (c : Int) w).mono ?_
  rintro e w1 ⟨rfl, rfl⟩
  rw [hv]
  go_wp2_with fail
  go_step3
  go_wp2_with fail
  go_loop [9] (fun i => i = .int .i64 1) (fun _ => 0)
  case atStart => exact rfl
  case round =>
    obtain rfl := hrel
    go_wp2_with fail
    go_step3
    go_wp2_with fail
    go_quiet (fail)
    go_wp2_with fail
    go_quiet ((go_at_call 110; refine (Tryz.strings_IndexByte _ _ _).mono ?_; rintro e w'' ⟨rfl, rfl⟩; exact ⟨rfl, _, rfl⟩))
    rw [hx]
    go_wp2_with fail
    rw [Exit.noGoto_ret]
    go_wp2_with fail
    first | rw [Exit.noGoto_ret] | skip
    go_ret
    exact ⟨rfl, _, rfl⟩
theorem indexRune_high (c : Nat) (h1 : 128 ≤ c) (h2 : c < 256) (w : World) :
    Calls Tryz.prog 238 #[.string ⟨#[32, 38, 124, 33, 94, 126, 40, 41, 61]⟩, .int .i32 (c : Int)] w fun e w' => e = .returned (.int .i64 (-1)) ∧ ∃ n, w' = w.drewN n := by
  have hen := encode_high ⟨c - 128, by omega⟩
  rw [show (128 + (⟨c - 128, by omega⟩ : Fin 128).val) = c from by show 128 + (c - 128) = c; omega] at hen
  obtain ⟨rs, hrs⟩ : ∃ rs, Utf8.encode (c : Int) = rs := ⟨_, rfl⟩
  rw [hrs] at hen
  obtain ⟨e1, e2, e3⟩ := hen
  have hg : rs.get! 1 = rs[1]'(by omega) := getElem!_pos rs.data 1 (by show 1 < rs.size; omega)
  rw [hg] at e2 e3
  refine indexRune_walk endSigns rs c _ h1 h2 (by decide) endSigns1 hrs e1 rfl e2 ?_ w
  generalize rs[1]'(by omega) = y at *
  have : ((y.toNat : Int).toNat.toUInt8) = y := by simp
  rw [this]
  exact e3
set_option maxHeartbeats 1000000 in
set_option maxRecDepth 100000 in
theorem containsRune_any (c : Nat) (hc : c < 256) (w : World) :
    Calls Tryz.prog 203 #[.string ⟨#[32, 38, 124, 33, 94, 126, 40, 41, 61]⟩, .int .i32 (c : Int)] w fun e w' => e = .returned (.bool (Ex.ends c)) ∧ ∃ n, w' = w.drewN n := by
  by_cases h1 : c < 128
  · refine (Tryz.strings_ContainsRune_ascii _ (c : Int) w (by omega) (by omega)).mono ?_
    rintro e w' ⟨rfl, rfl⟩
    exact ⟨ret_bool (ends_index c hc), 0, rfl⟩
  · have hx : Ex.ends c = false := by
      have : ∀ c : Fin 128, Ex.ends (128 + c.val) = false := by decide +kernel
      have := this ⟨c - 128, by omega⟩
      rwa [show (128 + (⟨c - 128, by omega⟩ : Fin 128).val) = c from by show 128 + (c - 128) = c; omega] at this
    rw [hx]
    have HX := hide (indexRune_high c (by omega) hc w)
    clear hx h1 hc
    generalize (⟨#[32, 38, 124, 33, 94, 126, 40, 41, 61]⟩ : ByteArray) = s at *
    go_enter Tryz.func203, Tryz.ntmps203
    go_wp2_with fail
    refine HX.out.mono ?_
    rintro e w1 ⟨rfl, n, rfl⟩
    go_wp2_with fail
    go_ret
    exact ⟨rfl, n, rfl⟩
end
end Go.Proofs.YtgldbliohpfljaaGreatDoor
