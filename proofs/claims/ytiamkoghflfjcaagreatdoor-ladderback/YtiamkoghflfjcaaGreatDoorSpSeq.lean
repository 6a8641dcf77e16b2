/-
  The walk of strings.SplitSeq's iterator, at one byte: the pieces between these bytes, one by one.
-/
import Derived.Test.YtiamkoghflfjcaaGreatDoorRgLaw
import Derived.Test.YtiamkoghflfjcaaGreatDoorLdBack
import Derived.Test.YtiamkoghflfjcaaGreatDoorShelf
import Derived.Test.YtiamkoghflfjcaaGreatDoorNmWalk
namespace Go.Proofs.YtiamkoghflfjcaaGreatDoor
open Go.RowKit
attribute [local go_sem] Oper.semAt_some
namespace Ld
theorem split_len (c : UInt8) (l : List UInt8) : (split c l).length ≤ l.length + 1 := by
  induction l with
  | nil => simp [split]
  | cons a r ih =>
    unfold split
    by_cases h : a = c
    · rw [if_pos h]; simp only [List.length_cons]; omega
    · rw [if_neg h]
      cases hs : split c r with
      | nil => simp
      | cons x y => rw [hs] at ih; simp only [List.length_cons] at ih ⊢; omega
theorem index_split (c : UInt8) (l : List UInt8) : (Lib.indexByte l c = -1 ∧ c ∉ l) ∨ ∃ a r, l = a ++ c :: r ∧ c ∉ a ∧ Lib.indexByte l c = (a.length : Int) := by
  induction l with
  | nil => exact .inl ⟨rfl, by simp⟩
  | cons b t ih =>
    by_cases h : b = c
    · exact .inr ⟨[], t, by simp [h], by simp, by simp [Lib.indexByte, h]⟩
    · have hb : (b == c) = false := by simpa using h
      rcases ih with ⟨h1, h2⟩ | ⟨a, r, h1, h2, h3⟩
      · exact .inl ⟨by simp [Lib.indexByte, hb, h1], by simp [h2, Ne.symm h]⟩
      · refine .inr ⟨b :: a, r, by simp [h1], by simp [h2, Ne.symm h], ?_⟩
        have hne : ¬ ((a.length : Int) = -1) := by omega
        simp [Lib.indexByte, hb, h3, hne]
end Ld
/-- a piece of a text of at most so many bytes -/
abbrev Piece (M : Nat) := { l : List UInt8 // l.length ≤ M }
def left1 (bs : Nat) (W : World) : Nat := match W.cell? ⟨bs, 0, none⟩ with
  | some (.string s) => s.size + 1
  | _ => 0
set_option maxHeartbeats 2000000 in
set_option maxRecDepth 100000 in
theorem splitSeq1_seq (c : UInt8) (s : List UInt8) (bs bsep bsv M : Nat) (w : World) (hM : s.length ≤ M) (hM2 : M ≤ 1000000) (h1 : w.heap[bs]? = some (.cells #[.string ⟨s.toArray⟩] 9 (0, 0))) (h2 : w.heap[bsep]? = some (.cells #[.string ⟨#[c]⟩] 9 (0, 0))) (h3 : w.heap[bsv]? = some (.cells #[.int .i64 0] 3 (0, 0))) (hn2 : bs ≠ bsep) (hn3 : bs ≠ bsv) :
    SeqX Tryz.prog 213 #[.pointer (some ⟨bsep, 0, none⟩), .pointer (some ⟨bs, 0, none⟩), .pointer (some ⟨bsv, 0, none⟩)] (fun x : Piece M => #[.string ⟨x.1.toArray⟩]) (fun _ k => k = bs ∨ k = bsep ∨ k = bsv) 0 (fun xs => xs.map (·.1) = Ld.split c s) (fun pre => ∃ r, Ld.split c s = pre.map (·.1) ++ r) (s.length + 1) w := by
  intro l J Jx W hW hJ hJx hY h0
  have hb1 : bs < w.heap.size := (Array.getElem?_eq_some_iff.1 h1).1
  have hb2 : bsep < w.heap.size := (Array.getElem?_eq_some_iff.1 h2).1
  have hb3 : bsv < w.heap.size := (Array.getElem?_eq_some_iff.1 h3).1
  have k1 := (hW.block _ hb1).trans h1
  have k2 := (hW.block _ hb2).trans h2
  have k3 := (hW.block _ hb3).trans h3
  have c1 : W.cell? ⟨bsep, 0, none⟩ = some (.string ⟨#[c]⟩) := by rw [Lib.cell_of_heap k2]; rfl
  refine callsIn_wide.1 (callsIn_of_wp (n := 0) Tryz.func213 rfl trivial ?_ rfl)
  simp only [Tryz.ntmps213, List.size_toArray, List.length_cons, List.length_nil, Nat.reduceAdd, Nat.reduceSub, Array.replicate_succ, Array.replicate_zero, List.push_toArray, List.append_toArray, List.nil_append, List.cons_append]
  gi_wp2
  gi_loopw [7] (fun _ wr => ∃ (pre : List (Piece M)) (rest : List UInt8), Ld.split c s = pre.map (·.1) ++ Ld.split c rest ∧ rest.length ≤ s.length ∧ wr.heap[bs]? = some (.cells #[.string ⟨rest.toArray⟩] 9 (0, 0)) ∧ wr.heap[bsep]? = some (.cells #[.string ⟨#[c]⟩] 9 (0, 0)) ∧ wr.heap[bsv]? = some (.cells #[.int .i64 0] 3 (0, 0)) ∧ W.heap.size ≤ wr.heap.size ∧ J pre wr) (fun _ wr => left1 bs wr)
  case atStart => exact ⟨[], s, rfl, Nat.le_refl _, k1, k2, k3, Nat.le_refl _, h0⟩
  case round =>
    clear k1 k2 k3 c1
    obtain ⟨pre, rest, hsp, hrl, k1, k2, k3, hsz, hj⟩ := hrel
    have c1 : wr.cell? ⟨bsep, 0, none⟩ = some (.string ⟨#[c]⟩) := by rw [Lib.cell_of_heap k2]; rfl
    have c2 : wr.cell? ⟨bs, 0, none⟩ = some (.string ⟨rest.toArray⟩) := by rw [Lib.cell_of_heap k1]; rfl
    have c3 : wr.cell? ⟨bsv, 0, none⟩ = some (.int .i64 0) := by rw [Lib.cell_of_heap k3]; rfl
    have HIX := hide (Tryz.strings_Index_one ⟨rest.toArray⟩ c wr)
    have hlenN : pre.length < s.length + 1 := by
      have h1 := congrArg List.length hsp
      have h2 := Ld.split_len c s
      have h3 := Ld.split_ne c rest
      have h4 : 0 < (Ld.split c rest).length := List.length_pos_iff.2 h3
      rw [List.length_append, List.length_map] at h1
      omega
    rcases Ld.index_split c rest with ⟨hi, hno⟩ | ⟨a, r, hr, hno, hi⟩
    · have e : (⟨rest.toArray⟩ : ByteArray).data.toList = rest := rfl
      rw [e, hi] at HIX
      obtain ⟨fn, tmps, assign, body, hy, hR⟩ := hY pre ⟨rest, by omega⟩ wr hj hlenN (by omega)
      dsimp only at hy
      have HR := hide hR
      have HFIN : Hid (Ld.split c s = pre.map (·.1) ++ [rest]) := by show _ = _; rw [hsp, Ld.split_none c rest hno]
      clear hR
      gi_wp2_with fail
      refine ⟨trivial, rfl, ?_⟩
      refine (callsIn_wide.2 HIX.out).mono ?_
      rintro e w' ⟨rfl, rfl⟩
      gi_wp2_with fail
      refine ⟨rfl, (round_any HR.out).mono ?_⟩
      rintro e W' (⟨rfl, hJ', hk⟩ | ⟨rfl, hJx', hk⟩)
      · gi_wp2_with fail
        go_end0
        exact ⟨⟨_, rfl⟩, .inl ⟨_, by rw [HFIN.out]; simp, hJ'⟩⟩
      · gi_wp2_with fail
        go_end0
        exact ⟨⟨_, rfl⟩, .inr ⟨_, ⟨[], by rw [HFIN.out]; simp⟩, hJx'⟩⟩
    · have e : (⟨rest.toArray⟩ : ByteArray).data.toList = rest := rfl
      rw [e, hi] at HIX
      have hal : a.length ≤ M := by have := congrArg List.length hr; simp at this; omega
      obtain ⟨fn, tmps, assign, body, hy, hR⟩ := hY pre ⟨a, hal⟩ wr hj hlenN (by omega)
      dsimp only at hy
      have HR := hide hR
      clear hR
      have hrlen : (⟨rest.toArray⟩ : ByteArray).size = rest.length := by simp [ByteArray.size]
      have hlr : rest.length = a.length + 1 + r.length := by rw [hr]; simp; omega
      have HRE := hide hr
      have hx1 : (⟨rest.toArray⟩ : ByteArray).extract 0 a.length = ⟨a.toArray⟩ := by
        apply ByteArray.ext
        rw [ByteArray.data_extract]
        show rest.toArray.extract 0 a.length = a.toArray
        rw [List.extract_toArray, hr]
        simp [List.extract]
      have hx2 : (⟨rest.toArray⟩ : ByteArray).extract (a.length + 1) (a.length + 1 + r.length) = ⟨r.toArray⟩ := by
        apply ByteArray.ext
        rw [ByteArray.data_extract]
        show rest.toArray.extract (a.length + 1) (a.length + 1 + r.length) = r.toArray
        rw [List.extract_toArray, hr]
        have e1 : (a ++ c :: r) = (a ++ [c]) ++ r := by simp
        have e2 : a.length + 1 = (a ++ [c]).length := by simp
        rw [e1, e2, List.extract, List.drop_left, Nat.add_sub_cancel_left, List.take_length]
      rw [← hx1] at hy
      have HX2 := hide hx2
      have HSP : Hid (Ld.split c s = (pre ++ [(⟨a, hal⟩ : Piece M)]).map (·.1) ++ Ld.split c r) := by
        show _ = _
        rw [hsp, hr, Ld.split_at c a r hno, List.map_append]; simp
      have HLM : Hid (left1 bs wr = rest.length + 1) := by show _ = _; unfold left1; rw [c2]; simp only [hrlen]
      clear hr hx1 hx2
      gi_wp2_with fail
      refine ⟨trivial, rfl, ?_⟩
      refine (callsIn_wide.2 HIX.out).mono ?_
      rintro e w' ⟨rfl, rfl⟩
      gi_wp2_with fail
      refine ⟨rfl, (round_any HR.out).mono ?_⟩
      rintro e W' (⟨rfl, hJ', hk⟩ | ⟨rfl, hJx', hk⟩)
      · have g1 := (hk.2 bs (.inl rfl)).trans k1
        have g2 := (hk.2 bsep (.inr (.inl rfl))).trans k2
        have g3 := (hk.2 bsv (.inr (.inr rfl))).trans k3
        have d1 : W'.cell? ⟨bsep, 0, none⟩ = some (.string ⟨#[c]⟩) := by rw [Lib.cell_of_heap g2]; rfl
        have d2 : W'.cell? ⟨bs, 0, none⟩ = some (.string ⟨rest.toArray⟩) := by rw [Lib.cell_of_heap g1]; rfl
        have f2 : W'.frozen? ⟨bs, 0, none⟩ = false := Lib.frozen_of_heap g1 0
        have HJ' := hide hJ'
        have G1 := hide g1
        have G2 := hide g2
        have G3 := hide g3
        have HKS := hide hk.1
        clear hJ' hk g1 g2 g3 k1 k2 k3 c1 c2 c3 hY HR HIX hy
        gi_wp2_with fail
        rw [HX2.out]
        refine ⟨⟨pre ++ [⟨a, hal⟩], r, HSP.out, by omega, ?_, ?_, ?_, ?_, ?_⟩, ?_⟩
        · simp [World.setCell, Array.getElem?_modify, G1.out]
        · rw [Below.heap_setCell _ _ _ _ (fun e => hn2 (by simpa using e.symm))]; exact G2.out
        · rw [Below.heap_setCell _ _ _ _ (fun e => hn3 (by simpa using e.symm))]; exact G3.out
        · have := HKS.out
          simp [World.setCell]; omega
        · exact hJ _ W' _ (some bs) HJ'.out ⟨rfl, rfl, rfl, by simp [World.setCell], fun k _ hk => Below.heap_setCell _ _ _ _ (fun e => hk (by simp [e]))⟩ (fun r e => by cases e; exact .inl rfl)
        · rw [HLM.out]
          have hc : (W'.setCell ⟨bs, 0, none⟩ (.string ⟨r.toArray⟩)).cell? ⟨bs, 0, none⟩ = some (.string ⟨r.toArray⟩) := World.cell?_setCell_same' _ _ _ (by rw [Lib.cell_of_heap G1.out]; rfl)
          unfold left1
          rw [hc]
          have : (⟨r.toArray⟩ : ByteArray).size = r.length := by simp [ByteArray.size]
          simp only [this]
          omega
      · gi_wp2_with fail
        refine bodyPost_ret_by (v := .tuple #[]) ?_ rfl ⟨⟨_, rfl⟩, .inr ⟨_, ⟨Ld.split c r, HSP.out⟩, hJx'⟩⟩
        simp [results, Tryz.results213, go_sem]
end Go.Proofs.YtiamkoghflfjcaaGreatDoor
