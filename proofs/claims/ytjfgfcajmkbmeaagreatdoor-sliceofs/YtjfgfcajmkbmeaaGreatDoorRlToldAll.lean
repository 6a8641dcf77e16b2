/-
  The walks of package ladder's writeName, writeRung and Text: what is written is the plain function 'text'. The walks of package ladder's writeRung and Text: what is written is the plain function 'text'. The walk of package ladder's Text. The walk of the document's Told, at one number.
-/
import Derived.Test.YtjfgfcajmkbmeaaGreatDoorRtBoundAll
import Derived.Test.YtjfgfcajmkbmeaaGreatDoorTxList
import Derived.Test.YtjfgfcajmkbmeaaGreatDoorShelf
import Derived.Lib.LaidTab
import Derived.Lib.ItoaMem
import Derived.WalkMore
import Derived.Test.YtjfgfcajmkbmeaaGreatDoorSpSeqAll
import Derived.Test.YtjfgfcajmkbmeaaGreatDoorRlLineAll
import Derived.Test.YtjfgfcajmkbmeaaGreatDoorRpRuneAll
import Derived.Test.YtjfgfcajmkbmeaaGreatDoorRxText
namespace Go.Proofs.YtjfgfcajmkbmeaaGreatDoor
section
open Go.RowKit
theorem ws_any (b : Nat) (l t : List UInt8) (w : World) (h : Bld b (Lib.byteCells l) w) (hlen : l.length + t.length ≤ 100000000) :
    Calls Tryz.prog 52 #[.pointer (some ⟨b, 0, none⟩), .string ⟨t.toArray⟩] w fun e w' => e = .returned (.tuple #[.int .i64 (t.length : Int), .nilIface]) ∧ Bld b (Lib.byteCells (l ++ t)) w' ∧ Kb b w w' := by
  have hs : (⟨t.toArray⟩ : ByteArray).size = t.length := by simp [ByteArray.size]
  refine (WriteString_any b _ ⟨t.toArray⟩ w h (by rw [Lib.byteCells_length, hs]; omega)).mono ?_
  rintro e w1 ⟨rfl, hb, hk⟩
  exact ⟨by rw [hs], by rw [byteCells_append, ← strCells_of t]; exact hb, hk⟩
set_option maxHeartbeats 4000000 in
set_option maxRecDepth 100000 in
theorem writeName_any (b : Nat) (l nm : List UInt8) (k : Nat) (c : Int) (w : World) (hB : Bld b (Lib.byteCells l) w) (hW : Words w) (hP : Pows w) (hG : 14 ≤ b) (hk : 1 ≤ k ∧ k ≤ 4) (hc : Ld.mayCount (k : Int) c = true) (hn : nm.length ≤ 8) (hl : l.length ≤ 1000000) :
    Calls Tryz.prog 25 #[.pointer (some ⟨b, 0, none⟩), .agg #[.string ⟨nm.toArray⟩, .int .i64 (k : Int), .int .i64 c]] w (Writes b l (Ld.nameT ⟨nm, (k : Int), c⟩ ++ [10]) w) := by
  have hlt := hB.lt
  obtain ⟨wA, hwA⟩ : ∃ wA, wA = w.alloc (.cells #[.string ⟨nm.toArray⟩, .int .i64 (k : Int), .int .i64 c] 62) := ⟨_, rfl⟩
  have hbA : Below w.heap.size w wA := by rw [hwA]; exact (Below.refl _ _).alloc (Nat.le_refl _) _
  have hnew : wA.heap[w.heap.size]? = some (.cells #[.string ⟨nm.toArray⟩, .int .i64 (k : Int), .int .i64 c] 62 (0, 0)) := by rw [hwA]; exact heap_alloc_new w _
  have HBX : Hid (∀ W, Kb b wA W → W.cell? ⟨w.heap.size, 0, none⟩ = some (.string ⟨nm.toArray⟩) ∧ W.cell? ⟨w.heap.size, 1, none⟩ = some (.int .i64 (k : Int)) ∧ W.cell? ⟨w.heap.size, 2, none⟩ = some (.int .i64 c) ∧ Words W ∧ Pows W) := by
    intro W hW'
    have hh := hW'.cell hnew (by omega) (by decide)
    have hlow : Below b w W := (hbA.mono (by omega)).trans hW'.1
    exact ⟨by rw [Lib.cell_of_heap hh]; rfl, by rw [Lib.cell_of_heap hh]; rfl, by rw [Lib.cell_of_heap hh]; rfl, hW.low hlow hG, hP.low hlow hG⟩
  have HKA : Hid (Kb b w wA) := Kb.of_below hbA (by omega)
  have HBA := hide (hB.below hbA)
  have hkw : (Ld.nameW k).length ≤ 7 := by
    have : k = 1 ∨ k = 2 ∨ k = 3 ∨ k = 4 := by omega
    rcases this with rfl | rfl | rfl | rfl <;> decide
  have hword : wA.cell? ⟨3, k, none⟩ = some (.string ⟨(Ld.nameW k).toArray⟩) := (HBX.out wA (Kb.refl _ _)).2.2.2.1.1 k (by omega)
  have HC1 := hide (ws_any b l (Ld.nameW k) wA HBA.out (by omega))
  have HWA := hide hwA
  have HT : Hid (Ld.nameT ⟨nm, (k : Int), c⟩ = Ld.nameW k ++ [32] ++ nm ++ (if Ld.counted (k : Int) then 32 :: Lib.itoa c else [])) := by show _ = _; simp [Ld.nameT]
  rw [HWA.out] at HC1 hword
  clear hB hW hP hnew hbA hwA HBA
  generalize Ld.nameT ⟨nm, (k : Int), c⟩ = T at *
  generalize Ld.nameW k = kw at *
  go_enter Tryz.func25, Tryz.ntmps25
  cases hcnt : Ld.counted (k : Int) with
  | false =>
    rw [hcnt] at HT
    go_wp2_with fail
    refine HC1.out.mono ?_
    rintro e w1 ⟨rfl, hb1, hk1⟩
    rw [← HWA.out] at hk1
    have HK1 := hide hk1
    obtain ⟨x0_1, x1_1, x2_1, _⟩ := HBX.out w1 HK1.out
    have HC2 := hide (ws_any b _ [32] w1 hb1 (by simp only [List.length_append, List.length_cons, List.length_nil]; omega))
    clear hb1 hk1 HC1
    go_wp2_with fail
    refine HC2.out.mono ?_
    rintro e w2 ⟨rfl, hb2, hk2⟩
    have HK2 := hide (HK1.out.trans hk2)
    obtain ⟨x0_2, x1_2, x2_2, _⟩ := HBX.out w2 HK2.out
    have HC3 := hide (ws_any b _ nm w2 hb2 (by simp only [List.length_append, List.length_cons, List.length_nil]; omega))
    clear hb2 hk2 HC2
    go_wp2_with fail
    refine HC3.out.mono ?_
    rintro e w3 ⟨rfl, hb3, hk3⟩
    have HK3 := hide (HK2.out.trans hk3)
    obtain ⟨x0_3, x1_3, x2_3, _⟩ := HBX.out w3 HK3.out
    have HC4 := hide (ws_any b _ [10] w3 hb3 (by simp only [List.length_append, List.length_cons, List.length_nil]; omega))
    clear hb3 hk3 HC3
    go_wp2_with (go_at_call 53; refine (isCounted_any _ _).mono ?_; rintro e w' ⟨rfl, rfl⟩; rw [hcnt])
    refine HC4.out.mono ?_
    rintro e w4 ⟨rfl, hb4, hk4⟩
    have HK4 := hide (HK3.out.trans hk4)
    obtain ⟨x0_4, x1_4, x2_4, _⟩ := HBX.out w4 HK4.out
    have HBL4 := hide hb4
    clear hb4 hk4 HC4
    go_wp2_with fail
    go_end0
    refine ⟨rfl, ?_, HKA.out.trans HK4.out⟩
    have e : l ++ (T ++ [10]) = l ++ kw ++ [32] ++ nm ++ [10] := by rw [HT.out]; simp
    rw [e]
    exact HBL4.out
  | true =>
    rw [hcnt] at HT
    have hc17 : 1 ≤ c ∧ c ≤ 7 := by simpa [Ld.mayCount, hcnt] using hc
    have hil := itoa_len c (by omega)
    have HIT0 : Hid (∀ W, Pows W → Calls Tryz.prog 54 #[.int .i64 c] W fun e w' => e = .returned (.string ⟨(Lib.itoa c).toArray⟩) ∧ Below W.heap.size W w') := by
      intro W hp
      refine (Tryz.strconv_Itoa c (by omega) (by omega) W hp).mono ?_
      rintro e w4 ⟨rfl, kk, os, rfl⟩
      exact ⟨rfl, bgrow _ _ _⟩
    generalize Lib.itoa c = ic at *
    go_wp2_with fail
    refine HC1.out.mono ?_
    rintro e w1 ⟨rfl, hb1, hk1⟩
    rw [← HWA.out] at hk1
    have HK1 := hide hk1
    obtain ⟨x0_1, x1_1, x2_1, _⟩ := HBX.out w1 HK1.out
    have HC2 := hide (ws_any b _ [32] w1 hb1 (by simp only [List.length_append, List.length_cons, List.length_nil]; omega))
    clear hb1 hk1 HC1
    go_wp2_with fail
    refine HC2.out.mono ?_
    rintro e w2 ⟨rfl, hb2, hk2⟩
    have HK2 := hide (HK1.out.trans hk2)
    obtain ⟨x0_2, x1_2, x2_2, _⟩ := HBX.out w2 HK2.out
    have HC3 := hide (ws_any b _ nm w2 hb2 (by simp only [List.length_append, List.length_cons, List.length_nil]; omega))
    clear hb2 hk2 HC2
    go_wp2_with fail
    refine HC3.out.mono ?_
    rintro e w3 ⟨rfl, hb3, hk3⟩
    have HK3 := hide (HK2.out.trans hk3)
    obtain ⟨x0_3, x1_3, x2_3, _⟩ := HBX.out w3 HK3.out
    have HC4 := hide (ws_any b _ [32] w3 hb3 (by simp only [List.length_append, List.length_cons, List.length_nil]; omega))
    clear hb3 hk3 HC3
    go_wp2_with (go_at_call 53; refine (isCounted_any _ _).mono ?_; rintro e w' ⟨rfl, rfl⟩; rw [hcnt])
    refine HC4.out.mono ?_
    rintro e w4 ⟨rfl, hb4, hk4⟩
    have HK4 := hide (HK3.out.trans hk4)
    obtain ⟨x0_4, x1_4, x2_4, _, hp4⟩ := HBX.out w4 HK4.out
    have HIT := hide (HIT0.out w4 hp4)
    have HBL4 := hide hb4
    clear hb4 hk4 HC4 hp4
    go_wp2_with fail
    refine HIT.out.mono ?_
    rintro e w5 ⟨rfl, hb5⟩
    have HK5 := hide (HK4.out.trans (Kb.of_below hb5 (by have := HBL4.out.lt; omega)))
    have HC6 := hide (ws_any b _ ic w5 (HBL4.out.below hb5) (by simp only [List.length_append, List.length_cons, List.length_nil]; omega))
    clear hb5 HIT
    go_wp2_with fail
    refine HC6.out.mono ?_
    rintro e w6 ⟨rfl, hb6, hk6⟩
    have HK6 := hide (HK5.out.trans hk6)
    obtain ⟨x0_6, x1_6, x2_6, _⟩ := HBX.out w6 HK6.out
    have HC7 := hide (ws_any b _ [10] w6 hb6 (by simp only [List.length_append, List.length_cons, List.length_nil]; omega))
    clear hb6 hk6 HC6
    go_wp2_with fail
    refine HC7.out.mono ?_
    rintro e w7 ⟨rfl, hb7, hk7⟩
    have HK7 := hide (HK6.out.trans hk7)
    obtain ⟨x0_7, x1_7, x2_7, _⟩ := HBX.out w7 HK7.out
    have HBL7 := hide hb7
    clear hb7 hk7 HC7
    go_wp2_with fail
    go_end0
    refine ⟨rfl, ?_, HKA.out.trans HK7.out⟩
    have e : l ++ (T ++ [10]) = l ++ kw ++ [32] ++ nm ++ [32] ++ ic ++ [10] := by rw [HT.out]; simp
    rw [e]
    exact HBL7.out
end
section
open Go.RowKit
set_option maxHeartbeats 4000000 in
set_option maxRecDepth 100000 in
theorem writeRung_any (b : Nat) (l nm : List UInt8) (k : Nat) (x : Ex) (v : Value) (w : World) (hB : Bld b (Lib.byteCells l) w) (hW : Words w) (hG : 14 ≤ b) (hk : 1 ≤ k ∧ k ≤ 6) (hx : Lies b w x v) (hn : nm.length ≤ 8) (hl : l.length ≤ 50000000) (hxl : x.text.length ≤ 1000000) :
    Calls Tryz.prog 26 #[.pointer (some ⟨b, 0, none⟩), .agg #[.int .i64 (k : Int), .string ⟨nm.toArray⟩, v]] w (Writes b l (Ld.rungT ⟨(k : Int), nm, some x⟩ ++ [10]) w) := by
  have hlt := hB.lt
  obtain ⟨tu, yu, hiu⟩ := IsEx.iface x v hx
  subst hiu
  obtain ⟨wA, hwA⟩ : ∃ wA, wA = w.alloc (.cells #[.int .i64 (k : Int), .string ⟨nm.toArray⟩, .iface tu yu] 66) := ⟨_, rfl⟩
  have hbA : Below w.heap.size w wA := by rw [hwA]; exact (Below.refl _ _).alloc (Nat.le_refl _) _
  have hnew : wA.heap[w.heap.size]? = some (.cells #[.int .i64 (k : Int), .string ⟨nm.toArray⟩, .iface tu yu] 66 (0, 0)) := by rw [hwA]; exact heap_alloc_new w _
  have HKA : Hid (Kb b w wA) := Kb.of_below hbA (by omega)
  have HBX : Hid (∀ W, Kb b wA W → W.cell? ⟨w.heap.size, 0, none⟩ = some (.int .i64 (k : Int)) ∧ W.cell? ⟨w.heap.size, 1, none⟩ = some (.string ⟨nm.toArray⟩) ∧ W.cell? ⟨w.heap.size, 2, none⟩ = some (.iface tu yu) ∧ Words W ∧ Lies b W x (.iface tu yu)) := by
    intro W hW'
    have hh := hW'.cell hnew (by omega) (by decide)
    have hlow : Below b w W := (hbA.mono (by omega)).trans hW'.1
    exact ⟨by rw [Lib.cell_of_heap hh]; rfl, by rw [Lib.cell_of_heap hh]; rfl, by rw [Lib.cell_of_heap hh]; rfl, hW.low hlow hG, hx.keep (HKA.out.trans hW')⟩
  have HTX0 : Hid (∀ W, Lies b W x (.iface tu yu) → Calls Tryz.prog 55 #[.iface tu yu] W fun e w' => e = .returned (.string ⟨x.text.toArray⟩) ∧ Below W.heap.size W w') := fun W h => Text_any _ x _ W h hxl
  have HBA := hide (hB.below hbA)
  have hkw : (Ld.rungW k).length ≤ 5 := by
    have : k = 1 ∨ k = 2 ∨ k = 3 ∨ k = 4 ∨ k = 5 ∨ k = 6 := by omega
    rcases this with rfl | rfl | rfl | rfl | rfl | rfl <;> decide
  have hword : wA.cell? ⟨4, k, none⟩ = some (.string ⟨(Ld.rungW k).toArray⟩) := (HBX.out wA (Kb.refl _ _)).2.2.2.1.2 k (by omega)
  have HWA := hide hwA
  by_cases hk1 : k = 1
  · have HT : Hid (Ld.rungT ⟨(k : Int), nm, some x⟩ = nm ++ [32, 61, 32] ++ x.text) := by show _ = _; simp [Ld.rungT, Ld.headT, Ld.condT, hk1]
    have HC1 := hide (ws_any b l nm wA HBA.out (by omega))
    rw [HWA.out] at HC1
    clear hB hW hnew hbA hwA HBA hword hx
    have hkb : ((k : Int) != 1) = false := by simp [hk1]
    generalize Ld.rungT ⟨(k : Int), nm, some x⟩ = T at *
    generalize x.text = xt at *
    clear hk1
    go_enter Tryz.func26, Tryz.ntmps26
    go_wp2_with fail
    refine HC1.out.mono ?_
    rintro e w1 ⟨rfl, hb1, hk1⟩
    rw [← HWA.out] at hk1
    have HK1 := hide hk1
    obtain ⟨x0_1, x1_1, x2_1, _⟩ := HBX.out w1 HK1.out
    have HC2 := hide (ws_any b _ [32, 61, 32] w1 hb1 (by simp only [List.length_append, List.length_cons, List.length_nil]; omega))
    clear hb1 hk1 HC1
    go_wp2_with fail
    refine HC2.out.mono ?_
    rintro e w2 ⟨rfl, hb2, hk2⟩
    have HK2 := hide (HK1.out.trans hk2)
    obtain ⟨x0_2, x1_2, x2_2, _, hx2⟩ := HBX.out w2 HK2.out
    have HTX := hide (HTX0.out w2 hx2)
    have HBL2 := hide hb2
    clear hb2 hk2 HC2 hx2
    go_wp2_with fail
    refine HTX.out.mono ?_
    rintro e w3 ⟨rfl, hb3⟩
    have HK3 := hide (HK2.out.trans (Kb.of_below hb3 (by have := HBL2.out.lt; omega)))
    have HC4 := hide (ws_any b _ xt w3 (HBL2.out.below hb3) (by simp only [List.length_append, List.length_cons, List.length_nil]; omega))
    clear hb3 HTX
    go_wp2_with fail
    refine HC4.out.mono ?_
    rintro e w4 ⟨rfl, hb4, hk4⟩
    have HK4 := hide (HK3.out.trans hk4)
    obtain ⟨x0_4, x1_4, x2_4, _⟩ := HBX.out w4 HK4.out
    have HC5 := hide (ws_any b _ [10] w4 hb4 (by simp only [List.length_append, List.length_cons, List.length_nil]; omega))
    clear hb4 hk4 HC4
    go_wp2_with fail
    refine HC5.out.mono ?_
    rintro e w5 ⟨rfl, hb5, hk5⟩
    have HK5 := hide (HK4.out.trans hk5)
    obtain ⟨x0_5, x1_5, x2_5, _⟩ := HBX.out w5 HK5.out
    have HBL5 := hide hb5
    clear hb5 hk5 HC5
    go_wp2_with fail
    go_end0
    refine ⟨rfl, ?_, HKA.out.trans HK5.out⟩
    have e : l ++ (T ++ [10]) = l ++ nm ++ [32, 61, 32] ++ xt ++ [10] := by rw [HT.out]; simp
    rw [e]
    exact HBL5.out
  · have HT : Hid (Ld.rungT ⟨(k : Int), nm, some x⟩ = Ld.rungW k ++ [32] ++ nm ++ [32, 61, 32] ++ x.text) := by
      show _ = _
      have : ¬ ((k : Int) = 1) := by omega
      simp [Ld.rungT, Ld.headT, Ld.condT, this]
    have HC1 := hide (ws_any b l (Ld.rungW k) wA HBA.out (by omega))
    rw [HWA.out] at HC1 hword
    clear hB hW hnew hbA hwA HBA hx
    have hkb : ((k : Int) != 1) = true := by simp; omega
    generalize Ld.rungT ⟨(k : Int), nm, some x⟩ = T at *
    generalize x.text = xt at *
    generalize Ld.rungW k = kw at *
    clear hk1
    go_enter Tryz.func26, Tryz.ntmps26
    go_wp2_with fail
    refine HC1.out.mono ?_
    rintro e w1 ⟨rfl, hb1, hk1⟩
    rw [← HWA.out] at hk1
    have HK1 := hide hk1
    obtain ⟨x0_1, x1_1, x2_1, _⟩ := HBX.out w1 HK1.out
    have HC2 := hide (ws_any b _ [32] w1 hb1 (by simp only [List.length_append, List.length_cons, List.length_nil]; omega))
    clear hb1 hk1 HC1
    go_wp2_with fail
    refine HC2.out.mono ?_
    rintro e w2 ⟨rfl, hb2, hk2⟩
    have HK2 := hide (HK1.out.trans hk2)
    obtain ⟨x0_2, x1_2, x2_2, _⟩ := HBX.out w2 HK2.out
    have HC3 := hide (ws_any b _ nm w2 hb2 (by simp only [List.length_append, List.length_cons, List.length_nil]; omega))
    clear hb2 hk2 HC2
    go_wp2_with fail
    refine HC3.out.mono ?_
    rintro e w3 ⟨rfl, hb3, hk3⟩
    have HK3 := hide (HK2.out.trans hk3)
    obtain ⟨x0_3, x1_3, x2_3, _⟩ := HBX.out w3 HK3.out
    have HC4 := hide (ws_any b _ [32, 61, 32] w3 hb3 (by simp only [List.length_append, List.length_cons, List.length_nil]; omega))
    clear hb3 hk3 HC3
    go_wp2_with fail
    refine HC4.out.mono ?_
    rintro e w4 ⟨rfl, hb4, hk4⟩
    have HK4 := hide (HK3.out.trans hk4)
    obtain ⟨x0_4, x1_4, x2_4, _, hx4⟩ := HBX.out w4 HK4.out
    have HTX := hide (HTX0.out w4 hx4)
    have HBL4 := hide hb4
    clear hb4 hk4 HC4 hx4
    go_wp2_with fail
    refine HTX.out.mono ?_
    rintro e w5 ⟨rfl, hb5⟩
    have HK5 := hide (HK4.out.trans (Kb.of_below hb5 (by have := HBL4.out.lt; omega)))
    have HC6 := hide (ws_any b _ xt w5 (HBL4.out.below hb5) (by simp only [List.length_append, List.length_cons, List.length_nil]; omega))
    clear hb5 HTX
    go_wp2_with fail
    refine HC6.out.mono ?_
    rintro e w6 ⟨rfl, hb6, hk6⟩
    have HK6 := hide (HK5.out.trans hk6)
    obtain ⟨x0_6, x1_6, x2_6, _⟩ := HBX.out w6 HK6.out
    have HC7 := hide (ws_any b _ [10] w6 hb6 (by simp only [List.length_append, List.length_cons, List.length_nil]; omega))
    clear hb6 hk6 HC6
    go_wp2_with fail
    refine HC7.out.mono ?_
    rintro e w7 ⟨rfl, hb7, hk7⟩
    have HK7 := hide (HK6.out.trans hk7)
    obtain ⟨x0_7, x1_7, x2_7, _⟩ := HBX.out w7 HK7.out
    have HBL7 := hide hb7
    clear hb7 hk7 HC7
    go_wp2_with fail
    go_end0
    refine ⟨rfl, ?_, HKA.out.trans HK7.out⟩
    have e : l ++ (T ++ [10]) = l ++ kw ++ [32] ++ nm ++ [32, 61, 32] ++ xt ++ [10] := by rw [HT.out]; simp
    rw [e]
    exact HBL7.out
end
section
open Go.RowKit
namespace Ld
theorem ended_snoc (ls : List (List UInt8)) (k : Nat) (h : k < ls.length) : ended (ls.take (k + 1)) = ended (ls.take k) ++ (ls[k] ++ [10]) := by
  unfold ended
  rw [List.take_succ_eq_append_getElem h, List.map_append, List.flatten_append]
  simp
theorem nameT_len (n : Nme) (h1 : Nm.name n.name = true) (h2 : 1 ≤ n.kind) (h3 : n.kind ≤ 4) (h4 : mayCount n.kind n.count = true) : (nameT n).length ≤ 20 := by
  have hn : n.name.length ≤ 8 := by
    unfold Nm.name at h1
    simp only [Bool.and_eq_true, decide_eq_true_eq] at h1
    exact h1.1.1.1.2
  have hi : (if counted n.kind then 32 :: Lib.itoa n.count else []).length ≤ 2 := by
    cases hc : counted n.kind with
    | false => simp
    | true =>
      have : 1 ≤ n.count ∧ n.count ≤ 7 := by simpa [mayCount, hc] using h4
      rw [if_pos rfl, List.length_cons, itoa_len _ (by omega)]; exact Nat.le_refl _
  have hw : (nameW n.kind.toNat).length ≤ 7 := by rcases kind4 n.kind ⟨h2, h3⟩ with e | e | e | e <;> rw [e] <;> decide
  unfold nameT
  simp only [List.length_append, List.length_cons, List.length_nil]
  omega
theorem rungT_len (r : Rng) (h1 : Nm.name r.name = true) (h2 : 1 ≤ r.kind) (h3 : r.kind ≤ 6) : (rungT r).length ≤ 20 + (condT r.cond).length := by
  have hn : r.name.length ≤ 8 := by
    unfold Nm.name at h1
    simp only [Bool.and_eq_true, decide_eq_true_eq] at h1
    exact h1.1.1.1.2
  have hw : (if r.kind = 1 then [] else rungW r.kind.toNat ++ [32]).length ≤ 6 := by
    rcases kind6 r.kind ⟨h2, h3⟩ with e | e | e | e | e | e <;> rw [e] <;> decide
  unfold rungT headT
  simp only [List.length_append, List.length_cons, List.length_nil]
  omega
theorem ended_len (ls : List (List UInt8)) (M : Nat) (h : ∀ a, a ∈ ls → a.length ≤ M) : (ended ls).length ≤ (M + 1) * ls.length := by
  induction ls with
  | nil => simp [ended]
  | cons a r ih =>
    have h1 := ih fun b hb => h b (by simp [hb])
    have h2 := h a (by simp)
    have e : ended (a :: r) = a ++ 10 :: ended r := by simp [ended]
    rw [e, List.length_append, List.length_cons, List.length_cons, Nat.mul_add, Nat.mul_one]
    omega
theorem name8 (n : List UInt8) (h1 : Nm.name n = true) : n.length ≤ 8 := by
  unfold Nm.name at h1
  simp only [Bool.and_eq_true, decide_eq_true_eq] at h1
  exact h1.1.1.1.2
end Ld
theorem IsEx.under {b : Nat} {w w' : World} {x : Ex} {v : Value} (h : IsEx (fun _ => True) w x v) (hb : Below w.heap.size w w') (hl : w.heap.size ≤ b) : IsEx (fun g => g < b) w' x v :=
  IsEx.stay (Stay.below hb) (fun _ hg => Nat.lt_of_lt_of_le hg.2 hl) x v (IsEx.lt x v h)
set_option maxHeartbeats 4000000 in
set_option maxRecDepth 100000 in
theorem LText_any (p : Ld.Prg) (v : Value) (w : World) (h : IsPrg w p v) (hW : Words w) (hP : Pows w) (hG : 14 ≤ w.heap.size) :
    Calls Tryz.prog 12 #[v] w fun e w' => e = .returned (.string ⟨(Ld.text p).toArray⟩) ∧ Below w.heap.size w w' := by
  have HP := hide h
  obtain ⟨nv, rv, rfl, hn, hr⟩ := h
  have HNA := hide hn
  have HRA := hide hr
  obtain ⟨na, nc, rfl, hn1⟩ := hn.slice
  obtain ⟨ra, rc, rfl, hr1⟩ := hr.slice
  clear hn hr
  obtain ⟨wA, hwA⟩ : ∃ wA, wA = w.alloc (.cells #[.slice na p.names.length nc, .slice ra p.rungs.length rc] 26) := ⟨_, rfl⟩
  have hbA : Below w.heap.size w wA := by rw [hwA]; exact (Below.refl _ _).alloc (Nat.le_refl _) _
  have hsA : wA.heap.size = w.heap.size + 1 := by rw [hwA]; simp
  have HBX : Hid (∀ (b : Nat) (W : World), wA.heap.size ≤ b → Below b wA W → W.cell? ⟨w.heap.size, 0, none⟩ = some (.slice na p.names.length nc) ∧ W.cell? ⟨w.heap.size, 1, none⟩ = some (.slice ra p.rungs.length rc)) := by
    intro b W hb hW
    have q1 : w.heap.size < b := by omega
    rw [hW.cell (p := ⟨w.heap.size, 0, none⟩) q1, hW.cell (p := ⟨w.heap.size, 1, none⟩) q1, hwA]
    simp [go_sem]
  have HC := hide (Check_any p _ wA (HP.out.below hbA))
  have HWA := hide hwA
  have HBA := hide hbA
  have HSA := hide hsA
  rw [hwA] at HC
  clear hwA hbA HP hsA
  cases hck : Ld.check p with
  | some r =>
    have HT : Hid (Ld.text p = []) := by show _ = _; unfold Ld.text; rw [if_neg (by rw [hck]; simp)]
    rw [hck] at HC
    go_enter Tryz.func12, Tryz.ntmps12
    go_wp2_with fail
    refine HC.out.mono ?_
    rintro e w1 ⟨er, rfl, her, hb1⟩
    rw [← HWA.out] at hb1
    have HB1 := hide (HBA.out.trans (hb1.mono HBA.out.size))
    obtain ⟨tu, yu, hiu⟩ : ∃ tu yu, er = .iface tu yu := by
      match r, her with
      | (e, none), h => exact ⟨_, _, h⟩
      | (e, some q), ⟨a, h, _⟩ => exact ⟨_, _, h⟩
    subst hiu
    clear her hb1 HC
    go_wp2_with fail
    go_ret
    exact ⟨by rw [HT.out]; rfl, HB1.out⟩
  | none =>
    have HT : Hid (Ld.text p = Ld.ended (Ld.linesT p)) := by show _ = _; unfold Ld.text; rw [if_pos hck]
    rw [hck] at HC
    obtain ⟨k1, k2, k3, k4⟩ := Ld.check_names p hck
    have HNS := hide k3
    have HRS := hide k4
    clear k3 k4 hck
    obtain ⟨n, hnn⟩ : ∃ n, n = p.names.length := ⟨_, rfl⟩
    obtain ⟨m, hmm⟩ : ∃ m, m = p.rungs.length := ⟨_, rfl⟩
    have HN := hide hnn
    have HM := hide hmm
    rw [← hnn] at HC HWA HBX k1 HNA hn1
    rw [← hmm] at HC HWA HBX k2 HRA hr1
    rw [← hnn, ← hmm]
    clear hnn hmm
    have HW0 := hide hW
    have HP0 := hide hP
    clear hW hP
    go_enter Tryz.func12, Tryz.ntmps12
    go_wp2_with fail
    refine HC.out.mono ?_
    rintro e w1 ⟨er, rfl, her, hb1⟩
    rw [← HWA.out] at hb1
    obtain rfl : er = .nilIface := her
    have hs1 := hb1.size
    have HB1 := hide hb1
    obtain ⟨p0, p1⟩ := HBX.out _ w1 (Nat.le_refl _) hb1
    have hw1lt : w.heap.size < w1.heap.size := by have := HSA.out; omega
    obtain ⟨wB, hwB⟩ : ∃ wB, wB = w1.alloc (.cells #[.pointer none, .slice none 0 0] 78) := ⟨_, rfl⟩
    have HWB := hide hwB
    have HBLD : Hid (Bld w1.heap.size (Lib.byteCells []) wB) := by show Bld _ _ _; rw [hwB]; exact Lib.fresh_isBuilder 78 5 w1
    have hbB1 : Below w1.heap.size w1 wB := by rw [hwB]; exact (Below.refl _ _).alloc (Nat.le_refl _) _
    have HOLD : Hid (∀ W, Kb w1.heap.size wB W → (W.cell? ⟨w.heap.size, 0, none⟩ = some (.slice na n nc) ∧ W.cell? ⟨w.heap.size, 1, none⟩ = some (.slice ra m rc)) ∧ Below w.heap.size w W ∧ Words W ∧ Pows W) := by
      intro W hK
      have q1 : Below wA.heap.size wA W := HB1.out.trans ((hbB1.trans hK.1).mono hs1)
      have q2 : Below w.heap.size w W := HBA.out.trans (q1.mono HBA.out.size)
      exact ⟨HBX.out _ W (Nat.le_refl _) q1, q2, HW0.out.low q2 hG, HP0.out.low q2 hG⟩
    clear HC hwB hbB1
    generalize hbb : w1.heap.size = b at *
    have HBE := hide hbb
    have hGb : 14 ≤ b := by omega
    have hlt1 : w.heap.size < w1.heap.size := by rw [hbb]; exact hw1lt
    clear hbb
    go_wp2_with fail
    rw [HBE.out, ← HWB.out]
    go_loopw [14] (fun i wr => ∃ k : Nat, k ≤ n ∧ i = .int .i64 (k : Int) ∧ Hid (Bld b (Lib.byteCells (Ld.ended ((p.names.map Ld.nameT).take k))) wr) ∧ Hid (Kb b wB wr)) (fun i _ => n - (intOf i).toNat)
    case atStart => exact ⟨0, Nat.zero_le _, rfl, HBLD.out, Kb.refl _ _⟩
    case round =>
      obtain ⟨k, hk, rfl, HBL, HKB⟩ := hrel
      obtain ⟨⟨c0, c1⟩, hbw, hWr, hPr⟩ := HOLD.out wr HKB.out
      have HBW := hide hbw
      have HWR := hide hWr
      have HPR := hide hPr
      clear hbw hWr hPr
      have hlenk : (Ld.ended ((p.names.map Ld.nameT).take k)).length ≤ 1000000 := by
        have h1 := Ld.ended_len ((p.names.map Ld.nameT).take k) 20 (fun a ha => by
          obtain ⟨y, hy, rfl⟩ := List.mem_map.1 (List.mem_of_mem_take ha)
          obtain ⟨q1, q2, q3, q4⟩ := HNS.out y hy
          exact Ld.nameT_len y q1 q2 q3 q4)
        have h2 : ((p.names.map Ld.nameT).take k).length ≤ 12 := by rw [List.length_take, List.length_map]; omega
        omega
      by_cases hlt : k < n
      · have hkl : k < p.names.length := by rw [← HN.out]; exact hlt
        obtain ⟨g, rfl, hca, e1, e2, e3, _⟩ : ∃ g, na = some ⟨g, 0, none⟩ ∧ n ≤ nc ∧ NameAt wr g k p.names[k] := by
          rcases HNA.out.below HBW.out with ⟨h0, _⟩ | ⟨g, cap, h1, h2, h3, h4⟩
          · rw [h0] at hkl; simp at hkl
          · simp only [Value.slice.injEq] at h1
            exact ⟨g, h1.1, by rw [h1.2.2, h1.2.1]; exact h2, h4 k _ (List.getElem?_eq_getElem hkl)⟩
        obtain ⟨q1, q2, q3, q4⟩ := HNS.out _ (List.getElem_mem hkl)
        have HEN := hide (Ld.ended_snoc (p.names.map Ld.nameT) k (by simpa using hkl))
        simp only [List.getElem_map] at HEN
        have hgw : g < wr.heap.size := World.block_lt_of_cell? _ _ e1
        have hq8 := Ld.name8 _ q1
        generalize p.names[k] = y at *
        obtain ⟨ynm, yk, yc⟩ := y
        simp only at e1 e2 e3 q1 q2 q3 q4 hq8
        obtain ⟨yn, rfl⟩ : ∃ yn : Nat, yk = (yn : Int) := ⟨yk.toNat, by omega⟩
        have hbl := HBL.out.lt
        obtain ⟨wD, hwD⟩ : ∃ wD, wD = wr.alloc (.cells #[.string ⟨ynm.toArray⟩, .int .i64 (yn : Int), .int .i64 yc] 62) := ⟨_, rfl⟩
        have hbD : Below wr.heap.size wr wD := by rw [hwD]; exact (Below.refl _ _).alloc (Nat.le_refl _) _
        have hbDb : Below b wr wD := hbD.mono (by omega)
        have HKD := hide (HKB.out.trans (Kb.of_below hbD (by omega)))
        have HCW := hide (writeName_any b _ ynm yn yc wD (HBL.out.below hbD) (HWR.out.low hbDb hGb) (HPR.out.low hbDb hGb) hGb (by omega) q4 hq8 hlenk)
        rw [hwD] at HCW
        have HWD := hide hwD
        clear hbD hwD hbDb q1 q2 q3 q4
        go_wp2_with fail
        refine HCW.out.mono ?_
        rintro e w3 ⟨rfl, hb3, hk3⟩
        rw [← HWD.out] at hk3
        rw [← HEN.out] at hb3
        have HB3 := hide hb3
        have HK3 := hide (HKD.out.trans hk3)
        clear hb3 hk3 HCW
        go_wp2_with fail
        go_roundw
        case rel => exact ⟨k + 1, by omega, by go_num, HB3.out, HK3.out⟩
        case measure => simp [intOf]; omega
      · have hkn : k = n := by omega
        have htk : (p.names.map Ld.nameT).take k = p.names.map Ld.nameT := List.take_of_length_le (by rw [List.length_map, ← HN.out, hkn]; exact Nat.le_refl _)
        rw [htk] at HBL hlenk
        subst hkn
        clear hlt hk htk
        go_wp2_with fail
        go_loopw [24] (fun i wr => ∃ j : Nat, j ≤ m ∧ i = .int .i64 (j : Int) ∧ Hid (Bld b (Lib.byteCells (Ld.ended (p.names.map Ld.nameT) ++ Ld.ended ((p.rungs.map Ld.rungT).take j))) wr) ∧ Hid (Kb b wB wr)) (fun i _ => m - (intOf i).toNat)
        case atStart => exact ⟨0, Nat.zero_le _, rfl, hide (by simpa [Ld.ended] using HBL.out), HKB.out⟩
        case round =>
          clear HBL HKB c0 c1 HBW HWR HPR
          obtain ⟨j, hj, rfl, HBL, HKB⟩ := hrel
          obtain ⟨⟨c0, c1⟩, hbw, hWr, hPr⟩ := HOLD.out wr HKB.out
          have HBW := hide hbw
          have HWR := hide hWr
          clear hbw hWr hPr
          have HCT : Hid (∀ (i : Nat) (r : Ld.Rng), p.rungs[i]? = some r → (Ld.condT r.cond).length ≤ 1000000) := by
            intro i r hi
            rcases HRA.out with ⟨h0, _⟩ | ⟨g, cap, h1, h2, h3, h4⟩
            · rw [h0] at hi; simp at hi
            · obtain ⟨u, _, _, _, _, _, hcd⟩ := h4 i r hi
              cases hc : r.cond with
              | none => simp [Ld.condT]
              | some x => rw [hc] at hcd; exact hcd.2.2
          have hlenj : (Ld.ended (p.names.map Ld.nameT) ++ Ld.ended ((p.rungs.map Ld.rungT).take j)).length ≤ 50000000 := by
            have h1 := Ld.ended_len ((p.rungs.map Ld.rungT).take j) 1000020 (fun a ha => by
              obtain ⟨y, hy, rfl⟩ := List.mem_map.1 (List.mem_of_mem_take ha)
              obtain ⟨q1, q2, q3, _⟩ := HRS.out y hy
              have := Ld.rungT_len y q3 q1 q2
              obtain ⟨i, hi, rfl⟩ := List.getElem_of_mem hy
              have := HCT.out i _ (List.getElem?_eq_getElem hi)
              omega)
            have h2 : ((p.rungs.map Ld.rungT).take j).length ≤ 40 := by rw [List.length_take, List.length_map]; omega
            rw [List.length_append]
            omega
          by_cases hlt : j < m
          · have hjl : j < p.rungs.length := by rw [← HM.out]; exact hlt
            obtain ⟨g, rfl, hca, u, e1, e2, e3, e4, e5, e6⟩ : ∃ g, ra = some ⟨g, 0, none⟩ ∧ m ≤ rc ∧ RungAt w g j p.rungs[j] := by
              rcases HRA.out with ⟨h0, _⟩ | ⟨g, cap, h1, h2, h3, h4⟩
              · rw [h0] at hjl; simp at hjl
              · simp only [Value.slice.injEq] at h1
                exact ⟨g, h1.1, by rw [h1.2.2, h1.2.1]; exact h2, h4 j _ (List.getElem?_eq_getElem hjl)⟩
            have c1 := (HBW.out.cell (World.block_lt_of_cell? _ _ e1)).trans e1
            have c2 := (HBW.out.cell (World.block_lt_of_cell? _ _ e2)).trans e2
            have c3 := (HBW.out.cell (World.block_lt_of_cell? _ _ e3)).trans e3
            obtain ⟨q1, q2, q3, x, q4, _⟩ := HRS.out _ (List.getElem_mem hjl)
            have HEN := hide (Ld.ended_snoc (p.rungs.map Ld.rungT) j (by simpa using hjl))
            simp only [List.getElem_map] at HEN
            have hgw : g < wr.heap.size := World.block_lt_of_cell? _ _ c1
            have hq8 := Ld.name8 _ q3
            generalize p.rungs[j] = y at *
            obtain ⟨yk, ynm, yc⟩ := y
            simp only at c1 c2 q1 q2 q3 q4 hq8 e6
            subst q4
            obtain ⟨hx, hxs, hxt⟩ := e6
            obtain ⟨yn, rfl⟩ : ∃ yn : Nat, yk = (yn : Int) := ⟨yk.toNat, by omega⟩
            have hbl := HBL.out.lt
            obtain ⟨tu, yu, hiu⟩ := IsEx.iface x u hx
            subst hiu
            obtain ⟨wD, hwD⟩ : ∃ wD, wD = wr.alloc (.cells #[.int .i64 (yn : Int), .string ⟨ynm.toArray⟩, .iface tu yu] 66) := ⟨_, rfl⟩
            have hbD : Below wr.heap.size wr wD := by rw [hwD]; exact (Below.refl _ _).alloc (Nat.le_refl _) _
            have hbDb : Below b wr wD := hbD.mono (by omega)
            have hbDw : Below w.heap.size w wD := HBW.out.trans (hbD.mono HBW.out.size)
            have HKD := hide (HKB.out.trans (Kb.of_below hbD (by omega)))
            have HCW := hide (writeRung_any b _ ynm yn x _ wD (HBL.out.below hbD) (HWR.out.low hbDb hGb) hGb (by omega) (IsEx.under hx hbDw (by omega)) hq8 hlenj hxt)
            rw [hwD] at HCW
            have HWD := hide hwD
            clear hbD hwD hbDb hbDw q1 q2 q3 e1 e2 e3 e4 e5 hx
            go_wp2_with fail
            refine HCW.out.mono ?_
            rintro e w3 ⟨rfl, hb3, hk3⟩
            rw [← HWD.out] at hk3
            rw [List.append_assoc, ← HEN.out] at hb3
            have HB3 := hide hb3
            have HK3 := hide (HKD.out.trans hk3)
            clear hb3 hk3 HCW
            go_wp2_with fail
            go_roundw
            case rel => exact ⟨j + 1, by omega, by go_num, HB3.out, HK3.out⟩
            case measure => simp [intOf]; omega
          · have hjm : j = m := by omega
            have htk : (p.rungs.map Ld.rungT).take j = p.rungs.map Ld.rungT := List.take_of_length_le (by rw [List.length_map, ← HM.out, hjm]; exact Nat.le_refl _)
            have HTX : Hid (Ld.ended (p.names.map Ld.nameT) ++ Ld.ended (p.rungs.map Ld.rungT) = Ld.text p) := by
              show _ = _
              rw [HT.out, Ld.linesT]
              unfold Ld.ended
              rw [List.map_append, List.flatten_append]
            rw [htk, HTX.out] at HBL
            subst hjm
            have hbl := HBL.out.lt
            have HST := hide (Tryz.Builder_String_any b b (Ld.text p) wr HBL.out (by omega))
            have HTT : Hid (∃ T, T = Ld.text p) := ⟨_, rfl⟩
            obtain ⟨T, hT⟩ := HTT.out
            have HT2 := hide hT
            rw [← hT] at HST
            clear hT HTT
            go_wp2_with fail
            refine HST.out.mono ?_
            rintro e w4 ⟨rfl, hb4⟩
            have HB4 := hide (HBW.out.trans (hb4.mono (by omega)))
            clear hb4 HST
            go_wp2_with fail
            go_ret
            exact ⟨by rw [← HT2.out]; rfl, HB4.out⟩
end
section
open Go.RowKit
theorem Tryz.infoTx : (Tryz.prog.info? 9).map (fun i => (i.zero, i.size, i.bytes)) = some (some (.string ⟨#[]⟩), 1, 16) := by kernel_rfl
set_option maxHeartbeats 4000000 in
set_option maxRecDepth 100000 in
theorem rtold_any (b : Nat) (c : Int) (w : World) (hc : w.cell? ⟨b, 0, none⟩ = some (.int .i64 c)) (h64 : I64 c) (hlen : (Lib.itoa c).length ≤ 100) (hp : Pows w) (hlow : 9 < w.heap.size) :
    Calls Tryz.prog 28 #[.slice (some ⟨b, 0, none⟩) 1 1] w fun e w' => e = .returned (.string ⟨(Lib.itoa c).toArray⟩) ∧ Below w.heap.size w w' := by
  obtain ⟨i0, hi0, hz0, hz1, hz2⟩ := info_parts Tryz.infoTx
  have HIT : Hid (∀ W, Below w.heap.size w W → Calls Tryz.prog 54 #[.int .i64 c] W fun e w' => e = .returned (.string ⟨(Lib.itoa c).toArray⟩) ∧ Below W.heap.size W w') := by
    intro W hW
    refine (Tryz.strconv_Itoa c h64.1 h64.2 W (hp.block (hW.block _ hlow))).mono ?_
    rintro e w4 ⟨rfl, kk, os, rfl⟩
    exact ⟨rfl, bgrow _ _ _⟩
  have HJN : Hid (∀ (W : World) (g cap : Nat), W.cell? ⟨g, 0, none⟩ = some (.string ⟨(Lib.itoa c).toArray⟩) → 1 ≤ cap → Calls Tryz.prog 56 #[.slice (some ⟨g, 0, none⟩) 1 cap, .string ⟨#[32]⟩] W fun e w' => e = .returned (.string ⟨(Lib.itoa c).toArray⟩) ∧ Below W.heap.size W w') := by
    intro W g cap hg hcap
    have h1 : Lib.join ([(⟨(Lib.itoa c).toArray⟩ : ByteArray)].map (·.data.toList)) (⟨#[32]⟩ : ByteArray).data.toList = Lib.itoa c := by simp [Lib.join]
    have h2 := Tryz.strings_Join g 0 cap [⟨(Lib.itoa c).toArray⟩] ⟨#[32]⟩ W (fun j x hx => by
      match j, hx with
      | 0, hx => simp at hx; subst hx; exact hg
      | j + 1, hx => simp at hx) (World.block_lt_of_cell? _ _ hg) (by simp) hcap (by rw [h1]; omega)
    rw [h1] at h2
    exact h2
  generalize Lib.itoa c = ic at *
  clear hp
  go_enter Tryz.func28, Tryz.ntmps28
  go_wp2_with fail
  go_loopw [3, 8] (fun l i wr => (i = .int .i64 0 ∧ l = .slice none 0 0 ∧ Hid (wr = w)) ∨ ∃ g cap, i = .int .i64 1 ∧ l = .slice (some ⟨g, 0, none⟩) 1 cap ∧ Hid (wr.ownsRow w.heap.size 9 1 (.slice (some ⟨g, 0, none⟩) 1 cap) 1 [.string ⟨ic.toArray⟩]) ∧ Hid (Below w.heap.size w wr)) (fun _ i _ => 1 - (intOf i).toNat)
  case atStart => exact .inl ⟨rfl, rfl, rfl⟩
  case round =>
    rcases hrel with ⟨rfl, rfl, HW⟩ | ⟨g, cap, rfl, rfl, HO, HB⟩
    · obtain rfl := HW.out
      have HI := hide (HIT.out wr (Below.refl _ _))
      go_wp2_with fail
      refine HI.out.mono ?_
      rintro e w1 ⟨rfl, hb1⟩
      have HB1 := hide hb1
      have hz1' := hb1.size
      have HONE : Hid (∀ u ∈ [Value.string ⟨ic.toArray⟩], u.oneCell' = true) := by
        intro u hu
        simp only [List.mem_cons, List.not_mem_nil, or_false] at hu
        subst hu; rfl
      clear hb1 HI
      go_wp2_with (at_builtin; refine wpList_append_lies _ rfl (.tmp 12) (.tmp 15) 22 rfl wr.heap.size 9 i0 _ 1 16 Tryz.underlying22 hi0 hz0 hz1 hz2 rfl (by decide) (.slice none 0 0) 0 [] rfl (World.ownsRow_nil _ _ _ _) ⟨w1.heap.size, 0, none⟩ 1 1 [.string ⟨ic.toArray⟩] rfl rfl (World.news_of_block (heap_alloc_new w1 _)) HONE.out (by decide) (by unfold maxLen; omega) (by omega) (by simp; omega) (w1.heap.size + 1) (by simp) ?_; intro g2 cap2 wC hown hgrow hat hltg; have HOC := hide hown; have HBC := hide ((HB1.out.alloc HB1.out.size _).grown hgrow (by simp; omega) (fun j e => by cases e)); clear hown hgrow hat)
      exact ⟨.inr ⟨g2, cap2, rfl, rfl, HOC.out, HBC.out⟩, by simp [intOf]⟩
    · have hcell : wr.cell? ⟨g, 0, none⟩ = some (.string ⟨ic.toArray⟩) ∧ 1 ≤ cap := by
        rcases HO.out.2 with ⟨hx, _⟩ | ⟨g', cap', cur, hx, _, hcur, hcap, _, _, htk⟩
        · cases hx
        · simp only [Value.slice.injEq, Option.some.injEq, Addr.mk.injEq, true_and, and_true] at hx
          obtain ⟨rfl, rfl⟩ := hx
          exact ⟨row_cell hcur htk rfl, hcap⟩
      have HJ := hide (HJN.out wr g cap hcell.1 hcell.2)
      clear hcell
      go_wp2_with fail
      refine HJ.out.mono ?_
      rintro e w2 ⟨rfl, hb2⟩
      have HB2 := hide (HB.out.trans (hb2.mono HB.out.size))
      clear hb2 HJ
      go_wp2_with fail
      go_ret
      exact ⟨rfl, HB2.out⟩
end
end Go.Proofs.YtjfgfcajmkbmeaaGreatDoor
