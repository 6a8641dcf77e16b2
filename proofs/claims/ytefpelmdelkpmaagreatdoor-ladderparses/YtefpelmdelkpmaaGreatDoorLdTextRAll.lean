/-
  The walks of package ladder's writeName, writeRung and Text: what is written is the plain function 'text'. The walks of package ladder's writeRung and Text: what is written is the plain function 'text'.
-/
import Derived.Test.YtefpelmdelkpmaaGreatDoorRtBoundAll
import Derived.Test.YtefpelmdelkpmaaGreatDoorTxList
import Derived.Test.YtefpelmdelkpmaaGreatDoorShelf
import Derived.Lib.LaidTab
import Derived.Lib.ItoaMem
import Derived.WalkMore
namespace Go.Proofs.YtefpelmdelkpmaaGreatDoor
section
open Go.RowKit
theorem ws_any (b : Nat) (l t : List UInt8) (w : World) (h : Bld b (Lib.byteCells l) w) (hlen : l.length + t.length ≤ 100000000) :
    Calls Tryz.prog 62 #[.pointer (some ⟨b, 0, none⟩), .string ⟨t.toArray⟩] w fun e w' => e = .returned (.tuple #[.int .i64 (t.length : Int), .nilIface]) ∧ Bld b (Lib.byteCells (l ++ t)) w' ∧ Kb b w w' := by
  have hs : (⟨t.toArray⟩ : ByteArray).size = t.length := by simp [ByteArray.size]
  refine (WriteString_any b _ ⟨t.toArray⟩ w h (by rw [Lib.byteCells_length, hs]; omega)).mono ?_
  rintro e w1 ⟨rfl, hb, hk⟩
  exact ⟨by rw [hs], by rw [byteCells_append, ← strCells_of t]; exact hb, hk⟩
set_option maxHeartbeats 4000000 in
set_option maxRecDepth 100000 in
theorem writeName_any (b : Nat) (l nm : List UInt8) (k : Nat) (c : Int) (w : World) (hB : Bld b (Lib.byteCells l) w) (hW : Words w) (hP : Pows w) (hG : 14 ≤ b) (hk : 1 ≤ k ∧ k ≤ 4) (hc : Ld.mayCount (k : Int) c = true) (hn : nm.length ≤ 8) (hl : l.length ≤ 1000000) :
    Calls Tryz.prog 33 #[.pointer (some ⟨b, 0, none⟩), .agg #[.string ⟨nm.toArray⟩, .int .i64 (k : Int), .int .i64 c]] w (Writes b l (Ld.nameT ⟨nm, (k : Int), c⟩ ++ [10]) w) := by
  have hlt := hB.lt
  obtain ⟨wA, hwA⟩ : ∃ wA, wA = w.alloc (.cells #[.string ⟨nm.toArray⟩, .int .i64 (k : Int), .int .i64 c] 34) := ⟨_, rfl⟩
  have hbA : Below w.heap.size w wA := by rw [hwA]; exact (Below.refl _ _).alloc (Nat.le_refl _) _
  have hnew : wA.heap[w.heap.size]? = some (.cells #[.string ⟨nm.toArray⟩, .int .i64 (k : Int), .int .i64 c] 34 (0, 0)) := by rw [hwA]; exact heap_alloc_new w _
  have HBX : Hid (∀ W, Kb b wA W → W.cell? ⟨w.heap.size, 0, none⟩ = some (.string ⟨nm.toArray⟩) ∧ W.cell? ⟨w.heap.size, 1, none⟩ = some (.int .i64 (k : Int)) ∧ W.cell? ⟨w.heap.size, 2, none⟩ = some (.int .i64 c) ∧ Words W ∧ Pows W) := by
    intro W hW'
    have hh := hW'.cell hnew (by omega) (by decide)
    have hlow : Below b w W := (hbA.mono (by omega)).trans hW'.1
    exact ⟨by rw [Lib.cell_of_heap hh]; rfl, by rw [Lib.cell_of_heap hh]; rfl, by rw [Lib.cell_of_heap hh]; rfl, hW.low hlow hG, hP.low hlow hG⟩
  have HKA : Hid (Kb b w wA) := Kb.of_below hbA (by omega)
  have HBA := hide (hB.below hbA)
  have hkw : (Ld.nameW k).length ≤ 7 := by
    have : k = 1 ∨ k = 2 ∨ k = 3 ∨ k = 4 := by omega
    rcases this with rfl | rfl | rfl | rfl <;> decide
  have hword : wA.cell? ⟨3, k, none⟩ = some (.string ⟨(Ld.nameW k).toArray⟩) := (HBX.out wA (Kb.refl _ _)).2.2.2.1.1 k (by omega)
  have HC1 := hide (ws_any b l (Ld.nameW k) wA HBA.out (by omega))
  have HWA := hide hwA
  have HT : Hid (Ld.nameT ⟨nm, (k : Int), c⟩ = Ld.nameW k ++ [32] ++ nm ++ (if Ld.counted (k : Int) then 32 :: Lib.itoa c else [])) := by show _ = _; simp [Ld.nameT]
  rw [HWA.out] at HC1 hword
  clear hB hW hP hnew hbA hwA HBA
  generalize Ld.nameT ⟨nm, (k : Int), c⟩ = T at *
  generalize Ld.nameW k = kw at *
  go_enter Tryz.func33, Tryz.ntmps33
  cases hcnt : Ld.counted (k : Int) with
  | false =>
    rw [hcnt] at HT
    go_wp2_with fail
    refine HC1.out.mono ?_
    rintro e w1 ⟨rfl, hb1, hk1⟩
    rw [← HWA.out] at hk1
    have HK1 := hide hk1
    obtain ⟨x0_1, x1_1, x2_1, _⟩ := HBX.out w1 HK1.out
    have HC2 := hide (ws_any b _ [32] w1 hb1 (by simp only [List.length_append, List.length_cons, List.length_nil]; omega))
    clear hb1 hk1 HC1
    go_wp2_with fail
    refine HC2.out.mono ?_
    rintro e w2 ⟨rfl, hb2, hk2⟩
    have HK2 := hide (HK1.out.trans hk2)
    obtain ⟨x0_2, x1_2, x2_2, _⟩ := HBX.out w2 HK2.out
    have HC3 := hide (ws_any b _ nm w2 hb2 (by simp only [List.length_append, List.length_cons, List.length_nil]; omega))
    clear hb2 hk2 HC2
    go_wp2_with fail
    refine HC3.out.mono ?_
    rintro e w3 ⟨rfl, hb3, hk3⟩
    have HK3 := hide (HK2.out.trans hk3)
    obtain ⟨x0_3, x1_3, x2_3, _⟩ := HBX.out w3 HK3.out
    have HC4 := hide (ws_any b _ [10] w3 hb3 (by simp only [List.length_append, List.length_cons, List.length_nil]; omega))
    clear hb3 hk3 HC3
    go_wp2_with (go_at_call 63; refine (isCounted_any _ _).mono ?_; rintro e w' ⟨rfl, rfl⟩; rw [hcnt])
    refine HC4.out.mono ?_
    rintro e w4 ⟨rfl, hb4, hk4⟩
    have HK4 := hide (HK3.out.trans hk4)
    obtain ⟨x0_4, x1_4, x2_4, _⟩ := HBX.out w4 HK4.out
    have HBL4 := hide hb4
    clear hb4 hk4 HC4
    go_wp2_with fail
    go_end0
    refine ⟨rfl, ?_, HKA.out.trans HK4.out⟩
    have e : l ++ (T ++ [10]) = l ++ kw ++ [32] ++ nm ++ [10] := by rw [HT.out]; simp
    rw [e]
    exact HBL4.out
  | true =>
    rw [hcnt] at HT
    have hc17 : 1 ≤ c ∧ c ≤ 7 := by simpa [Ld.mayCount, hcnt] using hc
    have hil := itoa_len c (by omega)
    have HIT0 : Hid (∀ W, Pows W → Calls Tryz.prog 64 #[.int .i64 c] W fun e w' => e = .returned (.string ⟨(Lib.itoa c).toArray⟩) ∧ Below W.heap.size W w') := by
      intro W hp
      refine (Tryz.strconv_Itoa c (by omega) (by omega) W hp).mono ?_
      rintro e w4 ⟨rfl, kk, os, rfl⟩
      exact ⟨rfl, bgrow _ _ _⟩
    generalize Lib.itoa c = ic at *
    go_wp2_with fail
    refine HC1.out.mono ?_
    rintro e w1 ⟨rfl, hb1, hk1⟩
    rw [← HWA.out] at hk1
    have HK1 := hide hk1
    obtain ⟨x0_1, x1_1, x2_1, _⟩ := HBX.out w1 HK1.out
    have HC2 := hide (ws_any b _ [32] w1 hb1 (by simp only [List.length_append, List.length_cons, List.length_nil]; omega))
    clear hb1 hk1 HC1
    go_wp2_with fail
    refine HC2.out.mono ?_
    rintro e w2 ⟨rfl, hb2, hk2⟩
    have HK2 := hide (HK1.out.trans hk2)
    obtain ⟨x0_2, x1_2, x2_2, _⟩ := HBX.out w2 HK2.out
    have HC3 := hide (ws_any b _ nm w2 hb2 (by simp only [List.length_append, List.length_cons, List.length_nil]; omega))
    clear hb2 hk2 HC2
    go_wp2_with fail
    refine HC3.out.mono ?_
    rintro e w3 ⟨rfl, hb3, hk3⟩
    have HK3 := hide (HK2.out.trans hk3)
    obtain ⟨x0_3, x1_3, x2_3, _⟩ := HBX.out w3 HK3.out
    have HC4 := hide (ws_any b _ [32] w3 hb3 (by simp only [List.length_append, List.length_cons, List.length_nil]; omega))
    clear hb3 hk3 HC3
    go_wp2_with (go_at_call 63; refine (isCounted_any _ _).mono ?_; rintro e w' ⟨rfl, rfl⟩; rw [hcnt])
    refine HC4.out.mono ?_
    rintro e w4 ⟨rfl, hb4, hk4⟩
    have HK4 := hide (HK3.out.trans hk4)
    obtain ⟨x0_4, x1_4, x2_4, _, hp4⟩ := HBX.out w4 HK4.out
    have HIT := hide (HIT0.out w4 hp4)
    have HBL4 := hide hb4
    clear hb4 hk4 HC4 hp4
    go_wp2_with fail
    refine HIT.out.mono ?_
    rintro e w5 ⟨rfl, hb5⟩
    have HK5 := hide (HK4.out.trans (Kb.of_below hb5 (by have := HBL4.out.lt; omega)))
    have HC6 := hide (ws_any b _ ic w5 (HBL4.out.below hb5) (by simp only [List.length_append, List.length_cons, List.length_nil]; omega))
    clear hb5 HIT
    go_wp2_with fail
    refine HC6.out.mono ?_
    rintro e w6 ⟨rfl, hb6, hk6⟩
    have HK6 := hide (HK5.out.trans hk6)
    obtain ⟨x0_6, x1_6, x2_6, _⟩ := HBX.out w6 HK6.out
    have HC7 := hide (ws_any b _ [10] w6 hb6 (by simp only [List.length_append, List.length_cons, List.length_nil]; omega))
    clear hb6 hk6 HC6
    go_wp2_with fail
    refine HC7.out.mono ?_
    rintro e w7 ⟨rfl, hb7, hk7⟩
    have HK7 := hide (HK6.out.trans hk7)
    obtain ⟨x0_7, x1_7, x2_7, _⟩ := HBX.out w7 HK7.out
    have HBL7 := hide hb7
    clear hb7 hk7 HC7
    go_wp2_with fail
    go_end0
    refine ⟨rfl, ?_, HKA.out.trans HK7.out⟩
    have e : l ++ (T ++ [10]) = l ++ kw ++ [32] ++ nm ++ [32] ++ ic ++ [10] := by rw [HT.out]; simp
    rw [e]
    exact HBL7.out
end
section
open Go.RowKit
set_option maxHeartbeats 4000000 in
set_option maxRecDepth 100000 in
theorem writeRung_any (b : Nat) (l nm : List UInt8) (k : Nat) (x : Ex) (v : Value) (w : World) (hB : Bld b (Lib.byteCells l) w) (hW : Words w) (hG : 14 ≤ b) (hk : 1 ≤ k ∧ k ≤ 6) (hx : Lies b w x v) (hn : nm.length ≤ 8) (hl : l.length ≤ 50000000) (hxl : x.text.length ≤ 1000000) :
    Calls Tryz.prog 34 #[.pointer (some ⟨b, 0, none⟩), .agg #[.int .i64 (k : Int), .string ⟨nm.toArray⟩, v]] w (Writes b l (Ld.rungT ⟨(k : Int), nm, some x⟩ ++ [10]) w) := by
  have hlt := hB.lt
  obtain ⟨tu, yu, hiu⟩ := IsEx.iface x v hx
  subst hiu
  obtain ⟨wA, hwA⟩ : ∃ wA, wA = w.alloc (.cells #[.int .i64 (k : Int), .string ⟨nm.toArray⟩, .iface tu yu] 44) := ⟨_, rfl⟩
  have hbA : Below w.heap.size w wA := by rw [hwA]; exact (Below.refl _ _).alloc (Nat.le_refl _) _
  have hnew : wA.heap[w.heap.size]? = some (.cells #[.int .i64 (k : Int), .string ⟨nm.toArray⟩, .iface tu yu] 44 (0, 0)) := by rw [hwA]; exact heap_alloc_new w _
  have HKA : Hid (Kb b w wA) := Kb.of_below hbA (by omega)
  have HBX : Hid (∀ W, Kb b wA W → W.cell? ⟨w.heap.size, 0, none⟩ = some (.int .i64 (k : Int)) ∧ W.cell? ⟨w.heap.size, 1, none⟩ = some (.string ⟨nm.toArray⟩) ∧ W.cell? ⟨w.heap.size, 2, none⟩ = some (.iface tu yu) ∧ Words W ∧ Lies b W x (.iface tu yu)) := by
    intro W hW'
    have hh := hW'.cell hnew (by omega) (by decide)
    have hlow : Below b w W := (hbA.mono (by omega)).trans hW'.1
    exact ⟨by rw [Lib.cell_of_heap hh]; rfl, by rw [Lib.cell_of_heap hh]; rfl, by rw [Lib.cell_of_heap hh]; rfl, hW.low hlow hG, hx.keep (HKA.out.trans hW')⟩
  have HTX0 : Hid (∀ W, Lies b W x (.iface tu yu) → Calls Tryz.prog 65 #[.iface tu yu] W fun e w' => e = .returned (.string ⟨x.text.toArray⟩) ∧ Below W.heap.size W w') := fun W h => Text_any _ x _ W h hxl
  have HBA := hide (hB.below hbA)
  have hkw : (Ld.rungW k).length ≤ 5 := by
    have : k = 1 ∨ k = 2 ∨ k = 3 ∨ k = 4 ∨ k = 5 ∨ k = 6 := by omega
    rcases this with rfl | rfl | rfl | rfl | rfl | rfl <;> decide
  have hword : wA.cell? ⟨4, k, none⟩ = some (.string ⟨(Ld.rungW k).toArray⟩) := (HBX.out wA (Kb.refl _ _)).2.2.2.1.2 k (by omega)
  have HWA := hide hwA
  by_cases hk1 : k = 1
  · have HT : Hid (Ld.rungT ⟨(k : Int), nm, some x⟩ = nm ++ [32, 61, 32] ++ x.text) := by show _ = _; simp [Ld.rungT, Ld.headT, Ld.condT, hk1]
    have HC1 := hide (ws_any b l nm wA HBA.out (by omega))
    rw [HWA.out] at HC1
    clear hB hW hnew hbA hwA HBA hword hx
    have hkb : ((k : Int) != 1) = false := by simp [hk1]
    generalize Ld.rungT ⟨(k : Int), nm, some x⟩ = T at *
    generalize x.text = xt at *
    clear hk1
    go_enter Tryz.func34, Tryz.ntmps34
    go_wp2_with fail
    refine HC1.out.mono ?_
    rintro e w1 ⟨rfl, hb1, hk1⟩
    rw [← HWA.out] at hk1
    have HK1 := hide hk1
    obtain ⟨x0_1, x1_1, x2_1, _⟩ := HBX.out w1 HK1.out
    have HC2 := hide (ws_any b _ [32, 61, 32] w1 hb1 (by simp only [List.length_append, List.length_cons, List.length_nil]; omega))
    clear hb1 hk1 HC1
    go_wp2_with fail
    refine HC2.out.mono ?_
    rintro e w2 ⟨rfl, hb2, hk2⟩
    have HK2 := hide (HK1.out.trans hk2)
    obtain ⟨x0_2, x1_2, x2_2, _, hx2⟩ := HBX.out w2 HK2.out
    have HTX := hide (HTX0.out w2 hx2)
    have HBL2 := hide hb2
    clear hb2 hk2 HC2 hx2
    go_wp2_with fail
    refine HTX.out.mono ?_
    rintro e w3 ⟨rfl, hb3⟩
    have HK3 := hide (HK2.out.trans (Kb.of_below hb3 (by have := HBL2.out.lt; omega)))
    have HC4 := hide (ws_any b _ xt w3 (HBL2.out.below hb3) (by simp only [List.length_append, List.length_cons, List.length_nil]; omega))
    clear hb3 HTX
    go_wp2_with fail
    refine HC4.out.mono ?_
    rintro e w4 ⟨rfl, hb4, hk4⟩
    have HK4 := hide (HK3.out.trans hk4)
    obtain ⟨x0_4, x1_4, x2_4, _⟩ := HBX.out w4 HK4.out
    have HC5 := hide (ws_any b _ [10] w4 hb4 (by simp only [List.length_append, List.length_cons, List.length_nil]; omega))
    clear hb4 hk4 HC4
    go_wp2_with fail
    refine HC5.out.mono ?_
    rintro e w5 ⟨rfl, hb5, hk5⟩
    have HK5 := hide (HK4.out.trans hk5)
    obtain ⟨x0_5, x1_5, x2_5, _⟩ := HBX.out w5 HK5.out
    have HBL5 := hide hb5
    clear hb5 hk5 HC5
    go_wp2_with fail
    go_end0
    refine ⟨rfl, ?_, HKA.out.trans HK5.out⟩
    have e : l ++ (T ++ [10]) = l ++ nm ++ [32, 61, 32] ++ xt ++ [10] := by rw [HT.out]; simp
    rw [e]
    exact HBL5.out
  · have HT : Hid (Ld.rungT ⟨(k : Int), nm, some x⟩ = Ld.rungW k ++ [32] ++ nm ++ [32, 61, 32] ++ x.text) := by
      show _ = _
      have : ¬ ((k : Int) = 1) := by omega
      simp [Ld.rungT, Ld.headT, Ld.condT, this]
    have HC1 := hide (ws_any b l (Ld.rungW k) wA HBA.out (by omega))
    rw [HWA.out] at HC1 hword
    clear hB hW hnew hbA hwA HBA hx
    have hkb : ((k : Int) != 1) = true := by simp; omega
    generalize Ld.rungT ⟨(k : Int), nm, some x⟩ = T at *
    generalize x.text = xt at *
    generalize Ld.rungW k = kw at *
    clear hk1
    go_enter Tryz.func34, Tryz.ntmps34
    go_wp2_with fail
    refine HC1.out.mono ?_
    rintro e w1 ⟨rfl, hb1, hk1⟩
    rw [← HWA.out] at hk1
    have HK1 := hide hk1
    obtain ⟨x0_1, x1_1, x2_1, _⟩ := HBX.out w1 HK1.out
    have HC2 := hide (ws_any b _ [32] w1 hb1 (by simp only [List.length_append, List.length_cons, List.length_nil]; omega))
    clear hb1 hk1 HC1
    go_wp2_with fail
    refine HC2.out.mono ?_
    rintro e w2 ⟨rfl, hb2, hk2⟩
    have HK2 := hide (HK1.out.trans hk2)
    obtain ⟨x0_2, x1_2, x2_2, _⟩ := HBX.out w2 HK2.out
    have HC3 := hide (ws_any b _ nm w2 hb2 (by simp only [List.length_append, List.length_cons, List.length_nil]; omega))
    clear hb2 hk2 HC2
    go_wp2_with fail
    refine HC3.out.mono ?_
    rintro e w3 ⟨rfl, hb3, hk3⟩
    have HK3 := hide (HK2.out.trans hk3)
    obtain ⟨x0_3, x1_3, x2_3, _⟩ := HBX.out w3 HK3.out
    have HC4 := hide (ws_any b _ [32, 61, 32] w3 hb3 (by simp only [List.length_append, List.length_cons, List.length_nil]; omega))
    clear hb3 hk3 HC3
    go_wp2_with fail
    refine HC4.out.mono ?_
    rintro e w4 ⟨rfl, hb4, hk4⟩
    have HK4 := hide (HK3.out.trans hk4)
    obtain ⟨x0_4, x1_4, x2_4, _, hx4⟩ := HBX.out w4 HK4.out
    have HTX := hide (HTX0.out w4 hx4)
    have HBL4 := hide hb4
    clear hb4 hk4 HC4 hx4
    go_wp2_with fail
    refine HTX.out.mono ?_
    rintro e w5 ⟨rfl, hb5⟩
    have HK5 := hide (HK4.out.trans (Kb.of_below hb5 (by have := HBL4.out.lt; omega)))
    have HC6 := hide (ws_any b _ xt w5 (HBL4.out.below hb5) (by simp only [List.length_append, List.length_cons, List.length_nil]; omega))
    clear hb5 HTX
    go_wp2_with fail
    refine HC6.out.mono ?_
    rintro e w6 ⟨rfl, hb6, hk6⟩
    have HK6 := hide (HK5.out.trans hk6)
    obtain ⟨x0_6, x1_6, x2_6, _⟩ := HBX.out w6 HK6.out
    have HC7 := hide (ws_any b _ [10] w6 hb6 (by simp only [List.length_append, List.length_cons, List.length_nil]; omega))
    clear hb6 hk6 HC6
    go_wp2_with fail
    refine HC7.out.mono ?_
    rintro e w7 ⟨rfl, hb7, hk7⟩
    have HK7 := hide (HK6.out.trans hk7)
    obtain ⟨x0_7, x1_7, x2_7, _⟩ := HBX.out w7 HK7.out
    have HBL7 := hide hb7
    clear hb7 hk7 HC7
    go_wp2_with fail
    go_end0
    refine ⟨rfl, ?_, HKA.out.trans HK7.out⟩
    have e : l ++ (T ++ [10]) = l ++ kw ++ [32] ++ nm ++ [32, 61, 32] ++ xt ++ [10] := by rw [HT.out]; simp
    rw [e]
    exact HBL7.out
end
end Go.Proofs.YtefpelmdelkpmaaGreatDoor
