/-
  The walk of the statement BlockLeast.
-/
import Derived.Test.YtcbnihnbdhoclaaBkKeep
namespace Go.Proofs.Ytcbnihnbdhoclaa
namespace Bk
open Go.RowKit
set_option maxHeartbeats 8000000 in
set_option maxRecDepth 100000 in
theorem blockLeast_any (N T : List (List Int)) (nv tv : Value) (w : World) (hN : Rows w nv N) (hT : Rows w tv T) :
    Calls Try.prog 3 #[.agg #[nv, tv]] w fun e w' => e = .returned (.bool true) ∧ Below w.heap.size w w' := by
  obtain ⟨wA, hwA⟩ : ∃ wA, wA = w.alloc (.cells #[nv, tv] 24) := ⟨_, rfl⟩
  have hBA : Below w.heap.size w wA := by rw [hwA]; exact newB _ _
  have hTA : Tab wA w.heap.size nv tv := by rw [hwA]; exact Tab.new _ _ _
  have HF := hide (few_any N T nv tv 60 wA (hN.below hBA) (hT.below hBA))
  have HLE := hide (fun W (hW : Below wA.heap.size wA W) => Least_any N T nv tv W (hN.below (then_ hBA hW)) (hT.below (then_ hBA hW)))
  obtain ⟨na, nc, rfl⟩ := hN.slice
  obtain ⟨ta, tc, rfl⟩ := hT.slice
  have HBA := hide hBA
  have HTA := hide hTA
  obtain ⟨t0, t1⟩ := hTA
  have nq := neqNil
  have nn := neqNilN
  have HBK := hide (fun W => blocked_any W)
  clear hN hT hBA
  go_enter Try.func3, Try.ntmps3
  go_wp2_with fail
  rw [← hwA]
  clear hwA
  refine HF.out.mono ?_
  rintro e w1 ⟨rfl, hb1⟩
  have HB1 := hide hb1
  have HT1 := hide (HTA.out.below hb1)
  obtain ⟨s0, s1⟩ := HTA.out.below hb1
  have HL1 := hide (HLE.out w1 hb1)
  clear hb1 HF HLE
  cases hfw : fewB N T 60 with
  | false =>
    clear hfw
    go_wp2_with fail
    go_ret
    exact ⟨rfl, then_ HBA.out HB1.out⟩
  | true =>
    have hn60 : N.length ≤ 60 := by simp [fewB] at hfw; omega
    clear hfw
    go_wp2_with fail
    refine HL1.out.mono ?_
    rintro e w2 ⟨hb2, hres⟩
    have HB2 := hide hb2
    have HT2 := hide (HT1.out.below hb2)
    rcases hres with ⟨_, v, rfl, he⟩ | ⟨hck, d, nv2, tv2, hd, hst, rfl, hrn, hrt⟩
    · rename_i hck0
      obtain ⟨tt, yy, rfl⟩ := he.iface hck0
      obtain ⟨wX, hwX⟩ : ∃ wX, wX = w2.alloc (.cells #[.slice none 0 0, .slice none 0 0] 24) := ⟨_, rfl⟩
      have HBX : Hid (Below w2.heap.size w2 wX) := by rw [hwX]; exact newB _ _
      have HTX : Hid (Tab wX w2.heap.size (.slice none 0 0) (.slice none 0 0)) := by rw [hwX]; exact Tab.new _ _ _
      clear hb2 he hck0 HL1
      go_wp2_with fail
      rw [← hwX]
      clear hwX
      refine (HBK.out wX).mono ?_
      rintro e w3 ⟨rfl, hb3⟩
      have HB3 := hide hb3
      have HTX3 := hide (HTX.out.below hb3)
      clear hb3
      go_wp2_with fail
      refine (HBK.out w3).mono ?_
      rintro e w4 ⟨rfl, hb4⟩
      obtain ⟨x0, x1⟩ := HTX3.out.below hb4
      have HB4 := hide (then_ HBA.out (then_ HB1.out (then_ HB2.out (then_ HBX.out (then_ HB3.out hb4)))))
      clear hb4
      go_wp2_with fail
      go_ret
      exact ⟨rfl, HB4.out⟩
    · have hG := good_of hck
      obtain ⟨na2, nc2, rfl⟩ := hrn.slice
      obtain ⟨ta2, tc2, rfl⟩ := hrt.slice
      obtain ⟨wX, hwX⟩ : ∃ wX, wX = w2.alloc (.cells #[.slice na2 (leastN N T d).length nc2, .slice ta2 (leastT N T d).length tc2] 24) := ⟨_, rfl⟩
      have HBX : Hid (Below w2.heap.size w2 wX) := by rw [hwX]; exact newB _ _
      have HTX : Hid (Tab wX w2.heap.size (.slice na2 (leastN N T d).length nc2) (.slice ta2 (leastT N T d).length tc2)) := by rw [hwX]; exact Tab.new _ _ _
      have HTW := hide (HT2.out.below HBX.out)
      have HBL := hide (fun W (hW : Below wX.heap.size wX W) => Blocks_any (leastN N T d) (leastT N T d) _ _ W (hrn.below (then_ HBX.out hW)) (hrt.below (then_ HBX.out hW)))
      have HCK2 : Hid (check (leastN N T d) (leastT N T d) = none) := (least_good hG hst).fine
      have HLB := hide (fun e he => least_blocks hG hst e he)
      have HML : Hid ((leastN N T d).length = (gd N T d).2.length ∧ (gd N T d).2.length ≤ N.length) := ⟨least_len, firsts_le _⟩
      clear hb2 hrn hrt hst hck hG HL1
      go_wp2_with fail
      rw [← hwX]
      clear hwX
      refine (HBK.out wX).mono ?_
      rintro e w3 ⟨rfl, hb3⟩
      have HB3 := hide hb3
      have HTX3 := hide (HTX.out.below hb3)
      have HTW3 := hide (HTW.out.below hb3)
      obtain ⟨x0, x1⟩ := HTX.out.below hb3
      clear hb3
      go_wp2_with fail
      refine (HBL.out w3 HB3.out).mono ?_
      rintro e w4 ⟨hb4, hres⟩
      rcases hres with ⟨h0, _⟩ | ⟨_, d4, g4, hd4, hst4, rfl, hr4, hg4⟩
      · exact absurd HCK2.out h0
      have hlb := HLB.out d4 hst4
      rw [hlb] at hr4
      have HX4 := hide (HTX3.out.below hb4)
      have HW4 := hide (HTW3.out.below hb4)
      have HB4 := hide (then_ HBA.out (then_ HB1.out (then_ HB2.out (then_ HBX.out (then_ HB3.out hb4)))))
      have HR4 := hide hr4
      have hmN := HML.out.2
      have hml := HML.out.1
      clear hr4 hlb hst4 HLB HBL HCK2 hb4 HTX HTX3 HTW HTW3 x0 x1 HML hg4
      rw [hml] at HX4 ⊢
      clear hml
      generalize (gd N T d).2.length = m at *
      obtain ⟨y0, y1⟩ := HX4.out
      obtain ⟨z0, z1⟩ := HW4.out
      have hmi : ¬ (N.length : Int) < (m : Int) := by omega
      go_wp2_with fail
      go_loopw [6] (fun iv wr => ∃ i : Nat, i ≤ m ∧ iv = .int .i64 (i : Int) ∧ Hid (wr = w4)) (fun iv _ => m - (intOf iv).toNat)
      case atStart => exact ⟨0, Nat.zero_le _, rfl, rfl⟩
      case round =>
        obtain ⟨i, hi, rfl, HWR⟩ := hrel
        obtain rfl := HWR.out
        by_cases him : i < m
        · have c : wr.cell? ⟨g4, i, none⟩ = some (.int .i64 (i : Int)) := RowIs.cell HR4.out i _ (by rw [List.getElem?_map, ints_get _ i i (by rw [List.getElem?_range him])]; rfl)
          have hii : (i : Int) < (m : Int) := by omega
          go_wp2_with fail
          go_roundw
          case rel => exact ⟨i + 1, by omega, by go_num, trivial⟩
          case measure => simp [intOf]; omega
        · have him2 : i = m := by omega
          subst him2
          go_wp2_with fail
          go_ret
          exact ⟨rfl, HB4.out⟩
end Bk
end Go.Proofs.Ytcbnihnbdhoclaa
