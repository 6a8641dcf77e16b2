/-
  The walk of the statements' own laddered: a fact of one program.
-/
import Derived.Test.YtiamkoghflfjcaaGreatDoorLdParseW
import Derived.Test.YtiamkoghflfjcaaGreatDoorLdLit
namespace Go.Proofs.YtiamkoghflfjcaaGreatDoor
open Go.RowKit
set_option maxHeartbeats 4000000 in
set_option maxRecDepth 100000 in
theorem laddered_any (w : World) (hL : Laid w) : Calls Tryz.prog 26 #[] w fun e w' => e = .returned (.bool true) ∧ Below w.heap.size w w' := by
  have HP := hide (LParse_any [105, 110, 112, 117, 116, 32, 97, 10, 99, 111, 105, 108, 32, 109, 10, 115, 101, 116, 32, 109, 32, 61, 32, 97, 10] w (by decide) hL)
  rw [Ld.lit_parse] at HP
  have HL := hide hL
  clear hL
  go_enter Tryz.func26, Tryz.ntmps26
  go_wp2_with fail
  refine HP.out.mono ?_
  rintro e w1 ⟨hb1, v, rfl, hp1, _⟩
  have HB1 := hide hb1
  have HL1 := hide (HL.out.below hb1)
  have HP1 := hide hp1
  obtain ⟨nv, rv, rfl, hn, hr⟩ := hp1
  have HNA := hide hn
  have HRA := hide hr
  obtain ⟨na, nc, rfl, hn1⟩ := hn.slice
  obtain ⟨ra, rc, rfl, hr1⟩ := hr.slice
  clear hb1 hn hr HP hn1 hr1
  have l1 : Ld.lit.names.length = 2 := rfl
  have l2 : Ld.lit.rungs.length = 1 := rfl
  rw [l1] at HNA HP1 ⊢
  rw [l2] at HRA HP1 ⊢
  clear l1 l2
  obtain ⟨wA, hwA⟩ : ∃ wA, wA = w1.alloc (.cells #[.slice na 2 nc, .slice ra 1 rc] 28) := ⟨_, rfl⟩
  have hbA : Below w1.heap.size w1 wA := by rw [hwA]; exact (Below.refl _ _).alloc (Nat.le_refl _) _
  have hsA : wA.heap.size = w1.heap.size + 1 := by rw [hwA]; simp
  have HNU := hide (Number_any Ld.lit.names _ _ [109] wA (HNA.out.below hbA) ⟨ra, 1, rc, rfl⟩)
  rw [hwA, Ld.lit_number] at HNU
  have HWA := hide hwA
  have HBA := hide hbA
  have HSA := hide hsA
  clear hwA hbA hsA
  go_wp2_with fail
  refine HNU.out.mono ?_
  rintro e w2 ⟨rfl, hb2⟩
  rw [← HWA.out] at hb2
  have HB2 := hide (HBA.out.trans (hb2.mono HBA.out.size))
  have k0 : w2.cell? ⟨w1.heap.size, 0, none⟩ = some (.slice na 2 nc) := by rw [hb2.cell (p := ⟨w1.heap.size, 0, none⟩) (by rw [HSA.out]; exact Nat.lt_succ_self _), HWA.out]; simp [go_sem]
  have k1 : w2.cell? ⟨w1.heap.size, 1, none⟩ = some (.slice ra 1 rc) := by rw [hb2.cell (p := ⟨w1.heap.size, 1, none⟩) (by rw [HSA.out]; exact Nat.lt_succ_self _), HWA.out]; simp [go_sem]
  have hL2 := HL1.out.below HB2.out
  have HTX := hide (LText_any Ld.lit _ w2 (HP1.out.below HB2.out) hL2.words hL2.pows hL2.low)
  rw [Ld.lit_text] at HTX
  clear hb2 hL2 HNU
  go_wp2_with fail
  refine HTX.out.mono ?_
  rintro e w3 ⟨rfl, hb3⟩
  have HB3 := hide hb3
  clear hb3 HTX
  go_wp2_with fail
  go_ret
  exact ⟨rfl, (HB1.out.trans (HB2.out.mono HB1.out.size)).trans (HB3.out.mono (HB1.out.trans (HB2.out.mono HB1.out.size)).size)⟩
end Go.Proofs.YtiamkoghflfjcaaGreatDoor
