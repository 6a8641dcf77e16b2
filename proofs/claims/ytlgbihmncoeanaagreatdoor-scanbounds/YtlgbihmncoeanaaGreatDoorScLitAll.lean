/-
  Plain facts: one program and its text; what is read has nothing wrong; how long a read program's parts are. The walk of the statements' own laddered: a fact of one program. Plain facts: one program with a timer, and how it is played.
-/
import Derived.Test.YtlgbihmncoeanaaGreatDoorLdBack
import Derived.ProofKit
import Derived.Test.YtlgbihmncoeanaaGreatDoorLdParseW
import Derived.Test.YtlgbihmncoeanaaGreatDoorExErrAll
namespace Go.Proofs.YtlgbihmncoeanaaGreatDoor
section
namespace Ld
def litA : Ex := ⟨2, [97], []⟩
def lit : Prg := ⟨[⟨[97], 1, 0⟩, ⟨[109], 2, 0⟩], [⟨2, [109], some litA⟩]⟩
theorem checked_check (r : Rdg) (p : Prg) (h : checked r = .inr p) : check p = none := by
  unfold checked at h
  split at h
  · rename_i h1; cases h; exact h1
  · cases h
  · cases h
/-- what is read has nothing wrong -/
theorem parse_check (l : List UInt8) (p : Prg) (h : parse l = .inr p) : check p = none := by
  unfold parse at h
  split at h
  · cases h
  · split at h
    · cases h
    · exact checked_check _ p h
theorem litA_text : litA.text = [97] := by simp [litA, Ex.text]
theorem litA_parse : Ex.parse [97] = .inr litA := by kernel_rfl
theorem litA_named : litA.named true = [[97]] := by simp [litA, Ex.named]
theorem lit_check : check lit = none := by
  have h0 : number lit.names [97] = 0 := by kernel_rfl
  have h1 : number lit.names [109] = 1 := by kernel_rfl
  have n1 : Nm.name [97] = true := by kernel_rfl
  have n2 : Nm.name [109] = true := by kernel_rfl
  have a0 : nameAt lit.names 0 = 0 := by rw [nameAt_at _ _ (by decide)]; show wrongN lit.names 0 ⟨[97], 1, 0⟩ = 0; simp [wrongN, n1, h0, mayCount, counted]
  have a1 : nameAt lit.names 1 = 0 := by rw [nameAt_at _ _ (by decide)]; show wrongN lit.names 1 ⟨[109], 2, 0⟩ = 0; simp [wrongN, n2, h1, mayCount, counted]
  have hk : known lit.names litA = true := by simp [known, litA_named, h0]
  have hka : kindAt lit.names 1 = 2 := rfl
  have b0 : rungAt lit 0 = 0 := by rw [rungAt_at _ _ (by decide)]; show wrongR lit.names ⟨2, [109], some litA⟩ = 0; simp [wrongR, h1, hka, kindOf, hk]
  have hb : bad (nameAt lit.names) 2 = none := by simp [bad, a0, a1]
  have hc : bad (rungAt lit) 1 = none := by simp [bad, b0]
  have e1 : lit.names.length = 2 := rfl
  have e2 : lit.rungs.length = 1 := rfl
  simp [check, e1, e2, hb, hc]
theorem lit_text : text lit = [105, 110, 112, 117, 116, 32, 97, 10, 99, 111, 105, 108, 32, 109, 10, 115, 101, 116, 32, 109, 32, 61, 32, 97, 10] := by
  rw [text, if_pos lit_check]
  simp [lit, linesT, nameT, rungT, headT, condT, litA_text, counted, nameW, rungW, ended]
theorem lit_parse : parse [105, 110, 112, 117, 116, 32, 97, 10, 99, 111, 105, 108, 32, 109, 10, 115, 101, 116, 32, 109, 32, 61, 32, 97, 10] = .inr lit := by
  have h := parse_text lit lit_check (fun r hr x hx => ?_) (by rw [lit_text]; decide) (fun r hr => ?_)
  · rw [lit_text] at h; exact h
  · simp only [lit, List.mem_singleton] at hr
    subst hr
    cases hx
    exact ⟨_, litA_parse⟩
  · simp only [lit, List.mem_singleton] at hr
    subst hr
    show litA.text.length ≤ _
    rw [litA_text]; decide
theorem lit_number : number lit.names [109] = 1 := by kernel_rfl
end Ld
end
section
open Go.RowKit
set_option maxHeartbeats 4000000 in
set_option maxRecDepth 100000 in
theorem laddered_any (w : World) (hL : Laid w) : Calls Tryz.prog 30 #[] w fun e w' => e = .returned (.bool true) ∧ Below w.heap.size w w' := by
  have HP := hide (LParse_any [105, 110, 112, 117, 116, 32, 97, 10, 99, 111, 105, 108, 32, 109, 10, 115, 101, 116, 32, 109, 32, 61, 32, 97, 10] w (by decide) hL)
  rw [Ld.lit_parse] at HP
  have HL := hide hL
  clear hL
  go_enter Tryz.func30, Tryz.ntmps30
  go_wp2_with fail
  refine HP.out.mono ?_
  rintro e w1 ⟨hb1, v, rfl, hp1, _⟩
  have HB1 := hide hb1
  have HL1 := hide (HL.out.below hb1)
  have HP1 := hide hp1
  obtain ⟨nv, rv, rfl, hn, hr⟩ := hp1
  have HNA := hide hn
  have HRA := hide hr
  obtain ⟨na, nc, rfl, hn1⟩ := hn.slice
  obtain ⟨ra, rc, rfl, hr1⟩ := hr.slice
  clear hb1 hn hr HP hn1 hr1
  have l1 : Ld.lit.names.length = 2 := rfl
  have l2 : Ld.lit.rungs.length = 1 := rfl
  rw [l1] at HNA HP1 ⊢
  rw [l2] at HRA HP1 ⊢
  clear l1 l2
  obtain ⟨wA, hwA⟩ : ∃ wA, wA = w1.alloc (.cells #[.slice na 2 nc, .slice ra 1 rc] 28) := ⟨_, rfl⟩
  have hbA : Below w1.heap.size w1 wA := by rw [hwA]; exact (Below.refl _ _).alloc (Nat.le_refl _) _
  have hsA : wA.heap.size = w1.heap.size + 1 := by rw [hwA]; simp
  have HNU := hide (Number_any Ld.lit.names _ _ [109] wA (HNA.out.below hbA) ⟨ra, 1, rc, rfl⟩)
  rw [hwA, Ld.lit_number] at HNU
  have HWA := hide hwA
  have HBA := hide hbA
  have HSA := hide hsA
  clear hwA hbA hsA
  go_wp2_with fail
  refine HNU.out.mono ?_
  rintro e w2 ⟨rfl, hb2⟩
  rw [← HWA.out] at hb2
  have HB2 := hide (HBA.out.trans (hb2.mono HBA.out.size))
  have k0 : w2.cell? ⟨w1.heap.size, 0, none⟩ = some (.slice na 2 nc) := by rw [hb2.cell (p := ⟨w1.heap.size, 0, none⟩) (by rw [HSA.out]; exact Nat.lt_succ_self _), HWA.out]; simp [go_sem]
  have k1 : w2.cell? ⟨w1.heap.size, 1, none⟩ = some (.slice ra 1 rc) := by rw [hb2.cell (p := ⟨w1.heap.size, 1, none⟩) (by rw [HSA.out]; exact Nat.lt_succ_self _), HWA.out]; simp [go_sem]
  have hL2 := HL1.out.below HB2.out
  have HTX := hide (LText_any Ld.lit _ w2 (HP1.out.below HB2.out) hL2.words hL2.pows hL2.low)
  rw [Ld.lit_text] at HTX
  clear hb2 hL2 HNU
  go_wp2_with fail
  refine HTX.out.mono ?_
  rintro e w3 ⟨rfl, hb3⟩
  have HB3 := hide hb3
  clear hb3 HTX
  go_wp2_with fail
  go_ret
  exact ⟨rfl, (HB1.out.trans (HB2.out.mono HB1.out.size)).trans (HB3.out.mono (HB1.out.trans (HB2.out.mono HB1.out.size)).size)⟩
end
section
namespace Ld
def lit2 : Prg := ⟨[⟨[97], 1, 0⟩, ⟨[116], 3, 2⟩], [⟨4, [116], some litA⟩]⟩
theorem lit2_num0 : number lit2.names [97] = 0 := by kernel_rfl
theorem lit2_num1 : number lit2.names [116] = 1 := by kernel_rfl
theorem lit2_check : check lit2 = none := by
  have h0 := lit2_num0
  have h1 := lit2_num1
  have n1 : Nm.name [97] = true := by kernel_rfl
  have n2 : Nm.name [116] = true := by kernel_rfl
  have a0 : nameAt lit2.names 0 = 0 := by rw [nameAt_at _ _ (by decide)]; show wrongN lit2.names 0 ⟨[97], 1, 0⟩ = 0; simp [wrongN, n1, h0, mayCount, counted]
  have a1 : nameAt lit2.names 1 = 0 := by rw [nameAt_at _ _ (by decide)]; show wrongN lit2.names 1 ⟨[116], 3, 2⟩ = 0; simp [wrongN, n2, h1, mayCount, counted]
  have hk : known lit2.names litA = true := by simp [known, litA_named, h0]
  have hka : kindAt lit2.names 1 = 3 := rfl
  have b0 : rungAt lit2 0 = 0 := by rw [rungAt_at _ _ (by decide)]; show wrongR lit2.names ⟨4, [116], some litA⟩ = 0; simp [wrongR, h1, hka, kindOf, hk]
  have hb : bad (nameAt lit2.names) 2 = none := by simp [bad, a0, a1]
  have hc : bad (rungAt lit2) 1 = none := by simp [bad, b0]
  have e1 : lit2.names.length = 2 := rfl
  have e2 : lit2.rungs.length = 1 := rfl
  simp [check, e1, e2, hb, hc]
theorem lit2_text : text lit2 = [105, 110, 112, 117, 116, 32, 97, 10, 116, 105, 109, 101, 114, 32, 116, 32, 50, 10, 114, 117, 110, 32, 116, 32, 61, 32, 97, 10] := by
  rw [text, if_pos lit2_check]
  have e : Lib.itoa 2 = [50] := by kernel_rfl
  simp [lit2, linesT, nameT, rungT, headT, condT, litA_text, counted, nameW, rungW, ended, e]
theorem lit2_parse : parse [105, 110, 112, 117, 116, 32, 97, 10, 116, 105, 109, 101, 114, 32, 116, 32, 50, 10, 114, 117, 110, 32, 116, 32, 61, 32, 97, 10] = .inr lit2 := by
  have h := parse_text lit2 lit2_check (fun r hr x hx => ?_) (by rw [lit2_text]; decide) (fun r hr => ?_)
  · rw [lit2_text] at h; exact h
  · simp only [lit2, List.mem_singleton] at hr
    subst hr
    cases hx
    exact ⟨_, litA_parse⟩
  · simp only [lit2, List.mem_singleton] at hr
    subst hr
    show litA.text.length ≤ _
    rw [litA_text]; decide
theorem lit2_inputs : kindL lit2.names 1 = [0] := by kernel_rfl
theorem litA_eval (i w : List UInt8 → Bool) : litA.eval i w = i [97] := by simp [litA, Ex.eval]
end Ld
namespace Sc
theorem lit2_step (s : St) (b : Bool) (x y : Bool) (c d : Int) (hs : s = ⟨[x, y], [c, d]⟩) : step Ld.lit2 s [b] = ⟨[b, (if b then further d 2 else 0) == 2], [c, if b then further d 2 else 0]⟩ := by
  subst hs
  have ht : told Ld.lit2.names [b, y] [97] = b := by
    unfold told
    rw [Ld.lit2_num0]
    simp
  unfold step
  rw [Ld.lit2_inputs]
  show doRung Ld.lit2.names [x, y] ⟨[b, y], [c, d]⟩ ⟨4, [116], some Ld.litA⟩ = _
  unfold doRung
  simp only [Ld.lit2_num1, Ld.litA_eval, ht]
  rfl
theorem lit2_plays : plays Ld.lit2 [[true], [true], [false]] 3 = [⟨[true, false], [0, 1]⟩, ⟨[true, true], [0, 2]⟩, ⟨[false, false], [0, 0]⟩] := by
  have h1 : step Ld.lit2 (start Ld.lit2) [true] = ⟨[true, false], [0, 1]⟩ := (lit2_step _ true false false 0 0 rfl).trans rfl
  have h2 : step Ld.lit2 ⟨[true, false], [0, 1]⟩ [true] = ⟨[true, true], [0, 2]⟩ := (lit2_step _ true _ _ _ _ rfl).trans rfl
  have h3 : step Ld.lit2 ⟨[true, true], [0, 2]⟩ [false] = ⟨[false, false], [0, 0]⟩ := (lit2_step _ false _ _ _ _ rfl).trans rfl
  show [step Ld.lit2 (start Ld.lit2) [true], step Ld.lit2 (step Ld.lit2 (start Ld.lit2) [true]) [true], step Ld.lit2 (step Ld.lit2 (step Ld.lit2 (start Ld.lit2) [true]) [true]) [false]] = _
  rw [h1, h2, h3]
end Sc
end
end Go.Proofs.YtlgbihmncoeanaaGreatDoor
