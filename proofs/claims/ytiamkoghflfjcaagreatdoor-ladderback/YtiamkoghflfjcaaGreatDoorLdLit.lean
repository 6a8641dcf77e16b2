/-
  Plain facts: one program and its text; what is read has nothing wrong; how long a read program's parts are.
-/
import Derived.Test.YtiamkoghflfjcaaGreatDoorLdBack
import Derived.ProofKit
namespace Go.Proofs.YtiamkoghflfjcaaGreatDoor
namespace Ld
def litA : Ex := ⟨2, [97], []⟩
def lit : Prg := ⟨[⟨[97], 1, 0⟩, ⟨[109], 2, 0⟩], [⟨2, [109], some litA⟩]⟩
theorem checked_check (r : Rdg) (p : Prg) (h : checked r = .inr p) : check p = none := by
  unfold checked at h
  split at h
  · rename_i h1; cases h; exact h1
  · cases h
  · cases h
/-- what is read has nothing wrong -/
theorem parse_check (l : List UInt8) (p : Prg) (h : parse l = .inr p) : check p = none := by
  unfold parse at h
  split at h
  · cases h
  · split at h
    · cases h
    · exact checked_check _ p h
theorem litA_text : litA.text = [97] := by simp [litA, Ex.text]
theorem litA_parse : Ex.parse [97] = .inr litA := by kernel_rfl
theorem litA_named : litA.named true = [[97]] := by simp [litA, Ex.named]
theorem lit_check : check lit = none := by
  have h0 : number lit.names [97] = 0 := by kernel_rfl
  have h1 : number lit.names [109] = 1 := by kernel_rfl
  have n1 : Nm.name [97] = true := by kernel_rfl
  have n2 : Nm.name [109] = true := by kernel_rfl
  have a0 : nameAt lit.names 0 = 0 := by rw [nameAt_at _ _ (by decide)]; show wrongN lit.names 0 ⟨[97], 1, 0⟩ = 0; simp [wrongN, n1, h0, mayCount, counted]
  have a1 : nameAt lit.names 1 = 0 := by rw [nameAt_at _ _ (by decide)]; show wrongN lit.names 1 ⟨[109], 2, 0⟩ = 0; simp [wrongN, n2, h1, mayCount, counted]
  have hk : known lit.names litA = true := by simp [known, litA_named, h0]
  have hka : kindAt lit.names 1 = 2 := rfl
  have b0 : rungAt lit 0 = 0 := by rw [rungAt_at _ _ (by decide)]; show wrongR lit.names ⟨2, [109], some litA⟩ = 0; simp [wrongR, h1, hka, kindOf, hk]
  have hb : bad (nameAt lit.names) 2 = none := by simp [bad, a0, a1]
  have hc : bad (rungAt lit) 1 = none := by simp [bad, b0]
  have e1 : lit.names.length = 2 := rfl
  have e2 : lit.rungs.length = 1 := rfl
  simp [check, e1, e2, hb, hc]
theorem lit_text : text lit = [105, 110, 112, 117, 116, 32, 97, 10, 99, 111, 105, 108, 32, 109, 10, 115, 101, 116, 32, 109, 32, 61, 32, 97, 10] := by
  rw [text, if_pos lit_check]
  simp [lit, linesT, nameT, rungT, headT, condT, litA_text, counted, nameW, rungW, ended]
theorem lit_parse : parse [105, 110, 112, 117, 116, 32, 97, 10, 99, 111, 105, 108, 32, 109, 10, 115, 101, 116, 32, 109, 32, 61, 32, 97, 10] = .inr lit := by
  have h := parse_text lit lit_check (fun r hr x hx => ?_) (by rw [lit_text]; decide) (fun r hr => ?_)
  · rw [lit_text] at h; exact h
  · simp only [lit, List.mem_singleton] at hr
    subst hr
    cases hx
    exact ⟨_, litA_parse⟩
  · simp only [lit, List.mem_singleton] at hr
    subst hr
    show litA.text.length ≤ _
    rw [litA_text]; decide
theorem lit_number : number lit.names [109] = 1 := by kernel_rfl
end Ld
end Go.Proofs.YtiamkoghflfjcaaGreatDoor
