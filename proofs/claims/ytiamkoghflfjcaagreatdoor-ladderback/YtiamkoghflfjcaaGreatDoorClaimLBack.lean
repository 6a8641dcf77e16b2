/-
  Proved here: for every text, the call of LadderBack returns true (a text of up to 1500 bytes that package ladder reads is a program whose text, if it and its rungs' conditions are not too long, is read again as a program of as many names and rungs and of the same text; one that it refuses gives the empty program), and the argument reads behind the call as it did before. Its conditions: the row's own reach, and that the variables that the row lists hold what the program's text lays (the card ties that to the text).
-/
import Derived.Test.YtiamkoghflfjcaaGreatDoorKeLBack
import Derived.Test.YtiamkoghflfjcaaGreatDoorLbMet
import Derived.Test.YtiamkoghflfjcaaGreatDoorLbFacts
import Derived.Test.YtiamkoghflfjcaaGreatDoorTie
import Derived.SevenTiedAt
namespace Go.Proofs.YtiamkoghflfjcaaGreatDoor
namespace ClaimLBack
open Go.ChangeShapes Go.WideShapes Go.ChangeAt Go.RowKit
open Go.ChangeMaps (open_string shut_string)
set_option linter.unusedVariables false
theorem own : ownKnob Tryz.prog.godebug = none := by kernel_rfl
theorem laid {W : World} (h : laidMetH Tryz.prog Rows.ladderBackRow.laid W) (hlow : 14 ≤ W.heap.size) : Laid W :=
  LdLaid.laid_of (by kernel_rfl) (by kernel_rfl) (by kernel_rfl) (by kernel_rfl) (by kernel_rfl) (by kernel_rfl) h hlow
set_option maxRecDepth 100000 in
theorem lifted (os : Os) (started : os.Started) (H : Type) (enc : TypeId × Value → H) :
    ReturnsInHanded {} Tryz.checked os 5 .any (fun w args => (Rows.ladderBackSpec.pre enc Tryz.prog Tryz.f5 [] false w args ∧ laidMetH Tryz.prog Rows.ladderBackRow.laid w) ∧ sizedMet enc Tryz.prog Tryz.f5 (OpenSpec.ofChange Rows.ladderBackSpec) false w args)
      (Rows.ladderBackSpec.post enc Tryz.prog Tryz.f5 false true false false) := by
  refine LdLaid.returns_low (X := fun w => laidMetH Tryz.prog Rows.ladderBackRow.laid w) (fun _ _ hh h => h.of_heap hh) own started (by kernel_rfl) Tryz.func5
    (ChangeSpec.witness_shaped (enc := enc) (C := Tryz.checked) (os := os) (X := fun w _ => laidMetH Tryz.prog Rows.ladderBackRow.laid w) false ((World.doorLaid Tryz.prog 400 os).layVars Tryz.prog LbMet.data) #[.string ByteArray.empty] 8 (LbMet.start_os os) (LbMet.shape os _) (by kernel_rfl) (by kernel_rfl) (by kernel_rfl) (LbMet.met os _)) ?_
  intro W base args ds gs before hlow hval0 hW hL
  have hld := laid hL hlow
  have hval : ∀ (j : Nat) t v, Tryz.f5.params[j]? = some t → args[j]? = some v → Value.okWide Tryz.prog W .any base t v := hval0
  have hW' := hW
  obtain ⟨p, q, hA0, hV, rfl, hfz, hnd⟩ := hW
  have hA : DataW.TrodAll enc Tryz.prog W 0 (fun _ => true) true Tryz.f5.params.toList args.toList ds p := hA0
  rw [Tryz.params5] at hA hval
  obtain ⟨v0, d0, rfl, rfl, h0⟩ := trodAll_one hA
  obtain ⟨rfl, rfl⟩ := trodVars_none hV
  obtain ⟨a0, rfl, rfl, rfl, w0⟩ := open_string Tryz.underlying9 (hval 0 9 v0 rfl rfl) h0
  clear hA0 hval0
  refine (ladderBack_any a0 W w0 hld).mono fun e W' ⟨he, bel⟩ => ?_
  subst he
  exact ⟨_, rfl, _, _, _, [], _, [], hW', trodAll_mk1 (shut_bool Tryz.underlying4 _), trodAll_mk1 (shut_string Tryz.underlying9 w0), rfl, bel.frame _, fun h => by cases h⟩
theorem named : Tryz.prog.funcNamed "signalcabin/signalcabinkeep.LadderBack" = some 5 := by kernel_rfl
theorem inst : Tryz.f5.isInstance Tryz.prog Rows.ladderBackRow.origin Rows.ladderBackRow.targs := of_decide_eq_true (by kernel_rfl)
theorem wrap : Tryz.f5.isWrapper Tryz.prog Rows.ladderBackRow.wrapper Rows.ladderBackRow.mainSum := by unfold Func.isWrapper; first | (rw [if_pos (by decide +kernel)]; kernel_rfl) | (rw [if_neg (by decide +kernel)]; exact ⟨rfl, rfl⟩)
theorem over : Rows.LadderBackSaid :=
  OpenClaim.holds_of_wide 5 Tryz.f5 rfl rfl rfl rfl rfl rfl rfl ⟨rfl, rfl, rfl, rfl, rfl⟩ rfl rfl rfl rfl rfl named Tryz.func5 LbFacts.closed
    inst wrap (fun os started H enc _ => lifted os started H enc)
end ClaimLBack
theorem ladderBack_proved : Rows.LadderBackCardSaid :=
  Claim7.holds_tied_plain_at .later [] [.data, .data, .data, .data, .handle, .sentinel, .sentinel, .data, .data, .pinned] true (true, "0d0d748dd480f178d1a871c75de591278f91a37d954725f2feade63f6173ad6f") true
    ClaimLBack.over (fun _ h => by cases h) (by kernel_rfl) (fun _ h => by cases h) ladderBack_row_tie rfl ⟨rfl, rfl⟩ (by kernel_rfl) rfl
    (fun f fn hf hfn => by
      obtain rfl : f = 5 := Option.some.inj ((show Tryz.prog.funcNamed "signalcabin/signalcabinkeep.LadderBack" = some 5 by kernel_rfl).symm.trans hf) |>.symm
      obtain rfl : fn = Tryz.f5 := (Option.some.inj (Tryz.func5.symm.trans hfn)).symm
      exact ⟨by kernel_rfl, fun j t ht => by
        rw [Tryz.params5] at ht
        have hm : t ∈ [9] := by simpa using Array.mem_of_getElem? ht
        have hall : ([9].all fun u => !Tryz.prog.wantsStandIn u) = true := by kernel_rfl
        exact (show Tryz.prog.wantsStandIn t = false by simpa using List.all_eq_true.1 hall t hm)⟩)
    (by kernel_rfl)
end Go.Proofs.YtiamkoghflfjcaaGreatDoor
