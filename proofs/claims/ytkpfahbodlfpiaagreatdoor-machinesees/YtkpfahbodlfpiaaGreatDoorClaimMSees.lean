/-
  Proved here: for every text and every two numbers, the call of MachineSees returns true (of a text that the document reads as a machine of up to 60 states and 4 inputs: what Sees tells, and what State, Input and Number tell, is what the document's own tell; numbers out of range, and no machine at all, are refused as the document tells), and the arguments read behind the call as they did before. Its conditions: the row's own reach, and that the variables that the row lists hold what the program's text lays (the card ties that to the text).
-/
import Derived.Test.YtkpfahbodlfpiaaGreatDoorMsOverAll
import Derived.Test.YtkpfahbodlfpiaaGreatDoorTie
import Derived.SevenTiedAt
namespace Go.Proofs.YtkpfahbodlfpiaaGreatDoor
theorem machineSees_proved : Rows.MachineSeesCardSaid :=
  Claim7.holds_tied_plain_at .later [] [.data, .data, .data, .data, .handle, .sentinel, .sentinel, .data, .data, .data, .widerDeep, .widerDeep, .pinned] true (true, "c2169012fdecc4be1d558992580abd874cb4980c605a93a7a7676a7a6953e620") true
    ClaimMSees.over (fun _ h => by cases h) (by as_aux_lemma => kernel_rfl) (fun _ h => by cases h) machineSees_row_tie rfl ⟨rfl, rfl⟩ (by as_aux_lemma => kernel_rfl) rfl
    (fun f fn hf hfn => by
      obtain rfl : f = 5 := Option.some.inj ((show Tryz.prog.funcNamed "signalcabin/signalcabinlaw.MachineSees" = some 5 from ClaimMSees.named).symm.trans hf) |>.symm
      obtain rfl : fn = Tryz.f5 := (Option.some.inj (Tryz.func5.symm.trans hfn)).symm
      exact ⟨by as_aux_lemma => kernel_rfl, fun j t ht => by
        rw [Tryz.params5] at ht
        have hm : t ∈ [9, 3, 3] := by simpa using Array.mem_of_getElem? ht
        have hall : ([9, 3, 3].all fun u => !Tryz.prog.wantsStandIn u) = true := by as_aux_lemma => kernel_rfl
        exact (show Tryz.prog.wantsStandIn t = false by simpa using List.all_eq_true.1 hall t hm)⟩)
    (by as_aux_lemma => kernel_rfl)
end Go.Proofs.YtkpfahbodlfpiaaGreatDoor
