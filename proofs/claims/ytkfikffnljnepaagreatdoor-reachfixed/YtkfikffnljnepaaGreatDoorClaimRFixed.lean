/-
  Proved here: for every text and every list of truths, the call of ReachFixed returns true (of a text that the document reads as a machine of up to 60 states and 4 inputs, and up to 300 truths: if there are as many as states, what package reach's Stays, Comes and Forces tell are the document's fixed points of its kinds; else, and of no machine, they refuse as the document tells), and the arguments read behind the call as they did before. Its conditions: the row's own reach, and that the variables that the row lists hold what the program's text lays (the card ties that to the text).
-/
import Derived.Test.YtkfikffnljnepaaGreatDoorRdOverAll
import Derived.Test.YtkfikffnljnepaaGreatDoorTie
import Derived.SevenTiedAt
namespace Go.Proofs.YtkfikffnljnepaaGreatDoor
theorem reachFixed_proved : Rows.ReachFixedCardSaid :=
  Claim7.holds_tied_plain_at .later [] [.data, .data, .data, .data, .handle, .sentinel, .sentinel, .data, .data, .data, .widerDeep, .widerDeep, .pinned] true (true, "3fd10049a59a155f35efeaf920eff39890a55de6136cd9550b8f0c594c8effee") true
    ClaimRFixed.over (fun _ h => by cases h) (by as_aux_lemma => kernel_rfl) (fun _ h => by cases h) reachFixed_row_tie rfl ⟨rfl, rfl⟩ (by as_aux_lemma => kernel_rfl) rfl
    (fun f fn hf hfn => by
      obtain rfl : f = 4 := Option.some.inj ((show Tryz.prog.funcNamed "signalcabin/signalcabinlaw.ReachFixed" = some 4 from ClaimRFixed.named).symm.trans hf) |>.symm
      obtain rfl : fn = Tryz.f4 := (Option.some.inj (Tryz.func4.symm.trans hfn)).symm
      exact ⟨by as_aux_lemma => kernel_rfl, fun j t ht => by
        rw [Tryz.params4] at ht
        have hm : t ∈ [9, 45] := by simpa using Array.mem_of_getElem? ht
        have hall : ([9, 45].all fun u => !Tryz.prog.wantsStandIn u) = true := by as_aux_lemma => kernel_rfl
        exact (show Tryz.prog.wantsStandIn t = false by simpa using List.all_eq_true.1 hall t hm)⟩)
    (by as_aux_lemma => kernel_rfl)
end Go.Proofs.YtkfikffnljnepaaGreatDoor
