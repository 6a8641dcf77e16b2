/-
  Proved here: for every text and every number, the call of ReachFars returns true (of a text that the document reads as a machine of up to 60 states and 4 inputs: in how few scans package reach's Far tells that each state is come to is what the document's Far tells; of a state of that number Path's inputs are the document's; one that is never come to, that is none, and no machine are refused as the document tells), and the arguments read behind the call as they did before. Its conditions: the row's own reach, and that the variables that the row lists hold what the program's text lays (the card ties that to the text).
-/
import Derived.Test.YtkfikffnljnepaaGreatDoorRaOverAll
import Derived.Test.YtkfikffnljnepaaGreatDoorTie
import Derived.SevenTiedAt
namespace Go.Proofs.YtkfikffnljnepaaGreatDoor
theorem reachFars_proved : Rows.ReachFarsCardSaid :=
  Claim7.holds_tied_plain_at .later [] [.data, .data, .data, .data, .handle, .sentinel, .sentinel, .data, .data, .data, .widerDeep, .widerDeep, .pinned] true (true, "3fd10049a59a155f35efeaf920eff39890a55de6136cd9550b8f0c594c8effee") true
    ClaimRFars.over (fun _ h => by cases h) (by as_aux_lemma => kernel_rfl) (fun _ h => by cases h) reachFars_row_tie rfl ⟨rfl, rfl⟩ (by as_aux_lemma => kernel_rfl) rfl
    (fun f fn hf hfn => by
      obtain rfl : f = 3 := Option.some.inj ((show Tryz.prog.funcNamed "signalcabin/signalcabinlaw.ReachFars" = some 3 from ClaimRFars.named).symm.trans hf) |>.symm
      obtain rfl : fn = Tryz.f3 := (Option.some.inj (Tryz.func3.symm.trans hfn)).symm
      exact ⟨by as_aux_lemma => kernel_rfl, fun j t ht => by
        rw [Tryz.params3] at ht
        have hm : t ∈ [9, 3] := by simpa using Array.mem_of_getElem? ht
        have hall : ([9, 3].all fun u => !Tryz.prog.wantsStandIn u) = true := by as_aux_lemma => kernel_rfl
        exact (show Tryz.prog.wantsStandIn t = false by simpa using List.all_eq_true.1 hall t hm)⟩)
    (by as_aux_lemma => kernel_rfl)
end Go.Proofs.YtkfikffnljnepaaGreatDoor
