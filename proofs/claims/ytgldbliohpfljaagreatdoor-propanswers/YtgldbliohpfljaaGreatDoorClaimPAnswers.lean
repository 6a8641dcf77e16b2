/-
  Proved here: for every three texts and every number, the call of PropAnswers returns true (of a text that the document reads as a machine of up to 30 states and 4 inputs, and of two texts of up to 1,000 bytes that it reads as expressions: whether package prop's Answers says that the one is answered by the other within so many scans, and its inputs, are the document's least ones; a number that may not be and a name that isn't there are refused as the document tells), and the arguments read behind the call as they did before. Its conditions: the row's own reach, and that the variables that the row lists hold what the program's text lays (the card ties that to the text).
-/
import Derived.Test.YtgldbliohpfljaaGreatDoorQaOverAll
import Derived.Test.YtgldbliohpfljaaGreatDoorTie
import Derived.SevenTiedAt
namespace Go.Proofs.YtgldbliohpfljaaGreatDoor
theorem propAnswers_proved : Rows.PropAnswersCardSaid :=
  Claim7.holds_tied_plain_at .later [] [.data, .data, .data, .data, .handle, .sentinel, .sentinel, .data, .data, .data, .widerDeep, .widerDeep, .pinned] true (true, "a7e76be45874c472f0b6d3a6c3383cfb7465c622f6d9cd84e74c7f95312f2699") true
    ClaimPAnswers.over (fun _ h => by cases h) (by as_aux_lemma => kernel_rfl) (fun _ h => by cases h) propAnswers_row_tie rfl ⟨rfl, rfl⟩ (by as_aux_lemma => kernel_rfl) rfl
    (fun f fn hf hfn => by
      obtain rfl : f = 4 := Option.some.inj ((show Tryz.prog.funcNamed "signalcabin/signalcabinlaw.PropAnswers" = some 4 from ClaimPAnswers.named).symm.trans hf) |>.symm
      obtain rfl : fn = Tryz.f4 := (Option.some.inj (Tryz.func4.symm.trans hfn)).symm
      exact ⟨by as_aux_lemma => kernel_rfl, fun j t ht => by
        rw [Tryz.params4] at ht
        have hm : t ∈ [9, 9, 9, 3] := by simpa using Array.mem_of_getElem? ht
        have hall : ([9, 9, 9, 3].all fun u => !Tryz.prog.wantsStandIn u) = true := by as_aux_lemma => kernel_rfl
        exact (show Tryz.prog.wantsStandIn t = false by simpa using List.all_eq_true.1 hall t hm)⟩)
    (by as_aux_lemma => kernel_rfl)
end Go.Proofs.YtgldbliohpfljaaGreatDoor
