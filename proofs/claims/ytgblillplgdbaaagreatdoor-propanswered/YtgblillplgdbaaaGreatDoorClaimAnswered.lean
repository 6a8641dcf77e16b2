/-
  Proved here: for every three texts and every number, the call of PropAnswered returns true (of a text of up to 1500 bytes that package ladder reads, whose program has at most 4 inputs and 60 states, and of two texts of together up to 300 bytes that package expr reads: what package prop's Answers says of no scan is what its Check says of the or of the first one's not and the second one; what is answered within fewer scans is within more; and the inputs that Answers tells leave the question unanswered at their end), and the arguments read behind the call as they did before. Its conditions: the row's own reach, and that the variables that the row lists hold what the program's text lays (the card ties that to the text).
-/
import Derived.Test.YtgblillplgdbaaaGreatDoorAdOverAll
import Derived.Test.YtgblillplgdbaaaGreatDoorTie
import Derived.SevenTiedAt
namespace Go.Proofs.YtgblillplgdbaaaGreatDoor
theorem propAnswered_proved : Rows.PropAnsweredCardSaid :=
  Claim7.holds_tied_plain_at .later [] [.data, .data, .data, .data, .handle, .sentinel, .sentinel, .data, .data, .pinned] true (true, "79e19aa3a818f6a981ff774c3f9a66b9c776cb26fb1c57e45ce565d3efd467c2") true
    ClaimAnswered.over (fun _ h => by cases h) (by as_aux_lemma => kernel_rfl) (fun _ h => by cases h) propAnswered_row_tie rfl ⟨rfl, rfl⟩ (by as_aux_lemma => kernel_rfl) rfl
    (fun f fn hf hfn => by
      obtain rfl : f = 4 := Option.some.inj ((show Tryz.prog.funcNamed "signalcabin/signalcabinkeep.PropAnswered" = some 4 from ClaimAnswered.named).symm.trans hf) |>.symm
      obtain rfl : fn = Tryz.f4 := (Option.some.inj (Tryz.func4.symm.trans hfn)).symm
      exact ⟨by as_aux_lemma => kernel_rfl, fun j t ht => by
        rw [Tryz.params4] at ht
        have hm : t ∈ [9, 9, 9, 3] := by simpa using Array.mem_of_getElem? ht
        have hall : ([9, 9, 9, 3].all fun u => !Tryz.prog.wantsStandIn u) = true := by as_aux_lemma => kernel_rfl
        exact (show Tryz.prog.wantsStandIn t = false by simpa using List.all_eq_true.1 hall t hm)⟩)
    (by as_aux_lemma => kernel_rfl)
end Go.Proofs.YtgblillplgdbaaaGreatDoor
