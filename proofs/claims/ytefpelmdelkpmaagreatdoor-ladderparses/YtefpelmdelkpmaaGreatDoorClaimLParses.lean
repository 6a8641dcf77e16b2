/-
  Proved here: for every text, the call of LadderParses returns true (of a text of up to 3000 bytes, or of more than 20000 and up to 30000: the document's own ProgramParse and package ladder's Parse both read a program, and its text is written the same by both, or both refuse it with the same error at the same place, and Parse's program is empty), and the argument reads behind the call as it did before. Its conditions: the row's own reach, and that the variables that the row lists hold what the program's text lays (the card ties that to the text).
-/
import Derived.Test.YtefpelmdelkpmaaGreatDoorLpOverAll
import Derived.Test.YtefpelmdelkpmaaGreatDoorTie
import Derived.SevenTiedAt
namespace Go.Proofs.YtefpelmdelkpmaaGreatDoor
theorem ladderParses_proved : Rows.LadderParsesCardSaid :=
  Claim7.holds_tied_plain_at .later [] [.data, .data, .data, .data, .handle, .sentinel, .sentinel, .data, .data, .data, .widerDeep, .widerDeep, .pinned] true (true, "f2ad2e28074f0572e986ddec681f1b34bd73bc9a3689c8ff3d48c0ed7cdfb7c7") true
    ClaimLParses.over (fun _ h => by cases h) (by as_aux_lemma => kernel_rfl) (fun _ h => by cases h) ladderParses_row_tie rfl ⟨rfl, rfl⟩ (by as_aux_lemma => kernel_rfl) rfl
    (fun f fn hf hfn => by
      obtain rfl : f = 4 := Option.some.inj ((show Tryz.prog.funcNamed "signalcabin/signalcabinlaw.LadderParses" = some 4 from ClaimLParses.named).symm.trans hf) |>.symm
      obtain rfl : fn = Tryz.f4 := (Option.some.inj (Tryz.func4.symm.trans hfn)).symm
      exact ⟨by as_aux_lemma => kernel_rfl, fun j t ht => by
        rw [Tryz.params4] at ht
        have hm : t ∈ [9] := by simpa using Array.mem_of_getElem? ht
        have hall : ([9].all fun u => !Tryz.prog.wantsStandIn u) = true := by as_aux_lemma => kernel_rfl
        exact (show Tryz.prog.wantsStandIn t = false by simpa using List.all_eq_true.1 hall t hm)⟩)
    (by as_aux_lemma => kernel_rfl)
end Go.Proofs.YtefpelmdelkpmaaGreatDoor
