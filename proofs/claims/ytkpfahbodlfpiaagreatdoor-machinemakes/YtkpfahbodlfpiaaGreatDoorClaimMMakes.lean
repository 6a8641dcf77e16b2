/-
  Proved here: for every text, the call of MachineMakes returns true (of a text of up to 1500 bytes that the document's own ProgramParse reads, and that has not more than 60 states and 4 inputs: if it has too many, package machine's Of refuses it with ErrLimit and tells no machine; else it makes one with as many states and inputs, and the same table of what comes of which, as the document's MachineOf), and the argument reads behind the call as it did before. Its conditions: the row's own reach, and that the variables that the row lists hold what the program's text lays (the card ties that to the text).
-/
import Derived.Test.YtkpfahbodlfpiaaGreatDoorMmOverAll
import Derived.Test.YtkpfahbodlfpiaaGreatDoorTie
import Derived.SevenTiedAt
namespace Go.Proofs.YtkpfahbodlfpiaaGreatDoor
theorem machineMakes_proved : Rows.MachineMakesCardSaid :=
  Claim7.holds_tied_plain_at .later [] [.data, .data, .data, .data, .handle, .sentinel, .sentinel, .data, .data, .data, .widerDeep, .widerDeep, .pinned] true (true, "c2169012fdecc4be1d558992580abd874cb4980c605a93a7a7676a7a6953e620") true
    ClaimMMakes.over (fun _ h => by cases h) (by as_aux_lemma => kernel_rfl) (fun _ h => by cases h) machineMakes_row_tie rfl ⟨rfl, rfl⟩ (by as_aux_lemma => kernel_rfl) rfl
    (fun f fn hf hfn => by
      obtain rfl : f = 4 := Option.some.inj ((show Tryz.prog.funcNamed "signalcabin/signalcabinlaw.MachineMakes" = some 4 from ClaimMMakes.named).symm.trans hf) |>.symm
      obtain rfl : fn = Tryz.f4 := (Option.some.inj (Tryz.func4.symm.trans hfn)).symm
      exact ⟨by as_aux_lemma => kernel_rfl, fun j t ht => by
        rw [Tryz.params4] at ht
        have hm : t ∈ [9] := by simpa using Array.mem_of_getElem? ht
        have hall : ([9].all fun u => !Tryz.prog.wantsStandIn u) = true := by as_aux_lemma => kernel_rfl
        exact (show Tryz.prog.wantsStandIn t = false by simpa using List.all_eq_true.1 hall t hm)⟩)
    (by as_aux_lemma => kernel_rfl)
end Go.Proofs.YtkpfahbodlfpiaaGreatDoor
