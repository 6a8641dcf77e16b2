/-
  Proved here: for every text, every list of numbers and either truth, the call of ScanPlays returns true (of a text of up to 1500 bytes that the document's own ProgramParse reads, and up to 60 scans whose inputs are bits of the numbers: what package scan's Play tells is true, and has run or counted, scan by scan, is what the document's Step and Tells say; too many or too few inputs, a state of other names, and more than 1000 scans are refused as the document tells), and the arguments read behind the call as they did before. Its conditions: the row's own reach, and that the variables that the row lists hold what the program's text lays (the card ties that to the text).
-/
import Derived.Test.YtkpfahbodlfpiaaGreatDoorSpOverAll
import Derived.Test.YtkpfahbodlfpiaaGreatDoorTie
import Derived.SevenTiedAt
namespace Go.Proofs.YtkpfahbodlfpiaaGreatDoor
theorem scanPlays_proved : Rows.ScanPlaysCardSaid :=
  Claim7.holds_tied_plain_at .later [] [.data, .data, .data, .data, .handle, .sentinel, .sentinel, .data, .data, .data, .widerDeep, .widerDeep, .pinned] true (true, "c2169012fdecc4be1d558992580abd874cb4980c605a93a7a7676a7a6953e620") true
    ClaimSPlays.over (fun _ h => by cases h) (by as_aux_lemma => kernel_rfl) (fun _ h => by cases h) scanPlays_row_tie rfl ⟨rfl, rfl⟩ (by as_aux_lemma => kernel_rfl) rfl
    (fun f fn hf hfn => by
      obtain rfl : f = 3 := Option.some.inj ((show Tryz.prog.funcNamed "signalcabin/signalcabinlaw.ScanPlays" = some 3 from ClaimSPlays.named).symm.trans hf) |>.symm
      obtain rfl : fn = Tryz.f3 := (Option.some.inj (Tryz.func3.symm.trans hfn)).symm
      exact ⟨by as_aux_lemma => kernel_rfl, fun j t ht => by
        rw [Tryz.params3] at ht
        have hm : t ∈ [9, 22, 4] := by simpa using Array.mem_of_getElem? ht
        have hall : ([9, 22, 4].all fun u => !Tryz.prog.wantsStandIn u) = true := by as_aux_lemma => kernel_rfl
        exact (show Tryz.prog.wantsStandIn t = false by simpa using List.all_eq_true.1 hall t hm)⟩)
    (by as_aux_lemma => kernel_rfl)
end Go.Proofs.YtkpfahbodlfpiaaGreatDoor
