/-
  Proved here: for every text, the call of CoverPairs returns true (of a text of up to 1000 bytes that the document's reader takes, the pairs that package cover tells are the document's: of each name on which what it says hangs the least one; edges, more than 8 names and no expression are refused as the document tells), and the argument reads behind the call as it did before. Its conditions: the row's own reach, and that the variables Fine and errors.errorType hold what the program's text lays (the card ties that to the text).
-/
import Derived.Test.YtblfeahbpklgiaaGreatDoorCpOverAll
import Derived.Test.YtblfeahbpklgiaaGreatDoorTie
import Derived.SevenTiedAt
namespace Go.Proofs.YtblfeahbpklgiaaGreatDoor
theorem coverPairs_proved : Rows.CoverPairsCardSaid :=
  Claim7.holds_tied_plain_at .later [] [.handle, .data] true (true, "9ecf36e4c107a2a29248a9f57b183517f47a90736f200de3aad2dec39a8eb7ce") true
    ClaimCPairs.over (fun _ h => by cases h) (by as_aux_lemma => kernel_rfl) (fun _ h => by cases h) coverPairs_row_tie rfl ⟨rfl, rfl⟩ (by as_aux_lemma => kernel_rfl) rfl
    (fun f fn hf hfn => by
      obtain rfl : f = 3 := Option.some.inj ((show Tryz.prog.funcNamed "signalcabin/signalcabinlaw.CoverPairs" = some 3 from ClaimCPairs.named).symm.trans hf) |>.symm
      obtain rfl : fn = Tryz.f3 := (Option.some.inj (Tryz.func3.symm.trans hfn)).symm
      exact ⟨by as_aux_lemma => kernel_rfl, fun j t ht => by
        rw [Tryz.params3] at ht
        have hm : t ∈ [9] := by simpa using Array.mem_of_getElem? ht
        have hall : ([9].all fun u => !Tryz.prog.wantsStandIn u) = true := by as_aux_lemma => kernel_rfl
        exact (show Tryz.prog.wantsStandIn t = false by simpa using List.all_eq_true.1 hall t hm)⟩)
    (by as_aux_lemma => kernel_rfl)
end Go.Proofs.YtblfeahbpklgiaaGreatDoor
