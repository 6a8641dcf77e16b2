/-
  Proved here: for every text and every list of truths, the call of ReachTarski returns true (of a text of up to 1500 bytes that package ladder reads, whose program has at most 4 inputs and 300 states, and up to 400 truths, one a state: those from which one may come to some are all but those that stay among the others; asked again nothing changes; those that are forced to come may come, and from each other one may go on without; and the first state stays just if all that are come to are among them), and the arguments read behind the call as they did before. Its conditions: the row's own reach, and that the variables that the row lists hold what the program's text lays (the card ties that to the text).
-/
import Derived.Test.YtdmnikbhkpcdpaaGreatDoorTkOverAll
import Derived.Test.YtdmnikbhkpcdpaaGreatDoorTie
import Derived.SevenTiedAt
namespace Go.Proofs.YtdmnikbhkpcdpaaGreatDoor
theorem reachTarski_proved : Rows.ReachTarskiCardSaid :=
  Claim7.holds_tied_plain_at .later [] [.data, .data, .data, .data, .handle, .sentinel, .sentinel, .data, .data, .pinned] true (true, "d287bf7adeb5dc97dba70a4e7ce4f06f777bfd004ff8dbee658a522ad2f12b7d") true
    ClaimTarski.over (fun _ h => by cases h) (by as_aux_lemma => kernel_rfl) (fun _ h => by cases h) reachTarski_row_tie rfl ⟨rfl, rfl⟩ (by as_aux_lemma => kernel_rfl) rfl
    (fun f fn hf hfn => by
      obtain rfl : f = 5 := Option.some.inj ((show Tryz.prog.funcNamed "signalcabin/signalcabinkeep.ReachTarski" = some 5 from ClaimTarski.named).symm.trans hf) |>.symm
      obtain rfl : fn = Tryz.f5 := (Option.some.inj (Tryz.func5.symm.trans hfn)).symm
      exact ⟨by as_aux_lemma => kernel_rfl, fun j t ht => by
        rw [Tryz.params5] at ht
        have hm : t ∈ [9, 45] := by simpa using Array.mem_of_getElem? ht
        have hall : ([9, 45].all fun u => !Tryz.prog.wantsStandIn u) = true := by as_aux_lemma => kernel_rfl
        exact (show Tryz.prog.wantsStandIn t = false by simpa using List.all_eq_true.1 hall t hm)⟩)
    (by as_aux_lemma => kernel_rfl)
end Go.Proofs.YtdmnikbhkpcdpaaGreatDoor
