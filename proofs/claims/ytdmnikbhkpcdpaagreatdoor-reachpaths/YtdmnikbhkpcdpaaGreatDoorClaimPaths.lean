/-
  Proved here: for every text and every number, the call of ReachPaths returns true (of a text of up to 1500 bytes that package ladder reads, whose program has at most 4 inputs and 300 states, and a number that picks a state: a path leads to that state, or none is told and none does; none that is shorter does; along it one is as far as one has gone), and the arguments read behind the call as they did before. Its conditions: the row's own reach, and that the variables that the row lists hold what the program's text lays (the card ties that to the text).
-/
import Derived.Test.YtdmnikbhkpcdpaaGreatDoorRpOverAll
import Derived.Test.YtdmnikbhkpcdpaaGreatDoorTie
import Derived.SevenTiedAt
namespace Go.Proofs.YtdmnikbhkpcdpaaGreatDoor
theorem reachPaths_proved : Rows.ReachPathsCardSaid :=
  Claim7.holds_tied_plain_at .later [] [.data, .data, .data, .data, .handle, .sentinel, .sentinel, .data, .data, .pinned] true (true, "d287bf7adeb5dc97dba70a4e7ce4f06f777bfd004ff8dbee658a522ad2f12b7d") true
    ClaimPaths.over (fun _ h => by cases h) (by as_aux_lemma => kernel_rfl) (fun _ h => by cases h) reachPaths_row_tie rfl ⟨rfl, rfl⟩ (by as_aux_lemma => kernel_rfl) rfl
    (fun f fn hf hfn => by
      obtain rfl : f = 4 := Option.some.inj ((show Tryz.prog.funcNamed "signalcabin/signalcabinkeep.ReachPaths" = some 4 from ClaimPaths.named).symm.trans hf) |>.symm
      obtain rfl : fn = Tryz.f4 := (Option.some.inj (Tryz.func4.symm.trans hfn)).symm
      exact ⟨by as_aux_lemma => kernel_rfl, fun j t ht => by
        rw [Tryz.params4] at ht
        have hm : t ∈ [9, 3] := by simpa using Array.mem_of_getElem? ht
        have hall : ([9, 3].all fun u => !Tryz.prog.wantsStandIn u) = true := by as_aux_lemma => kernel_rfl
        exact (show Tryz.prog.wantsStandIn t = false by simpa using List.all_eq_true.1 hall t hm)⟩)
    (by as_aux_lemma => kernel_rfl)
end Go.Proofs.YtdmnikbhkpcdpaaGreatDoor
