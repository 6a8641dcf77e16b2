/-
  Proved here: for every text and every list of numbers, the call of MachinePlays returns true (of a text of up to 1500 bytes that package ladder reads, whose program has at most 4 inputs and 300 states, and up to 40 numbers whose bits are the inputs of as many scans: state by state the machine comes to the number of what is played, and sees just what is true; each number is that of its state; the first state is 0), and the arguments read behind the call as they did before. Its conditions: the row's own reach, and that the variables that the row lists hold what the program's text lays (the card ties that to the text).
-/
import Derived.Test.YtdmnikbhkpcdpaaGreatDoorMpOverAll
import Derived.Test.YtdmnikbhkpcdpaaGreatDoorTie
import Derived.SevenTiedAt
namespace Go.Proofs.YtdmnikbhkpcdpaaGreatDoor
theorem machinePlays_proved : Rows.MachinePlaysCardSaid :=
  Claim7.holds_tied_plain_at .later [] [.data, .data, .data, .data, .handle, .sentinel, .sentinel, .data, .data, .pinned] true (true, "d287bf7adeb5dc97dba70a4e7ce4f06f777bfd004ff8dbee658a522ad2f12b7d") true
    ClaimPlays.over (fun _ h => by cases h) (by as_aux_lemma => kernel_rfl) (fun _ h => by cases h) machinePlays_row_tie rfl ⟨rfl, rfl⟩ (by as_aux_lemma => kernel_rfl) rfl
    (fun f fn hf hfn => by
      obtain rfl : f = 3 := Option.some.inj ((show Tryz.prog.funcNamed "signalcabin/signalcabinkeep.MachinePlays" = some 3 from ClaimPlays.named).symm.trans hf) |>.symm
      obtain rfl : fn = Tryz.f3 := (Option.some.inj (Tryz.func3.symm.trans hfn)).symm
      exact ⟨by as_aux_lemma => kernel_rfl, fun j t ht => by
        rw [Tryz.params3] at ht
        have hm : t ∈ [9, 22] := by simpa using Array.mem_of_getElem? ht
        have hall : ([9, 22].all fun u => !Tryz.prog.wantsStandIn u) = true := by as_aux_lemma => kernel_rfl
        exact (show Tryz.prog.wantsStandIn t = false by simpa using List.all_eq_true.1 hall t hm)⟩)
    (by as_aux_lemma => kernel_rfl)
end Go.Proofs.YtdmnikbhkpcdpaaGreatDoor
