/-
  Proved here: for every text and every list of numbers, the call of ScanBounds returns true (of a text of up to 1500 bytes that package ladder reads, and up to 60 numbers whose bits are the inputs of as many scans: behind each scan no count is below 0 or beyond its own, timers and counters are true just where they are there, and inputs are what came), and the arguments read behind the call as they did before. Its conditions: the row's own reach, and that the variables that the row lists hold what the program's text lays (the card ties that to the text).
-/
import Derived.Test.YtlgbihmncoeanaaGreatDoorBdOverAll
import Derived.Test.YtlgbihmncoeanaaGreatDoorTie
import Derived.SevenTiedAt
namespace Go.Proofs.YtlgbihmncoeanaaGreatDoor
theorem scanBounds_proved : Rows.ScanBoundsCardSaid :=
  Claim7.holds_tied_plain_at .later [] [.data, .data, .data, .data, .handle, .sentinel, .sentinel, .data, .data, .pinned] true (true, "e3afd28aa9fcf849975e675a1038073a65c19341a4b57dca26a11f191b3906fa") true
    ClaimBounds.over (fun _ h => by cases h) (by as_aux_lemma => kernel_rfl) (fun _ h => by cases h) scanBounds_row_tie rfl ⟨rfl, rfl⟩ (by as_aux_lemma => kernel_rfl) rfl
    (fun f fn hf hfn => by
      obtain rfl : f = 7 := Option.some.inj ((show Tryz.prog.funcNamed "signalcabin/signalcabinkeep.ScanBounds" = some 7 from ClaimBounds.named).symm.trans hf) |>.symm
      obtain rfl : fn = Tryz.f7 := (Option.some.inj (Tryz.func7.symm.trans hfn)).symm
      exact ⟨by as_aux_lemma => kernel_rfl, fun j t ht => by
        rw [Tryz.params7] at ht
        have hm : t ∈ [9, 56] := by simpa using Array.mem_of_getElem? ht
        have hall : ([9, 56].all fun u => !Tryz.prog.wantsStandIn u) = true := by as_aux_lemma => kernel_rfl
        exact (show Tryz.prog.wantsStandIn t = false by simpa using List.all_eq_true.1 hall t hm)⟩)
    (by as_aux_lemma => kernel_rfl)
end Go.Proofs.YtlgbihmncoeanaaGreatDoor
