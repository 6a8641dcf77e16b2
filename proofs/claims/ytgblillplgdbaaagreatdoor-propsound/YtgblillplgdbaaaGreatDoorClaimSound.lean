/-
  Proved here: for every text, every second text and every list of numbers, the call of PropSound returns true (of a text of up to 1500 bytes that package ladder reads, whose program has at most 4 inputs and 200 states, of a second text of up to 300 bytes that package expr reads, and of up to 40 numbers that pick inputs: if package prop's Check says that the expression holds, it holds behind each scan that is played; else it doesn't behind the last one of the inputs that Check tells, and does behind all others of them), and the arguments read behind the call as they did before. Its conditions: the row's own reach, and that the variables that the row lists hold what the program's text lays (the card ties that to the text).
-/
import Derived.Test.YtgblillplgdbaaaGreatDoorSdOverAll
import Derived.Test.YtgblillplgdbaaaGreatDoorTie
import Derived.SevenTiedAt
namespace Go.Proofs.YtgblillplgdbaaaGreatDoor
theorem propSound_proved : Rows.PropSoundCardSaid :=
  Claim7.holds_tied_plain_at .later [] [.data, .data, .data, .data, .handle, .sentinel, .sentinel, .data, .data, .pinned] true (true, "79e19aa3a818f6a981ff774c3f9a66b9c776cb26fb1c57e45ce565d3efd467c2") true
    ClaimSound.over (fun _ h => by cases h) (by as_aux_lemma => kernel_rfl) (fun _ h => by cases h) propSound_row_tie rfl ⟨rfl, rfl⟩ (by as_aux_lemma => kernel_rfl) rfl
    (fun f fn hf hfn => by
      obtain rfl : f = 3 := Option.some.inj ((show Tryz.prog.funcNamed "signalcabin/signalcabinkeep.PropSound" = some 3 from ClaimSound.named).symm.trans hf) |>.symm
      obtain rfl : fn = Tryz.f3 := (Option.some.inj (Tryz.func3.symm.trans hfn)).symm
      exact ⟨by as_aux_lemma => kernel_rfl, fun j t ht => by
        rw [Tryz.params3] at ht
        have hm : t ∈ [9, 9, 22] := by simpa using Array.mem_of_getElem? ht
        have hall : ([9, 9, 22].all fun u => !Tryz.prog.wantsStandIn u) = true := by as_aux_lemma => kernel_rfl
        exact (show Tryz.prog.wantsStandIn t = false by simpa using List.all_eq_true.1 hall t hm)⟩)
    (by as_aux_lemma => kernel_rfl)
end Go.Proofs.YtgblillplgdbaaaGreatDoor
