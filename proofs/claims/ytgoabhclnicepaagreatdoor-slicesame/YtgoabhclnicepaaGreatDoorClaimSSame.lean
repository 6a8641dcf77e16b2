/-
  Proved here: for every text and every two lists of numbers, the call of SliceSame returns true (of a text of up to 1500 bytes that package ladder reads, up to 12 of whose names are picked by the first list, and up to 40 numbers of the second one whose bits are the inputs of as many scans: behind each scan each picked name is, and has run or counted, in the program that package slice cuts for them as in the whole one; and that program cut once more is written the same), and the arguments read behind the call as they did before. Its conditions: the row's own reach, and that the variables that the row lists hold what the program's text lays (the card ties that to the text).
-/
import Derived.Test.YtgoabhclnicepaaGreatDoorSsOverAll
import Derived.Test.YtgoabhclnicepaaGreatDoorTie
import Derived.SevenTiedAt
namespace Go.Proofs.YtgoabhclnicepaaGreatDoor
theorem sliceSame_proved : Rows.SliceSameCardSaid :=
  Claim7.holds_tied_plain_at .later [] [.data, .data, .data, .data, .handle, .sentinel, .sentinel, .data, .data, .pinned] true (true, "c0ff5344c4c56c0ab3703f0ad4ab2a9566de46900f5ae0c3d0315447d786800c") true
    ClaimSSame.over (fun _ h => by cases h) (by as_aux_lemma => kernel_rfl) (fun _ h => by cases h) sliceSame_row_tie rfl ⟨rfl, rfl⟩ (by as_aux_lemma => kernel_rfl) rfl
    (fun f fn hf hfn => by
      obtain rfl : f = 3 := Option.some.inj ((show Tryz.prog.funcNamed "signalcabin/signalcabinkeep.SliceSame" = some 3 from ClaimSSame.named).symm.trans hf) |>.symm
      obtain rfl : fn = Tryz.f3 := (Option.some.inj (Tryz.func3.symm.trans hfn)).symm
      exact ⟨by as_aux_lemma => kernel_rfl, fun j t ht => by
        rw [Tryz.params3] at ht
        have hm : t ∈ [9, 22, 22] := by simpa using Array.mem_of_getElem? ht
        have hall : ([9, 22, 22].all fun u => !Tryz.prog.wantsStandIn u) = true := by as_aux_lemma => kernel_rfl
        exact (show Tryz.prog.wantsStandIn t = false by simpa using List.all_eq_true.1 hall t hm)⟩)
    (by as_aux_lemma => kernel_rfl)
end Go.Proofs.YtgoabhclnicepaaGreatDoor
