/-
  Proved here: for every text, the call of SliceTidies returns true (of a text of up to 1500 bytes that the document's own ProgramParse reads: the program that package slice makes tidy is written as that which the document's Tidy makes), and the argument reads behind the call as it did before. Its conditions: the row's own reach, and that the variables that the row lists hold what the program's text lays (the card ties that to the text).
-/
import Derived.Test.YtdlcelbbelcfkaaGreatDoorSrOverAll
import Derived.Test.YtdlcelbbelcfkaaGreatDoorTie
import Derived.SevenTiedAt
namespace Go.Proofs.YtdlcelbbelcfkaaGreatDoor
theorem sliceTidies_proved : Rows.SliceTidiesCardSaid :=
  Claim7.holds_tied_plain_at .later [] [.data, .data, .data, .data, .handle, .sentinel, .sentinel, .data, .data, .data, .widerDeep, .widerDeep, .pinned] true (true, "609a3093ef0d6bedf656cab46292caa1acb504fe975d3081ecfecb4dd34c16c4") true
    ClaimSTidies.over (fun _ h => by cases h) (by as_aux_lemma => kernel_rfl) (fun _ h => by cases h) sliceTidies_row_tie rfl ⟨rfl, rfl⟩ (by as_aux_lemma => kernel_rfl) rfl
    (fun f fn hf hfn => by
      obtain rfl : f = 4 := Option.some.inj ((show Tryz.prog.funcNamed "signalcabin/signalcabinlaw.SliceTidies" = some 4 from ClaimSTidies.named).symm.trans hf) |>.symm
      obtain rfl : fn = Tryz.f4 := (Option.some.inj (Tryz.func4.symm.trans hfn)).symm
      exact ⟨by as_aux_lemma => kernel_rfl, fun j t ht => by
        rw [Tryz.params4] at ht
        have hm : t ∈ [9] := by simpa using Array.mem_of_getElem? ht
        have hall : ([9].all fun u => !Tryz.prog.wantsStandIn u) = true := by as_aux_lemma => kernel_rfl
        exact (show Tryz.prog.wantsStandIn t = false by simpa using List.all_eq_true.1 hall t hm)⟩)
    (by as_aux_lemma => kernel_rfl)
end Go.Proofs.YtdlcelbbelcfkaaGreatDoor
