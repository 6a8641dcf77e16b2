/-
  Proved here: for every text and every list of texts, the call of SliceOfs returns true (of a text of up to 1500 bytes that the document's own ProgramParse reads, and up to 20 names: if one is none of the program's, package slice's Needs and Of refuse them with ErrMissing, and Of's program is empty; else the numbers that Needs tells are the document's, and the program that Of cuts is written as the document's), and the arguments read behind the call as they did before. Its conditions: the row's own reach, and that the variables that the row lists hold what the program's text lays (the card ties that to the text).
-/
import Derived.Test.YtjfgfcajmkbmeaaGreatDoorSoOverAll
import Derived.Test.YtjfgfcajmkbmeaaGreatDoorTie
import Derived.SevenTiedAt
namespace Go.Proofs.YtjfgfcajmkbmeaaGreatDoor
theorem sliceOfs_proved : Rows.SliceOfsCardSaid :=
  Claim7.holds_tied_plain_at .later [] [.data, .data, .data, .data, .handle, .sentinel, .sentinel, .data, .data, .data, .widerDeep, .widerDeep, .pinned] true (true, "609a3093ef0d6bedf656cab46292caa1acb504fe975d3081ecfecb4dd34c16c4") true
    ClaimSOfs.over (fun _ h => by cases h) (by as_aux_lemma => kernel_rfl) (fun _ h => by cases h) sliceOfs_row_tie rfl ⟨rfl, rfl⟩ (by as_aux_lemma => kernel_rfl) rfl
    (fun f fn hf hfn => by
      obtain rfl : f = 3 := Option.some.inj ((show Tryz.prog.funcNamed "signalcabin/signalcabinlaw.SliceOfs" = some 3 from ClaimSOfs.named).symm.trans hf) |>.symm
      obtain rfl : fn = Tryz.f3 := (Option.some.inj (Tryz.func3.symm.trans hfn)).symm
      exact ⟨by as_aux_lemma => kernel_rfl, fun j t ht => by
        rw [Tryz.params3] at ht
        have hm : t ∈ [9, 22] := by simpa using Array.mem_of_getElem? ht
        have hall : ([9, 22].all fun u => !Tryz.prog.wantsStandIn u) = true := by as_aux_lemma => kernel_rfl
        exact (show Tryz.prog.wantsStandIn t = false by simpa using List.all_eq_true.1 hall t hm)⟩)
    (by as_aux_lemma => kernel_rfl)
end Go.Proofs.YtjfgfcajmkbmeaaGreatDoor
