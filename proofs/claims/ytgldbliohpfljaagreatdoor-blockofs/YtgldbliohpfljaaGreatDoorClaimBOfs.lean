/-
  Proved here: for every text and every list of texts, the call of BlockOfs returns true: what a machine's table tells of names is the document's.
-/
import Derived.Test.YtgldbliohpfljaaGreatDoorBfOverAll
import Derived.Test.YtgldbliohpfljaaGreatDoorTie
import Derived.SevenTiedAt
namespace Go.Proofs.YtgldbliohpfljaaGreatDoor
theorem blockOfs_proved : Rows.BlockOfsCardSaid :=
  Claim7.holds_tied_plain_at .later [] [.data, .data, .data, .data, .handle, .sentinel, .sentinel, .data, .data, .data, .widerDeep, .widerDeep, .pinned] true (true, "a7e76be45874c472f0b6d3a6c3383cfb7465c622f6d9cd84e74c7f95312f2699") true
    ClaimBOfs.over (fun _ h => by cases h) (by as_aux_lemma => kernel_rfl) (fun _ h => by cases h) blockOfs_row_tie rfl ⟨rfl, rfl⟩ (by as_aux_lemma => kernel_rfl) rfl
    (fun f fn hf hfn => by
      obtain rfl : f = 6 := Option.some.inj ((show Tryz.prog.funcNamed "signalcabin/signalcabinlaw.BlockOfs" = some 6 from ClaimBOfs.named).symm.trans hf) |>.symm
      obtain rfl : fn = Tryz.f6 := (Option.some.inj (Tryz.func6.symm.trans hfn)).symm
      exact ⟨by as_aux_lemma => kernel_rfl, fun j t ht => by
        rw [Tryz.params6] at ht
        have hm : t ∈ [9, 65] := by simpa using Array.mem_of_getElem? ht
        have hall : ([9, 65].all fun u => !Tryz.prog.wantsStandIn u) = true := by as_aux_lemma => kernel_rfl
        exact (show Tryz.prog.wantsStandIn t = false by simpa using List.all_eq_true.1 hall t hm)⟩)
    (by as_aux_lemma => kernel_rfl)
end Go.Proofs.YtgldbliohpfljaaGreatDoor
