/-
  Proved here: for every text, every second text and every number, the call of InductSound returns true (of a text of up to 1500 bytes that package ladder reads, whose program has at most 4 inputs and 100 states, of a second text of up to 300 bytes that package expr reads, and of a number that picks how many scans are tried, 1 to 20: what package induct's Check says is proved, by how many scans, holds as package prop's Check says, and is told the same where one scan more is tried; what it says is refuted doesn't hold, by the inputs that prop's Check tells, as many as it says, and is told the same where one scan more is tried; what stays open holds, or is broken by more inputs than were tried; errors are prop's Check's), and the arguments read behind the call as they did before. Its conditions: the row's own reach, and that the variables that the row lists hold what the program's text lays (the card ties that to the text).
-/
import Derived.Test.YtjlkjhmmbaljiaaGreatDoorIdOverAll
import Derived.Test.YtjlkjhmmbaljiaaGreatDoorTie
import Derived.SevenTiedAt
namespace Go.Proofs.YtjlkjhmmbaljiaaGreatDoor
theorem inductSound_proved : Rows.InductSoundCardSaid :=
  Claim7.holds_tied_plain_at .later [] [.data, .data, .data, .data, .handle, .sentinel, .sentinel, .data, .data, .pinned] true (true, "49c1258c81688b5c4976aee8d3564e81d5e436ffb84dc756973a0cd881ebda23") true
    ClaimInduct.over (fun _ h => by cases h) (by as_aux_lemma => kernel_rfl) (fun _ h => by cases h) inductSound_row_tie rfl ⟨rfl, rfl⟩ (by as_aux_lemma => kernel_rfl) rfl
    (fun f fn hf hfn => by
      obtain rfl : f = 3 := Option.some.inj ((show Tryz.prog.funcNamed "signalcabin/signalcabinkeep.InductSound" = some 3 from ClaimInduct.named).symm.trans hf) |>.symm
      obtain rfl : fn = Tryz.f3 := (Option.some.inj (Tryz.func3.symm.trans hfn)).symm
      exact ⟨by as_aux_lemma => kernel_rfl, fun j t ht => by
        rw [Tryz.params3] at ht
        have hm : t ∈ [9, 9, 3] := by simpa using Array.mem_of_getElem? ht
        have hall : ([9, 9, 3].all fun u => !Tryz.prog.wantsStandIn u) = true := by as_aux_lemma => kernel_rfl
        exact (show Tryz.prog.wantsStandIn t = false by simpa using List.all_eq_true.1 hall t hm)⟩)
    (by as_aux_lemma => kernel_rfl)
end Go.Proofs.YtjlkjhmmbaljiaaGreatDoor
