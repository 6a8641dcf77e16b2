/-
  Proved here: for every text, the call of CoverGoes returns true (of a text of up to 1500 bytes that package ladder reads, whose program has at most 4 inputs and 60 states: its tour goes each way from each state that it comes to, if it says so; its inputs may be; and it is never longer than its ways, each as far as there are states), and the argument reads behind the call as it did before. Its conditions: the row's own reach, and that the variables that the row lists hold what the program's text lays (the card ties that to the text).
-/
import Derived.Test.YtglmpkpcbafgdaaGreatDoorCgOverAll
import Derived.Test.YtglmpkpcbafgdaaGreatDoorTie
import Derived.SevenTiedAt
namespace Go.Proofs.YtglmpkpcbafgdaaGreatDoor
theorem coverGoes_proved : Rows.CoverGoesCardSaid :=
  Claim7.holds_tied_plain_at .later [] [.data, .data, .data, .data, .handle, .sentinel, .sentinel, .data, .data, .pinned] true (true, "55fd4a70b92d11e5c7616059ed09a25c1995c9b9d44d0964542b55d5d5aab1ac") true
    ClaimCGoes.over (fun _ h => by cases h) (by as_aux_lemma => kernel_rfl) (fun _ h => by cases h) coverGoes_row_tie rfl ⟨rfl, rfl⟩ (by as_aux_lemma => kernel_rfl) rfl
    (fun f fn hf hfn => by
      obtain rfl : f = 3 := Option.some.inj ((show Tryz.prog.funcNamed "signalcabin/signalcabinkeep.CoverGoes" = some 3 from ClaimCGoes.named).symm.trans hf) |>.symm
      obtain rfl : fn = Tryz.f3 := (Option.some.inj (Tryz.func3.symm.trans hfn)).symm
      exact ⟨by as_aux_lemma => kernel_rfl, fun j t ht => by
        rw [Tryz.params3] at ht
        have hm : t ∈ [9] := by simpa using Array.mem_of_getElem? ht
        have hall : ([9].all fun u => !Tryz.prog.wantsStandIn u) = true := by as_aux_lemma => kernel_rfl
        exact (show Tryz.prog.wantsStandIn t = false by simpa using List.all_eq_true.1 hall t hm)⟩)
    (by as_aux_lemma => kernel_rfl)
end Go.Proofs.YtglmpkpcbafgdaaGreatDoor
