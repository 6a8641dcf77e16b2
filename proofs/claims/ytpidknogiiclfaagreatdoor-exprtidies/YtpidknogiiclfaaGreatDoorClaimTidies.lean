/-
  Proved here: for every text, the call of ExprTidies returns true (a text of up to 1000 bytes that the document's reader takes is read by package expr too, and made tidy it is written as the document's is), and the argument reads behind the call as it did before. Its conditions: the row's own reach, and that the document's variable Fine and the three tables of Go's library that the row lists hold what the program's text lays (the card ties that to the text).
-/
import Derived.Test.YtpidknogiiclfaaGreatDoorLwTidies
import Derived.Test.YtpidknogiiclfaaGreatDoorTie
import Derived.Test.YtpidknogiiclfaaGreatDoorCards
import Derived.ProofKit
import Derived.LaidMore
import Derived.LaidHandle
import Derived.LaidSub
import Derived.OpenShut
import Derived.ShutString
import Derived.ChangeOld
import Derived.ChangeSame
import Derived.Below
import Derived.Stop.Joined
import Derived.SevenTiedAt
namespace Go.Proofs.YtpidknogiiclfaaGreatDoor
namespace ClaimTidies
open Go.ChangeShapes Go.WideShapes Go.ChangeAt Go.RowKit
open Go.ChangeMaps (open_string shut_string)
set_option linter.unusedVariables false
theorem own : ownKnob Tryz.prog.godebug = none := by kernel_rfl
theorem laidOut : laidOutB Tryz.prog = true := by kernel_rfl
theorem gFine : Tryz.prog.globalNamed "signalcabin/signalcabinref.Fine" = some 0 := by kernel_rfl
theorem tFine : (Tryz.prog.globals[0]?).map (·.type) = some 44 := by kernel_rfl
theorem tPow : (Tryz.prog.globals[2]?).map (·.type) = some 172 := by kernel_rfl
theorem door_met (os : Os) (args : Array Value) : laidMetH Tryz.prog Rows.exprTidiesRow.laid ((World.doorLaid Tryz.prog 400 os).forCall (fun _ _ => 0) ⟨#[], args, []⟩).memory :=
  laidMetH_of_parts3 (fuel := 8) (laidMet_of_run' 8 (by kernel_rfl) (by kernel_rfl)) (by kernel_rfl) (by kernel_rfl)
theorem only : (Rows.exprTidiesRow.laid.filter fun x => x.1 == "internal/strconv.uint64pow10") = [("internal/strconv.uint64pow10", Lib.tabData .u64 Lib.pow10Tab)] := by kernel_rfl
theorem onlyFine : (Rows.exprTidiesRow.laid.filter fun x => x.1 == "signalcabin/signalcabinref.Fine") = [("signalcabin/signalcabinref.Fine", Rows.laid_signalcabin_signalcabinref_Fine)] := by kernel_rfl
theorem pow_of {W : World} (h0 : laidMetH Tryz.prog Rows.exprTidiesRow.laid W) : Pow W := by
  have h := h0
  rw [MakeChecks.laidMetH_plain _ _ _ (by kernel_rfl)] at h
  have h1 := h.filter fun x => x.1 == "internal/strconv.uint64pow10"
  rw [only] at h1
  exact Lib.tabIs_of_head gPow tPow Tryz.underlying172 Tryz.underlying130 (by kernel_rfl) (by kernel_rfl) h1
set_option maxRecDepth 100000 in
theorem fine_of {W : World} (h00 : laidMetH Tryz.prog Rows.exprTidiesRow.laid W) : Fine W := by
  have h0 := h00
  rw [MakeChecks.laidMetH_plain _ _ _ (by kernel_rfl)] at h0
  have h := h0.filter fun x => x.1 == "signalcabin/signalcabinref.Fine"
  rw [onlyFine] at h
  obtain ⟨ps, ⟨g0, t0, cs0, f0, p0, q0, hg0, ht0, hv0, hd0, _, _⟩, _, _⟩ := h
  obtain rfl := Option.some.inj (gFine.symm.trans hg0)
  obtain rfl := Option.some.inj (tFine.symm.trans ht0)
  obtain ⟨y0, y1, n, hx, hl, hy0, hy1⟩ := trod_struct2 Tryz.underlying44 hd0
  have c42 : Tryz.prog.cellsOf 42 = 1 := by kernel_rfl
  have c3 : Tryz.prog.cellsOf 3 = 1 := by kernel_rfl
  obtain ⟨k0, e0, e0', _⟩ := DataW.trod_int Tryz.underlying42 hy0
  obtain ⟨k1, e1, e1', _⟩ := DataW.trod_int Tryz.underlying3 hy1
  rw [c42] at e0
  rw [c3] at e1
  simp only [Prod.mk.injEq] at hx
  have hx1 := hx.1
  rw [e0', e1'] at hx1
  simp only [Rows.laid_signalcabin_signalcabinref_Fine, DataW.agg.injEq, List.cons.injEq, DataW.lit.injEq, Lit.int.injEq, true_and, and_true] at hx1
  obtain ⟨rfl, rfl⟩ := hx1
  have v0 := World.var?_cell hg0 hv0 0
  have v1 := World.var?_cell hg0 hv0 1
  obtain ⟨l0⟩ := cs0
  rcases l0 with _ | ⟨c, _ | ⟨d, r⟩⟩
  · simp at e0
  · simp at e1
  · simp at e0 e1
    subst e0
    subst e1
    exact ⟨by simpa using v0, by simpa using v1⟩
set_option maxRecDepth 100000 in
theorem lifted (os : Os) (started : os.Started) (H : Type) (enc : TypeId × Value → H) :
    ReturnsInHanded {} Tryz.checked os 4 .any (fun w args => (Rows.exprTidiesSpec.pre enc Tryz.prog Tryz.f4 [] false w args ∧ laidMetH Tryz.prog Rows.exprTidiesRow.laid w) ∧ sizedMet enc Tryz.prog Tryz.f4 (OpenSpec.ofChange Rows.exprTidiesSpec) false w args)
      (Rows.exprTidiesSpec.post enc Tryz.prog Tryz.f4 false true false false) := by
  refine returnsInHanded_of_change_and (C := Tryz.checked) (X := fun w _ => laidMetH Tryz.prog Rows.exprTidiesRow.laid w) (fun _ _ _ hh h => h.of_heap hh) own started (by kernel_rfl) Tryz.func4
    (ChangeSpec.witness_shaped (enc := enc) (C := Tryz.checked) (os := os) (X := fun w _ => laidMetH Tryz.prog Rows.exprTidiesRow.laid w) false (World.doorLaid Tryz.prog 400 os) #[.string ByteArray.empty] 8 rfl (World.shaped_of_RefB (by kernel_rfl) (by kernel_rfl)) (by kernel_rfl) (by kernel_rfl) (by kernel_rfl) (door_met os _)) ?_
  intro W base args ds gs before hval0 hW _ _ hL _
  have hf := fine_of hL
  have hpw := pow_of hL
  have hval : ∀ (j : Nat) t v, Tryz.f4.params[j]? = some t → args[j]? = some v → Value.okWide Tryz.prog W .any base t v := hval0
  have hW' := hW
  obtain ⟨p, q, hA0, hV, rfl, hfz, hnd⟩ := hW
  have hA : DataW.TrodAll enc Tryz.prog W 0 (fun _ => true) true Tryz.f4.params.toList args.toList ds p := hA0
  rw [Tryz.params4] at hA hval
  obtain ⟨v0, d0, rfl, rfl, h0⟩ := trodAll_one hA
  obtain ⟨rfl, rfl⟩ := trodVars_none hV
  obtain ⟨a0, rfl, rfl, rfl, w0⟩ := open_string Tryz.underlying9 (hval 0 9 v0 rfl rfl) h0
  clear hA0 hval0
  refine (exprTidies_any a0 w0 W hf hpw).mono fun e W' ⟨he, bel⟩ => ?_
  subst he
  exact ⟨_, rfl, _, _, _, [], _, [], hW', trodAll_mk1 (shut_bool Tryz.underlying4 _), trodAll_mk1 (shut_string Tryz.underlying9 w0), rfl, bel.frame _, fun h => by cases h⟩
theorem over : Rows.ExprTidiesSaid :=
  OpenClaim.holds_of_wide 4 Tryz.f4 rfl rfl rfl rfl rfl rfl rfl ⟨rfl, rfl, rfl, rfl, rfl⟩ rfl rfl rfl rfl rfl (by kernel_rfl) Tryz.func4 (by kernel_rfl)
    (of_decide_eq_true (by kernel_rfl)) (by unfold Func.isWrapper; first | (rw [if_pos (by decide +kernel)]; kernel_rfl) | (rw [if_neg (by decide +kernel)]; exact ⟨rfl, rfl⟩))
    (fun os started H enc _ => lifted os started H enc)
end ClaimTidies
theorem exprTidies_proved : Rows.ExprTidiesCardSaid :=
  Claim7.holds_tied_plain_at .later [] [.data, .data, .data, .data] true (true, "ce85b4f15bcdcb57d8d7fc27d21a185fe5e18e9431a436a21c481ffb8f2fea39") true
    ClaimTidies.over (fun _ h => by cases h) (by kernel_rfl) (fun _ h => by cases h) exprTidies_row_tie rfl ⟨rfl, rfl⟩ (by kernel_rfl) rfl
    (fun f fn hf hfn => by
      obtain rfl : f = 4 := Option.some.inj ((show Tryz.prog.funcNamed "signalcabin/signalcabinlaw.ExprTidies" = some 4 by kernel_rfl).symm.trans hf) |>.symm
      obtain rfl : fn = Tryz.f4 := (Option.some.inj (Tryz.func4.symm.trans hfn)).symm
      exact ⟨by kernel_rfl, fun j t ht => by
        rw [Tryz.params4] at ht
        have hm : t ∈ [9] := by simpa using Array.mem_of_getElem? ht
        have hall : ([9].all fun u => !Tryz.prog.wantsStandIn u) = true := by kernel_rfl
        exact (show Tryz.prog.wantsStandIn t = false by simpa using List.all_eq_true.1 hall t hm)⟩)
    (by kernel_rfl)
end Go.Proofs.YtpidknogiiclfaaGreatDoor
