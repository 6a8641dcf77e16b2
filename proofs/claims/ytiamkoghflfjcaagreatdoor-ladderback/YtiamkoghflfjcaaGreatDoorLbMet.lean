/-
  A start that meets what LadderBack's row (and those of its kin) lists of the package variables.
-/
import Derived.Test.YtiamkoghflfjcaaGreatDoorLdLaid
import Derived.Lay
namespace Go.Proofs.YtiamkoghflfjcaaGreatDoor
namespace LbMet
open Go.RowKit
theorem all {w0 : World} {laid : List (String × DataW Unit)} (args : Array Value) (hf : w0.layFits Tryz.prog laid [] = true) (hi : w0.layIfaces Tryz.prog laid (w0.layVars Tryz.prog laid) = true) :
    laidMet Tryz.prog laid ((w0.layVars Tryz.prog laid).forCall (fun _ _ => 0) ⟨#[], args, []⟩).memory := by
  have e1 : (laid.filter fun x => (laid.map (·.1)).contains x.1) = laid := List.filter_eq_self.2 fun x hx => List.contains_iff_mem.2 (List.mem_map.2 ⟨x, hx, rfl⟩)
  have e2 : (laid.filter fun x => !(laid.map (·.1)).contains x.1) = [] := List.filter_eq_nil_iff.2 fun x hx => by rw [List.contains_iff_mem.2 (List.mem_map.2 ⟨x, hx, rfl⟩)]; simp
  have h : laidMet Tryz.prog laid (w0.layVars Tryz.prog laid) := laidMet_layVars (w0 := w0) (laid.map (·.1)) [] (by rw [e1]) (by rw [e1]; exact hf) (by rw [e1]; exact hi) (by rw [e2]; exact LaidIn.none)
  exact h.of_heap (by simp [World.memory, World.forCall, Input.heap])
/-- what is laid by the law -/
def data : List (String × DataW Unit) := Rows.ladderBackRow.laid.filter fun x => x.2.handleName?.isNone
theorem start_os (os : Os) : ((World.doorLaid Tryz.prog 400 os).layVars Tryz.prog data).os = os := (World.layVars_os _ _ _).trans rfl
theorem fits (os : Os) : (World.doorLaid Tryz.prog 400 os).layFits Tryz.prog data [] = true := by kernel_rfl
theorem ifaces (os : Os) : (World.doorLaid Tryz.prog 400 os).layIfaces Tryz.prog data ((World.doorLaid Tryz.prog 400 os).layVars Tryz.prog data) = true := by kernel_rfl
theorem hand (os : Os) (args : Array Value) : (Rows.ladderBackRow.laid.filter fun x => x.2.handleName?.isSome && x.2.funcsIn?.isNone).all (handleAtB Tryz.prog (((World.doorLaid Tryz.prog 400 os).layVars Tryz.prog data).forCall (fun _ _ => 0) ⟨#[], args, []⟩).memory) = true := by kernel_rfl
theorem met (os : Os) (args : Array Value) : laidMetH Tryz.prog Rows.ladderBackRow.laid (((World.doorLaid Tryz.prog 400 os).layVars Tryz.prog data).forCall (fun _ _ => 0) ⟨#[], args, []⟩).memory :=
  laidMetH_of_parts3 (fuel := 8) (all args (fits os) (ifaces os)) (hand os args) (by kernel_rfl)
theorem shape (os : Os) (args : Array Value) : (((World.doorLaid Tryz.prog 400 os).layVars Tryz.prog data).forCall (fun _ _ => 0) ⟨#[], args, []⟩).Shaped Tryz.prog := World.shaped_of_ZipB (by kernel_rfl) (by kernel_rfl)
end LbMet
end Go.Proofs.YtiamkoghflfjcaaGreatDoor
