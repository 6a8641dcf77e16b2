/-
  What a type switch over an expression comes to, type by type.
-/
import Derived.Test.YtblfeahbpklgiaaGreatDoorExRep
namespace Go.Proofs.YtblfeahbpklgiaaGreatDoor
@[go_sem] theorem asConstConst (v : Value) (w : World) : (Instr.typeAssert (.iface 107 v) 23 107 true).run Tryz.prog w = .ok (.tuple #[v, .bool true]) w := by kernel_rfl
@[go_sem] theorem asConstBit (v : Value) (w : World) : (Instr.typeAssert (.iface 107 v) 23 89 true).run Tryz.prog w = .ok (.tuple #[.string ⟨#[]⟩, .bool false]) w := by kernel_rfl
@[go_sem] theorem asConstRise (v : Value) (w : World) : (Instr.typeAssert (.iface 107 v) 23 90 true).run Tryz.prog w = .ok (.tuple #[.string ⟨#[]⟩, .bool false]) w := by kernel_rfl
@[go_sem] theorem asConstFall (v : Value) (w : World) : (Instr.typeAssert (.iface 107 v) 23 91 true).run Tryz.prog w = .ok (.tuple #[.string ⟨#[]⟩, .bool false]) w := by kernel_rfl
@[go_sem] theorem asConstNot (v : Value) (w : World) : (Instr.typeAssert (.iface 107 v) 23 104 true).run Tryz.prog w = .ok (.tuple #[.agg #[.nilIface], .bool false]) w := by kernel_rfl
@[go_sem] theorem asConstAnd (v : Value) (w : World) : (Instr.typeAssert (.iface 107 v) 23 102 true).run Tryz.prog w = .ok (.tuple #[.slice none 0 0, .bool false]) w := by kernel_rfl
@[go_sem] theorem asConstOr (v : Value) (w : World) : (Instr.typeAssert (.iface 107 v) 23 86 true).run Tryz.prog w = .ok (.tuple #[.slice none 0 0, .bool false]) w := by kernel_rfl
@[go_sem] theorem asBitConst (v : Value) (w : World) : (Instr.typeAssert (.iface 89 v) 23 107 true).run Tryz.prog w = .ok (.tuple #[.bool false, .bool false]) w := by kernel_rfl
@[go_sem] theorem asBitBit (v : Value) (w : World) : (Instr.typeAssert (.iface 89 v) 23 89 true).run Tryz.prog w = .ok (.tuple #[v, .bool true]) w := by kernel_rfl
@[go_sem] theorem asBitRise (v : Value) (w : World) : (Instr.typeAssert (.iface 89 v) 23 90 true).run Tryz.prog w = .ok (.tuple #[.string ⟨#[]⟩, .bool false]) w := by kernel_rfl
@[go_sem] theorem asBitFall (v : Value) (w : World) : (Instr.typeAssert (.iface 89 v) 23 91 true).run Tryz.prog w = .ok (.tuple #[.string ⟨#[]⟩, .bool false]) w := by kernel_rfl
@[go_sem] theorem asBitNot (v : Value) (w : World) : (Instr.typeAssert (.iface 89 v) 23 104 true).run Tryz.prog w = .ok (.tuple #[.agg #[.nilIface], .bool false]) w := by kernel_rfl
@[go_sem] theorem asBitAnd (v : Value) (w : World) : (Instr.typeAssert (.iface 89 v) 23 102 true).run Tryz.prog w = .ok (.tuple #[.slice none 0 0, .bool false]) w := by kernel_rfl
@[go_sem] theorem asBitOr (v : Value) (w : World) : (Instr.typeAssert (.iface 89 v) 23 86 true).run Tryz.prog w = .ok (.tuple #[.slice none 0 0, .bool false]) w := by kernel_rfl
@[go_sem] theorem asRiseConst (v : Value) (w : World) : (Instr.typeAssert (.iface 90 v) 23 107 true).run Tryz.prog w = .ok (.tuple #[.bool false, .bool false]) w := by kernel_rfl
@[go_sem] theorem asRiseBit (v : Value) (w : World) : (Instr.typeAssert (.iface 90 v) 23 89 true).run Tryz.prog w = .ok (.tuple #[.string ⟨#[]⟩, .bool false]) w := by kernel_rfl
@[go_sem] theorem asRiseRise (v : Value) (w : World) : (Instr.typeAssert (.iface 90 v) 23 90 true).run Tryz.prog w = .ok (.tuple #[v, .bool true]) w := by kernel_rfl
@[go_sem] theorem asRiseFall (v : Value) (w : World) : (Instr.typeAssert (.iface 90 v) 23 91 true).run Tryz.prog w = .ok (.tuple #[.string ⟨#[]⟩, .bool false]) w := by kernel_rfl
@[go_sem] theorem asRiseNot (v : Value) (w : World) : (Instr.typeAssert (.iface 90 v) 23 104 true).run Tryz.prog w = .ok (.tuple #[.agg #[.nilIface], .bool false]) w := by kernel_rfl
@[go_sem] theorem asRiseAnd (v : Value) (w : World) : (Instr.typeAssert (.iface 90 v) 23 102 true).run Tryz.prog w = .ok (.tuple #[.slice none 0 0, .bool false]) w := by kernel_rfl
@[go_sem] theorem asRiseOr (v : Value) (w : World) : (Instr.typeAssert (.iface 90 v) 23 86 true).run Tryz.prog w = .ok (.tuple #[.slice none 0 0, .bool false]) w := by kernel_rfl
@[go_sem] theorem asFallConst (v : Value) (w : World) : (Instr.typeAssert (.iface 91 v) 23 107 true).run Tryz.prog w = .ok (.tuple #[.bool false, .bool false]) w := by kernel_rfl
@[go_sem] theorem asFallBit (v : Value) (w : World) : (Instr.typeAssert (.iface 91 v) 23 89 true).run Tryz.prog w = .ok (.tuple #[.string ⟨#[]⟩, .bool false]) w := by kernel_rfl
@[go_sem] theorem asFallRise (v : Value) (w : World) : (Instr.typeAssert (.iface 91 v) 23 90 true).run Tryz.prog w = .ok (.tuple #[.string ⟨#[]⟩, .bool false]) w := by kernel_rfl
@[go_sem] theorem asFallFall (v : Value) (w : World) : (Instr.typeAssert (.iface 91 v) 23 91 true).run Tryz.prog w = .ok (.tuple #[v, .bool true]) w := by kernel_rfl
@[go_sem] theorem asFallNot (v : Value) (w : World) : (Instr.typeAssert (.iface 91 v) 23 104 true).run Tryz.prog w = .ok (.tuple #[.agg #[.nilIface], .bool false]) w := by kernel_rfl
@[go_sem] theorem asFallAnd (v : Value) (w : World) : (Instr.typeAssert (.iface 91 v) 23 102 true).run Tryz.prog w = .ok (.tuple #[.slice none 0 0, .bool false]) w := by kernel_rfl
@[go_sem] theorem asFallOr (v : Value) (w : World) : (Instr.typeAssert (.iface 91 v) 23 86 true).run Tryz.prog w = .ok (.tuple #[.slice none 0 0, .bool false]) w := by kernel_rfl
@[go_sem] theorem asNotConst (v : Value) (w : World) : (Instr.typeAssert (.iface 104 v) 23 107 true).run Tryz.prog w = .ok (.tuple #[.bool false, .bool false]) w := by kernel_rfl
@[go_sem] theorem asNotBit (v : Value) (w : World) : (Instr.typeAssert (.iface 104 v) 23 89 true).run Tryz.prog w = .ok (.tuple #[.string ⟨#[]⟩, .bool false]) w := by kernel_rfl
@[go_sem] theorem asNotRise (v : Value) (w : World) : (Instr.typeAssert (.iface 104 v) 23 90 true).run Tryz.prog w = .ok (.tuple #[.string ⟨#[]⟩, .bool false]) w := by kernel_rfl
@[go_sem] theorem asNotFall (v : Value) (w : World) : (Instr.typeAssert (.iface 104 v) 23 91 true).run Tryz.prog w = .ok (.tuple #[.string ⟨#[]⟩, .bool false]) w := by kernel_rfl
@[go_sem] theorem asNotNot (v : Value) (w : World) : (Instr.typeAssert (.iface 104 v) 23 104 true).run Tryz.prog w = .ok (.tuple #[v, .bool true]) w := by kernel_rfl
@[go_sem] theorem asNotAnd (v : Value) (w : World) : (Instr.typeAssert (.iface 104 v) 23 102 true).run Tryz.prog w = .ok (.tuple #[.slice none 0 0, .bool false]) w := by kernel_rfl
@[go_sem] theorem asNotOr (v : Value) (w : World) : (Instr.typeAssert (.iface 104 v) 23 86 true).run Tryz.prog w = .ok (.tuple #[.slice none 0 0, .bool false]) w := by kernel_rfl
@[go_sem] theorem asAndConst (v : Value) (w : World) : (Instr.typeAssert (.iface 102 v) 23 107 true).run Tryz.prog w = .ok (.tuple #[.bool false, .bool false]) w := by kernel_rfl
@[go_sem] theorem asAndBit (v : Value) (w : World) : (Instr.typeAssert (.iface 102 v) 23 89 true).run Tryz.prog w = .ok (.tuple #[.string ⟨#[]⟩, .bool false]) w := by kernel_rfl
@[go_sem] theorem asAndRise (v : Value) (w : World) : (Instr.typeAssert (.iface 102 v) 23 90 true).run Tryz.prog w = .ok (.tuple #[.string ⟨#[]⟩, .bool false]) w := by kernel_rfl
@[go_sem] theorem asAndFall (v : Value) (w : World) : (Instr.typeAssert (.iface 102 v) 23 91 true).run Tryz.prog w = .ok (.tuple #[.string ⟨#[]⟩, .bool false]) w := by kernel_rfl
@[go_sem] theorem asAndNot (v : Value) (w : World) : (Instr.typeAssert (.iface 102 v) 23 104 true).run Tryz.prog w = .ok (.tuple #[.agg #[.nilIface], .bool false]) w := by kernel_rfl
@[go_sem] theorem asAndAnd (v : Value) (w : World) : (Instr.typeAssert (.iface 102 v) 23 102 true).run Tryz.prog w = .ok (.tuple #[v, .bool true]) w := by kernel_rfl
@[go_sem] theorem asAndOr (v : Value) (w : World) : (Instr.typeAssert (.iface 102 v) 23 86 true).run Tryz.prog w = .ok (.tuple #[.slice none 0 0, .bool false]) w := by kernel_rfl
@[go_sem] theorem asOrConst (v : Value) (w : World) : (Instr.typeAssert (.iface 86 v) 23 107 true).run Tryz.prog w = .ok (.tuple #[.bool false, .bool false]) w := by kernel_rfl
@[go_sem] theorem asOrBit (v : Value) (w : World) : (Instr.typeAssert (.iface 86 v) 23 89 true).run Tryz.prog w = .ok (.tuple #[.string ⟨#[]⟩, .bool false]) w := by kernel_rfl
@[go_sem] theorem asOrRise (v : Value) (w : World) : (Instr.typeAssert (.iface 86 v) 23 90 true).run Tryz.prog w = .ok (.tuple #[.string ⟨#[]⟩, .bool false]) w := by kernel_rfl
@[go_sem] theorem asOrFall (v : Value) (w : World) : (Instr.typeAssert (.iface 86 v) 23 91 true).run Tryz.prog w = .ok (.tuple #[.string ⟨#[]⟩, .bool false]) w := by kernel_rfl
@[go_sem] theorem asOrNot (v : Value) (w : World) : (Instr.typeAssert (.iface 86 v) 23 104 true).run Tryz.prog w = .ok (.tuple #[.agg #[.nilIface], .bool false]) w := by kernel_rfl
@[go_sem] theorem asOrAnd (v : Value) (w : World) : (Instr.typeAssert (.iface 86 v) 23 102 true).run Tryz.prog w = .ok (.tuple #[.slice none 0 0, .bool false]) w := by kernel_rfl
@[go_sem] theorem asOrOr (v : Value) (w : World) : (Instr.typeAssert (.iface 86 v) 23 86 true).run Tryz.prog w = .ok (.tuple #[v, .bool true]) w := by kernel_rfl
end Go.Proofs.YtblfeahbpklgiaaGreatDoor
