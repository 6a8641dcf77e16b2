/-
  errors.As at a target of type Errno: an Errno is found at once; an error at a place holds one. (After the guide's worked example of errors.As.)
-/
import Derived.Test.YtiamkoghflfjcaaGreatDoorExRep
import Derived.WalkKit
import Derived.LaidEql
import Derived.Stop.Asserts
import Derived.RowKitTokens
namespace Go.Proofs.YtiamkoghflfjcaaGreatDoor
namespace ErAs
open Go.RowKit Go.Extern.Stop Go.Stop Go.Extern
/-- the handle of a type -/
abbrev hd (t : Nat) : Value := .pointer (some ⟨14, t, none⟩)
/-- the Value of the pointer that is the target -/
abbrev tv (a : Addr) : Value := .agg #[hd 240, .pointer (some a), .int .u64 150]
theorem valueOfP (t : Addr) (w : World) : (ReflectliteValue.unpack (.iface 240 (.pointer (some t)))).run Tryz.prog w = .ok (tv ⟨w.heap.size, 0, none⟩) (w.alloc (.cells #[.pointer (some t)] 240)) := by kernel_rfl
theorem typeP (a : Addr) (w : World) : (ReflectliteValue.methodAny (ReflectliteValue.valueError "reflectlite.Value.Type" 0) (fun t _ _ _ => ReflectliteType.toType t) #[tv a]).run Tryz.prog w = .ok (.iface 309 (.agg #[hd 240])) w := by kernel_rfl
theorem methodKind (h : Value) (w : World) : (Go.method 494 309 (.agg #[h]) "Kind").run Tryz.prog w = .ok (286, h) w := by kernel_rfl
theorem kindP (w : World) : ((ReflectliteType.abiMethod fun t => (fun a : Nat => Value.int IntKind.u8 (a : Int)) <$> Rtype.kind t) #[hd 240]).run Tryz.prog w = .ok (.int .u8 22) w := by kernel_rfl
theorem kindE (w : World) : ((ReflectliteType.abiMethod fun t => (fun a : Nat => Value.int IntKind.u8 (a : Int)) <$> Rtype.kind t) #[hd 47]).run Tryz.prog w = .ok (.int .u8 2) w := by kernel_rfl
theorem rlm (z : Sem Value) (f : TypeId → Addr → Nat → Nat → Sem Value) (v : Value) :
    ReflectliteValue.method z f #[v] = (do match ← ReflectliteValue.parts v with | none => z | some (t, a, fl) => f t a fl (fl % 32)) := rfl
theorem partsP (a : Addr) (w : World) : (ReflectliteValue.parts (tv a)).run Tryz.prog w = .ok (some (240, a, 150)) w := by kernel_rfl
theorem isNilP (a p : Addr) (W : World) (ha : W.cell? a = some (.pointer (some p))) :
    (ReflectliteValue.method (ReflectliteValue.valueError "reflectlite.Value.IsNil" 0) ReflectliteValue.isNil #[tv a]).run Tryz.prog W = .ok (.bool false) W := by
  rw [rlm]
  simp only [Sem.run_bind, partsP, Result.andThen]
  simp [ReflectliteValue.isNil, loadVar, isAgg, underlying, Tryz.underlying240, ha, Result.andThen]
theorem methodElem (h : Value) (w : World) : (Go.method 494 309 (.agg #[h]) "Elem").run Tryz.prog w = .ok (319, .agg #[h]) w := by kernel_rfl
theorem methodImplements (h : Value) (w : World) : (Go.method 494 309 (.agg #[h]) "Implements").run Tryz.prog w = .ok (320, .agg #[h]) w := by kernel_rfl
theorem methodAssignableTo (h : Value) (w : World) : (Go.method 494 309 (.agg #[h]) "AssignableTo").run Tryz.prog w = .ok (317, .agg #[h]) w := by kernel_rfl
theorem elemP (w : World) : (ReflectliteType.method ReflectliteType.elem #[.agg #[hd 240]]).run Tryz.prog w = .ok (.iface 309 (.agg #[hd 47])) w := by kernel_rfl
theorem implementsE (w : World) : (ReflectliteType.relation "Implements" ReflectliteType.implements_ #[.agg #[hd 47], .iface 309 (.agg #[hd 53])]).run Tryz.prog w = .ok (.bool true) w := by kernel_rfl
theorem typeOfE (v : Value) (w : World) : (ReflectliteType.typeOf #[.iface 47 v]).run Tryz.prog w = .ok (.iface 309 (.agg #[hd 47])) w := by kernel_rfl
theorem typeOfA (v : Value) (w : World) : (ReflectliteType.typeOf #[.iface 136 v]).run Tryz.prog w = .ok (.iface 309 (.agg #[hd 136])) w := by kernel_rfl
theorem assignableE (w : World) : (ReflectliteType.relation "AssignableTo" ReflectliteType.assignableTo #[.agg #[hd 47], .iface 309 (.agg #[hd 47])]).run Tryz.prog w = .ok (.bool true) w := by kernel_rfl
theorem assignableA (w : World) : (ReflectliteType.relation "AssignableTo" ReflectliteType.assignableTo #[.agg #[hd 136], .iface 309 (.agg #[hd 47])]).run Tryz.prog w = .ok (.bool false) w := by kernel_rfl
theorem valueOfE (n : Int) (w : World) : (ReflectliteValue.unpack (.iface 47 (.int .i64 n))).run Tryz.prog w = .ok (.agg #[hd 47, .pointer (some ⟨w.heap.size, 0, none⟩), .int .u64 130]) (w.alloc (.cells #[.int .i64 n] 47)) := by kernel_rfl
theorem elemOfP (w : World) : (Rtype.elem? 240).run Tryz.prog w = .ok (some 47) w := by kernel_rfl
theorem mkE (p : Addr) (w : World) : (ReflectliteValue.mk 47 p ReflectliteValue.flagAddr).run Tryz.prog w = .ok (.agg #[hd 47, .pointer (some p), .int .u64 386]) w := by kernel_rfl
theorem elemV (a p : Addr) (W : World) (ha : W.cell? a = some (.pointer (some p))) :
    (ReflectliteValue.method (ReflectliteValue.valueError "reflectlite.Value.Elem" 0) ReflectliteValue.elem #[tv a]).run Tryz.prog W = .ok (.agg #[hd 47, .pointer (some p), .int .u64 386]) W := by
  rw [rlm]
  simp only [Sem.run_bind, partsP, Result.andThen]
  simp [ReflectliteValue.elem, loadVar, isAgg, underlying, Tryz.underlying240, ha, Result.andThen, elemOfP, mkE]
theorem partsE (a : Addr) (fl : Nat) (hfl : fl = 386 ∨ fl = 130) (w : World) : (ReflectliteValue.parts (.agg #[hd 47, .pointer (some a), .int .u64 fl])).run Tryz.prog w = .ok (some (47, a, fl)) w := by
  rcases hfl with rfl | rfl
  · kernel_rfl
  · kernel_rfl
theorem directE (w : World) : (Rtype.directlyAssignable 47 47).run Tryz.prog w = .ok true w := by kernel_rfl
/-- (Value).Set: the Errno at ta gets what lies at b -/
theorem setE (ta b : Addr) (n : Int) (old : Value) (W : World) (hb : W.cell? b = some (.int .i64 n)) (ht : W.cell? ta = some old) (hf : W.frozen? ta = false) :
    (ReflectliteValue.set #[.agg #[hd 47, .pointer (some ta), .int .u64 386], .agg #[hd 47, .pointer (some b), .int .u64 130]]).run Tryz.prog W = .ok (.tuple #[]) (W.setCell ta (.int .i64 n)) := by
  have e1 := partsE ta 386 (.inl rfl) W
  have e2 := partsE b 130 (.inr rfl) W
  refine (congrArg (fun z : Sem Value => z.run Tryz.prog W) (show ReflectliteValue.set #[.agg #[hd 47, .pointer (some ta), .int .u64 386], .agg #[hd 47, .pointer (some b), .int .u64 130]] = (ReflectliteValue.parts (.agg #[hd 47, .pointer (some ta), .int .u64 ((386 : Nat) : Int)]) >>= fun p => ReflectliteValue.parts (.agg #[hd 47, .pointer (some b), .int .u64 ((130 : Nat) : Int)]) >>= fun q => _) from rfl)).trans ?_
  simp only [Sem.run_bind, e1, e2, Result.andThen]
  simp [ReflectliteValue.flagAddr, loadVar, isAgg, underlying, Tryz.underlying47, hb, Result.andThen, directE, storeVar, Value.cells, storeCells, Addr.add]
  rw [run_store Tryz.prog W ta _ _ (by rfl)]
  simp [ht, hf]
end ErAs
end Go.Proofs.YtiamkoghflfjcaaGreatDoor
