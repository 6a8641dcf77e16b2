/-
  errors.As at a target of type Errno: an Errno is found at once; an error at a place holds one. (After the guide's worked example of errors.As.) The walks of errors.As at a target of type Errno, of Tell and of Place.
-/
import Derived.Test.YtdmnikbhkpcdpaaGreatDoorLdRepAll
import Derived.WalkKit
import Derived.LaidEql
import Derived.Stop.Asserts
import Derived.RowKitTokens
import Derived.Lib.OthersKept
namespace Go.Proofs.YtdmnikbhkpcdpaaGreatDoor
section
namespace ErAs
open Go.RowKit Go.Extern.Stop Go.Stop Go.Extern
/-- the handle of a type -/
abbrev hd (t : Nat) : Value := .pointer (some ⟨11, t, none⟩)
/-- the Value of the pointer that is the target -/
abbrev tv (a : Addr) : Value := .agg #[hd 105, .pointer (some a), .int .u64 150]
theorem valueOfP (t : Addr) (w : World) : (ReflectliteValue.unpack (.iface 105 (.pointer (some t)))).run Tryz.prog w = .ok (tv ⟨w.heap.size, 0, none⟩) (w.alloc (.cells #[.pointer (some t)] 105)) := by kernel_rfl
theorem typeP (a : Addr) (w : World) : (ReflectliteValue.methodAny (ReflectliteValue.valueError "reflectlite.Value.Type" 0) (fun t _ _ _ => ReflectliteType.toType t) #[tv a]).run Tryz.prog w = .ok (.iface 205 (.agg #[hd 105])) w := by kernel_rfl
theorem methodKind (h : Value) (w : World) : (Go.method 450 205 (.agg #[h]) "Kind").run Tryz.prog w = .ok (249, h) w := by kernel_rfl
theorem kindP (w : World) : ((ReflectliteType.abiMethod fun t => (fun a : Nat => Value.int IntKind.u8 (a : Int)) <$> Rtype.kind t) #[hd 105]).run Tryz.prog w = .ok (.int .u8 22) w := by kernel_rfl
theorem kindE (w : World) : ((ReflectliteType.abiMethod fun t => (fun a : Nat => Value.int IntKind.u8 (a : Int)) <$> Rtype.kind t) #[hd 58]).run Tryz.prog w = .ok (.int .u8 2) w := by kernel_rfl
theorem rlm (z : Sem Value) (f : TypeId → Addr → Nat → Nat → Sem Value) (v : Value) :
    ReflectliteValue.method z f #[v] = (do match ← ReflectliteValue.parts v with | none => z | some (t, a, fl) => f t a fl (fl % 32)) := rfl
theorem partsP (a : Addr) (w : World) : (ReflectliteValue.parts (tv a)).run Tryz.prog w = .ok (some (105, a, 150)) w := by kernel_rfl
theorem isNilP (a p : Addr) (W : World) (ha : W.cell? a = some (.pointer (some p))) :
    (ReflectliteValue.method (ReflectliteValue.valueError "reflectlite.Value.IsNil" 0) ReflectliteValue.isNil #[tv a]).run Tryz.prog W = .ok (.bool false) W := by
  rw [rlm]
  simp only [Sem.run_bind, partsP, Result.andThen]
  simp [ReflectliteValue.isNil, loadVar, isAgg, underlying, Tryz.underlying105, ha, Result.andThen]
theorem methodElem (h : Value) (w : World) : (Go.method 450 205 (.agg #[h]) "Elem").run Tryz.prog w = .ok (268, .agg #[h]) w := by kernel_rfl
theorem methodImplements (h : Value) (w : World) : (Go.method 450 205 (.agg #[h]) "Implements").run Tryz.prog w = .ok (269, .agg #[h]) w := by kernel_rfl
theorem methodAssignableTo (h : Value) (w : World) : (Go.method 450 205 (.agg #[h]) "AssignableTo").run Tryz.prog w = .ok (266, .agg #[h]) w := by kernel_rfl
theorem elemP (w : World) : (ReflectliteType.method ReflectliteType.elem #[.agg #[hd 105]]).run Tryz.prog w = .ok (.iface 205 (.agg #[hd 58])) w := by kernel_rfl
theorem implementsE (w : World) : (ReflectliteType.relation "Implements" ReflectliteType.implements_ #[.agg #[hd 58], .iface 205 (.agg #[hd 38])]).run Tryz.prog w = .ok (.bool true) w := by kernel_rfl
theorem typeOfE (v : Value) (w : World) : (ReflectliteType.typeOf #[.iface 58 v]).run Tryz.prog w = .ok (.iface 205 (.agg #[hd 58])) w := by kernel_rfl
theorem typeOfA (v : Value) (w : World) : (ReflectliteType.typeOf #[.iface 140 v]).run Tryz.prog w = .ok (.iface 205 (.agg #[hd 140])) w := by kernel_rfl
theorem assignableE (w : World) : (ReflectliteType.relation "AssignableTo" ReflectliteType.assignableTo #[.agg #[hd 58], .iface 205 (.agg #[hd 58])]).run Tryz.prog w = .ok (.bool true) w := by kernel_rfl
theorem assignableA (w : World) : (ReflectliteType.relation "AssignableTo" ReflectliteType.assignableTo #[.agg #[hd 140], .iface 205 (.agg #[hd 58])]).run Tryz.prog w = .ok (.bool false) w := by kernel_rfl
theorem valueOfE (n : Int) (w : World) : (ReflectliteValue.unpack (.iface 58 (.int .i64 n))).run Tryz.prog w = .ok (.agg #[hd 58, .pointer (some ⟨w.heap.size, 0, none⟩), .int .u64 130]) (w.alloc (.cells #[.int .i64 n] 58)) := by kernel_rfl
theorem elemOfP (w : World) : (Rtype.elem? 105).run Tryz.prog w = .ok (some 58) w := by kernel_rfl
theorem mkE (p : Addr) (w : World) : (ReflectliteValue.mk 58 p ReflectliteValue.flagAddr).run Tryz.prog w = .ok (.agg #[hd 58, .pointer (some p), .int .u64 386]) w := by kernel_rfl
theorem elemV (a p : Addr) (W : World) (ha : W.cell? a = some (.pointer (some p))) :
    (ReflectliteValue.method (ReflectliteValue.valueError "reflectlite.Value.Elem" 0) ReflectliteValue.elem #[tv a]).run Tryz.prog W = .ok (.agg #[hd 58, .pointer (some p), .int .u64 386]) W := by
  rw [rlm]
  simp only [Sem.run_bind, partsP, Result.andThen]
  simp [ReflectliteValue.elem, loadVar, isAgg, underlying, Tryz.underlying105, ha, Result.andThen, elemOfP, mkE]
theorem partsE (a : Addr) (fl : Nat) (hfl : fl = 386 ∨ fl = 130) (w : World) : (ReflectliteValue.parts (.agg #[hd 58, .pointer (some a), .int .u64 fl])).run Tryz.prog w = .ok (some (58, a, fl)) w := by
  rcases hfl with rfl | rfl
  · kernel_rfl
  · kernel_rfl
theorem directE (w : World) : (Rtype.directlyAssignable 58 58).run Tryz.prog w = .ok true w := by kernel_rfl
/-- (Value).Set: the Errno at ta gets what lies at b -/
theorem setE (ta b : Addr) (n : Int) (old : Value) (W : World) (hb : W.cell? b = some (.int .i64 n)) (ht : W.cell? ta = some old) (hf : W.frozen? ta = false) :
    (ReflectliteValue.set #[.agg #[hd 58, .pointer (some ta), .int .u64 386], .agg #[hd 58, .pointer (some b), .int .u64 130]]).run Tryz.prog W = .ok (.tuple #[]) (W.setCell ta (.int .i64 n)) := by
  have e1 := partsE ta 386 (.inl rfl) W
  have e2 := partsE b 130 (.inr rfl) W
  refine (congrArg (fun z : Sem Value => z.run Tryz.prog W) (show ReflectliteValue.set #[.agg #[hd 58, .pointer (some ta), .int .u64 386], .agg #[hd 58, .pointer (some b), .int .u64 130]] = (ReflectliteValue.parts (.agg #[hd 58, .pointer (some ta), .int .u64 ((386 : Nat) : Int)]) >>= fun p => ReflectliteValue.parts (.agg #[hd 58, .pointer (some b), .int .u64 ((130 : Nat) : Int)]) >>= fun q => _) from rfl)).trans ?_
  simp only [Sem.run_bind, e1, e2, Result.andThen]
  simp [ReflectliteValue.flagAddr, loadVar, isAgg, underlying, Tryz.underlying58, hb, Result.andThen, directE, storeVar, Value.cells, storeCells, Addr.add]
  rw [run_store Tryz.prog W ta _ _ (by rfl)]
  simp [ht, hf]
end ErAs
end
section
namespace ErAs
open Go.RowKit Go.Extern.Stop Go.Stop Go.Extern
set_option maxHeartbeats 4000000 in
theorem as_hit (n : Int) (t a : Addr) (old : Value) (w : World) (ha : w.cell? a = some (.pointer (some t))) (ht0 : w.cell? t = some old) (hf0 : w.frozen? t = false) :
    Calls Tryz.prog 88 #[.iface 58 (.int .i64 n), .iface 105 (.pointer (some t)), tv a, .iface 205 (.agg #[hd 58])] w fun ev w' => ev = .returned (.bool true) ∧
      w' = ((w.alloc (.cells #[hd 105, .pointer (some a), .int .u64 150] 155)).alloc (.cells #[.int .i64 n] 58)).setCell t (.int .i64 n) := by
  have h63 := @run_callFunc_extern Tryz.prog 85 _ (fun args => ReflectliteValue.unpack (args.getD 0 (.tuple #[]))) Tryz.func85 (by kernel_rfl) (by kernel_rfl) (by kernel_rfl) (by kernel_rfl)
  have h77 := @run_callFunc_extern Tryz.prog 125 _ ReflectliteType.typeOf Tryz.func125 (by kernel_rfl) (by kernel_rfl) (by kernel_rfl) (by kernel_rfl)
  have h145 := @run_callFunc_extern Tryz.prog 266 _ (ReflectliteType.relation "AssignableTo" ReflectliteType.assignableTo) Tryz.func266 (by kernel_rfl) (by kernel_rfl) (by kernel_rfl) (by kernel_rfl)
  have h78 := @run_callFunc_extern Tryz.prog 126 _ (ReflectliteValue.method (ReflectliteValue.valueError "reflectlite.Value.Elem" 0) ReflectliteValue.elem) Tryz.func126 (by kernel_rfl) (by kernel_rfl) (by kernel_rfl) (by kernel_rfl)
  have h79 := @run_callFunc_extern Tryz.prog 127 _ ReflectliteValue.set Tryz.func127 (by kernel_rfl) (by kernel_rfl) (by kernel_rfl) (by kernel_rfl)
  have tO := typeOfE
  have mA := methodAssignableTo
  have aE := assignableE
  have vE := valueOfE
  have hal : a.block < w.heap.size := World.block_lt_of_cell? _ _ ha
  have htl : t.block < w.heap.size := World.block_lt_of_cell? _ _ ht0
  have el := elemV a t (w.alloc (.cells #[hd 105, .pointer (some a), .int .u64 150] 155)) (by rw [World.cell?_alloc_lt _ _ a hal]; exact ha)
  have st := setE t ⟨w.heap.size + 1, 0, none⟩ n old ((w.alloc (.cells #[hd 105, .pointer (some a), .int .u64 150] 155)).alloc (.cells #[.int .i64 n] 58))
    (by rw [World.cell?_alloc_at _ _ _ _ (by simp)]; rfl)
    (by rw [World.cell?_alloc_lt _ _ t (by simp; omega), World.cell?_alloc_lt _ _ t htl]; exact ht0)
    (by rw [World.frozen?_alloc_old _ _ t (by simp; omega), World.frozen?_alloc_old _ _ t (Nat.ne_of_lt htl)]; exact hf0)
  go_enter Tryz.func88, Tryz.ntmps88
  go_wp2
  refine wp_loop_rounds 1 ?_
  rw [rounds_succ]
  go_wp2
  go_ret
  exact ⟨rfl, rfl⟩
theorem unwrap_any (q : Addr) (n : Int) (w : World) (h : w.cell? q = some (.int .i64 n)) :
    Calls Tryz.prog 256 #[.pointer (some q)] w fun e w' => e = .returned (.iface 58 (.int .i64 n)) ∧ w' = w := by
  go_enter Tryz.func256, Tryz.ntmps256
  go_wp2
  go_ret
  exact ⟨rfl, rfl⟩
theorem methodUnwrap (q : Value) (w : World) : (Go.method 450 140 q "Unwrap").run Tryz.prog w = .ok (256, q) w := by kernel_rfl
theorem asA (v : Value) (w : World) : (Instr.typeAssert (.iface 140 v) 38 210 true).run Tryz.prog w = .ok (.tuple #[.nilIface, .bool false]) w := run_typeAssert_lacksB Tryz.underlying210 (by kernel_rfl) (by kernel_rfl) v _ w
theorem unA (v : Value) (w : World) : (Instr.typeAssert (.iface 140 v) 38 213 true).run Tryz.prog w = .ok (.tuple #[.iface 140 v, .bool true]) w := by kernel_rfl
theorem unE (v : Value) (w : World) : (Instr.typeAssert (.iface 58 v) 38 213 true).run Tryz.prog w = .ok (.tuple #[.nilIface, .bool false]) w := run_typeAssert_lacksB Tryz.underlying213 (by kernel_rfl) (by kernel_rfl) v _ w
theorem atA (v : Value) (w : World) : (Instr.typeAssert (.iface 140 v) 38 140 true).run Tryz.prog w = .ok (.tuple #[v, .bool true]) w := by kernel_rfl
theorem atE (v : Value) (w : World) : (Instr.typeAssert (.iface 58 v) 38 140 true).run Tryz.prog w = .ok (.tuple #[.pointer none, .bool false]) w := by kernel_rfl
set_option maxHeartbeats 4000000 in
set_option maxRecDepth 100000 in
theorem as_at (n : Int) (q t a : Addr) (old : Value) (w : World) (hq : w.cell? q = some (.int .i64 n)) (ha : w.cell? a = some (.pointer (some t))) (ht0 : w.cell? t = some old) (hf0 : w.frozen? t = false) :
    Calls Tryz.prog 88 #[.iface 140 (.pointer (some q)), .iface 105 (.pointer (some t)), tv a, .iface 205 (.agg #[hd 58])] w fun ev w' => ev = .returned (.bool true) ∧
      w' = ((w.alloc (.cells #[hd 105, .pointer (some a), .int .u64 150] 155)).alloc (.cells #[.int .i64 n] 58)).setCell t (.int .i64 n) := by
  have h63 := @run_callFunc_extern Tryz.prog 85 _ (fun args => ReflectliteValue.unpack (args.getD 0 (.tuple #[]))) Tryz.func85 (by kernel_rfl) (by kernel_rfl) (by kernel_rfl) (by kernel_rfl)
  have h77 := @run_callFunc_extern Tryz.prog 125 _ ReflectliteType.typeOf Tryz.func125 (by kernel_rfl) (by kernel_rfl) (by kernel_rfl) (by kernel_rfl)
  have h145 := @run_callFunc_extern Tryz.prog 266 _ (ReflectliteType.relation "AssignableTo" ReflectliteType.assignableTo) Tryz.func266 (by kernel_rfl) (by kernel_rfl) (by kernel_rfl) (by kernel_rfl)
  have h78 := @run_callFunc_extern Tryz.prog 126 _ (ReflectliteValue.method (ReflectliteValue.valueError "reflectlite.Value.Elem" 0) ReflectliteValue.elem) Tryz.func126 (by kernel_rfl) (by kernel_rfl) (by kernel_rfl) (by kernel_rfl)
  have h79 := @run_callFunc_extern Tryz.prog 127 _ ReflectliteValue.set Tryz.func127 (by kernel_rfl) (by kernel_rfl) (by kernel_rfl) (by kernel_rfl)
  have sA := asA
  have sU := unA
  have tO := typeOfE
  have tA := typeOfA
  have mA := methodAssignableTo
  have mU := methodUnwrap
  have aE := assignableE
  have aA := assignableA
  have vE := valueOfE
  have hal : a.block < w.heap.size := World.block_lt_of_cell? _ _ ha
  have htl : t.block < w.heap.size := World.block_lt_of_cell? _ _ ht0
  have hql : q.block < w.heap.size := World.block_lt_of_cell? _ _ hq
  have hq1 : (w.alloc (.cells #[hd 105, .pointer (some a), .int .u64 150] 155)).cell? q = some (.int .i64 n) := by rw [World.cell?_alloc_lt _ _ q hql]; exact hq
  have HU := hide (unwrap_any q n _ hq1)
  have el := elemV a t (w.alloc (.cells #[hd 105, .pointer (some a), .int .u64 150] 155)) (by rw [World.cell?_alloc_lt _ _ a hal]; exact ha)
  have st := setE t ⟨w.heap.size + 1, 0, none⟩ n old ((w.alloc (.cells #[hd 105, .pointer (some a), .int .u64 150] 155)).alloc (.cells #[.int .i64 n] 58))
    (by rw [World.cell?_alloc_at _ _ _ _ (by simp)]; rfl)
    (by rw [World.cell?_alloc_lt _ _ t (by simp; omega), World.cell?_alloc_lt _ _ t htl]; exact ht0)
    (by rw [World.frozen?_alloc_old _ _ t (by simp; omega), World.frozen?_alloc_old _ _ t (Nat.ne_of_lt htl)]; exact hf0)
  go_enter Tryz.func88, Tryz.ntmps88
  go_wp2
  refine wp_loop_rounds 2 ?_
  rw [rounds_succ]
  go_wp2_with (go_at_call 256; refine HU.out.mono ?_; rintro e w' ⟨rfl, rfl⟩)
  rw [rounds_succ]
  go_wp2
  go_ret
  exact ⟨rfl, rfl⟩
/-- the variable errorType, as it is laid -/
def Door (w : World) : Prop := w.cell? ⟨0, 0, none⟩ = some (.iface 205 (.agg #[hd 38]))
/-- an error that errors.as finds an Errno in -/
def Finds (er : Value) (n : Int) (w : World) : Prop := er = .iface 58 (.int .i64 n) ∨ ∃ q, er = .iface 140 (.pointer (some q)) ∧ w.cell? q = some (.int .i64 n)
set_option maxHeartbeats 4000000 in
set_option maxRecDepth 100000 in
theorem As_any (er : Value) (n : Int) (t : Addr) (old : Value) (w : World) (hg : Door w) (hf : Finds er n w) (ht0 : w.cell? t = some old) (hf0 : w.frozen? t = false) :
    Calls Tryz.prog 46 #[er, .iface 105 (.pointer (some t))] w fun ev w' => ev = .returned (.bool true) ∧ w'.cell? t = some (.int .i64 n) ∧ ∀ B, B ≤ t.block → Below B w w' := by
  have h63 := @run_callFunc_extern Tryz.prog 85 _ (fun args => ReflectliteValue.unpack (args.getD 0 (.tuple #[]))) Tryz.func85 (by kernel_rfl) (by kernel_rfl) (by kernel_rfl) (by kernel_rfl)
  have h64 := @run_callFunc_extern Tryz.prog 86 _ (ReflectliteValue.methodAny (ReflectliteValue.valueError "reflectlite.Value.Type" 0) (fun t _ _ _ => ReflectliteType.toType t)) Tryz.func86 (by kernel_rfl) (by kernel_rfl) (by kernel_rfl) (by kernel_rfl)
  have h65 := @run_callFunc_extern Tryz.prog 87 _ (ReflectliteValue.method (ReflectliteValue.valueError "reflectlite.Value.IsNil" 0) ReflectliteValue.isNil) Tryz.func87 (by kernel_rfl) (by kernel_rfl) (by kernel_rfl) (by kernel_rfl)
  have h120 := @run_callFunc_extern Tryz.prog 249 _ (ReflectliteType.abiMethod fun t => do pure (.int .u8 (← Rtype.kind t))) Tryz.func249 (by kernel_rfl) (by kernel_rfl) (by kernel_rfl) (by kernel_rfl)
  have h147 := @run_callFunc_extern Tryz.prog 268 _ (ReflectliteType.method ReflectliteType.elem) Tryz.func268 (by kernel_rfl) (by kernel_rfl) (by kernel_rfl) (by kernel_rfl)
  have h148 := @run_callFunc_extern Tryz.prog 269 _ (ReflectliteType.relation "Implements" ReflectliteType.implements_) Tryz.func269 (by kernel_rfl) (by kernel_rfl) (by kernel_rfl) (by kernel_rfl)
  have f6 := valueOfP
  have f7 := typeP
  have mK := methodKind
  have mE := methodElem
  have mI := methodImplements
  have kP := kindP
  have kE := kindE
  have eP := elemP
  have iE := implementsE
  have n8 := isNilP ⟨w.heap.size, 0, none⟩ t ((w.alloc (.cells #[.pointer (some t)] 105)).alloc (.cells #[hd 105, .pointer (some ⟨w.heap.size, 0, none⟩), .int .u64 150] 155)) (by simp)
  have htl : t.block < w.heap.size := World.block_lt_of_cell? _ _ ht0
  have hg0 : w.cell? ⟨0, 0, none⟩ = some (.iface 205 (.agg #[hd 38])) := hg
  have hgl : 0 < w.heap.size := World.block_lt_of_cell? _ _ hg0
  obtain ⟨w2, hw2⟩ : ∃ w2, w2 = (w.alloc (.cells #[.pointer (some t)] 105)).alloc (.cells #[hd 105, .pointer (some ⟨w.heap.size, 0, none⟩), .int .u64 150] 155) := ⟨_, rfl⟩
  have hb2 : Below w.heap.size w w2 := by rw [hw2]; exact ((Below.refl _ _).alloc (Nat.le_refl _) _).alloc (by simp) _
  have hg2 : w2.cell? ⟨0, 0, none⟩ = some (.iface 205 (.agg #[hd 38])) := (hb2.cell hgl).trans hg0
  have ha2 : w2.cell? ⟨w.heap.size, 0, none⟩ = some (.pointer (some t)) := by rw [hw2, World.cell?_alloc_lt _ _ ⟨w.heap.size, 0, none⟩ (by simp)]; simp
  have ht2 : w2.cell? t = some old := (hb2.cell htl).trans ht0
  have hf2 : w2.frozen? t = false := (hb2.frozen htl).trans hf0
  have HC : Hid (Calls Tryz.prog 88 #[er, .iface 105 (.pointer (some t)), tv ⟨w.heap.size, 0, none⟩, .iface 205 (.agg #[hd 58])] w2 fun ev w' => ev = .returned (.bool true) ∧
      w' = ((w2.alloc (.cells #[hd 105, .pointer (some ⟨w.heap.size, 0, none⟩), .int .u64 150] 155)).alloc (.cells #[.int .i64 n] 58)).setCell t (.int .i64 n)) := by
    rcases hf with rfl | ⟨q, rfl, hq⟩
    · exact as_hit n t _ old w2 ha2 ht2 hf2
    · exact as_at n q t _ old w2 ((hb2.cell (World.block_lt_of_cell? _ _ hq)).trans hq) ha2 ht2 hf2
  obtain ⟨te, ve, hte⟩ : ∃ te ve, er = .iface te ve := by
    rcases hf with rfl | ⟨q, rfl, _⟩
    · exact ⟨_, _, rfl⟩
    · exact ⟨_, _, rfl⟩
  subst hte
  have HB2 := hide hb2
  have HT2 := hide ht2
  clear hf ht2 hf2 ha2 hb2 hg ht0 hf0
  rw [hw2] at hg2
  have HW2 := hide hw2
  clear hw2
  go_enter Tryz.func46, Tryz.ntmps46
  go_wp2_with (go_at_call 88; refine (HW2.out ▸ HC.out).mono ?_; rintro e w' ⟨rfl, rfl⟩)
  go_ret
  have hs2 := HB2.out.size
  have hfin : ∀ w2 : World, Below w.heap.size w w2 → w2.cell? t = some old → (Ending.returned (Value.bool true) = Ending.returned (.bool true) ∧ (((w2.alloc (.cells #[hd 105, .pointer (some ⟨w.heap.size, 0, none⟩), .int .u64 150] 155)).alloc (.cells #[.int .i64 n] 58)).setCell t (.int .i64 n)).cell? t = some (.int .i64 n) ∧ ∀ B, B ≤ t.block → Below B w (((w2.alloc (.cells #[hd 105, .pointer (some ⟨w.heap.size, 0, none⟩), .int .u64 150] 155)).alloc (.cells #[.int .i64 n] 58)).setCell t (.int .i64 n))) := by
    intro w2 hb ht
    have hs := hb.size
    have hc : ((w2.alloc (.cells #[hd 105, .pointer (some ⟨w.heap.size, 0, none⟩), .int .u64 150] 155)).alloc (.cells #[.int .i64 n] 58)).cell? t = some old := by
      rw [World.cell?_alloc_lt _ _ t (by simp; omega), World.cell?_alloc_lt _ _ t (by omega)]; exact ht
    refine ⟨rfl, World.cell?_setCell_same _ _ _ hc, fun B hB => ?_⟩
    · exact (((hb.mono (by omega)).alloc (by omega) _).alloc (by simp; omega) _).setCell hB _
  exact hfin _ (HW2.out ▸ HB2.out) (HW2.out ▸ HT2.out)
/-- Tell, of an error that holds an Errno -/
theorem Tell_any (er : Value) (n : Int) (w : World) (hg : Door w) (hf : Finds er n w) :
    Calls Tryz.prog 22 #[er] w fun e w' => e = .returned (.int .i64 n) ∧ Below w.heap.size w w' := by
  obtain ⟨w1, hw1⟩ : ∃ w1, w1 = w.alloc (.cells #[.int .i64 0] 58) := ⟨_, rfl⟩
  have hb1 : Below w.heap.size w w1 := by rw [hw1]; exact (Below.refl _ _).alloc (Nat.le_refl _) _
  have hg1 : Door w1 := (hb1.cell (World.block_lt_of_cell? _ _ hg)).trans hg
  have hf1 : Finds er n w1 := by
    rcases hf with h | ⟨q, h, hq⟩
    · exact .inl h
    · exact .inr ⟨q, h, (hb1.cell (World.block_lt_of_cell? _ _ hq)).trans hq⟩
  have hh : w1.heap[w.heap.size]? = some (.cells #[.int .i64 0] 58 (0, 0)) := by rw [hw1]; exact heap_alloc_new _ _
  have HC := hide (As_any er n ⟨w.heap.size, 0, none⟩ (.int .i64 0) w1 hg1 hf1 (by rw [Lib.cell_of_heap hh]; rfl) (Lib.frozen_of_heap hh 0))
  obtain ⟨te, ve, hte⟩ : ∃ te ve, er = .iface te ve := by
    rcases hf with rfl | ⟨q, rfl, _⟩
    · exact ⟨_, _, rfl⟩
    · exact ⟨_, _, rfl⟩
  subst hte
  have HB1 := hide hb1
  rw [hw1] at HC HB1
  clear hg hf hg1 hf1 hh hb1 hw1
  go_enter Tryz.func22, Tryz.ntmps22
  go_wp2_with fail
  refine HC.out.mono ?_
  rintro e w2 ⟨rfl, hc, hb⟩
  have HB2 := hide (hb w.heap.size (Nat.le_refl _))
  clear hb
  go_wp2_with fail
  go_ret
  exact ⟨rfl, HB1.out.trans HB2.out⟩
end ErAs
end
end Go.Proofs.YtdmnikbhkpcdpaaGreatDoor
