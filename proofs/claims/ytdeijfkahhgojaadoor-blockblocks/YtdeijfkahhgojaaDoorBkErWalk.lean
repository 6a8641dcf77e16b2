/-
  The walks of errors.As at a target of type Errno, of Tell and of Place.
-/
import Derived.Test.YtdeijfkahhgojaaDoorBkErAs
import Derived.Lib.OthersKept
namespace Go.Proofs.YtdeijfkahhgojaaDoor
namespace Bk
namespace ErAs
open Go.RowKit Go.Extern.Stop Go.Stop Go.Extern
set_option maxHeartbeats 4000000 in
theorem as_hit (n : Int) (t a : Addr) (old : Value) (w : World) (ha : w.cell? a = some (.pointer (some t))) (ht0 : w.cell? t = some old) (hf0 : w.frozen? t = false) :
    Calls Tryd.prog 50 #[.iface 26 (.int .i64 n), .iface 82 (.pointer (some t)), tv a, .iface 99 (.agg #[hd 26])] w fun ev w' => ev = .returned (.bool true) ∧
      w' = ((w.alloc (.cells #[hd 82, .pointer (some a), .int .u64 150] 88)).alloc (.cells #[.int .i64 n] 26)).setCell t (.int .i64 n) := by
  have h63 := @run_callFunc_extern Tryd.prog 47 _ (fun args => ReflectliteValue.unpack (args.getD 0 (.tuple #[]))) Tryd.func47 (by kernel_rfl) (by kernel_rfl) (by kernel_rfl) (by kernel_rfl)
  have h77 := @run_callFunc_extern Tryd.prog 51 _ ReflectliteType.typeOf Tryd.func51 (by kernel_rfl) (by kernel_rfl) (by kernel_rfl) (by kernel_rfl)
  have h145 := @run_callFunc_extern Tryd.prog 78 _ (ReflectliteType.relation "AssignableTo" ReflectliteType.assignableTo) Tryd.func78 (by kernel_rfl) (by kernel_rfl) (by kernel_rfl) (by kernel_rfl)
  have h78 := @run_callFunc_extern Tryd.prog 52 _ (ReflectliteValue.method (ReflectliteValue.valueError "reflectlite.Value.Elem" 0) ReflectliteValue.elem) Tryd.func52 (by kernel_rfl) (by kernel_rfl) (by kernel_rfl) (by kernel_rfl)
  have h79 := @run_callFunc_extern Tryd.prog 53 _ ReflectliteValue.set Tryd.func53 (by kernel_rfl) (by kernel_rfl) (by kernel_rfl) (by kernel_rfl)
  have tO := typeOfE
  have mA := methodAssignableTo
  have aE := assignableE
  have vE := valueOfE
  have hal : a.block < w.heap.size := World.block_lt_of_cell? _ _ ha
  have htl : t.block < w.heap.size := World.block_lt_of_cell? _ _ ht0
  have el := elemV a t (w.alloc (.cells #[hd 82, .pointer (some a), .int .u64 150] 88)) (by rw [World.cell?_alloc_lt _ _ a hal]; exact ha)
  have st := setE t ⟨w.heap.size + 1, 0, none⟩ n old ((w.alloc (.cells #[hd 82, .pointer (some a), .int .u64 150] 88)).alloc (.cells #[.int .i64 n] 26))
    (by rw [World.cell?_alloc_at _ _ _ _ (by simp)]; rfl)
    (by rw [World.cell?_alloc_lt _ _ t (by simp; omega), World.cell?_alloc_lt _ _ t htl]; exact ht0)
    (by rw [World.frozen?_alloc_old _ _ t (by simp; omega), World.frozen?_alloc_old _ _ t (Nat.ne_of_lt htl)]; exact hf0)
  go_enter Tryd.func50, Tryd.ntmps50
  go_wp2
  refine wp_loop_rounds 1 ?_
  rw [rounds_succ]
  go_wp2
  go_ret
  exact ⟨rfl, rfl⟩
theorem unwrap_any (q : Addr) (n : Int) (w : World) (h : w.cell? q = some (.int .i64 n)) :
    Calls Tryd.prog 73 #[.pointer (some q)] w fun e w' => e = .returned (.iface 26 (.int .i64 n)) ∧ w' = w := by
  go_enter Tryd.func73, Tryd.ntmps73
  go_wp2
  go_ret
  exact ⟨rfl, rfl⟩
theorem methodUnwrap (q : Value) (w : World) : (Go.method 239 58 q "Unwrap").run Tryd.prog w = .ok (73, q) w := by kernel_rfl
theorem asA (v : Value) (w : World) : (Instr.typeAssert (.iface 58 v) 33 104 true).run Tryd.prog w = .ok (.tuple #[.nilIface, .bool false]) w := run_typeAssert_lacksB Tryd.underlying104 (by kernel_rfl) (by kernel_rfl) v _ w
theorem unA (v : Value) (w : World) : (Instr.typeAssert (.iface 58 v) 33 71 true).run Tryd.prog w = .ok (.tuple #[.iface 58 v, .bool true]) w := by kernel_rfl
theorem unE (v : Value) (w : World) : (Instr.typeAssert (.iface 26 v) 33 71 true).run Tryd.prog w = .ok (.tuple #[.nilIface, .bool false]) w := run_typeAssert_lacksB Tryd.underlying71 (by kernel_rfl) (by kernel_rfl) v _ w
theorem atA (v : Value) (w : World) : (Instr.typeAssert (.iface 58 v) 33 58 true).run Tryd.prog w = .ok (.tuple #[v, .bool true]) w := by kernel_rfl
theorem atE (v : Value) (w : World) : (Instr.typeAssert (.iface 26 v) 33 58 true).run Tryd.prog w = .ok (.tuple #[.pointer none, .bool false]) w := by kernel_rfl
set_option maxHeartbeats 4000000 in
set_option maxRecDepth 100000 in
theorem as_at (n : Int) (q t a : Addr) (old : Value) (w : World) (hq : w.cell? q = some (.int .i64 n)) (ha : w.cell? a = some (.pointer (some t))) (ht0 : w.cell? t = some old) (hf0 : w.frozen? t = false) :
    Calls Tryd.prog 50 #[.iface 58 (.pointer (some q)), .iface 82 (.pointer (some t)), tv a, .iface 99 (.agg #[hd 26])] w fun ev w' => ev = .returned (.bool true) ∧
      w' = ((w.alloc (.cells #[hd 82, .pointer (some a), .int .u64 150] 88)).alloc (.cells #[.int .i64 n] 26)).setCell t (.int .i64 n) := by
  have h63 := @run_callFunc_extern Tryd.prog 47 _ (fun args => ReflectliteValue.unpack (args.getD 0 (.tuple #[]))) Tryd.func47 (by kernel_rfl) (by kernel_rfl) (by kernel_rfl) (by kernel_rfl)
  have h77 := @run_callFunc_extern Tryd.prog 51 _ ReflectliteType.typeOf Tryd.func51 (by kernel_rfl) (by kernel_rfl) (by kernel_rfl) (by kernel_rfl)
  have h145 := @run_callFunc_extern Tryd.prog 78 _ (ReflectliteType.relation "AssignableTo" ReflectliteType.assignableTo) Tryd.func78 (by kernel_rfl) (by kernel_rfl) (by kernel_rfl) (by kernel_rfl)
  have h78 := @run_callFunc_extern Tryd.prog 52 _ (ReflectliteValue.method (ReflectliteValue.valueError "reflectlite.Value.Elem" 0) ReflectliteValue.elem) Tryd.func52 (by kernel_rfl) (by kernel_rfl) (by kernel_rfl) (by kernel_rfl)
  have h79 := @run_callFunc_extern Tryd.prog 53 _ ReflectliteValue.set Tryd.func53 (by kernel_rfl) (by kernel_rfl) (by kernel_rfl) (by kernel_rfl)
  have sA := asA
  have sU := unA
  have tO := typeOfE
  have tA := typeOfA
  have mA := methodAssignableTo
  have mU := methodUnwrap
  have aE := assignableE
  have aA := assignableA
  have vE := valueOfE
  have hal : a.block < w.heap.size := World.block_lt_of_cell? _ _ ha
  have htl : t.block < w.heap.size := World.block_lt_of_cell? _ _ ht0
  have hql : q.block < w.heap.size := World.block_lt_of_cell? _ _ hq
  have hq1 : (w.alloc (.cells #[hd 82, .pointer (some a), .int .u64 150] 88)).cell? q = some (.int .i64 n) := by rw [World.cell?_alloc_lt _ _ q hql]; exact hq
  have HU := hide (unwrap_any q n _ hq1)
  have el := elemV a t (w.alloc (.cells #[hd 82, .pointer (some a), .int .u64 150] 88)) (by rw [World.cell?_alloc_lt _ _ a hal]; exact ha)
  have st := setE t ⟨w.heap.size + 1, 0, none⟩ n old ((w.alloc (.cells #[hd 82, .pointer (some a), .int .u64 150] 88)).alloc (.cells #[.int .i64 n] 26))
    (by rw [World.cell?_alloc_at _ _ _ _ (by simp)]; rfl)
    (by rw [World.cell?_alloc_lt _ _ t (by simp; omega), World.cell?_alloc_lt _ _ t htl]; exact ht0)
    (by rw [World.frozen?_alloc_old _ _ t (by simp; omega), World.frozen?_alloc_old _ _ t (Nat.ne_of_lt htl)]; exact hf0)
  go_enter Tryd.func50, Tryd.ntmps50
  go_wp2
  refine wp_loop_rounds 2 ?_
  rw [rounds_succ]
  go_wp2_with (go_at_call 73; refine HU.out.mono ?_; rintro e w' ⟨rfl, rfl⟩)
  rw [rounds_succ]
  go_wp2
  go_ret
  exact ⟨rfl, rfl⟩
/-- the variable errorType, as it is laid -/
def Door (w : World) : Prop := w.cell? ⟨1, 0, none⟩ = some (.iface 99 (.agg #[hd 33]))
/-- an error that errors.as finds an Errno in -/
def Finds (er : Value) (n : Int) (w : World) : Prop := er = .iface 26 (.int .i64 n) ∨ ∃ q, er = .iface 58 (.pointer (some q)) ∧ w.cell? q = some (.int .i64 n)
set_option maxHeartbeats 4000000 in
set_option maxRecDepth 100000 in
theorem As_any (er : Value) (n : Int) (t : Addr) (old : Value) (w : World) (hg : Door w) (hf : Finds er n w) (ht0 : w.cell? t = some old) (hf0 : w.frozen? t = false) :
    Calls Tryd.prog 44 #[er, .iface 82 (.pointer (some t))] w fun ev w' => ev = .returned (.bool true) ∧ w'.cell? t = some (.int .i64 n) ∧ ∀ B, B ≤ t.block → Below B w w' := by
  have h63 := @run_callFunc_extern Tryd.prog 47 _ (fun args => ReflectliteValue.unpack (args.getD 0 (.tuple #[]))) Tryd.func47 (by kernel_rfl) (by kernel_rfl) (by kernel_rfl) (by kernel_rfl)
  have h64 := @run_callFunc_extern Tryd.prog 48 _ (ReflectliteValue.methodAny (ReflectliteValue.valueError "reflectlite.Value.Type" 0) (fun t _ _ _ => ReflectliteType.toType t)) Tryd.func48 (by kernel_rfl) (by kernel_rfl) (by kernel_rfl) (by kernel_rfl)
  have h65 := @run_callFunc_extern Tryd.prog 49 _ (ReflectliteValue.method (ReflectliteValue.valueError "reflectlite.Value.IsNil" 0) ReflectliteValue.isNil) Tryd.func49 (by kernel_rfl) (by kernel_rfl) (by kernel_rfl) (by kernel_rfl)
  have h120 := @run_callFunc_extern Tryd.prog 68 _ (ReflectliteType.abiMethod fun t => do pure (.int .u8 (← Rtype.kind t))) Tryd.func68 (by kernel_rfl) (by kernel_rfl) (by kernel_rfl) (by kernel_rfl)
  have h147 := @run_callFunc_extern Tryd.prog 80 _ (ReflectliteType.method ReflectliteType.elem) Tryd.func80 (by kernel_rfl) (by kernel_rfl) (by kernel_rfl) (by kernel_rfl)
  have h148 := @run_callFunc_extern Tryd.prog 81 _ (ReflectliteType.relation "Implements" ReflectliteType.implements_) Tryd.func81 (by kernel_rfl) (by kernel_rfl) (by kernel_rfl) (by kernel_rfl)
  have f6 := valueOfP
  have f7 := typeP
  have mK := methodKind
  have mE := methodElem
  have mI := methodImplements
  have kP := kindP
  have kE := kindE
  have eP := elemP
  have iE := implementsE
  have n8 := isNilP ⟨w.heap.size, 0, none⟩ t ((w.alloc (.cells #[.pointer (some t)] 82)).alloc (.cells #[hd 82, .pointer (some ⟨w.heap.size, 0, none⟩), .int .u64 150] 88)) (by simp)
  have htl : t.block < w.heap.size := World.block_lt_of_cell? _ _ ht0
  have hg0 : w.cell? ⟨1, 0, none⟩ = some (.iface 99 (.agg #[hd 33])) := hg
  have hgl : 1 < w.heap.size := World.block_lt_of_cell? _ _ hg0
  obtain ⟨w2, hw2⟩ : ∃ w2, w2 = (w.alloc (.cells #[.pointer (some t)] 82)).alloc (.cells #[hd 82, .pointer (some ⟨w.heap.size, 0, none⟩), .int .u64 150] 88) := ⟨_, rfl⟩
  have hb2 : Below w.heap.size w w2 := by rw [hw2]; exact ((Below.refl _ _).alloc (Nat.le_refl _) _).alloc (by simp) _
  have hg2 : w2.cell? ⟨1, 0, none⟩ = some (.iface 99 (.agg #[hd 33])) := (hb2.cell hgl).trans hg0
  have ha2 : w2.cell? ⟨w.heap.size, 0, none⟩ = some (.pointer (some t)) := by rw [hw2, World.cell?_alloc_lt _ _ ⟨w.heap.size, 0, none⟩ (by simp)]; simp
  have ht2 : w2.cell? t = some old := (hb2.cell htl).trans ht0
  have hf2 : w2.frozen? t = false := (hb2.frozen htl).trans hf0
  have HC : Hid (Calls Tryd.prog 50 #[er, .iface 82 (.pointer (some t)), tv ⟨w.heap.size, 0, none⟩, .iface 99 (.agg #[hd 26])] w2 fun ev w' => ev = .returned (.bool true) ∧
      w' = ((w2.alloc (.cells #[hd 82, .pointer (some ⟨w.heap.size, 0, none⟩), .int .u64 150] 88)).alloc (.cells #[.int .i64 n] 26)).setCell t (.int .i64 n)) := by
    rcases hf with rfl | ⟨q, rfl, hq⟩
    · exact as_hit n t _ old w2 ha2 ht2 hf2
    · exact as_at n q t _ old w2 ((hb2.cell (World.block_lt_of_cell? _ _ hq)).trans hq) ha2 ht2 hf2
  obtain ⟨te, ve, hte⟩ : ∃ te ve, er = .iface te ve := by
    rcases hf with rfl | ⟨q, rfl, _⟩
    · exact ⟨_, _, rfl⟩
    · exact ⟨_, _, rfl⟩
  subst hte
  have HB2 := hide hb2
  have HT2 := hide ht2
  clear hf ht2 hf2 ha2 hb2 hg ht0 hf0
  rw [hw2] at hg2
  have HW2 := hide hw2
  clear hw2
  go_enter Tryd.func44, Tryd.ntmps44
  go_wp2_with (go_at_call 50; refine (HW2.out ▸ HC.out).mono ?_; rintro e w' ⟨rfl, rfl⟩)
  go_ret
  have hs2 := HB2.out.size
  have hfin : ∀ w2 : World, Below w.heap.size w w2 → w2.cell? t = some old → (Ending.returned (Value.bool true) = Ending.returned (.bool true) ∧ (((w2.alloc (.cells #[hd 82, .pointer (some ⟨w.heap.size, 0, none⟩), .int .u64 150] 88)).alloc (.cells #[.int .i64 n] 26)).setCell t (.int .i64 n)).cell? t = some (.int .i64 n) ∧ ∀ B, B ≤ t.block → Below B w (((w2.alloc (.cells #[hd 82, .pointer (some ⟨w.heap.size, 0, none⟩), .int .u64 150] 88)).alloc (.cells #[.int .i64 n] 26)).setCell t (.int .i64 n))) := by
    intro w2 hb ht
    have hs := hb.size
    have hc : ((w2.alloc (.cells #[hd 82, .pointer (some ⟨w.heap.size, 0, none⟩), .int .u64 150] 88)).alloc (.cells #[.int .i64 n] 26)).cell? t = some old := by
      rw [World.cell?_alloc_lt _ _ t (by simp; omega), World.cell?_alloc_lt _ _ t (by omega)]; exact ht
    refine ⟨rfl, World.cell?_setCell_same _ _ _ hc, fun B hB => ?_⟩
    · exact (((hb.mono (by omega)).alloc (by omega) _).alloc (by simp; omega) _).setCell hB _
  exact hfin _ (HW2.out ▸ HB2.out) (HW2.out ▸ HT2.out)
/-- Tell, of an error that holds an Errno -/
theorem Tell_any (er : Value) (n : Int) (w : World) (hg : Door w) (hf : Finds er n w) :
    Calls Tryd.prog 36 #[er] w fun e w' => e = .returned (.int .i64 n) ∧ Below w.heap.size w w' := by
  obtain ⟨w1, hw1⟩ : ∃ w1, w1 = w.alloc (.cells #[.int .i64 0] 26) := ⟨_, rfl⟩
  have hb1 : Below w.heap.size w w1 := by rw [hw1]; exact (Below.refl _ _).alloc (Nat.le_refl _) _
  have hg1 : Door w1 := (hb1.cell (World.block_lt_of_cell? _ _ hg)).trans hg
  have hf1 : Finds er n w1 := by
    rcases hf with h | ⟨q, h, hq⟩
    · exact .inl h
    · exact .inr ⟨q, h, (hb1.cell (World.block_lt_of_cell? _ _ hq)).trans hq⟩
  have hh : w1.heap[w.heap.size]? = some (.cells #[.int .i64 0] 26 (0, 0)) := by rw [hw1]; exact heap_alloc_new _ _
  have HC := hide (As_any er n ⟨w.heap.size, 0, none⟩ (.int .i64 0) w1 hg1 hf1 (by rw [Lib.cell_of_heap hh]; rfl) (Lib.frozen_of_heap hh 0))
  obtain ⟨te, ve, hte⟩ : ∃ te ve, er = .iface te ve := by
    rcases hf with rfl | ⟨q, rfl, _⟩
    · exact ⟨_, _, rfl⟩
    · exact ⟨_, _, rfl⟩
  subst hte
  have HB1 := hide hb1
  rw [hw1] at HC HB1
  clear hg hf hg1 hf1 hh hb1 hw1
  go_enter Tryd.func36, Tryd.ntmps36
  go_wp2_with fail
  refine HC.out.mono ?_
  rintro e w2 ⟨rfl, hc, hb⟩
  have HB2 := hide (hb w.heap.size (Nat.le_refl _))
  clear hb
  go_wp2_with fail
  go_ret
  exact ⟨rfl, HB1.out.trans HB2.out⟩
end ErAs
end Bk
end Go.Proofs.YtdeijfkahhgojaaDoor
