/-
  The walks of errors.As at a target of type Errno, of Tell and of Place. The walks of package ladder's formAt, moved, takeName, takeRung and take. The walk of package ladder's takeName. Plain mathematics of chapter 1: where reading goes wrong lies within the text. The walks of package ladder's takeRung and take.
-/
import Derived.Test.YtgldbliohpfljaaGreatDoorErAsAll
import Derived.Lib.OthersKept
import Derived.Deep.AppendLies
import Derived.Deep.RegionLaw
import Derived.Deep.RegionHeld3
import Derived.Test.YtgldbliohpfljaaGreatDoorLdCheckAll
import Derived.Test.YtgldbliohpfljaaGreatDoorRdListAll
import Derived.Test.YtgldbliohpfljaaGreatDoorLdRepAll
namespace Go.Proofs.YtgldbliohpfljaaGreatDoor
section
namespace ErAs
open Go.RowKit Go.Extern.Stop Go.Stop Go.Extern
set_option maxHeartbeats 4000000 in
theorem as_hit (n : Int) (t a : Addr) (old : Value) (w : World) (ha : w.cell? a = some (.pointer (some t))) (ht0 : w.cell? t = some old) (hf0 : w.frozen? t = false) :
    Calls Tryz.prog 215 #[.iface 40 (.int .i64 n), .iface 288 (.pointer (some t)), tv a, .iface 362 (.agg #[hd 40])] w fun ev w' => ev = .returned (.bool true) ∧
      w' = ((w.alloc (.cells #[hd 288, .pointer (some a), .int .u64 150] 319)).alloc (.cells #[.int .i64 n] 40)).setCell t (.int .i64 n) := by
  have h63 := @run_callFunc_extern Tryz.prog 212 _ (fun args => ReflectliteValue.unpack (args.getD 0 (.tuple #[]))) Tryz.func212 (by kernel_rfl) (by kernel_rfl) (by kernel_rfl) (by kernel_rfl)
  have h77 := @run_callFunc_extern Tryz.prog 252 _ ReflectliteType.typeOf Tryz.func252 (by kernel_rfl) (by kernel_rfl) (by kernel_rfl) (by kernel_rfl)
  have h145 := @run_callFunc_extern Tryz.prog 322 _ (ReflectliteType.relation "AssignableTo" ReflectliteType.assignableTo) Tryz.func322 (by kernel_rfl) (by kernel_rfl) (by kernel_rfl) (by kernel_rfl)
  have h78 := @run_callFunc_extern Tryz.prog 253 _ (ReflectliteValue.method (ReflectliteValue.valueError "reflectlite.Value.Elem" 0) ReflectliteValue.elem) Tryz.func253 (by kernel_rfl) (by kernel_rfl) (by kernel_rfl) (by kernel_rfl)
  have h79 := @run_callFunc_extern Tryz.prog 254 _ ReflectliteValue.set Tryz.func254 (by kernel_rfl) (by kernel_rfl) (by kernel_rfl) (by kernel_rfl)
  have tO := typeOfE
  have mA := methodAssignableTo
  have aE := assignableE
  have vE := valueOfE
  have hal : a.block < w.heap.size := World.block_lt_of_cell? _ _ ha
  have htl : t.block < w.heap.size := World.block_lt_of_cell? _ _ ht0
  have el := elemV a t (w.alloc (.cells #[hd 288, .pointer (some a), .int .u64 150] 319)) (by rw [World.cell?_alloc_lt _ _ a hal]; exact ha)
  have st := setE t ⟨w.heap.size + 1, 0, none⟩ n old ((w.alloc (.cells #[hd 288, .pointer (some a), .int .u64 150] 319)).alloc (.cells #[.int .i64 n] 40))
    (by rw [World.cell?_alloc_at _ _ _ _ (by simp)]; rfl)
    (by rw [World.cell?_alloc_lt _ _ t (by simp; omega), World.cell?_alloc_lt _ _ t htl]; exact ht0)
    (by rw [World.frozen?_alloc_old _ _ t (by simp; omega), World.frozen?_alloc_old _ _ t (Nat.ne_of_lt htl)]; exact hf0)
  go_enter Tryz.func215, Tryz.ntmps215
  go_wp2
  refine wp_loop_rounds 1 ?_
  rw [rounds_succ]
  go_wp2
  go_ret
  exact ⟨rfl, rfl⟩
theorem unwrap_any (q : Addr) (n : Int) (w : World) (h : w.cell? q = some (.int .i64 n)) :
    Calls Tryz.prog 307 #[.pointer (some q)] w fun e w' => e = .returned (.iface 40 (.int .i64 n)) ∧ w' = w := by
  go_enter Tryz.func307, Tryz.ntmps307
  go_wp2
  go_ret
  exact ⟨rfl, rfl⟩
theorem methodUnwrap (q : Value) (w : World) : (Go.method 532 227 q "Unwrap").run Tryz.prog w = .ok (307, q) w := by kernel_rfl
theorem asA (v : Value) (w : World) : (Instr.typeAssert (.iface 227 v) 33 367 true).run Tryz.prog w = .ok (.tuple #[.nilIface, .bool false]) w := run_typeAssert_lacksB Tryz.underlying367 (by kernel_rfl) (by kernel_rfl) v _ w
theorem unA (v : Value) (w : World) : (Instr.typeAssert (.iface 227 v) 33 258 true).run Tryz.prog w = .ok (.tuple #[.iface 227 v, .bool true]) w := by kernel_rfl
theorem unE (v : Value) (w : World) : (Instr.typeAssert (.iface 40 v) 33 258 true).run Tryz.prog w = .ok (.tuple #[.nilIface, .bool false]) w := run_typeAssert_lacksB Tryz.underlying258 (by kernel_rfl) (by kernel_rfl) v _ w
theorem atA (v : Value) (w : World) : (Instr.typeAssert (.iface 227 v) 33 227 true).run Tryz.prog w = .ok (.tuple #[v, .bool true]) w := by kernel_rfl
theorem atE (v : Value) (w : World) : (Instr.typeAssert (.iface 40 v) 33 227 true).run Tryz.prog w = .ok (.tuple #[.pointer none, .bool false]) w := by kernel_rfl
set_option maxHeartbeats 4000000 in
set_option maxRecDepth 100000 in
theorem as_at (n : Int) (q t a : Addr) (old : Value) (w : World) (hq : w.cell? q = some (.int .i64 n)) (ha : w.cell? a = some (.pointer (some t))) (ht0 : w.cell? t = some old) (hf0 : w.frozen? t = false) :
    Calls Tryz.prog 215 #[.iface 227 (.pointer (some q)), .iface 288 (.pointer (some t)), tv a, .iface 362 (.agg #[hd 40])] w fun ev w' => ev = .returned (.bool true) ∧
      w' = ((w.alloc (.cells #[hd 288, .pointer (some a), .int .u64 150] 319)).alloc (.cells #[.int .i64 n] 40)).setCell t (.int .i64 n) := by
  have h63 := @run_callFunc_extern Tryz.prog 212 _ (fun args => ReflectliteValue.unpack (args.getD 0 (.tuple #[]))) Tryz.func212 (by kernel_rfl) (by kernel_rfl) (by kernel_rfl) (by kernel_rfl)
  have h77 := @run_callFunc_extern Tryz.prog 252 _ ReflectliteType.typeOf Tryz.func252 (by kernel_rfl) (by kernel_rfl) (by kernel_rfl) (by kernel_rfl)
  have h145 := @run_callFunc_extern Tryz.prog 322 _ (ReflectliteType.relation "AssignableTo" ReflectliteType.assignableTo) Tryz.func322 (by kernel_rfl) (by kernel_rfl) (by kernel_rfl) (by kernel_rfl)
  have h78 := @run_callFunc_extern Tryz.prog 253 _ (ReflectliteValue.method (ReflectliteValue.valueError "reflectlite.Value.Elem" 0) ReflectliteValue.elem) Tryz.func253 (by kernel_rfl) (by kernel_rfl) (by kernel_rfl) (by kernel_rfl)
  have h79 := @run_callFunc_extern Tryz.prog 254 _ ReflectliteValue.set Tryz.func254 (by kernel_rfl) (by kernel_rfl) (by kernel_rfl) (by kernel_rfl)
  have sA := asA
  have sU := unA
  have tO := typeOfE
  have tA := typeOfA
  have mA := methodAssignableTo
  have mU := methodUnwrap
  have aE := assignableE
  have aA := assignableA
  have vE := valueOfE
  have hal : a.block < w.heap.size := World.block_lt_of_cell? _ _ ha
  have htl : t.block < w.heap.size := World.block_lt_of_cell? _ _ ht0
  have hql : q.block < w.heap.size := World.block_lt_of_cell? _ _ hq
  have hq1 : (w.alloc (.cells #[hd 288, .pointer (some a), .int .u64 150] 319)).cell? q = some (.int .i64 n) := by rw [World.cell?_alloc_lt _ _ q hql]; exact hq
  have HU := hide (unwrap_any q n _ hq1)
  have el := elemV a t (w.alloc (.cells #[hd 288, .pointer (some a), .int .u64 150] 319)) (by rw [World.cell?_alloc_lt _ _ a hal]; exact ha)
  have st := setE t ⟨w.heap.size + 1, 0, none⟩ n old ((w.alloc (.cells #[hd 288, .pointer (some a), .int .u64 150] 319)).alloc (.cells #[.int .i64 n] 40))
    (by rw [World.cell?_alloc_at _ _ _ _ (by simp)]; rfl)
    (by rw [World.cell?_alloc_lt _ _ t (by simp; omega), World.cell?_alloc_lt _ _ t htl]; exact ht0)
    (by rw [World.frozen?_alloc_old _ _ t (by simp; omega), World.frozen?_alloc_old _ _ t (Nat.ne_of_lt htl)]; exact hf0)
  go_enter Tryz.func215, Tryz.ntmps215
  go_wp2
  refine wp_loop_rounds 2 ?_
  rw [rounds_succ]
  go_wp2_with (go_at_call 307; refine HU.out.mono ?_; rintro e w' ⟨rfl, rfl⟩)
  rw [rounds_succ]
  go_wp2
  go_ret
  exact ⟨rfl, rfl⟩
/-- the variable errorType, as it is laid -/
def Door (w : World) : Prop := w.cell? ⟨3, 0, none⟩ = some (.iface 362 (.agg #[hd 33]))
/-- an error that errors.as finds an Errno in -/
def Finds (er : Value) (n : Int) (w : World) : Prop := er = .iface 40 (.int .i64 n) ∨ ∃ q, er = .iface 227 (.pointer (some q)) ∧ w.cell? q = some (.int .i64 n)
set_option maxHeartbeats 4000000 in
set_option maxRecDepth 100000 in
theorem As_any (er : Value) (n : Int) (t : Addr) (old : Value) (w : World) (hg : Door w) (hf : Finds er n w) (ht0 : w.cell? t = some old) (hf0 : w.frozen? t = false) :
    Calls Tryz.prog 171 #[er, .iface 288 (.pointer (some t))] w fun ev w' => ev = .returned (.bool true) ∧ w'.cell? t = some (.int .i64 n) ∧ ∀ B, B ≤ t.block → Below B w w' := by
  have h63 := @run_callFunc_extern Tryz.prog 212 _ (fun args => ReflectliteValue.unpack (args.getD 0 (.tuple #[]))) Tryz.func212 (by kernel_rfl) (by kernel_rfl) (by kernel_rfl) (by kernel_rfl)
  have h64 := @run_callFunc_extern Tryz.prog 213 _ (ReflectliteValue.methodAny (ReflectliteValue.valueError "reflectlite.Value.Type" 0) (fun t _ _ _ => ReflectliteType.toType t)) Tryz.func213 (by kernel_rfl) (by kernel_rfl) (by kernel_rfl) (by kernel_rfl)
  have h65 := @run_callFunc_extern Tryz.prog 214 _ (ReflectliteValue.method (ReflectliteValue.valueError "reflectlite.Value.IsNil" 0) ReflectliteValue.isNil) Tryz.func214 (by kernel_rfl) (by kernel_rfl) (by kernel_rfl) (by kernel_rfl)
  have h120 := @run_callFunc_extern Tryz.prog 298 _ (ReflectliteType.abiMethod fun t => do pure (.int .u8 (← Rtype.kind t))) Tryz.func298 (by kernel_rfl) (by kernel_rfl) (by kernel_rfl) (by kernel_rfl)
  have h147 := @run_callFunc_extern Tryz.prog 324 _ (ReflectliteType.method ReflectliteType.elem) Tryz.func324 (by kernel_rfl) (by kernel_rfl) (by kernel_rfl) (by kernel_rfl)
  have h148 := @run_callFunc_extern Tryz.prog 325 _ (ReflectliteType.relation "Implements" ReflectliteType.implements_) Tryz.func325 (by kernel_rfl) (by kernel_rfl) (by kernel_rfl) (by kernel_rfl)
  have f6 := valueOfP
  have f7 := typeP
  have mK := methodKind
  have mE := methodElem
  have mI := methodImplements
  have kP := kindP
  have kE := kindE
  have eP := elemP
  have iE := implementsE
  have n8 := isNilP ⟨w.heap.size, 0, none⟩ t ((w.alloc (.cells #[.pointer (some t)] 288)).alloc (.cells #[hd 288, .pointer (some ⟨w.heap.size, 0, none⟩), .int .u64 150] 319)) (by simp)
  have htl : t.block < w.heap.size := World.block_lt_of_cell? _ _ ht0
  have hg0 : w.cell? ⟨3, 0, none⟩ = some (.iface 362 (.agg #[hd 33])) := hg
  have hgl : 3 < w.heap.size := World.block_lt_of_cell? _ _ hg0
  obtain ⟨w2, hw2⟩ : ∃ w2, w2 = (w.alloc (.cells #[.pointer (some t)] 288)).alloc (.cells #[hd 288, .pointer (some ⟨w.heap.size, 0, none⟩), .int .u64 150] 319) := ⟨_, rfl⟩
  have hb2 : Below w.heap.size w w2 := by rw [hw2]; exact ((Below.refl _ _).alloc (Nat.le_refl _) _).alloc (by simp) _
  have hg2 : w2.cell? ⟨3, 0, none⟩ = some (.iface 362 (.agg #[hd 33])) := (hb2.cell hgl).trans hg0
  have ha2 : w2.cell? ⟨w.heap.size, 0, none⟩ = some (.pointer (some t)) := by rw [hw2, World.cell?_alloc_lt _ _ ⟨w.heap.size, 0, none⟩ (by simp)]; simp
  have ht2 : w2.cell? t = some old := (hb2.cell htl).trans ht0
  have hf2 : w2.frozen? t = false := (hb2.frozen htl).trans hf0
  have HC : Hid (Calls Tryz.prog 215 #[er, .iface 288 (.pointer (some t)), tv ⟨w.heap.size, 0, none⟩, .iface 362 (.agg #[hd 40])] w2 fun ev w' => ev = .returned (.bool true) ∧
      w' = ((w2.alloc (.cells #[hd 288, .pointer (some ⟨w.heap.size, 0, none⟩), .int .u64 150] 319)).alloc (.cells #[.int .i64 n] 40)).setCell t (.int .i64 n)) := by
    rcases hf with rfl | ⟨q, rfl, hq⟩
    · exact as_hit n t _ old w2 ha2 ht2 hf2
    · exact as_at n q t _ old w2 ((hb2.cell (World.block_lt_of_cell? _ _ hq)).trans hq) ha2 ht2 hf2
  obtain ⟨te, ve, hte⟩ : ∃ te ve, er = .iface te ve := by
    rcases hf with rfl | ⟨q, rfl, _⟩
    · exact ⟨_, _, rfl⟩
    · exact ⟨_, _, rfl⟩
  subst hte
  have HB2 := hide hb2
  have HT2 := hide ht2
  clear hf ht2 hf2 ha2 hb2 hg ht0 hf0
  rw [hw2] at hg2
  have HW2 := hide hw2
  clear hw2
  go_enter Tryz.func171, Tryz.ntmps171
  go_wp2_with (go_at_call 215; refine (HW2.out ▸ HC.out).mono ?_; rintro e w' ⟨rfl, rfl⟩)
  go_ret
  have hs2 := HB2.out.size
  have hfin : ∀ w2 : World, Below w.heap.size w w2 → w2.cell? t = some old → (Ending.returned (Value.bool true) = Ending.returned (.bool true) ∧ (((w2.alloc (.cells #[hd 288, .pointer (some ⟨w.heap.size, 0, none⟩), .int .u64 150] 319)).alloc (.cells #[.int .i64 n] 40)).setCell t (.int .i64 n)).cell? t = some (.int .i64 n) ∧ ∀ B, B ≤ t.block → Below B w (((w2.alloc (.cells #[hd 288, .pointer (some ⟨w.heap.size, 0, none⟩), .int .u64 150] 319)).alloc (.cells #[.int .i64 n] 40)).setCell t (.int .i64 n))) := by
    intro w2 hb ht
    have hs := hb.size
    have hc : ((w2.alloc (.cells #[hd 288, .pointer (some ⟨w.heap.size, 0, none⟩), .int .u64 150] 319)).alloc (.cells #[.int .i64 n] 40)).cell? t = some old := by
      rw [World.cell?_alloc_lt _ _ t (by simp; omega), World.cell?_alloc_lt _ _ t (by omega)]; exact ht
    refine ⟨rfl, World.cell?_setCell_same _ _ _ hc, fun B hB => ?_⟩
    · exact (((hb.mono (by omega)).alloc (by omega) _).alloc (by simp; omega) _).setCell hB _
  exact hfin _ (HW2.out ▸ HB2.out) (HW2.out ▸ HT2.out)
/-- Tell, of an error that holds an Errno -/
theorem Tell_any (er : Value) (n : Int) (w : World) (hg : Door w) (hf : Finds er n w) :
    Calls Tryz.prog 141 #[er] w fun e w' => e = .returned (.int .i64 n) ∧ Below w.heap.size w w' := by
  obtain ⟨w1, hw1⟩ : ∃ w1, w1 = w.alloc (.cells #[.int .i64 0] 40) := ⟨_, rfl⟩
  have hb1 : Below w.heap.size w w1 := by rw [hw1]; exact (Below.refl _ _).alloc (Nat.le_refl _) _
  have hg1 : Door w1 := (hb1.cell (World.block_lt_of_cell? _ _ hg)).trans hg
  have hf1 : Finds er n w1 := by
    rcases hf with h | ⟨q, h, hq⟩
    · exact .inl h
    · exact .inr ⟨q, h, (hb1.cell (World.block_lt_of_cell? _ _ hq)).trans hq⟩
  have hh : w1.heap[w.heap.size]? = some (.cells #[.int .i64 0] 40 (0, 0)) := by rw [hw1]; exact heap_alloc_new _ _
  have HC := hide (As_any er n ⟨w.heap.size, 0, none⟩ (.int .i64 0) w1 hg1 hf1 (by rw [Lib.cell_of_heap hh]; rfl) (Lib.frozen_of_heap hh 0))
  obtain ⟨te, ve, hte⟩ : ∃ te ve, er = .iface te ve := by
    rcases hf with rfl | ⟨q, rfl, _⟩
    · exact ⟨_, _, rfl⟩
    · exact ⟨_, _, rfl⟩
  subst hte
  have HB1 := hide hb1
  rw [hw1] at HC HB1
  clear hg hf hg1 hf1 hh hb1 hw1
  go_enter Tryz.func141, Tryz.ntmps141
  go_wp2_with fail
  refine HC.out.mono ?_
  rintro e w2 ⟨rfl, hc, hb⟩
  have HB2 := hide (hb w.heap.size (Nat.le_refl _))
  clear hb
  go_wp2_with fail
  go_ret
  exact ⟨rfl, HB1.out.trans HB2.out⟩
end ErAs
end
section
open Go.RowKit
/-- an error at a place lies in such a block -/
def FreshE (B : Nat) (v : Value) : Prop := ∀ a, v = .iface 227 (.pointer (some ⟨a, 0, none⟩)) → B ≤ a
theorem formAt_any (st : Nat) (w : World) : Calls Tryz.prog 190 #[.int .i64 (st : Int)] w fun e w' => ∃ v, e = .returned v ∧ ErrIs w' v (some (3, some st)) ∧ Below w.heap.size w w' ∧ FreshE w.heap.size v := by
  go_enter Tryz.func190, Tryz.ntmps190
  go_wp2_with fail
  go_ret
  exact ⟨_, rfl, ⟨w.heap.size, rfl, by simp [go_sem], by simp [go_sem]⟩, (Below.refl _ _).alloc (Nat.le_refl _) _, fun a h => by simp at h; omega⟩
/-- what Cut answers, at the first = -/
def CutRes (s : List UInt8) : Option (List UInt8 × List UInt8) → Ending → Prop
  | none, e => e = .returned (.tuple #[.string ⟨s.toArray⟩, .string ⟨#[]⟩, .bool false])
  | some (a, t), e => e = .returned (.tuple #[.string ⟨a.toArray⟩, .string ⟨t.toArray⟩, .bool true])
theorem Cut_any (s : List UInt8) (w : World) (hs : s.length ≤ 20000) :
    Calls Tryz.prog 153 #[.string ⟨s.toArray⟩, .string ⟨#[61]⟩] w fun e w' => (∃ n, w' = w.drewN n) ∧ CutRes s (Ld.cutE s) e := by
  have HI := hide (Tryz.stringslite_Index_one ⟨s.toArray⟩ 61 w)
  have e0 : (⟨s.toArray⟩ : ByteArray).data.toList = s := rfl
  rw [e0] at HI
  have es : (⟨s.toArray⟩ : ByteArray).size = s.length := by simp [ByteArray.size]
  have inner : Calls Tryz.prog 187 #[.string ⟨s.toArray⟩, .string ⟨#[61]⟩] w fun e w' => (∃ n, w' = w.drewN n) ∧ CutRes s (Ld.cutE s) e := by
    rcases Ld.index_split 61 s with ⟨hi, hno⟩ | ⟨a, r, hr, hno, hi⟩
    · have HC : Hid (Ld.cutE s = none) := Ld.cutE_none s hno
      rw [hi] at HI
      clear e0
      go_enter Tryz.func187, Tryz.ntmps187
      go_wp2_with fail
      refine HI.out.mono ?_
      rintro e w' ⟨rfl, rfl⟩
      go_wp2_with fail
      go_ret3
      exact ⟨⟨0, rfl⟩, by rw [HC.out]; rfl⟩
    · have HC : Hid (Ld.cutE s = some (a, r)) := by show _ = _; rw [hr]; exact Ld.cutE_at a r hno
      rw [hi] at HI
      have hlr : s.length = a.length + 1 + r.length := by rw [hr]; simp; omega
      have hx1 : (⟨s.toArray⟩ : ByteArray).extract 0 a.length = ⟨a.toArray⟩ := by
        apply ByteArray.ext
        rw [ByteArray.data_extract]
        show s.toArray.extract 0 a.length = a.toArray
        rw [List.extract_toArray, hr]
        simp [List.extract]
      have hx2 : (⟨s.toArray⟩ : ByteArray).extract (a.length + 1) (a.length + 1 + r.length) = ⟨r.toArray⟩ := by
        apply ByteArray.ext
        rw [ByteArray.data_extract]
        show s.toArray.extract (a.length + 1) (a.length + 1 + r.length) = r.toArray
        rw [List.extract_toArray, hr]
        have e1 : (a ++ 61 :: r) = (a ++ [61]) ++ r := by simp
        have e2 : a.length + 1 = (a ++ [61]).length := by simp
        rw [e1, e2, List.extract, List.drop_left, Nat.add_sub_cancel_left, List.take_length]
      have HX1 := hide hx1
      have HX2 := hide hx2
      clear e0 hr hx1 hx2
      go_enter Tryz.func187, Tryz.ntmps187
      go_wp2_with fail
      refine HI.out.mono ?_
      rintro e w' ⟨rfl, rfl⟩
      go_wp2_with fail
      go_quiet (fail)
      go_wp2_with fail
      go_ret3
      exact ⟨⟨nq, rfl⟩, by
        rw [HC.out]
        show _ = Ending.returned (.tuple #[.string ⟨a.toArray⟩, .string ⟨r.toArray⟩, .bool true])
        rw [← HX1.out, ← HX2.out]; rfl⟩
  have HIN := hide inner
  generalize Ld.cutE s = o at *
  clear inner HI e0 es
  match o, HIN with
  | none, HIN =>
    go_enter Tryz.func153, Tryz.ntmps153
    go_wp2_with fail
    refine HIN.out.mono ?_
    rintro e w' ⟨⟨n, hw⟩, rfl⟩
    have HW := hide hw
    clear HIN hw
    go_wp2_with fail
    go_ret3
    exact ⟨⟨n, HW.out⟩, rfl⟩
  | some (a, t), HIN =>
    go_enter Tryz.func153, Tryz.ntmps153
    go_wp2_with fail
    refine HIN.out.mono ?_
    rintro e w' ⟨⟨n, hw⟩, rfl⟩
    have HW := hide hw
    clear HIN hw
    go_wp2_with fail
    go_ret3
    exact ⟨⟨n, HW.out⟩, rfl⟩
/-- an error, moved on: its place counts from another byte on -/
theorem moved_any (v : Value) (er : Nat) (pl : Option Nat) (at_ : Nat) (w : World) (hv : ErrIs w v (some (er, pl))) (hd : ErAs.Door w) (hl : at_ ≤ 2000000000 ∧ pl.getD 0 ≤ 100000) :
    Calls Tryz.prog 192 #[v, .int .i64 (at_ : Int)] w fun e w' => ∃ u, e = .returned u ∧ ErrIs w' u (some (er, some (at_ + pl.getD 0))) ∧ Below w.heap.size w w' ∧ FreshE w.heap.size u := by
  cases pl with
  | none =>
    obtain rfl : v = .iface 40 (.int .i64 (er : Int)) := hv
    have HC := hide (ErAs.Tell_any (.iface 40 (.int .i64 (er : Int))) er w hd (.inl rfl))
    have sE := ErAs.atE
    clear hd
    go_enter Tryz.func192, Tryz.ntmps192
    go_wp2_with fail
    refine HC.out.mono ?_
    rintro e w1 ⟨rfl, hb⟩
    have HB := hide hb
    clear hb HC
    go_wp2_with fail
    go_ret
    exact ⟨_, rfl, ⟨w1.heap.size, rfl, by simp [go_sem], by simp [go_sem]⟩, HB.out.alloc HB.out.size _, fun a h => by have := HB.out.size; simp at h; omega⟩
  | some p =>
    obtain ⟨a, rfl, h0, h1⟩ := hv
    have hlt : a < w.heap.size := World.block_lt_of_cell? _ _ h0
    have sA := ErAs.atA
    simp only [Option.getD_some] at hl ⊢
    clear hd
    go_enter Tryz.func192, Tryz.ntmps192
    go_wp2_with fail
    go_region_held3 (fun W => W.cell? ⟨a, 0, none⟩ = some (.int .i64 (er : Int)) ∧ W.cell? ⟨a, 1, none⟩ = some (.int .i64 (p : Int))) (go_keep) (fail)
    all_goals go_wp2_with fail
    all_goals go_ret
    all_goals
      have hwr : IntKind.i64.wrap ((at_ : Int) + (p : Int)) = ((at_ + p : Nat) : Int) := by rw [IntKind.wrap_i64]; omega
      rw [hwr]
      exact ⟨_, rfl, ⟨w.heap.size, rfl, by simp [go_sem], by simp [go_sem]⟩, ⟨rfl, rfl, rfl, by simp, fun k hk => Below.heap_alloc _ _ _ hk⟩, fun a h => by simp at h; omega⟩
end
section
open Go.RowKit
namespace Ld
/-- a name's line, its place kept already -/
def takeN (r : Rdg) (st : Nat) (line : List UInt8) : (Nat × Nat) ⊕ Rdg := match rdName (words line) with
  | none => .inl (3, st)
  | some n => if r.rungs = [] then .inr ⟨r.names ++ [n], r.rungs, r.starts⟩ else .inl (3, st)
theorem takeN_none (r : Rdg) (st : Nat) (line : List UInt8) (h : rdName (words line) = none) : takeN r st line = .inl (3, st) := by rw [takeN, h]
theorem takeN_some (r : Rdg) (st : Nat) (line : List UInt8) (n : Nme) (h : rdName (words line) = some n) (h0 : r.rungs = []) : takeN r st line = .inr ⟨r.names ++ [n], r.rungs, r.starts⟩ := by rw [takeN, h]; simp only [if_pos h0]
theorem takeN_late (r : Rdg) (st : Nat) (line : List UInt8) (n : Nme) (h : rdName (words line) = some n) (h0 : r.rungs ≠ []) : takeN r st line = .inl (3, st) := by rw [takeN, h]; simp only [if_neg h0]
end Ld
/-- what reading on comes to: an error at a place, or what was read by now; what lies between b and q stands -/
def Taken (b q : Nat) (w0 : World) (res : (Nat × Nat) ⊕ Ld.Rdg) (W : World) (e : Ending) (W' : World) : Prop :=
  Kq b q W W' ∧ match res with
    | .inl (er, p) => ∃ v, e = .returned v ∧ ErrIs W' v (some (er, some p)) ∧ Below b w0 W' ∧ FreshE q v
    | .inr r => e = .returned .nilIface ∧ Rdm b q w0 r W'
theorem words_len (s : List UInt8) (hs : s.length ≤ 20000) : ∀ y, y ∈ Ld.words s → y.length ≤ 20000 ∧ y ≠ [] := by
  intro y hy
  unfold Ld.words at hy
  rw [List.mem_filter] at hy
  have hne : y ≠ [] := by simpa using hy.2
  refine ⟨?_, hne⟩
  have key : ∀ (l : List UInt8) (z : List UInt8), z ∈ Ld.split 32 l → z.length ≤ l.length := by
    intro l
    induction l with
    | nil => intro z hz; simp [Ld.split] at hz; simp [hz]
    | cons a r ih =>
      intro z hz
      unfold Ld.split at hz
      by_cases h : a = 32
      · rw [if_pos h] at hz
        simp only [List.mem_cons] at hz
        rcases hz with rfl | hz
        · simp
        · have := ih z hz; simp; omega
      · rw [if_neg h] at hz
        cases hs : Ld.split 32 r with
        | nil => rw [hs] at hz; simp at hz; simp [hz]
        | cons x t =>
          rw [hs] at hz
          simp only [List.mem_cons] at hz
          rcases hz with rfl | hz
          · have := ih x (by rw [hs]; simp); simp; omega
          · have := ih z (by rw [hs]; simp [hz]); simp; omega
  have := key s y hy.1
  omega
set_option maxHeartbeats 4000000 in
set_option maxRecDepth 100000 in
theorem takeName_any (b q : Nat) (w0 : World) (r : Ld.Rdg) (st : Nat) (line : List UInt8) (W : World) (h : Rdm b q w0 r W) (hbq : b < q) (hq : q ≤ W.heap.size) (hl : line.length ≤ 20000) (hn : r.names.length ≤ 100000 ∧ r.rungs.length ≤ 100000) (hW : Words w0) (hN : NumErrs w0) (hP : Pows w0) (hG : 14 ≤ b) :
    Calls Tryz.prog 154 #[.pointer (some ⟨b, 0, none⟩), .int .i64 (st : Int), .string ⟨line.toArray⟩] W
      (Taken b q w0 (Ld.takeN r st line) W) := by
  have HT0 := hide (Ld.takeN_none r st line)
  have HT1 := hide (Ld.takeN_some r st line)
  have HT2 := hide (Ld.takeN_late r st line)
  generalize Ld.takeN r st line = res at *
  obtain ⟨nv, rv, sv, vs, hx⟩ := h
  have HX := hide hx
  have HWD := hide (words_any line W hl)
  have HWL := hide (words_len line hl)
  have HG := hide (fun W' (hb : Below W.heap.size W W') => (hx.lo.trans (hb.mono (Nat.le_of_lt hx.lt))))
  have HW0 := hide hW
  have HN0 := hide hN
  have HP0 := hide hP
  have hblt := hx.lt
  obtain ⟨na, nc, hnv⟩ := own_slice hx.on
  obtain ⟨ra, rc, hrv⟩ := own_slice hx.org
  obtain ⟨sa, sc, hsv⟩ := own_slice hx.os
  have HBX : Hid (∀ W', Below W.heap.size W W' → W'.cell? ⟨b, 0, none⟩ = some nv ∧ W'.cell? ⟨b, 1, none⟩ = some rv ∧ W'.cell? ⟨b, 2, none⟩ = some sv) := by
    intro W' hb
    have hh := (hx.below hb).blk
    exact ⟨by rw [Lib.cell_of_heap hh]; rfl, by rw [Lib.cell_of_heap hh]; rfl, by rw [Lib.cell_of_heap hh]; rfl⟩
  clear hx hW hN hP
  go_enter Tryz.func154, Tryz.ntmps154
  go_wp2_with fail
  refine HWD.out.mono ?_
  rintro e w1 ⟨wv, rfl, hstr, hb1⟩
  have HB1 := hide hb1
  have hlow1 := HG.out w1 hb1
  have HRN := hide (readName_any wv _ w1 hstr HWL.out (HW0.out.low hlow1 hG) (HN0.out.low hlow1 hG) (HP0.out.low hlow1 hG) (by have := hb1.size; omega))
  obtain ⟨wa, wn, wc, hwv⟩ : ∃ a n c, wv = .slice a n c := by
    rcases hstr with ⟨_, a, cap, h⟩ | ⟨g, o, cap, h, _⟩
    · exact ⟨_, _, _, h⟩
    · exact ⟨_, _, _, h⟩
  subst hwv
  clear hstr hb1 hlow1 HWD
  go_wp2_with fail
  refine HRN.out.mono ?_
  rintro e w2 ⟨nm, k, c, rfl, hsome, hb2⟩
  have HS := hide hsome
  have HB2 := hide (HB1.out.trans (hb2.mono HB1.out.size))
  clear hsome hb2 HRN HB1
  obtain ⟨w3, hw3⟩ : ∃ w3, w3 = w2.alloc (.cells #[.string ⟨nm.toArray⟩, .int .i64 k, .int .i64 c] 201) := ⟨_, rfl⟩
  have hb3 : Below W.heap.size W w3 := by rw [hw3]; exact HB2.out.alloc HB2.out.size _
  have HB3 := hide hb3
  have HW3 := hide hw3
  obtain ⟨b0, b1, b2⟩ := HBX.out w3 hb3
  obtain ⟨b0', b1', b2'⟩ := HBX.out w2 HB2.out
  have hs2 := HB2.out.size
  have hblt2 : b < w2.heap.size := by omega
  clear hb3 hw3
  generalize Ld.words line = wl at *
  cases hrn : Ld.rdName wl with
  | none =>
    have HRES := hide (HT0.out hrn)
    rw [show (none : Option Ld.Nme).isSome = false from rfl]
    have HF := hide (formAt_any st w3)
    rw [HW3.out] at HF
    clear HT0 HT1 HT2
    go_wp2_with fail
    refine HF.out.mono ?_
    rintro e w4 ⟨v, rfl, hv, hb4, hfe⟩
    have HFE : Hid (FreshE q v) := fun a h => Nat.le_trans (Nat.le_trans hq (Nat.le_trans HB3.out.size (by rw [HW3.out]; exact Nat.le_refl _))) (hfe a h)
    clear hfe
    rw [← HW3.out] at hb4
    have HV := hide hv
    have HB4 := hide (HB3.out.trans (hb4.mono HB3.out.size))
    obtain ⟨tu, yu, hiu⟩ : ∃ tu yu, v = .iface tu yu := by obtain ⟨a, h, _⟩ := hv; exact ⟨_, _, h⟩
    subst hiu
    clear hv hb4 HF
    go_wp2_with fail
    go_ret
    rw [HRES.out]
    exact ⟨Kq.below HB4.out hq, _, rfl, HV.out, HG.out _ HB4.out, HFE.out⟩
  | some n =>
    obtain ⟨hn1, hn2, hn3⟩ := HS.out n hrn
    subst hn1
    by_cases hr0 : r.rungs = []
    · have HRES := hide (HT1.out _ hrn hr0)
      have hrl : r.rungs.length = 0 := by rw [hr0]; rfl
      rw [hrl] at hrv
      rw [show (some (⟨nm, k, c⟩ : Ld.Nme)).isSome = true from rfl]
      obtain ⟨i0, hi0, hz0, hz1, hz2⟩ := info_parts Tryz.infoName
      have HX3 := hide (HX.out.below HB3.out)
      have HNB := hide hn2
      have HNC := hide hn3
      have HNL : Hid (nm.length ≤ 20000) := by
        show _ ≤ _
        have hq2 := hrn
        unfold Ld.rdName at hq2
        match wl, HWL, hq2 with
        | [w0', y], HWL, hq2 =>
          simp only at hq2
          split at hq2
          · cases hq2; exact (HWL.out _ (by simp)).1
          · cases hq2
        | [w0', y, z], HWL, hq2 =>
          simp only at hq2
          split at hq2
          · cases hz : Ld.rdCount z with
            | none => rw [hz] at hq2; cases hq2
            | some v => rw [hz] at hq2; cases hq2; exact (HWL.out _ (by simp)).1
          · cases hq2
        | [], _, hq2 => cases hq2
        | [_], _, hq2 => cases hq2
        | _ :: _ :: _ :: _ :: _, _, hq2 => cases hq2
      have hs3 : w3.heap.size = w2.heap.size + 1 := by rw [HW3.out]; simp
      have e0 : w3.cell? ⟨w2.heap.size, 0, none⟩ = some (.string ⟨nm.toArray⟩) := by rw [HW3.out]; simp [go_sem]
      have e1 : w3.cell? ⟨w2.heap.size, 1, none⟩ = some (.int .i64 k) := by rw [HW3.out]; simp [go_sem]
      have e2 : w3.cell? ⟨w2.heap.size, 2, none⟩ = some (.int .i64 c) := by rw [HW3.out]; simp [go_sem]
      have hqs : q ≤ w3.heap.size := by omega
      subst hnv
      subst hrv
      clear HT0 HT1 HT2 hr0
      have HOWN : Hid (∀ o, (w3.drew.alloc o).ownsRow q 201 3 (.slice na r.names.length nc) r.names.length (r.names.flatMap nmCells)) := fun o => (show w3.drew.ownsRow q 201 3 (.slice na r.names.length nc) r.names.length (r.names.flatMap nmCells) from HX3.out.on).alloc o
      have HONE : Hid (∀ u ∈ nmCells ⟨nm, k, c⟩, u.oneCell' = true) := by
        intro u hu
        simp only [nmCells, List.mem_cons, List.not_mem_nil, or_false] at hu
        rcases hu with rfl | rfl | rfl <;> rfl
      have HXA : Hid (∀ o, RdX b q w0 r (.slice na r.names.length nc) (.slice ra 0 rc) sv vs (w3.drew.alloc o)) := fun o => HX3.out.below (W' := w3.drew.alloc o) ⟨rfl, rfl, rfl, by simp, fun k hk => Below.heap_alloc _ _ _ hk⟩
      have HFIN : Hid (∀ (o : Obj) (g cap : Nat) (wA : World), wA.ownsRow q 201 3 (.slice (some ⟨g, 0, none⟩) (r.names.length + 1) cap) (r.names.length + 1) (r.names.flatMap nmCells ++ nmCells ⟨nm, k, c⟩) → (w3.drew.alloc o).grownBy wA (Value.slice na r.names.length nc).ownBlock → ((Value.slice na r.names.length nc).ownBlock = some g ∨ g = w3.heap.size + 1) →
          (wA.cell? ⟨b, 0, none⟩ = some (.slice na r.names.length nc) ∧ wA.frozen? ⟨b, 0, none⟩ = false) ∧ Taken b q w0 (.inr ⟨r.names ++ [⟨nm, k, c⟩], r.rungs, r.starts⟩) W (.returned .nilIface) (wA.setCell ⟨b, 0, none⟩ (.slice (some ⟨g, 0, none⟩) (r.names.length + 1) cap))) := by
        intro o g cap wA hown hgrow hat
        have hbk : wA.heap[b]? = some (.cells #[.slice na r.names.length nc, .slice ra 0 rc, sv] 220 (0, 0)) := by
          rw [hgrow.block b (by simp; omega) (fun e => by have := ((HXA.out o).on.lt b e.symm).1; omega)]
          exact (HXA.out o).blk
        have hput := (HXA.out o).putName hbq (by simp; omega) ⟨nm, k, c⟩ ⟨HNL.out, HNB.out, HNC.out⟩ g cap hown hgrow (by rcases hat with h | h; exact .inl h; right; rw [h]; simp)
        refine ⟨⟨by rw [Lib.cell_of_heap hbk]; rfl, Lib.frozen_of_heap hbk 0⟩, ?_, rfl, _, _, _, _, hput.1⟩
        exact (Kq.below (W' := w3.drew.alloc o) ⟨HB3.out.os, HB3.out.tape, HB3.out.output, by have := HB3.out.size; simp; omega, fun k hk => by rw [Below.heap_alloc _ _ _ (by have := HB3.out.size; show k < w3.heap.size; omega)]; exact HB3.out.block k hk⟩ hq).trans hput.2
      have hnl6 := hn.1
      have hb3s : b < w3.heap.size := by omega
      have hw23 : w2.heap.size < w3.heap.size := by omega
      clear HX3 HXA hs3
      go_wp2_with fail
      rw [← HW3.out]
      go_region_law (refine step_append_lies _ rfl (.tmp 33) (.tmp 35) 80 rfl q 201 i0 _ 3 32 Tryz.underlying80 hi0 hz0 hz1 hz2 rfl (by decide) (.slice na r.names.length nc) r.names.length (r.names.flatMap nmCells) rfl (HOWN.out _) ⟨w3.heap.size, 0, none⟩ 1 1 (nmCells ⟨nm, k, c⟩) rfl rfl (World.news_of_block (heap_alloc_new w3.drew _)) HONE.out (by decide) (by unfold maxLen; omega) (by omega) (by simp; omega) (w3.heap.size + 1) (by simp) ?_; intro g cap wA hown hgrow hat hltg; obtain ⟨⟨hcA, hfA⟩, hTA⟩ := HFIN.out _ g cap wA hown hgrow hat; have HTA := hide hTA; clear hTA)
      all_goals go_wp2_with fail
      all_goals go_ret
      all_goals
        rw [HRES.out]
        exact HTA.out
    · have HRES := hide (HT2.out _ hrn hr0)
      have hrl : 0 < r.rungs.length := List.length_pos_iff.2 hr0
      rw [show (some (⟨nm, k, c⟩ : Ld.Nme)).isSome = true from rfl]
      have HF := hide (formAt_any st w3)
      rw [HW3.out] at HF
      subst hrv
      clear HT0 HT1 HT2 hr0
      go_wp2_with fail
      refine HF.out.mono ?_
      rintro e w4 ⟨v, rfl, hv, hb4, hfe⟩
      have HFE : Hid (FreshE q v) := fun a h => Nat.le_trans (Nat.le_trans hq (Nat.le_trans HB3.out.size (by rw [HW3.out]; exact Nat.le_refl _))) (hfe a h)
      clear hfe
      rw [← HW3.out] at hb4
      have HV := hide hv
      have HB4 := hide (HB3.out.trans (hb4.mono HB3.out.size))
      obtain ⟨tu, yu, hiu⟩ : ∃ tu yu, v = .iface tu yu := by obtain ⟨a, h, _⟩ := hv; exact ⟨_, _, h⟩
      subst hiu
      clear hv hb4 HF
      go_wp2_with fail
      go_ret
      rw [HRES.out]
      exact ⟨Kq.below HB4.out hq, _, rfl, HV.out, HG.out _ HB4.out, HFE.out⟩
end
section
namespace Ex
def ErrB (l : List UInt8) (r : Nat → Res Ex) : Prop := ∀ i e p, i ≤ l.length → r i = .inl (e, p) → p ≤ l.length
theorem nameP_err (l : List UInt8) (k : Nat) : ErrB l (nameP l k) := by
  intro i e p hi h
  have h2 := skip_le l i hi
  unfold nameP at h
  simp only at h
  split at h
  · simp only [Sum.inl.injEq, Prod.mk.injEq] at h; omega
  · split at h
    · cases h
    · simp only [Sum.inl.injEq, Prod.mk.injEq] at h; omega
theorem listP_err (l : List UInt8) (sep : Nat) (hs : sep ≠ 32) (r : Nat → Res Ex) (hr : Adv l r) (he : ErrB l r) : ∀ f i e p, i ≤ l.length → listP l sep r f i = .inl (e, p) → p ≤ l.length := by
  intro f
  induction f with
  | zero => intro i e p hi h; simp only [listP, Sum.inl.injEq, Prod.mk.injEq] at h; omega
  | succ f ih =>
    intro i e p hi h
    unfold listP at h
    cases hri : r i with
    | inl q => rw [hri] at h; simp only [Sum.inl.injEq] at h; subst h; exact he i _ _ hi hri
    | inr q =>
      obtain ⟨x, j⟩ := q
      rw [hri] at h
      simp only at h
      have hj := hr i x j hi hri
      by_cases hsg : sg l (skip l j) = sep
      · rw [if_pos hsg] at h
        have hlt := sg_lt l (skip l j) (by rw [hsg]; exact hs)
        cases hm : listP l sep r f (skip l j + 1) with
        | inl q =>
          rw [hm] at h
          simp only [Sum.inl.injEq] at h
          subst h
          exact ih _ _ _ (by omega) hm
        | inr q => rw [hm] at h; cases h
      · rw [if_neg hsg] at h; cases h
theorem made_err (k : Nat) (q : Res (List Ex)) (e p : Nat) (h : made k q = .inl (e, p)) : q = .inl (e, p) := by
  match q, h with
  | .inl x, h => simp only [made, Sum.inl.injEq] at h; rw [h]
  | .inr ([], m), h => simp [made] at h
  | .inr ([x], m), h => simp [made] at h
  | .inr (x :: y :: t, m), h => simp [made] at h
theorem partP_err (l : List UInt8) (r : Nat → Res Ex) (hr : Adv l r) (he : ErrB l r) : ErrB l (partP l r) := fun i e p hi h => listP_err l 38 (by decide) r hr he _ i e p hi (made_err _ _ _ _ h)
theorem wholeP_err (l : List UInt8) (r : Nat → Res Ex) (hr : Adv l r) (he : ErrB l r) : ErrB l (wholeP l r) := fun i e p hi h => listP_err l 124 (by decide) _ (partP_adv l r hr) (partP_err l r hr he) _ i e p hi (made_err _ _ _ _ h)
theorem pieceP_err (l : List UInt8) : ∀ d, ErrB l (pieceP l d) := by
  intro d
  induction d with
  | zero => intro i e p hi h; have := skip_le l i hi; simp only [pieceP, Sum.inl.injEq, Prod.mk.injEq] at h; omega
  | succ d ih =>
    intro i e p hi h
    have h2 := skip_le l i hi
    unfold pieceP at h
    simp only at h
    by_cases c1 : sg l (skip l i) = 33
    · rw [if_pos c1] at h
      have hlt := sg_lt l (skip l i) (by rw [c1]; decide)
      cases hq : pieceP l d (skip l i + 1) with
      | inl q => rw [hq] at h; simp only [notP, Sum.inl.injEq] at h; subst h; exact ih _ _ _ (by omega) hq
      | inr q => rw [hq] at h; simp [notP] at h
    rw [if_neg c1] at h
    by_cases c2 : sg l (skip l i) = 40
    · rw [if_pos c2] at h
      have hlt := sg_lt l (skip l i) (by rw [c2]; decide)
      cases hq : wholeP l (pieceP l d) (skip l i + 1) with
      | inl q => rw [hq] at h; simp only [parP, Sum.inl.injEq] at h; subst h; exact wholeP_err l _ (pieceP_adv l d) ih _ _ _ (by omega) hq
      | inr q =>
        obtain ⟨x, m⟩ := q
        rw [hq] at h
        have hm := wholeP_adv l _ (pieceP_adv l d) _ _ _ (by omega) hq
        have := skip_le l m hm.2
        simp only [parP] at h
        split at h
        · cases h
        · simp only [Sum.inl.injEq, Prod.mk.injEq] at h; omega
    rw [if_neg c2] at h
    by_cases c3 : sg l (skip l i) = 48
    · rw [if_pos c3] at h; cases h
    rw [if_neg c3] at h
    by_cases c4 : sg l (skip l i) = 49
    · rw [if_pos c4] at h; cases h
    rw [if_neg c4] at h
    by_cases c5 : sg l (skip l i) = 94
    · rw [if_pos c5] at h
      have hlt := sg_lt l (skip l i) (by rw [c5]; decide)
      exact nameP_err l 3 _ _ _ (by omega) h
    rw [if_neg c5] at h
    by_cases c6 : sg l (skip l i) = 126
    · rw [if_pos c6] at h
      have hlt := sg_lt l (skip l i) (by rw [c6]; decide)
      exact nameP_err l 4 _ _ _ (by omega) h
    rw [if_neg c6] at h
    exact nameP_err l 2 _ _ _ h2 h
theorem parse_place (t : List UInt8) (e : Nat) (pl : Option Nat) (h : parse t = .inl (e, pl)) : pl.getD 0 ≤ t.length := by
  unfold parse at h
  split at h
  · simp only [Sum.inl.injEq, Prod.mk.injEq] at h; rw [← h.2]; simp
  · cases hq : wholeP t (pieceP t 20) 0 with
    | inl q =>
      rw [hq] at h
      simp only [Sum.inl.injEq, Prod.mk.injEq] at h
      rw [← h.2]
      exact wholeP_err t _ (pieceP_adv t 20) (pieceP_err t 20) 0 _ _ (Nat.zero_le _) hq
    | inr q =>
      obtain ⟨x, m⟩ := q
      rw [hq] at h
      simp only at h
      split at h
      · simp only [Sum.inl.injEq, Prod.mk.injEq] at h; rw [← h.2]; simp; omega
      · cases h
end Ex
end
section
open Go.RowKit
namespace Ld
/-- a rung's line, its place kept already -/
def takeR (r : Rdg) (st : Nat) (head t : List UInt8) : (Nat × Nat) ⊕ Rdg := match rdHead (words head) with
  | none => .inl (3, st)
  | some (k, nm) => match Ex.parse t with
    | .inl (e, pl) => .inl (e, st + head.length + 1 + pl.getD 0)
    | .inr x => .inr ⟨r.names, r.rungs ++ [⟨(k : Int), nm, some x⟩], r.starts⟩
theorem takeR_none (r : Rdg) (st : Nat) (head t : List UInt8) (h : rdHead (words head) = none) : takeR r st head t = .inl (3, st) := by rw [takeR, h]
theorem takeR_err (r : Rdg) (st : Nat) (head t : List UInt8) (k : Nat) (nm : List UInt8) (h : rdHead (words head) = some (k, nm)) (e : Nat) (pl : Option Nat) (hp : Ex.parse t = .inl (e, pl)) : takeR r st head t = .inl (e, st + head.length + 1 + pl.getD 0) := by rw [takeR, h]; simp only [hp]
theorem takeR_some (r : Rdg) (st : Nat) (head t : List UInt8) (k : Nat) (nm : List UInt8) (h : rdHead (words head) = some (k, nm)) (x : Ex) (hp : Ex.parse t = .inr x) : takeR r st head t = .inr ⟨r.names, r.rungs ++ [⟨(k : Int), nm, some x⟩], r.starts⟩ := by rw [takeR, h]; simp only [hp]
theorem take_is (r : Rdg) (st : Nat) (line : List UInt8) : take r st line = match cutE line with
    | none => takeN ⟨r.names, r.rungs, r.starts ++ [st]⟩ st line
    | some (head, t) => takeR ⟨r.names, r.rungs, r.starts ++ [st]⟩ st head t := by
  unfold take takeN takeR
  cases cutE line with
  | none => rfl
  | some p => rfl
end Ld
set_option maxHeartbeats 4000000 in
set_option maxRecDepth 100000 in
theorem takeRung_any (b q : Nat) (w0 : World) (r : Ld.Rdg) (st : Nat) (head t : List UInt8) (W : World) (h : Rdm b q w0 r W) (hbq : b < q) (hq : q ≤ W.heap.size) (hl : head.length ≤ 20000 ∧ t.length ≤ 20000 ∧ st ≤ 1000000000) (hn : r.names.length ≤ 100000 ∧ r.rungs.length ≤ 100000) (hW : Words w0) (hD : ErAs.Door w0) (hG : 14 ≤ b) :
    Calls Tryz.prog 155 #[.pointer (some ⟨b, 0, none⟩), .int .i64 (st : Int), .string ⟨head.toArray⟩, .string ⟨t.toArray⟩] W (Taken b q w0 (Ld.takeR r st head t) W) := by
  have HT0 := hide (Ld.takeR_none r st head t)
  have HT1 := hide (Ld.takeR_err r st head t)
  have HT2 := hide (Ld.takeR_some r st head t)
  generalize Ld.takeR r st head t = res at *
  obtain ⟨nv, rv, sv, vs, hx⟩ := h
  have HX := hide hx
  have HWD := hide (words_any head W hl.1)
  have HWL := hide (words_len head hl.1)
  have HG := hide (fun W' (hb : Below W.heap.size W W') => (hx.lo.trans (hb.mono (Nat.le_of_lt hx.lt))))
  have HW0 := hide hW
  have HD0 := hide hD
  have hblt := hx.lt
  obtain ⟨na, nc, hnv⟩ := own_slice hx.on
  obtain ⟨ra, rc, hrv⟩ := own_slice hx.org
  obtain ⟨sa, sc, hsv⟩ := own_slice hx.os
  have HBX : Hid (∀ W', Below W.heap.size W W' → W'.cell? ⟨b, 0, none⟩ = some nv ∧ W'.cell? ⟨b, 1, none⟩ = some rv ∧ W'.cell? ⟨b, 2, none⟩ = some sv) := by
    intro W' hb
    have hh := (hx.below hb).blk
    exact ⟨by rw [Lib.cell_of_heap hh]; rfl, by rw [Lib.cell_of_heap hh]; rfl, by rw [Lib.cell_of_heap hh]; rfl⟩
  clear hx hW hD
  go_enter Tryz.func155, Tryz.ntmps155
  go_wp2_with fail
  refine HWD.out.mono ?_
  rintro e w1 ⟨wv, rfl, hstr, hb1⟩
  have HB1 := hide hb1
  have hlow1 := HG.out w1 hb1
  have HRN := hide (readHead_any wv _ w1 hstr HWL.out (HW0.out.low hlow1 hG) (by have := hb1.size; omega))
  obtain ⟨wa, wn, wc, hwv⟩ : ∃ a n c, wv = .slice a n c := by
    rcases hstr with ⟨_, a, cap, h⟩ | ⟨g, o, cap, h, _⟩
    · exact ⟨_, _, _, h⟩
    · exact ⟨_, _, _, h⟩
  subst hwv
  clear hstr hb1 hlow1 HWD
  go_wp2_with fail
  refine HRN.out.mono ?_
  rintro e w2 ⟨k, nm, rfl, hsome, hb2⟩
  have HS := hide hsome
  have HB2 := hide (HB1.out.trans (hb2.mono HB1.out.size))
  clear hsome hb2 HRN HB1
  obtain ⟨w3, hw3⟩ : ∃ w3, w3 = w2.alloc (.cells #[.int .i64 (k : Int), .string ⟨nm.toArray⟩, .nilIface] 230) := ⟨_, rfl⟩
  have hb3 : Below W.heap.size W w3 := by rw [hw3]; exact HB2.out.alloc HB2.out.size _
  have HB3 := hide hb3
  have HW3 := hide hw3
  have hs2 := HB2.out.size
  have hs3 : w3.heap.size = w2.heap.size + 1 := by rw [hw3]; simp
  have hblt2 : b < w2.heap.size := by omega
  have hnew3 : w3.heap[w2.heap.size]? = some (.cells #[.int .i64 (k : Int), .string ⟨nm.toArray⟩, .nilIface] 230 (0, 0)) := by rw [hw3]; exact heap_alloc_new w2 _
  have HNEW := hide hnew3
  have HS3 := hide hs3
  clear hb3 hw3 hnew3 hs3
  generalize hwl : Ld.words head = wl at *
  clear hwl
  cases hrn : Ld.rdHead wl with
  | none =>
    have HRES := hide (HT0.out hrn)
    rw [show (none : Option (Nat × List UInt8)).isSome = false from rfl]
    have HF := hide (formAt_any st w3)
    rw [HW3.out] at HF
    clear HT0 HT1 HT2
    go_wp2_with fail
    refine HF.out.mono ?_
    rintro e w4 ⟨v, rfl, hv, hb4, hfe⟩
    have HFE : Hid (FreshE q v) := fun a h => Nat.le_trans (Nat.le_trans hq (Nat.le_trans HB3.out.size (by rw [HW3.out]; exact Nat.le_refl _))) (hfe a h)
    clear hfe
    rw [← HW3.out] at hb4
    have HV := hide hv
    have HB4 := hide (HB3.out.trans (hb4.mono HB3.out.size))
    obtain ⟨tu, yu, hiu⟩ : ∃ tu yu, v = .iface tu yu := by obtain ⟨a, h, _⟩ := hv; exact ⟨_, _, h⟩
    subst hiu
    clear hv hb4 HF
    go_wp2_with fail
    go_ret
    rw [HRES.out]
    exact ⟨Kq.below HB4.out hq, _, rfl, HV.out, HG.out _ HB4.out, HFE.out⟩
  | some p =>
    obtain ⟨hn1, hk6⟩ := HS.out p hrn
    subst hn1
    rw [show (some ((k, nm) : Nat × List UInt8)).isSome = true from rfl]
    have et : (⟨t.toArray⟩ : ByteArray).data.toList = t := rfl
    have HPA := hide (Parse_any ⟨t.toArray⟩ w3 (by show t.toArray.size ≤ maxLen; rw [List.size_toArray]; unfold maxLen; omega))
    rw [et] at HPA
    clear et
    have HPL := hide (Ex.parse_place t)
    rw [HW3.out] at HPA
    cases hpt : Ex.parse t with
    | inl ep =>
      obtain ⟨er, pl⟩ := ep
      have HRES := hide (HT1.out k nm hrn er pl hpt)
      have hpl := HPL.out er pl hpt
      rw [hpt] at HPA
      clear HT0 HT1 HT2 HPL hpt
      go_wp2_with fail
      refine HPA.out.mono ?_
      rintro e w4 ⟨hb4, hm4⟩
      rw [← HW3.out] at hb4 hm4
      have HB4 := hide (HB3.out.trans (hb4.mono HB3.out.size))
      obtain ⟨v, he4, hv4⟩ : ∃ v, e = .returned (.tuple #[.nilIface, v]) ∧ ErrIs w4 v (some (er, pl)) := by
        match pl, hm4 with
        | none, hm4 => exact ⟨_, hm4, rfl⟩
        | some pp, ⟨v, h1, a, _, h2, h3, h4⟩ => exact ⟨v, h1, a, h2, h3, h4⟩
      subst he4
      have g4 := (hb4.block w2.heap.size (by rw [HS3.out]; omega)).trans HNEW.out
      have d2 : w4.cell? ⟨w2.heap.size, 2, none⟩ = some .nilIface := by rw [Lib.cell_of_heap g4]; rfl
      have f2 : w4.frozen? ⟨w2.heap.size, 2, none⟩ = false := Lib.frozen_of_heap g4 2
      obtain ⟨w5, hw5⟩ : ∃ w5, w5 = w4.setCell ⟨w2.heap.size, 2, none⟩ .nilIface := ⟨_, rfl⟩
      have hbs : Below W.heap.size W w5 := by rw [hw5]; exact HB4.out.setCell (by simp; omega) _
      have hv5 : ErrIs w5 v (some (er, pl)) := by
        match pl, hv4 with
        | none, h => exact h
        | some pp, ⟨a, h1, h2, h3⟩ =>
          have hne : a ≠ w2.heap.size := by
            intro e2
            rw [e2, Lib.cell_of_heap g4] at h3
            simp at h3
          exact ⟨a, h1, by rw [hw5, World.cell?_setCell_other _ _ _ _ (by simp)]; exact h2, by rw [hw5, World.cell?_setCell_other _ _ _ _ (by simp)]; exact h3⟩
      have hd5 : ErAs.Door w5 := by
        have hlow := HG.out w5 hbs
        exact (hlow.cell (p := ⟨3, 0, none⟩) (Nat.lt_of_lt_of_le (by decide : 3 < 14) hG)).trans HD0.out
      have HMV := hide (moved_any v er pl (st + head.length + 1) w5 hv5 hd5 (by omega))
      have HBS := hide hbs
      have HW5 := hide hw5
      obtain ⟨tu, yu, hiu⟩ : ∃ tu yu, v = .iface tu yu := by
        match pl, hv4 with
        | none, h => exact ⟨_, _, h⟩
        | some pp, ⟨a, h1, _⟩ => exact ⟨_, _, h1⟩
      subst hiu
      rw [hw5] at HMV
      have hcast : ((st + head.length + 1 : Nat) : Int) = (st : Int) + (head.length : Int) + 1 := by omega
      rw [hcast] at HMV
      have ehl : (⟨head.toArray⟩ : ByteArray).size = head.length := by simp [ByteArray.size]
      clear hm4 hv4 hv5 hd5 hbs hw5 hb4 g4 HPA hcast
      go_wp2_with fail
      refine HMV.out.mono ?_
      rintro e w6 ⟨u, rfl, hu, hb6, hfe⟩
      rw [← HW5.out] at hb6 hfe
      have HFE : Hid (FreshE q u) := fun a h => Nat.le_trans (Nat.le_trans hq HBS.out.size) (hfe a h)
      clear hfe
      have HU := hide hu
      have HB6 := hide (HBS.out.trans (hb6.mono HBS.out.size))
      obtain ⟨tu2, yu2, hiu2⟩ : ∃ tu yu, u = .iface tu yu := by obtain ⟨a, h, _⟩ := hu; exact ⟨_, _, h⟩
      subst hiu2
      clear hu hb6 HMV
      go_wp2_with fail
      go_ret
      rw [HRES.out]
      exact ⟨Kq.below HB6.out hq, _, rfl, HU.out, HG.out _ HB6.out, HFE.out⟩
    | inr x =>
      have HRES := hide (HT2.out k nm hrn x hpt)
      have HPX := hide hpt
      have HNL : Hid (nm.length ≤ 20000) := by
        show _ ≤ _
        have hq2 := hrn
        unfold Ld.rdHead at hq2
        match wl, HWL, hq2 with
        | [y], HWL, hq2 => cases hq2; exact (HWL.out _ (by simp)).1
        | [w0', y], HWL, hq2 =>
          simp only at hq2
          split at hq2
          · cases hq2
          · cases hq2; exact (HWL.out _ (by simp)).1
        | [], _, hq2 => cases hq2
        | _ :: _ :: _ :: _, _, hq2 => cases hq2
      rw [hpt] at HPA
      clear HT0 HT1 HT2 HPL hpt
      obtain ⟨i0, hi0, hz0, hz1, hz2⟩ := info_parts Tryz.infoRung
      go_wp2_with fail
      refine HPA.out.mono ?_
      rintro e w4 ⟨hb4, v, rfl, hxv⟩
      rw [← HW3.out] at hb4 hxv
      have HB4 := hide (HB3.out.trans (hb4.mono HB3.out.size))
      have g4 := (hb4.block w2.heap.size (by rw [HS3.out]; omega)).trans HNEW.out
      have d2 : w4.cell? ⟨w2.heap.size, 2, none⟩ = some .nilIface := by rw [Lib.cell_of_heap g4]; rfl
      have f2 : w4.frozen? ⟨w2.heap.size, 2, none⟩ = false := Lib.frozen_of_heap g4 2
      obtain ⟨w5, hw5⟩ : ∃ w5, w5 = w4.setCell ⟨w2.heap.size, 2, none⟩ v := ⟨_, rfl⟩
      have hbs : Below W.heap.size W w5 := by rw [hw5]; exact HB4.out.setCell (by simp; omega) _
      have g5 : w5.heap[w2.heap.size]? = some (.cells #[.int .i64 (k : Int), .string ⟨nm.toArray⟩, v] 230 (0, 0)) := by
        rw [hw5]
        simp [World.setCell, Array.getElem?_modify, g4]
      have e0 : w5.cell? ⟨w2.heap.size, 0, none⟩ = some (.int .i64 (k : Int)) := by rw [Lib.cell_of_heap g5]; rfl
      have e1 : w5.cell? ⟨w2.heap.size, 1, none⟩ = some (.string ⟨nm.toArray⟩) := by rw [Lib.cell_of_heap g5]; rfl
      have e2 : w5.cell? ⟨w2.heap.size, 2, none⟩ = some v := by rw [Lib.cell_of_heap g5]; rfl
      have hx5 : IsEx (okX q nv rv sv) w5 x v := by
        refine IsEx.stay (ok := fun g => w3.heap.size ≤ g) (w := w4) ?_ ?_ x v hxv
        · intro g i u hg hc
          rw [hw5, World.cell?_setCell_other _ _ _ _ (by
            have h3 := HS3.out
            intro e
            have h4 : w2.heap.size = g := congrArg Addr.block e
            omega)]
          exact hc
        · intro g hg
          have hs3 := HS3.out
          refine ⟨by omega, fun e => ?_, fun e => ?_, fun e => ?_⟩
          · have := (HX.out.on.lt g e.symm).2; omega
          · have := (HX.out.org.lt g e.symm).2; omega
          · have := (HX.out.os.lt g e.symm).2; omega
      have HX5 := hide (HX.out.below hbs)
      have HXV := hide hx5
      have HBS := hide hbs
      have HW5 := hide hw5
      have hs5 := hbs.size
      have hqs : q ≤ w5.heap.size := by omega
      obtain ⟨b0, b1, b2⟩ := HBX.out w5 hbs
      obtain ⟨tu, yu, hiu⟩ := IsEx.iface x v hxv
      subst hiu
      subst hrv
      have HOWN : Hid (∀ o, (w5.drew.alloc o).ownsRow q 230 3 (.slice ra r.rungs.length rc) r.rungs.length ((r.rungs.zip vs).flatMap rgCells)) := fun o => (show w5.drew.ownsRow q 230 3 (.slice ra r.rungs.length rc) r.rungs.length ((r.rungs.zip vs).flatMap rgCells) from HX5.out.org).alloc o
      have HONE : Hid (∀ u ∈ [Value.int .i64 (k : Int), .string ⟨nm.toArray⟩, .iface tu yu], u.oneCell' = true) := by
        intro u hu
        simp only [List.mem_cons, List.not_mem_nil, or_false] at hu
        rcases hu with rfl | rfl | rfl <;> rfl
      have hbo : ∀ o, Below w5.heap.size w5 (w5.drew.alloc o) := fun o => ⟨rfl, rfl, rfl, by simp, fun k hk => Below.heap_alloc _ _ _ hk⟩
      have HXA : Hid (∀ o, RdX b q w0 r nv (.slice ra r.rungs.length rc) sv vs (w5.drew.alloc o)) := fun o => HX5.out.below (hbo o)
      have HFIN : Hid (∀ (o : Obj) (g cap : Nat) (wA : World), wA.ownsRow q 230 3 (.slice (some ⟨g, 0, none⟩) (r.rungs.length + 1) cap) (r.rungs.length + 1) ((r.rungs.zip vs).flatMap rgCells ++ [Value.int .i64 (k : Int), .string ⟨nm.toArray⟩, .iface tu yu]) → (w5.drew.alloc o).grownBy wA (Value.slice ra r.rungs.length rc).ownBlock → ((Value.slice ra r.rungs.length rc).ownBlock = some g ∨ g = w5.heap.size + 1) →
          (wA.cell? ⟨b, 1, none⟩ = some (.slice ra r.rungs.length rc) ∧ wA.frozen? ⟨b, 1, none⟩ = false) ∧ Taken b q w0 (.inr ⟨r.names, r.rungs ++ [⟨(k : Int), nm, some x⟩], r.starts⟩) W (.returned .nilIface) (wA.setCell ⟨b, 1, none⟩ (.slice (some ⟨g, 0, none⟩) (r.rungs.length + 1) cap))) := by
        intro o g cap wA hown hgrow hat
        have hbk : wA.heap[b]? = some (.cells #[nv, .slice ra r.rungs.length rc, sv] 220 (0, 0)) := by
          rw [hgrow.block b (by simp; omega) (fun e => by have := ((HXA.out o).org.lt b e.symm).1; omega)]
          exact (HXA.out o).blk
        have hput := (HXA.out o).putRung hbq (by simp; omega) (k : Int) nm x (.iface tu yu) t ⟨HNL.out, by unfold I64; omega⟩ HPX.out (IsEx.stay (Stay.below (hbo o)) (fun _ h => h) x _ HXV.out) g cap hown hgrow (by rcases hat with h | h; exact .inl h; right; rw [h]; simp)
        refine ⟨⟨by rw [Lib.cell_of_heap hbk]; rfl, Lib.frozen_of_heap hbk 1⟩, ?_, rfl, _, _, _, _, hput.1⟩
        exact (Kq.below (HBS.out.trans ((hbo o).mono HBS.out.size)) hq).trans hput.2
      have hnl6 := hn.2
      have hw25 : w2.heap.size < w5.heap.size := (Array.getElem?_eq_some_iff.1 g5).1
      have hb5s : b < w5.heap.size := by omega
      clear HX5 HXA hbo hxv hx5 hbs hw5 hb4 g4 g5 HPA
      go_wp2_with fail
      rw [← HW5.out]
      go_region_law (refine step_append_lies _ rfl (.tmp 42) (.tmp 44) 81 rfl q 230 i0 _ 3 40 Tryz.underlying81 hi0 hz0 hz1 hz2 rfl (by decide) (.slice ra r.rungs.length rc) r.rungs.length ((r.rungs.zip vs).flatMap rgCells) rfl (HOWN.out _) ⟨w5.heap.size, 0, none⟩ 1 1 [Value.int .i64 (k : Int), .string ⟨nm.toArray⟩, .iface tu yu] rfl rfl (World.news_of_block (heap_alloc_new w5.drew _)) HONE.out (by decide) (by unfold maxLen; omega) (by omega) (by simp; omega) (w5.heap.size + 1) (by simp) ?_; intro g cap wA hown hgrow hat hltg; obtain ⟨⟨hcA, hfA⟩, hTA⟩ := HFIN.out _ g cap wA hown hgrow hat; have HTA := hide hTA; clear hTA)
      all_goals go_wp2_with fail
      all_goals go_ret
      all_goals
        rw [HRES.out]
        exact HTA.out
theorem cutE_len (l a t : List UInt8) (h : Ld.cutE l = some (a, t)) : a.length ≤ l.length ∧ t.length ≤ l.length := by
  unfold Ld.cutE at h
  split at h
  · simp only [Option.some.injEq, Prod.mk.injEq] at h
    obtain ⟨rfl, rfl⟩ := h
    refine ⟨(List.takeWhile_sublist _).length_le, ?_⟩
    rw [List.length_drop]
    have := (List.dropWhile_sublist (l := l) (fun c => c != 61)).length_le
    omega
  · cases h
theorem Rdm.below {b q : Nat} {w0 : World} {r : Ld.Rdg} {W W' : World} (h : Rdm b q w0 r W) (hb : Below W.heap.size W W') : Rdm b q w0 r W' := by
  obtain ⟨nv, rv, sv, vs, hx⟩ := h
  exact ⟨nv, rv, sv, vs, hx.below hb⟩
theorem Taken.after {b q : Nat} {w0 : World} {res : (Nat × Nat) ⊕ Ld.Rdg} {A B : World} {e : Ending} {C : World} (h : Taken b q w0 res B e C) (hk : Kq b q A B) : Taken b q w0 res A e C := ⟨hk.trans h.1, h.2⟩
set_option maxHeartbeats 4000000 in
set_option maxRecDepth 100000 in
theorem take_any (b q : Nat) (w0 : World) (r : Ld.Rdg) (st : Nat) (line : List UInt8) (W : World) (h : Rdm b q w0 r W) (hbq : b < q) (hq : q ≤ W.heap.size) (hl : line.length ≤ 20000 ∧ st ≤ 1000000000) (hn : r.names.length ≤ 100000 ∧ r.rungs.length ≤ 100000 ∧ r.starts.length ≤ 100000) (hW : Words w0) (hN : NumErrs w0) (hP : Pows w0) (hD : ErAs.Door w0) (hG : 14 ≤ b) :
    Calls Tryz.prog 115 #[.pointer (some ⟨b, 0, none⟩), .int .i64 (st : Int), .string ⟨line.toArray⟩] W (Taken b q w0 (Ld.take r st line) W) := by
  have HIS := hide (Ld.take_is r st line)
  generalize Ld.take r st line = res at *
  obtain ⟨nv, rv, sv, vs, hx⟩ := h
  obtain ⟨i0, hi0, hz0, hz1, hz2⟩ := info_parts Tryz.infoInt
  obtain ⟨sa, sc, hsv⟩ := own_slice hx.os
  subst hsv
  have hblt := hx.lt
  have HX := hide hx
  have b2 : W.cell? ⟨b, 2, none⟩ = some (.slice sa r.starts.length sc) := by rw [Lib.cell_of_heap hx.blk]; rfl
  have hXA : ∀ o, RdX b q w0 r nv rv (.slice sa r.starts.length sc) vs (W.alloc o) := fun o => hx.below ((Below.refl _ W).alloc (Nat.le_refl _) o)
  have HOWN : Hid (∀ o, (W.alloc o).ownsRow q 3 1 (.slice sa r.starts.length sc) r.starts.length (r.starts.map intV)) := fun o => (hXA o).os
  have HFIN : Hid (∀ (o : Obj) (g cap : Nat) (wA : World), wA.ownsRow q 3 1 (.slice (some ⟨g, 0, none⟩) (r.starts.length + 1) cap) (r.starts.length + 1) (r.starts.map intV ++ [intV st]) → (W.alloc o).grownBy wA (Value.slice sa r.starts.length sc).ownBlock → ((Value.slice sa r.starts.length sc).ownBlock = some g ∨ g = W.heap.size + 1) →
      (wA.cell? ⟨b, 2, none⟩ = some (.slice sa r.starts.length sc) ∧ wA.frozen? ⟨b, 2, none⟩ = false) ∧ Rdm b q w0 ⟨r.names, r.rungs, r.starts ++ [st]⟩ (wA.setCell ⟨b, 2, none⟩ (.slice (some ⟨g, 0, none⟩) (r.starts.length + 1) cap)) ∧ Kq b q W (wA.setCell ⟨b, 2, none⟩ (.slice (some ⟨g, 0, none⟩) (r.starts.length + 1) cap))) := by
    intro o g cap wA hown hgrow hat
    have hbk : wA.heap[b]? = some (.cells #[nv, rv, .slice sa r.starts.length sc] 220 (0, 0)) := by
      rw [hgrow.block b (by simp; omega) (fun e => by have := ((hXA o).os.lt b e.symm).1; omega)]
      exact (hXA o).blk
    have hput := (hXA o).putStart hbq (by simp; omega) st g cap hown hgrow (by rcases hat with h | h; exact .inl h; right; rw [h]; simp)
    exact ⟨⟨by rw [Lib.cell_of_heap hbk]; rfl, Lib.frozen_of_heap hbk 2⟩, ⟨_, _, _, _, hput.1⟩, (Kq.below ((Below.refl _ W).alloc (Nat.le_refl _) o) hq).trans hput.2⟩
  have HCUT := hide (fun w => Cut_any line w hl.1)
  have HTN := hide (fun (w : World) (h : Rdm b q w0 ⟨r.names, r.rungs, r.starts ++ [st]⟩ w) (hq : q ≤ w.heap.size) => takeName_any b q w0 ⟨r.names, r.rungs, r.starts ++ [st]⟩ st line w h hbq hq hl.1 ⟨hn.1, hn.2.1⟩ hW hN hP hG)
  have HTR := hide (fun (head t : List UInt8) (w : World) (h : Rdm b q w0 ⟨r.names, r.rungs, r.starts ++ [st]⟩ w) (hq : q ≤ w.heap.size) (hlen : head.length ≤ 20000 ∧ t.length ≤ 20000) => takeRung_any b q w0 ⟨r.names, r.rungs, r.starts ++ [st]⟩ st head t w h hbq hq ⟨hlen.1, hlen.2, hl.2⟩ ⟨hn.1, hn.2.1⟩ hW hD hG)
  have hn3 := hn.2.2
  have HONE : Hid (∀ u ∈ [Value.int .i64 (st : Int)], u.oneCell' = true) := by
    intro u hu
    simp only [List.mem_cons, List.not_mem_nil, or_false] at hu
    subst hu; rfl
  clear hx hXA hW hN hP hD
  go_enter Tryz.func115, Tryz.ntmps115
  go_wp2_with (at_builtin; refine wpList_append_lies _ rfl (.tmp 14) (.tmp 16) 36 rfl q 3 i0 _ 1 8 Tryz.underlying36 hi0 hz0 hz1 hz2 rfl (by decide) (.slice sa r.starts.length sc) r.starts.length (r.starts.map intV) rfl (HOWN.out _) ⟨W.heap.size, 0, none⟩ 1 1 [.int .i64 (st : Int)] rfl rfl (World.news_of_block (heap_alloc_new W _)) HONE.out (by decide) (by unfold maxLen; omega) (by omega) (by simp; omega) (W.heap.size + 1) (by simp) ?_; intro g cap wA hown hgrow hat hltg; obtain ⟨⟨hcA, hfA⟩, hRA, hKA⟩ := HFIN.out _ g cap wA hown hgrow hat; have HRA := hide hRA; have HKA := hide hKA; clear hRA hKA)
  have hcl := cutE_len line
  have HCUT1 := hide (HCUT.out (wA.setCell ⟨b, 2, none⟩ (.slice (some ⟨g, 0, none⟩) (r.starts.length + 1) cap)))
  have hszA : q ≤ (wA.setCell ⟨b, 2, none⟩ (.slice (some ⟨g, 0, none⟩) (r.starts.length + 1) cap)).heap.size := Nat.le_trans hq HKA.out.1
  obtain ⟨w1, hw1⟩ : ∃ w1, w1 = wA.setCell ⟨b, 2, none⟩ (.slice (some ⟨g, 0, none⟩) (r.starts.length + 1) cap) := ⟨_, rfl⟩
  rw [← hw1] at HCUT1 hszA HRA HKA
  rw [← hw1]
  clear hw1 hown hgrow hat hltg hcA hfA HCUT HFIN HOWN HONE
  have HQ := hide hszA
  have hdn : ∀ n, Below w1.heap.size w1 (w1.drewN n) := fun n => ⟨rfl, rfl, rfl, Nat.le_refl _, fun _ _ => rfl⟩
  have HRD := hide (fun n => HRA.out.below (hdn n))
  have HKD : Hid (∀ n, Kq b q W (w1.drewN n)) := fun n => HKA.out.trans (Kq.below (hdn n) HQ.out)
  have HQD : Hid (∀ n, q ≤ (w1.drewN n).heap.size) := fun n => HQ.out
  clear hdn hszA
  generalize hc : Ld.cutE line = o at *
  match o, HIS, HCUT1, hcl with
  | none, HIS, HCUT1, _ =>
    refine HCUT1.out.mono ?_
    rintro e w2 ⟨⟨n, rfl⟩, rfl⟩
    have HT := hide (HTN.out _ (HRD.out n) (HQD.out n))
    have HRS : Hid (res = Ld.takeN ⟨r.names, r.rungs, r.starts ++ [st]⟩ st line) := HIS.out
    clear HIS HCUT1 HTN HTR
    go_wp2_with fail
    refine HT.out.mono ?_
    rintro e w3 h3
    have H3 := hide h3
    obtain ⟨v, rfl, hv⟩ : ∃ v, e = .returned v ∧ (v = .nilIface ∨ ∃ tu yu, v = .iface tu yu) := by
      have h4 := h3.2
      match Ld.takeN ⟨r.names, r.rungs, r.starts ++ [st]⟩ st line, h4 with
      | .inl (er, p), ⟨v, h, ⟨a, h5, _⟩, _⟩ => exact ⟨v, h, .inr ⟨_, _, h5⟩⟩
      | .inr r', ⟨h, _⟩ => exact ⟨_, h, .inl rfl⟩
    clear h3 HT
    rcases hv with rfl | ⟨tu, yu, rfl⟩
    all_goals
      go_wp2_with fail
      go_ret
      rw [HRS.out]
      exact H3.out.after (HKD.out n)
  | some (head, t), HIS, HCUT1, hcl =>
    refine HCUT1.out.mono ?_
    rintro e w2 ⟨⟨n, rfl⟩, rfl⟩
    have hcl' := hcl head t rfl
    have HT := hide (HTR.out head t _ (HRD.out n) (HQD.out n) (by omega))
    have HRS : Hid (res = Ld.takeR ⟨r.names, r.rungs, r.starts ++ [st]⟩ st head t) := HIS.out
    clear HIS HCUT1 HTN HTR
    go_wp2_with fail
    refine HT.out.mono ?_
    rintro e w3 h3
    have H3 := hide h3
    obtain ⟨v, rfl, hv⟩ : ∃ v, e = .returned v ∧ (v = .nilIface ∨ ∃ tu yu, v = .iface tu yu) := by
      have h4 := h3.2
      match Ld.takeR ⟨r.names, r.rungs, r.starts ++ [st]⟩ st head t, h4 with
      | .inl (er, p), ⟨v, h, ⟨a, h5, _⟩, _⟩ => exact ⟨v, h, .inr ⟨_, _, h5⟩⟩
      | .inr r', ⟨h, _⟩ => exact ⟨_, h, .inl rfl⟩
    clear h3 HT
    rcases hv with rfl | ⟨tu, yu, rfl⟩
    all_goals
      go_wp2_with fail
      go_ret
      rw [HRS.out]
      exact H3.out.after (HKD.out n)
end
end Go.Proofs.YtgldbliohpfljaaGreatDoor
