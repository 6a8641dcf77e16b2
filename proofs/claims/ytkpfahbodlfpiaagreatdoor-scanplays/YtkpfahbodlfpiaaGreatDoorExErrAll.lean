/-
  The walks of errors.As at a target of type Errno, of Tell and of Place. The walks of package ladder's formAt, moved, takeName, takeRung and take. The walk of package ladder's takeName. Plain mathematics of chapter 1: where reading goes wrong lies within the text.
-/
import Derived.Test.YtkpfahbodlfpiaaGreatDoorErAsAll
import Derived.Lib.OthersKept
import Derived.Deep.AppendLies
import Derived.Deep.RegionLaw
import Derived.Deep.RegionHeld3
import Derived.Test.YtkpfahbodlfpiaaGreatDoorLdCheckAll
import Derived.Test.YtkpfahbodlfpiaaGreatDoorRdListAll
import Derived.Test.YtkpfahbodlfpiaaGreatDoorLdRepAll
namespace Go.Proofs.YtkpfahbodlfpiaaGreatDoor
section
namespace ErAs
open Go.RowKit Go.Extern.Stop Go.Stop Go.Extern
set_option maxHeartbeats 4000000 in
theorem as_hit (n : Int) (t a : Addr) (old : Value) (w : World) (ha : w.cell? a = some (.pointer (some t))) (ht0 : w.cell? t = some old) (hf0 : w.frozen? t = false) :
    Calls Tryz.prog 184 #[.iface 58 (.int .i64 n), .iface 228 (.pointer (some t)), tv a, .iface 289 (.agg #[hd 58])] w fun ev w' => ev = .returned (.bool true) ∧
      w' = ((w.alloc (.cells #[hd 228, .pointer (some a), .int .u64 150] 263)).alloc (.cells #[.int .i64 n] 58)).setCell t (.int .i64 n) := by
  have h63 := @run_callFunc_extern Tryz.prog 181 _ (fun args => ReflectliteValue.unpack (args.getD 0 (.tuple #[]))) Tryz.func181 (by kernel_rfl) (by kernel_rfl) (by kernel_rfl) (by kernel_rfl)
  have h77 := @run_callFunc_extern Tryz.prog 206 _ ReflectliteType.typeOf Tryz.func206 (by kernel_rfl) (by kernel_rfl) (by kernel_rfl) (by kernel_rfl)
  have h145 := @run_callFunc_extern Tryz.prog 277 _ (ReflectliteType.relation "AssignableTo" ReflectliteType.assignableTo) Tryz.func277 (by kernel_rfl) (by kernel_rfl) (by kernel_rfl) (by kernel_rfl)
  have h78 := @run_callFunc_extern Tryz.prog 207 _ (ReflectliteValue.method (ReflectliteValue.valueError "reflectlite.Value.Elem" 0) ReflectliteValue.elem) Tryz.func207 (by kernel_rfl) (by kernel_rfl) (by kernel_rfl) (by kernel_rfl)
  have h79 := @run_callFunc_extern Tryz.prog 208 _ ReflectliteValue.set Tryz.func208 (by kernel_rfl) (by kernel_rfl) (by kernel_rfl) (by kernel_rfl)
  have tO := typeOfE
  have mA := methodAssignableTo
  have aE := assignableE
  have vE := valueOfE
  have hal : a.block < w.heap.size := World.block_lt_of_cell? _ _ ha
  have htl : t.block < w.heap.size := World.block_lt_of_cell? _ _ ht0
  have el := elemV a t (w.alloc (.cells #[hd 228, .pointer (some a), .int .u64 150] 263)) (by rw [World.cell?_alloc_lt _ _ a hal]; exact ha)
  have st := setE t ⟨w.heap.size + 1, 0, none⟩ n old ((w.alloc (.cells #[hd 228, .pointer (some a), .int .u64 150] 263)).alloc (.cells #[.int .i64 n] 58))
    (by rw [World.cell?_alloc_at _ _ _ _ (by simp)]; rfl)
    (by rw [World.cell?_alloc_lt _ _ t (by simp; omega), World.cell?_alloc_lt _ _ t htl]; exact ht0)
    (by rw [World.frozen?_alloc_old _ _ t (by simp; omega), World.frozen?_alloc_old _ _ t (Nat.ne_of_lt htl)]; exact hf0)
  go_enter Tryz.func184, Tryz.ntmps184
  go_wp2
  refine wp_loop_rounds 1 ?_
  rw [rounds_succ]
  go_wp2
  go_ret
  exact ⟨rfl, rfl⟩
theorem unwrap_any (q : Addr) (n : Int) (w : World) (h : w.cell? q = some (.int .i64 n)) :
    Calls Tryz.prog 262 #[.pointer (some q)] w fun e w' => e = .returned (.iface 58 (.int .i64 n)) ∧ w' = w := by
  go_enter Tryz.func262, Tryz.ntmps262
  go_wp2
  go_ret
  exact ⟨rfl, rfl⟩
theorem methodUnwrap (q : Value) (w : World) : (Go.method 460 126 q "Unwrap").run Tryz.prog w = .ok (262, q) w := by kernel_rfl
theorem asA (v : Value) (w : World) : (Instr.typeAssert (.iface 126 v) 38 294 true).run Tryz.prog w = .ok (.tuple #[.nilIface, .bool false]) w := run_typeAssert_lacksB Tryz.underlying294 (by kernel_rfl) (by kernel_rfl) v _ w
theorem unA (v : Value) (w : World) : (Instr.typeAssert (.iface 126 v) 38 185 true).run Tryz.prog w = .ok (.tuple #[.iface 126 v, .bool true]) w := by kernel_rfl
theorem unE (v : Value) (w : World) : (Instr.typeAssert (.iface 58 v) 38 185 true).run Tryz.prog w = .ok (.tuple #[.nilIface, .bool false]) w := run_typeAssert_lacksB Tryz.underlying185 (by kernel_rfl) (by kernel_rfl) v _ w
theorem atA (v : Value) (w : World) : (Instr.typeAssert (.iface 126 v) 38 126 true).run Tryz.prog w = .ok (.tuple #[v, .bool true]) w := by kernel_rfl
theorem atE (v : Value) (w : World) : (Instr.typeAssert (.iface 58 v) 38 126 true).run Tryz.prog w = .ok (.tuple #[.pointer none, .bool false]) w := by kernel_rfl
set_option maxHeartbeats 4000000 in
set_option maxRecDepth 100000 in
theorem as_at (n : Int) (q t a : Addr) (old : Value) (w : World) (hq : w.cell? q = some (.int .i64 n)) (ha : w.cell? a = some (.pointer (some t))) (ht0 : w.cell? t = some old) (hf0 : w.frozen? t = false) :
    Calls Tryz.prog 184 #[.iface 126 (.pointer (some q)), .iface 228 (.pointer (some t)), tv a, .iface 289 (.agg #[hd 58])] w fun ev w' => ev = .returned (.bool true) ∧
      w' = ((w.alloc (.cells #[hd 228, .pointer (some a), .int .u64 150] 263)).alloc (.cells #[.int .i64 n] 58)).setCell t (.int .i64 n) := by
  have h63 := @run_callFunc_extern Tryz.prog 181 _ (fun args => ReflectliteValue.unpack (args.getD 0 (.tuple #[]))) Tryz.func181 (by kernel_rfl) (by kernel_rfl) (by kernel_rfl) (by kernel_rfl)
  have h77 := @run_callFunc_extern Tryz.prog 206 _ ReflectliteType.typeOf Tryz.func206 (by kernel_rfl) (by kernel_rfl) (by kernel_rfl) (by kernel_rfl)
  have h145 := @run_callFunc_extern Tryz.prog 277 _ (ReflectliteType.relation "AssignableTo" ReflectliteType.assignableTo) Tryz.func277 (by kernel_rfl) (by kernel_rfl) (by kernel_rfl) (by kernel_rfl)
  have h78 := @run_callFunc_extern Tryz.prog 207 _ (ReflectliteValue.method (ReflectliteValue.valueError "reflectlite.Value.Elem" 0) ReflectliteValue.elem) Tryz.func207 (by kernel_rfl) (by kernel_rfl) (by kernel_rfl) (by kernel_rfl)
  have h79 := @run_callFunc_extern Tryz.prog 208 _ ReflectliteValue.set Tryz.func208 (by kernel_rfl) (by kernel_rfl) (by kernel_rfl) (by kernel_rfl)
  have sA := asA
  have sU := unA
  have tO := typeOfE
  have tA := typeOfA
  have mA := methodAssignableTo
  have mU := methodUnwrap
  have aE := assignableE
  have aA := assignableA
  have vE := valueOfE
  have hal : a.block < w.heap.size := World.block_lt_of_cell? _ _ ha
  have htl : t.block < w.heap.size := World.block_lt_of_cell? _ _ ht0
  have hql : q.block < w.heap.size := World.block_lt_of_cell? _ _ hq
  have hq1 : (w.alloc (.cells #[hd 228, .pointer (some a), .int .u64 150] 263)).cell? q = some (.int .i64 n) := by rw [World.cell?_alloc_lt _ _ q hql]; exact hq
  have HU := hide (unwrap_any q n _ hq1)
  have el := elemV a t (w.alloc (.cells #[hd 228, .pointer (some a), .int .u64 150] 263)) (by rw [World.cell?_alloc_lt _ _ a hal]; exact ha)
  have st := setE t ⟨w.heap.size + 1, 0, none⟩ n old ((w.alloc (.cells #[hd 228, .pointer (some a), .int .u64 150] 263)).alloc (.cells #[.int .i64 n] 58))
    (by rw [World.cell?_alloc_at _ _ _ _ (by simp)]; rfl)
    (by rw [World.cell?_alloc_lt _ _ t (by simp; omega), World.cell?_alloc_lt _ _ t htl]; exact ht0)
    (by rw [World.frozen?_alloc_old _ _ t (by simp; omega), World.frozen?_alloc_old _ _ t (Nat.ne_of_lt htl)]; exact hf0)
  go_enter Tryz.func184, Tryz.ntmps184
  go_wp2
  refine wp_loop_rounds 2 ?_
  rw [rounds_succ]
  go_wp2_with (go_at_call 262; refine HU.out.mono ?_; rintro e w' ⟨rfl, rfl⟩)
  rw [rounds_succ]
  go_wp2
  go_ret
  exact ⟨rfl, rfl⟩
/-- the variable errorType, as it is laid -/
def Door (w : World) : Prop := w.cell? ⟨6, 0, none⟩ = some (.iface 289 (.agg #[hd 38]))
/-- an error that errors.as finds an Errno in -/
def Finds (er : Value) (n : Int) (w : World) : Prop := er = .iface 58 (.int .i64 n) ∨ ∃ q, er = .iface 126 (.pointer (some q)) ∧ w.cell? q = some (.int .i64 n)
set_option maxHeartbeats 4000000 in
set_option maxRecDepth 100000 in
theorem As_any (er : Value) (n : Int) (t : Addr) (old : Value) (w : World) (hg : Door w) (hf : Finds er n w) (ht0 : w.cell? t = some old) (hf0 : w.frozen? t = false) :
    Calls Tryz.prog 150 #[er, .iface 228 (.pointer (some t))] w fun ev w' => ev = .returned (.bool true) ∧ w'.cell? t = some (.int .i64 n) ∧ ∀ B, B ≤ t.block → Below B w w' := by
  have h63 := @run_callFunc_extern Tryz.prog 181 _ (fun args => ReflectliteValue.unpack (args.getD 0 (.tuple #[]))) Tryz.func181 (by kernel_rfl) (by kernel_rfl) (by kernel_rfl) (by kernel_rfl)
  have h64 := @run_callFunc_extern Tryz.prog 182 _ (ReflectliteValue.methodAny (ReflectliteValue.valueError "reflectlite.Value.Type" 0) (fun t _ _ _ => ReflectliteType.toType t)) Tryz.func182 (by kernel_rfl) (by kernel_rfl) (by kernel_rfl) (by kernel_rfl)
  have h65 := @run_callFunc_extern Tryz.prog 183 _ (ReflectliteValue.method (ReflectliteValue.valueError "reflectlite.Value.IsNil" 0) ReflectliteValue.isNil) Tryz.func183 (by kernel_rfl) (by kernel_rfl) (by kernel_rfl) (by kernel_rfl)
  have h120 := @run_callFunc_extern Tryz.prog 255 _ (ReflectliteType.abiMethod fun t => do pure (.int .u8 (← Rtype.kind t))) Tryz.func255 (by kernel_rfl) (by kernel_rfl) (by kernel_rfl) (by kernel_rfl)
  have h147 := @run_callFunc_extern Tryz.prog 279 _ (ReflectliteType.method ReflectliteType.elem) Tryz.func279 (by kernel_rfl) (by kernel_rfl) (by kernel_rfl) (by kernel_rfl)
  have h148 := @run_callFunc_extern Tryz.prog 280 _ (ReflectliteType.relation "Implements" ReflectliteType.implements_) Tryz.func280 (by kernel_rfl) (by kernel_rfl) (by kernel_rfl) (by kernel_rfl)
  have f6 := valueOfP
  have f7 := typeP
  have mK := methodKind
  have mE := methodElem
  have mI := methodImplements
  have kP := kindP
  have kE := kindE
  have eP := elemP
  have iE := implementsE
  have n8 := isNilP ⟨w.heap.size, 0, none⟩ t ((w.alloc (.cells #[.pointer (some t)] 228)).alloc (.cells #[hd 228, .pointer (some ⟨w.heap.size, 0, none⟩), .int .u64 150] 263)) (by simp)
  have htl : t.block < w.heap.size := World.block_lt_of_cell? _ _ ht0
  have hg0 : w.cell? ⟨6, 0, none⟩ = some (.iface 289 (.agg #[hd 38])) := hg
  have hgl : 6 < w.heap.size := World.block_lt_of_cell? _ _ hg0
  obtain ⟨w2, hw2⟩ : ∃ w2, w2 = (w.alloc (.cells #[.pointer (some t)] 228)).alloc (.cells #[hd 228, .pointer (some ⟨w.heap.size, 0, none⟩), .int .u64 150] 263) := ⟨_, rfl⟩
  have hb2 : Below w.heap.size w w2 := by rw [hw2]; exact ((Below.refl _ _).alloc (Nat.le_refl _) _).alloc (by simp) _
  have hg2 : w2.cell? ⟨6, 0, none⟩ = some (.iface 289 (.agg #[hd 38])) := (hb2.cell hgl).trans hg0
  have ha2 : w2.cell? ⟨w.heap.size, 0, none⟩ = some (.pointer (some t)) := by rw [hw2, World.cell?_alloc_lt _ _ ⟨w.heap.size, 0, none⟩ (by simp)]; simp
  have ht2 : w2.cell? t = some old := (hb2.cell htl).trans ht0
  have hf2 : w2.frozen? t = false := (hb2.frozen htl).trans hf0
  have HC : Hid (Calls Tryz.prog 184 #[er, .iface 228 (.pointer (some t)), tv ⟨w.heap.size, 0, none⟩, .iface 289 (.agg #[hd 58])] w2 fun ev w' => ev = .returned (.bool true) ∧
      w' = ((w2.alloc (.cells #[hd 228, .pointer (some ⟨w.heap.size, 0, none⟩), .int .u64 150] 263)).alloc (.cells #[.int .i64 n] 58)).setCell t (.int .i64 n)) := by
    rcases hf with rfl | ⟨q, rfl, hq⟩
    · exact as_hit n t _ old w2 ha2 ht2 hf2
    · exact as_at n q t _ old w2 ((hb2.cell (World.block_lt_of_cell? _ _ hq)).trans hq) ha2 ht2 hf2
  obtain ⟨te, ve, hte⟩ : ∃ te ve, er = .iface te ve := by
    rcases hf with rfl | ⟨q, rfl, _⟩
    · exact ⟨_, _, rfl⟩
    · exact ⟨_, _, rfl⟩
  subst hte
  have HB2 := hide hb2
  have HT2 := hide ht2
  clear hf ht2 hf2 ha2 hb2 hg ht0 hf0
  rw [hw2] at hg2
  have HW2 := hide hw2
  clear hw2
  go_enter Tryz.func150, Tryz.ntmps150
  go_wp2_with (go_at_call 184; refine (HW2.out ▸ HC.out).mono ?_; rintro e w' ⟨rfl, rfl⟩)
  go_ret
  have hs2 := HB2.out.size
  have hfin : ∀ w2 : World, Below w.heap.size w w2 → w2.cell? t = some old → (Ending.returned (Value.bool true) = Ending.returned (.bool true) ∧ (((w2.alloc (.cells #[hd 228, .pointer (some ⟨w.heap.size, 0, none⟩), .int .u64 150] 263)).alloc (.cells #[.int .i64 n] 58)).setCell t (.int .i64 n)).cell? t = some (.int .i64 n) ∧ ∀ B, B ≤ t.block → Below B w (((w2.alloc (.cells #[hd 228, .pointer (some ⟨w.heap.size, 0, none⟩), .int .u64 150] 263)).alloc (.cells #[.int .i64 n] 58)).setCell t (.int .i64 n))) := by
    intro w2 hb ht
    have hs := hb.size
    have hc : ((w2.alloc (.cells #[hd 228, .pointer (some ⟨w.heap.size, 0, none⟩), .int .u64 150] 263)).alloc (.cells #[.int .i64 n] 58)).cell? t = some old := by
      rw [World.cell?_alloc_lt _ _ t (by simp; omega), World.cell?_alloc_lt _ _ t (by omega)]; exact ht
    refine ⟨rfl, World.cell?_setCell_same _ _ _ hc, fun B hB => ?_⟩
    · exact (((hb.mono (by omega)).alloc (by omega) _).alloc (by simp; omega) _).setCell hB _
  exact hfin _ (HW2.out ▸ HB2.out) (HW2.out ▸ HT2.out)
/-- Tell, of an error that holds an Errno -/
theorem Tell_any (er : Value) (n : Int) (w : World) (hg : Door w) (hf : Finds er n w) :
    Calls Tryz.prog 106 #[er] w fun e w' => e = .returned (.int .i64 n) ∧ Below w.heap.size w w' := by
  obtain ⟨w1, hw1⟩ : ∃ w1, w1 = w.alloc (.cells #[.int .i64 0] 58) := ⟨_, rfl⟩
  have hb1 : Below w.heap.size w w1 := by rw [hw1]; exact (Below.refl _ _).alloc (Nat.le_refl _) _
  have hg1 : Door w1 := (hb1.cell (World.block_lt_of_cell? _ _ hg)).trans hg
  have hf1 : Finds er n w1 := by
    rcases hf with h | ⟨q, h, hq⟩
    · exact .inl h
    · exact .inr ⟨q, h, (hb1.cell (World.block_lt_of_cell? _ _ hq)).trans hq⟩
  have hh : w1.heap[w.heap.size]? = some (.cells #[.int .i64 0] 58 (0, 0)) := by rw [hw1]; exact heap_alloc_new _ _
  have HC := hide (As_any er n ⟨w.heap.size, 0, none⟩ (.int .i64 0) w1 hg1 hf1 (by rw [Lib.cell_of_heap hh]; rfl) (Lib.frozen_of_heap hh 0))
  obtain ⟨te, ve, hte⟩ : ∃ te ve, er = .iface te ve := by
    rcases hf with rfl | ⟨q, rfl, _⟩
    · exact ⟨_, _, rfl⟩
    · exact ⟨_, _, rfl⟩
  subst hte
  have HB1 := hide hb1
  rw [hw1] at HC HB1
  clear hg hf hg1 hf1 hh hb1 hw1
  go_enter Tryz.func106, Tryz.ntmps106
  go_wp2_with fail
  refine HC.out.mono ?_
  rintro e w2 ⟨rfl, hc, hb⟩
  have HB2 := hide (hb w.heap.size (Nat.le_refl _))
  clear hb
  go_wp2_with fail
  go_ret
  exact ⟨rfl, HB1.out.trans HB2.out⟩
end ErAs
end
section
open Go.RowKit
/-- an error at a place lies in such a block -/
def FreshE (B : Nat) (v : Value) : Prop := ∀ a, v = .iface 126 (.pointer (some ⟨a, 0, none⟩)) → B ≤ a
theorem formAt_any (st : Nat) (w : World) : Calls Tryz.prog 136 #[.int .i64 (st : Int)] w fun e w' => ∃ v, e = .returned v ∧ ErrIs w' v (some (3, some st)) ∧ Below w.heap.size w w' ∧ FreshE w.heap.size v := by
  go_enter Tryz.func136, Tryz.ntmps136
  go_wp2_with fail
  go_ret
  exact ⟨_, rfl, ⟨w.heap.size, rfl, by simp [go_sem], by simp [go_sem]⟩, (Below.refl _ _).alloc (Nat.le_refl _) _, fun a h => by simp at h; omega⟩
/-- what Cut answers, at the first = -/
def CutRes (s : List UInt8) : Option (List UInt8 × List UInt8) → Ending → Prop
  | none, e => e = .returned (.tuple #[.string ⟨s.toArray⟩, .string ⟨#[]⟩, .bool false])
  | some (a, t), e => e = .returned (.tuple #[.string ⟨a.toArray⟩, .string ⟨t.toArray⟩, .bool true])
theorem Cut_any (s : List UInt8) (w : World) (hs : s.length ≤ 20000) :
    Calls Tryz.prog 90 #[.string ⟨s.toArray⟩, .string ⟨#[61]⟩] w fun e w' => (∃ n, w' = w.drewN n) ∧ CutRes s (Ld.cutE s) e := by
  have HI := hide (Tryz.stringslite_Index_one ⟨s.toArray⟩ 61 w)
  have e0 : (⟨s.toArray⟩ : ByteArray).data.toList = s := rfl
  rw [e0] at HI
  have es : (⟨s.toArray⟩ : ByteArray).size = s.length := by simp [ByteArray.size]
  have inner : Calls Tryz.prog 133 #[.string ⟨s.toArray⟩, .string ⟨#[61]⟩] w fun e w' => (∃ n, w' = w.drewN n) ∧ CutRes s (Ld.cutE s) e := by
    rcases Ld.index_split 61 s with ⟨hi, hno⟩ | ⟨a, r, hr, hno, hi⟩
    · have HC : Hid (Ld.cutE s = none) := Ld.cutE_none s hno
      rw [hi] at HI
      clear e0
      go_enter Tryz.func133, Tryz.ntmps133
      go_wp2_with fail
      refine HI.out.mono ?_
      rintro e w' ⟨rfl, rfl⟩
      go_wp2_with fail
      go_ret3
      exact ⟨⟨0, rfl⟩, by rw [HC.out]; rfl⟩
    · have HC : Hid (Ld.cutE s = some (a, r)) := by show _ = _; rw [hr]; exact Ld.cutE_at a r hno
      rw [hi] at HI
      have hlr : s.length = a.length + 1 + r.length := by rw [hr]; simp; omega
      have hx1 : (⟨s.toArray⟩ : ByteArray).extract 0 a.length = ⟨a.toArray⟩ := by
        apply ByteArray.ext
        rw [ByteArray.data_extract]
        show s.toArray.extract 0 a.length = a.toArray
        rw [List.extract_toArray, hr]
        simp [List.extract]
      have hx2 : (⟨s.toArray⟩ : ByteArray).extract (a.length + 1) (a.length + 1 + r.length) = ⟨r.toArray⟩ := by
        apply ByteArray.ext
        rw [ByteArray.data_extract]
        show s.toArray.extract (a.length + 1) (a.length + 1 + r.length) = r.toArray
        rw [List.extract_toArray, hr]
        have e1 : (a ++ 61 :: r) = (a ++ [61]) ++ r := by simp
        have e2 : a.length + 1 = (a ++ [61]).length := by simp
        rw [e1, e2, List.extract, List.drop_left, Nat.add_sub_cancel_left, List.take_length]
      have HX1 := hide hx1
      have HX2 := hide hx2
      clear e0 hr hx1 hx2
      go_enter Tryz.func133, Tryz.ntmps133
      go_wp2_with fail
      refine HI.out.mono ?_
      rintro e w' ⟨rfl, rfl⟩
      go_wp2_with fail
      go_quiet (fail)
      go_wp2_with fail
      go_ret3
      exact ⟨⟨nq, rfl⟩, by
        rw [HC.out]
        show _ = Ending.returned (.tuple #[.string ⟨a.toArray⟩, .string ⟨r.toArray⟩, .bool true])
        rw [← HX1.out, ← HX2.out]; rfl⟩
  have HIN := hide inner
  generalize Ld.cutE s = o at *
  clear inner HI e0 es
  match o, HIN with
  | none, HIN =>
    go_enter Tryz.func90, Tryz.ntmps90
    go_wp2_with fail
    refine HIN.out.mono ?_
    rintro e w' ⟨⟨n, hw⟩, rfl⟩
    have HW := hide hw
    clear HIN hw
    go_wp2_with fail
    go_ret3
    exact ⟨⟨n, HW.out⟩, rfl⟩
  | some (a, t), HIN =>
    go_enter Tryz.func90, Tryz.ntmps90
    go_wp2_with fail
    refine HIN.out.mono ?_
    rintro e w' ⟨⟨n, hw⟩, rfl⟩
    have HW := hide hw
    clear HIN hw
    go_wp2_with fail
    go_ret3
    exact ⟨⟨n, HW.out⟩, rfl⟩
/-- an error, moved on: its place counts from another byte on -/
theorem moved_any (v : Value) (er : Nat) (pl : Option Nat) (at_ : Nat) (w : World) (hv : ErrIs w v (some (er, pl))) (hd : ErAs.Door w) (hl : at_ ≤ 2000000000 ∧ pl.getD 0 ≤ 100000) :
    Calls Tryz.prog 139 #[v, .int .i64 (at_ : Int)] w fun e w' => ∃ u, e = .returned u ∧ ErrIs w' u (some (er, some (at_ + pl.getD 0))) ∧ Below w.heap.size w w' ∧ FreshE w.heap.size u := by
  cases pl with
  | none =>
    obtain rfl : v = .iface 58 (.int .i64 (er : Int)) := hv
    have HC := hide (ErAs.Tell_any (.iface 58 (.int .i64 (er : Int))) er w hd (.inl rfl))
    have sE := ErAs.atE
    clear hd
    go_enter Tryz.func139, Tryz.ntmps139
    go_wp2_with fail
    refine HC.out.mono ?_
    rintro e w1 ⟨rfl, hb⟩
    have HB := hide hb
    clear hb HC
    go_wp2_with fail
    go_ret
    exact ⟨_, rfl, ⟨w1.heap.size, rfl, by simp [go_sem], by simp [go_sem]⟩, HB.out.alloc HB.out.size _, fun a h => by have := HB.out.size; simp at h; omega⟩
  | some p =>
    obtain ⟨a, rfl, h0, h1⟩ := hv
    have hlt : a < w.heap.size := World.block_lt_of_cell? _ _ h0
    have sA := ErAs.atA
    simp only [Option.getD_some] at hl ⊢
    clear hd
    go_enter Tryz.func139, Tryz.ntmps139
    go_wp2_with fail
    go_region_held3 (fun W => W.cell? ⟨a, 0, none⟩ = some (.int .i64 (er : Int)) ∧ W.cell? ⟨a, 1, none⟩ = some (.int .i64 (p : Int))) (go_keep) (fail)
    all_goals go_wp2_with fail
    all_goals go_ret
    all_goals
      have hwr : IntKind.i64.wrap ((at_ : Int) + (p : Int)) = ((at_ + p : Nat) : Int) := by rw [IntKind.wrap_i64]; omega
      rw [hwr]
      exact ⟨_, rfl, ⟨w.heap.size, rfl, by simp [go_sem], by simp [go_sem]⟩, ⟨rfl, rfl, rfl, by simp, fun k hk => Below.heap_alloc _ _ _ hk⟩, fun a h => by simp at h; omega⟩
end
section
open Go.RowKit
namespace Ld
/-- a name's line, its place kept already -/
def takeN (r : Rdg) (st : Nat) (line : List UInt8) : (Nat × Nat) ⊕ Rdg := match rdName (words line) with
  | none => .inl (3, st)
  | some n => if r.rungs = [] then .inr ⟨r.names ++ [n], r.rungs, r.starts⟩ else .inl (3, st)
theorem takeN_none (r : Rdg) (st : Nat) (line : List UInt8) (h : rdName (words line) = none) : takeN r st line = .inl (3, st) := by rw [takeN, h]
theorem takeN_some (r : Rdg) (st : Nat) (line : List UInt8) (n : Nme) (h : rdName (words line) = some n) (h0 : r.rungs = []) : takeN r st line = .inr ⟨r.names ++ [n], r.rungs, r.starts⟩ := by rw [takeN, h]; simp only [if_pos h0]
theorem takeN_late (r : Rdg) (st : Nat) (line : List UInt8) (n : Nme) (h : rdName (words line) = some n) (h0 : r.rungs ≠ []) : takeN r st line = .inl (3, st) := by rw [takeN, h]; simp only [if_neg h0]
end Ld
/-- what reading on comes to: an error at a place, or what was read by now; what lies between b and q stands -/
def Taken (b q : Nat) (w0 : World) (res : (Nat × Nat) ⊕ Ld.Rdg) (W : World) (e : Ending) (W' : World) : Prop :=
  Kq b q W W' ∧ match res with
    | .inl (er, p) => ∃ v, e = .returned v ∧ ErrIs W' v (some (er, some p)) ∧ Below b w0 W' ∧ FreshE q v
    | .inr r => e = .returned .nilIface ∧ Rdm b q w0 r W'
theorem words_len (s : List UInt8) (hs : s.length ≤ 20000) : ∀ y, y ∈ Ld.words s → y.length ≤ 20000 ∧ y ≠ [] := by
  intro y hy
  unfold Ld.words at hy
  rw [List.mem_filter] at hy
  have hne : y ≠ [] := by simpa using hy.2
  refine ⟨?_, hne⟩
  have key : ∀ (l : List UInt8) (z : List UInt8), z ∈ Ld.split 32 l → z.length ≤ l.length := by
    intro l
    induction l with
    | nil => intro z hz; simp [Ld.split] at hz; simp [hz]
    | cons a r ih =>
      intro z hz
      unfold Ld.split at hz
      by_cases h : a = 32
      · rw [if_pos h] at hz
        simp only [List.mem_cons] at hz
        rcases hz with rfl | hz
        · simp
        · have := ih z hz; simp; omega
      · rw [if_neg h] at hz
        cases hs : Ld.split 32 r with
        | nil => rw [hs] at hz; simp at hz; simp [hz]
        | cons x t =>
          rw [hs] at hz
          simp only [List.mem_cons] at hz
          rcases hz with rfl | hz
          · have := ih x (by rw [hs]; simp); simp; omega
          · have := ih z (by rw [hs]; simp [hz]); simp; omega
  have := key s y hy.1
  omega
set_option maxHeartbeats 4000000 in
set_option maxRecDepth 100000 in
theorem takeName_any (b q : Nat) (w0 : World) (r : Ld.Rdg) (st : Nat) (line : List UInt8) (W : World) (h : Rdm b q w0 r W) (hbq : b < q) (hq : q ≤ W.heap.size) (hl : line.length ≤ 20000) (hn : r.names.length ≤ 100000 ∧ r.rungs.length ≤ 100000) (hW : Words w0) (hN : NumErrs w0) (hP : Pows w0) (hG : 14 ≤ b) :
    Calls Tryz.prog 91 #[.pointer (some ⟨b, 0, none⟩), .int .i64 (st : Int), .string ⟨line.toArray⟩] W
      (Taken b q w0 (Ld.takeN r st line) W) := by
  have HT0 := hide (Ld.takeN_none r st line)
  have HT1 := hide (Ld.takeN_some r st line)
  have HT2 := hide (Ld.takeN_late r st line)
  generalize Ld.takeN r st line = res at *
  obtain ⟨nv, rv, sv, vs, hx⟩ := h
  have HX := hide hx
  have HWD := hide (words_any line W hl)
  have HWL := hide (words_len line hl)
  have HG := hide (fun W' (hb : Below W.heap.size W W') => (hx.lo.trans (hb.mono (Nat.le_of_lt hx.lt))))
  have HW0 := hide hW
  have HN0 := hide hN
  have HP0 := hide hP
  have hblt := hx.lt
  obtain ⟨na, nc, hnv⟩ := own_slice hx.on
  obtain ⟨ra, rc, hrv⟩ := own_slice hx.org
  obtain ⟨sa, sc, hsv⟩ := own_slice hx.os
  have HBX : Hid (∀ W', Below W.heap.size W W' → W'.cell? ⟨b, 0, none⟩ = some nv ∧ W'.cell? ⟨b, 1, none⟩ = some rv ∧ W'.cell? ⟨b, 2, none⟩ = some sv) := by
    intro W' hb
    have hh := (hx.below hb).blk
    exact ⟨by rw [Lib.cell_of_heap hh]; rfl, by rw [Lib.cell_of_heap hh]; rfl, by rw [Lib.cell_of_heap hh]; rfl⟩
  clear hx hW hN hP
  go_enter Tryz.func91, Tryz.ntmps91
  go_wp2_with fail
  refine HWD.out.mono ?_
  rintro e w1 ⟨wv, rfl, hstr, hb1⟩
  have HB1 := hide hb1
  have hlow1 := HG.out w1 hb1
  have HRN := hide (readName_any wv _ w1 hstr HWL.out (HW0.out.low hlow1 hG) (HN0.out.low hlow1 hG) (HP0.out.low hlow1 hG) (by have := hb1.size; omega))
  obtain ⟨wa, wn, wc, hwv⟩ : ∃ a n c, wv = .slice a n c := by
    rcases hstr with ⟨_, a, cap, h⟩ | ⟨g, o, cap, h, _⟩
    · exact ⟨_, _, _, h⟩
    · exact ⟨_, _, _, h⟩
  subst hwv
  clear hstr hb1 hlow1 HWD
  go_wp2_with fail
  refine HRN.out.mono ?_
  rintro e w2 ⟨nm, k, c, rfl, hsome, hb2⟩
  have HS := hide hsome
  have HB2 := hide (HB1.out.trans (hb2.mono HB1.out.size))
  clear hsome hb2 HRN HB1
  obtain ⟨w3, hw3⟩ : ∃ w3, w3 = w2.alloc (.cells #[.string ⟨nm.toArray⟩, .int .i64 k, .int .i64 c] 135) := ⟨_, rfl⟩
  have hb3 : Below W.heap.size W w3 := by rw [hw3]; exact HB2.out.alloc HB2.out.size _
  have HB3 := hide hb3
  have HW3 := hide hw3
  obtain ⟨b0, b1, b2⟩ := HBX.out w3 hb3
  obtain ⟨b0', b1', b2'⟩ := HBX.out w2 HB2.out
  have hs2 := HB2.out.size
  have hblt2 : b < w2.heap.size := by omega
  clear hb3 hw3
  generalize Ld.words line = wl at *
  cases hrn : Ld.rdName wl with
  | none =>
    have HRES := hide (HT0.out hrn)
    rw [show (none : Option Ld.Nme).isSome = false from rfl]
    have HF := hide (formAt_any st w3)
    rw [HW3.out] at HF
    clear HT0 HT1 HT2
    go_wp2_with fail
    refine HF.out.mono ?_
    rintro e w4 ⟨v, rfl, hv, hb4, hfe⟩
    have HFE : Hid (FreshE q v) := fun a h => Nat.le_trans (Nat.le_trans hq (Nat.le_trans HB3.out.size (by rw [HW3.out]; exact Nat.le_refl _))) (hfe a h)
    clear hfe
    rw [← HW3.out] at hb4
    have HV := hide hv
    have HB4 := hide (HB3.out.trans (hb4.mono HB3.out.size))
    obtain ⟨tu, yu, hiu⟩ : ∃ tu yu, v = .iface tu yu := by obtain ⟨a, h, _⟩ := hv; exact ⟨_, _, h⟩
    subst hiu
    clear hv hb4 HF
    go_wp2_with fail
    go_ret
    rw [HRES.out]
    exact ⟨Kq.below HB4.out hq, _, rfl, HV.out, HG.out _ HB4.out, HFE.out⟩
  | some n =>
    obtain ⟨hn1, hn2, hn3⟩ := HS.out n hrn
    subst hn1
    by_cases hr0 : r.rungs = []
    · have HRES := hide (HT1.out _ hrn hr0)
      have hrl : r.rungs.length = 0 := by rw [hr0]; rfl
      rw [hrl] at hrv
      rw [show (some (⟨nm, k, c⟩ : Ld.Nme)).isSome = true from rfl]
      obtain ⟨i0, hi0, hz0, hz1, hz2⟩ := info_parts Tryz.infoName
      have HX3 := hide (HX.out.below HB3.out)
      have HNB := hide hn2
      have HNC := hide hn3
      have HNL : Hid (nm.length ≤ 20000) := by
        show _ ≤ _
        have hq2 := hrn
        unfold Ld.rdName at hq2
        match wl, HWL, hq2 with
        | [w0', y], HWL, hq2 =>
          simp only at hq2
          split at hq2
          · cases hq2; exact (HWL.out _ (by simp)).1
          · cases hq2
        | [w0', y, z], HWL, hq2 =>
          simp only at hq2
          split at hq2
          · cases hz : Ld.rdCount z with
            | none => rw [hz] at hq2; cases hq2
            | some v => rw [hz] at hq2; cases hq2; exact (HWL.out _ (by simp)).1
          · cases hq2
        | [], _, hq2 => cases hq2
        | [_], _, hq2 => cases hq2
        | _ :: _ :: _ :: _ :: _, _, hq2 => cases hq2
      have hs3 : w3.heap.size = w2.heap.size + 1 := by rw [HW3.out]; simp
      have e0 : w3.cell? ⟨w2.heap.size, 0, none⟩ = some (.string ⟨nm.toArray⟩) := by rw [HW3.out]; simp [go_sem]
      have e1 : w3.cell? ⟨w2.heap.size, 1, none⟩ = some (.int .i64 k) := by rw [HW3.out]; simp [go_sem]
      have e2 : w3.cell? ⟨w2.heap.size, 2, none⟩ = some (.int .i64 c) := by rw [HW3.out]; simp [go_sem]
      have hqs : q ≤ w3.heap.size := by omega
      subst hnv
      subst hrv
      clear HT0 HT1 HT2 hr0
      have HOWN : Hid (∀ o, (w3.drew.alloc o).ownsRow q 135 3 (.slice na r.names.length nc) r.names.length (r.names.flatMap nmCells)) := fun o => (show w3.drew.ownsRow q 135 3 (.slice na r.names.length nc) r.names.length (r.names.flatMap nmCells) from HX3.out.on).alloc o
      have HONE : Hid (∀ u ∈ nmCells ⟨nm, k, c⟩, u.oneCell' = true) := by
        intro u hu
        simp only [nmCells, List.mem_cons, List.not_mem_nil, or_false] at hu
        rcases hu with rfl | rfl | rfl <;> rfl
      have HXA : Hid (∀ o, RdX b q w0 r (.slice na r.names.length nc) (.slice ra 0 rc) sv vs (w3.drew.alloc o)) := fun o => HX3.out.below (W' := w3.drew.alloc o) ⟨rfl, rfl, rfl, by simp, fun k hk => Below.heap_alloc _ _ _ hk⟩
      have HFIN : Hid (∀ (o : Obj) (g cap : Nat) (wA : World), wA.ownsRow q 135 3 (.slice (some ⟨g, 0, none⟩) (r.names.length + 1) cap) (r.names.length + 1) (r.names.flatMap nmCells ++ nmCells ⟨nm, k, c⟩) → (w3.drew.alloc o).grownBy wA (Value.slice na r.names.length nc).ownBlock → ((Value.slice na r.names.length nc).ownBlock = some g ∨ g = w3.heap.size + 1) →
          (wA.cell? ⟨b, 0, none⟩ = some (.slice na r.names.length nc) ∧ wA.frozen? ⟨b, 0, none⟩ = false) ∧ Taken b q w0 (.inr ⟨r.names ++ [⟨nm, k, c⟩], r.rungs, r.starts⟩) W (.returned .nilIface) (wA.setCell ⟨b, 0, none⟩ (.slice (some ⟨g, 0, none⟩) (r.names.length + 1) cap))) := by
        intro o g cap wA hown hgrow hat
        have hbk : wA.heap[b]? = some (.cells #[.slice na r.names.length nc, .slice ra 0 rc, sv] 119 (0, 0)) := by
          rw [hgrow.block b (by simp; omega) (fun e => by have := ((HXA.out o).on.lt b e.symm).1; omega)]
          exact (HXA.out o).blk
        have hput := (HXA.out o).putName hbq (by simp; omega) ⟨nm, k, c⟩ ⟨HNL.out, HNB.out, HNC.out⟩ g cap hown hgrow (by rcases hat with h | h; exact .inl h; right; rw [h]; simp)
        refine ⟨⟨by rw [Lib.cell_of_heap hbk]; rfl, Lib.frozen_of_heap hbk 0⟩, ?_, rfl, _, _, _, _, hput.1⟩
        exact (Kq.below (W' := w3.drew.alloc o) ⟨HB3.out.os, HB3.out.tape, HB3.out.output, by have := HB3.out.size; simp; omega, fun k hk => by rw [Below.heap_alloc _ _ _ (by have := HB3.out.size; show k < w3.heap.size; omega)]; exact HB3.out.block k hk⟩ hq).trans hput.2
      have hnl6 := hn.1
      have hb3s : b < w3.heap.size := by omega
      have hw23 : w2.heap.size < w3.heap.size := by omega
      clear HX3 HXA hs3
      go_wp2_with fail
      rw [← HW3.out]
      go_region_law (refine step_append_lies _ rfl (.tmp 33) (.tmp 35) 23 rfl q 135 i0 _ 3 32 Tryz.underlying23 hi0 hz0 hz1 hz2 rfl (by decide) (.slice na r.names.length nc) r.names.length (r.names.flatMap nmCells) rfl (HOWN.out _) ⟨w3.heap.size, 0, none⟩ 1 1 (nmCells ⟨nm, k, c⟩) rfl rfl (World.news_of_block (heap_alloc_new w3.drew _)) HONE.out (by decide) (by unfold maxLen; omega) (by omega) (by simp; omega) (w3.heap.size + 1) (by simp) ?_; intro g cap wA hown hgrow hat hltg; obtain ⟨⟨hcA, hfA⟩, hTA⟩ := HFIN.out _ g cap wA hown hgrow hat; have HTA := hide hTA; clear hTA)
      all_goals go_wp2_with fail
      all_goals go_ret
      all_goals
        rw [HRES.out]
        exact HTA.out
    · have HRES := hide (HT2.out _ hrn hr0)
      have hrl : 0 < r.rungs.length := List.length_pos_iff.2 hr0
      rw [show (some (⟨nm, k, c⟩ : Ld.Nme)).isSome = true from rfl]
      have HF := hide (formAt_any st w3)
      rw [HW3.out] at HF
      subst hrv
      clear HT0 HT1 HT2 hr0
      go_wp2_with fail
      refine HF.out.mono ?_
      rintro e w4 ⟨v, rfl, hv, hb4, hfe⟩
      have HFE : Hid (FreshE q v) := fun a h => Nat.le_trans (Nat.le_trans hq (Nat.le_trans HB3.out.size (by rw [HW3.out]; exact Nat.le_refl _))) (hfe a h)
      clear hfe
      rw [← HW3.out] at hb4
      have HV := hide hv
      have HB4 := hide (HB3.out.trans (hb4.mono HB3.out.size))
      obtain ⟨tu, yu, hiu⟩ : ∃ tu yu, v = .iface tu yu := by obtain ⟨a, h, _⟩ := hv; exact ⟨_, _, h⟩
      subst hiu
      clear hv hb4 HF
      go_wp2_with fail
      go_ret
      rw [HRES.out]
      exact ⟨Kq.below HB4.out hq, _, rfl, HV.out, HG.out _ HB4.out, HFE.out⟩
end
section
namespace Ex
def ErrB (l : List UInt8) (r : Nat → Res Ex) : Prop := ∀ i e p, i ≤ l.length → r i = .inl (e, p) → p ≤ l.length
theorem nameP_err (l : List UInt8) (k : Nat) : ErrB l (nameP l k) := by
  intro i e p hi h
  have h2 := skip_le l i hi
  unfold nameP at h
  simp only at h
  split at h
  · simp only [Sum.inl.injEq, Prod.mk.injEq] at h; omega
  · split at h
    · cases h
    · simp only [Sum.inl.injEq, Prod.mk.injEq] at h; omega
theorem listP_err (l : List UInt8) (sep : Nat) (hs : sep ≠ 32) (r : Nat → Res Ex) (hr : Adv l r) (he : ErrB l r) : ∀ f i e p, i ≤ l.length → listP l sep r f i = .inl (e, p) → p ≤ l.length := by
  intro f
  induction f with
  | zero => intro i e p hi h; simp only [listP, Sum.inl.injEq, Prod.mk.injEq] at h; omega
  | succ f ih =>
    intro i e p hi h
    unfold listP at h
    cases hri : r i with
    | inl q => rw [hri] at h; simp only [Sum.inl.injEq] at h; subst h; exact he i _ _ hi hri
    | inr q =>
      obtain ⟨x, j⟩ := q
      rw [hri] at h
      simp only at h
      have hj := hr i x j hi hri
      by_cases hsg : sg l (skip l j) = sep
      · rw [if_pos hsg] at h
        have hlt := sg_lt l (skip l j) (by rw [hsg]; exact hs)
        cases hm : listP l sep r f (skip l j + 1) with
        | inl q =>
          rw [hm] at h
          simp only [Sum.inl.injEq] at h
          subst h
          exact ih _ _ _ (by omega) hm
        | inr q => rw [hm] at h; cases h
      · rw [if_neg hsg] at h; cases h
theorem made_err (k : Nat) (q : Res (List Ex)) (e p : Nat) (h : made k q = .inl (e, p)) : q = .inl (e, p) := by
  match q, h with
  | .inl x, h => simp only [made, Sum.inl.injEq] at h; rw [h]
  | .inr ([], m), h => simp [made] at h
  | .inr ([x], m), h => simp [made] at h
  | .inr (x :: y :: t, m), h => simp [made] at h
theorem partP_err (l : List UInt8) (r : Nat → Res Ex) (hr : Adv l r) (he : ErrB l r) : ErrB l (partP l r) := fun i e p hi h => listP_err l 38 (by decide) r hr he _ i e p hi (made_err _ _ _ _ h)
theorem wholeP_err (l : List UInt8) (r : Nat → Res Ex) (hr : Adv l r) (he : ErrB l r) : ErrB l (wholeP l r) := fun i e p hi h => listP_err l 124 (by decide) _ (partP_adv l r hr) (partP_err l r hr he) _ i e p hi (made_err _ _ _ _ h)
theorem pieceP_err (l : List UInt8) : ∀ d, ErrB l (pieceP l d) := by
  intro d
  induction d with
  | zero => intro i e p hi h; have := skip_le l i hi; simp only [pieceP, Sum.inl.injEq, Prod.mk.injEq] at h; omega
  | succ d ih =>
    intro i e p hi h
    have h2 := skip_le l i hi
    unfold pieceP at h
    simp only at h
    by_cases c1 : sg l (skip l i) = 33
    · rw [if_pos c1] at h
      have hlt := sg_lt l (skip l i) (by rw [c1]; decide)
      cases hq : pieceP l d (skip l i + 1) with
      | inl q => rw [hq] at h; simp only [notP, Sum.inl.injEq] at h; subst h; exact ih _ _ _ (by omega) hq
      | inr q => rw [hq] at h; simp [notP] at h
    rw [if_neg c1] at h
    by_cases c2 : sg l (skip l i) = 40
    · rw [if_pos c2] at h
      have hlt := sg_lt l (skip l i) (by rw [c2]; decide)
      cases hq : wholeP l (pieceP l d) (skip l i + 1) with
      | inl q => rw [hq] at h; simp only [parP, Sum.inl.injEq] at h; subst h; exact wholeP_err l _ (pieceP_adv l d) ih _ _ _ (by omega) hq
      | inr q =>
        obtain ⟨x, m⟩ := q
        rw [hq] at h
        have hm := wholeP_adv l _ (pieceP_adv l d) _ _ _ (by omega) hq
        have := skip_le l m hm.2
        simp only [parP] at h
        split at h
        · cases h
        · simp only [Sum.inl.injEq, Prod.mk.injEq] at h; omega
    rw [if_neg c2] at h
    by_cases c3 : sg l (skip l i) = 48
    · rw [if_pos c3] at h; cases h
    rw [if_neg c3] at h
    by_cases c4 : sg l (skip l i) = 49
    · rw [if_pos c4] at h; cases h
    rw [if_neg c4] at h
    by_cases c5 : sg l (skip l i) = 94
    · rw [if_pos c5] at h
      have hlt := sg_lt l (skip l i) (by rw [c5]; decide)
      exact nameP_err l 3 _ _ _ (by omega) h
    rw [if_neg c5] at h
    by_cases c6 : sg l (skip l i) = 126
    · rw [if_pos c6] at h
      have hlt := sg_lt l (skip l i) (by rw [c6]; decide)
      exact nameP_err l 4 _ _ _ (by omega) h
    rw [if_neg c6] at h
    exact nameP_err l 2 _ _ _ h2 h
theorem parse_place (t : List UInt8) (e : Nat) (pl : Option Nat) (h : parse t = .inl (e, pl)) : pl.getD 0 ≤ t.length := by
  unfold parse at h
  split at h
  · simp only [Sum.inl.injEq, Prod.mk.injEq] at h; rw [← h.2]; simp
  · cases hq : wholeP t (pieceP t 20) 0 with
    | inl q =>
      rw [hq] at h
      simp only [Sum.inl.injEq, Prod.mk.injEq] at h
      rw [← h.2]
      exact wholeP_err t _ (pieceP_adv t 20) (pieceP_err t 20) 0 _ _ (Nat.zero_le _) hq
    | inr q =>
      obtain ⟨x, m⟩ := q
      rw [hq] at h
      simp only at h
      split at h
      · simp only [Sum.inl.injEq, Prod.mk.injEq] at h; rw [← h.2]; simp; omega
      · cases h
end Ex
end
end Go.Proofs.YtkpfahbodlfpiaaGreatDoor
