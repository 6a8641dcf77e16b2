/-
  Plain mathematics: the names of an expression that was read are not empty. The walk of the document's own Edges. (Out of NdNamed.) errors.As at a target of type Errno: an Errno is found at once; an error at a place holds one. (After the guide's worked example of errors.As.)
-/
import Derived.Test.YtblfeahbpklgiaaGreatDoorRtParse
import Derived.Test.YtblfeahbpklgiaaGreatDoorEvWithinAll
import Derived.Test.YtblfeahbpklgiaaGreatDoorNdNamed
import Derived.Test.YtblfeahbpklgiaaGreatDoorExRep
import Derived.WalkKit
import Derived.LaidEql
import Derived.Stop.Asserts
import Derived.RowKitTokens
namespace Go.Proofs.YtblfeahbpklgiaaGreatDoor
section
namespace Ex
theorem FitP.names : ∀ (D : Nat) (x : Ex), FitP D x → ∀ n, n ∈ x.named true → Nm.name n = true := by
  intro D
  induction D with
  | zero => intro x h; exact absurd h (by simp [FitP])
  | succ D ih =>
    intro x h n hn
    obtain ⟨k, nm, l⟩ := x
    have parts : (k ≠ 2 ∧ k ≠ 3 ∧ k ≠ 4) → ∃ y, y ∈ l ∧ n ∈ y.named true := fun hk => by
      rw [named_of _ _ _ _ hk, List.mem_flatten] at hn
      obtain ⟨t, ht, hnt⟩ := hn
      obtain ⟨y, hy, rfl⟩ := List.mem_map.1 ht
      exact ⟨y, hy, hnt⟩
    unfold FitP at h
    simp only at h
    rcases h with ⟨h1, _, h3⟩ | ⟨h1, h2, h3, _⟩ | ⟨h1, _, y, h3, h4⟩ | ⟨h1, _, _, h4⟩ | ⟨h1, _, _, h4⟩
    · obtain ⟨y, hy, _⟩ := parts (by omega)
      rw [h3] at hy
      simp at hy
    · have : n = nm := by
        have hk : k = 2 ∨ k = 3 ∨ k = 4 := by omega
        rcases hk with rfl | rfl | rfl
        · rw [named2] at hn; simpa using hn
        · rw [named3] at hn; simpa using hn
        · rw [named4] at hn; simpa using hn
      rw [this]; exact h3
    · obtain ⟨z, hz, hnz⟩ := parts (by omega)
      rw [h3] at hz
      simp at hz
      subst hz
      exact ih _ h4 n hnz
    · obtain ⟨z, hz, hnz⟩ := parts (by omega)
      exact ih _ (h4 z hz) n hnz
    · obtain ⟨z, hz, hnz⟩ := parts (by omega)
      rcases h4 z hz with ⟨q1, _, _, q4⟩ | ⟨_, q2⟩
      · obtain ⟨k2, nm2, l2⟩ := z
        simp only at q1 q4
        rw [named_of _ _ _ _ (by omega), List.mem_flatten] at hnz
        obtain ⟨t, ht, hnt⟩ := hnz
        obtain ⟨y, hy, rfl⟩ := List.mem_map.1 ht
        exact ih _ (q4 y hy) n hnt
      · exact ih _ q2 n hnz
theorem parse_names (l : List UInt8) (x : Ex) (h : parse l = .inr x) (n : List UInt8) (hn : n ∈ x.named true) : n ≠ [] := by
  have h1 := FitP.names 21 x (FitW.piece 20 x (parse_fit l x h)) n hn
  obtain ⟨_, c, r, e, _⟩ := name_signs n h1
  rw [e]; simp
end Ex
end
section
open Go.RowKit
set_option maxHeartbeats 1000000 in
set_option maxRecDepth 100000 in
theorem REdges_any (ok : Nat → Prop) (x : Ex) (g : Nat) (m : Int) (w : World) (h : IsRx ok w x g) (hlen : x.size ≤ 1000000) (hmp : 2 < w.heap.size) (hm : w.cell? ⟨2, 0, none⟩ = some (.int .i64 m)) :
    Calls Tryz.prog 7 #[.pointer (some ⟨g, 0, none⟩)] w fun e w' => ∃ sv, e = .returned sv ∧ Strs w' sv ((ordered (x.named false)).map toBA) ∧ Below w.heap.size w w' := by
  have HC := hide (Named_all ok false x g m w h hlen hmp hm)
  clear h hm
  go_enter Tryz.func7, Tryz.ntmps7
  go_wp2_with fail
  refine HC.out.mono ?_
  rintro e w1 ⟨sv, rfl, hs, hb⟩
  have HS := hide hs
  have HB := hide hb
  obtain ⟨a2, n2, c2, hsv2⟩ : ∃ a n c, sv = .slice a n c := by
    rcases hs with ⟨_, a, cap, h⟩ | ⟨g, o, cap, h, _⟩
    · exact ⟨_, _, _, h⟩
    · exact ⟨_, _, _, h⟩
  subst hsv2
  clear hs hb
  go_wp2_with fail
  go_ret
  exact ⟨.slice a2 n2 c2, rfl, HS.out, HB.out⟩
end
section
namespace ErAs
open Go.RowKit Go.Extern.Stop Go.Stop Go.Extern
/-- the handle of a type -/
abbrev hd (t : Nat) : Value := .pointer (some ⟨3, t, none⟩)
/-- the Value of the pointer that is the target -/
abbrev tv (a : Addr) : Value := .agg #[hd 110, .pointer (some a), .int .u64 150]
theorem valueOfP (t : Addr) (w : World) : (ReflectliteValue.unpack (.iface 110 (.pointer (some t)))).run Tryz.prog w = .ok (tv ⟨w.heap.size, 0, none⟩) (w.alloc (.cells #[.pointer (some t)] 110)) := by kernel_rfl
theorem typeP (a : Addr) (w : World) : (ReflectliteValue.methodAny (ReflectliteValue.valueError "reflectlite.Value.Type" 0) (fun t _ _ _ => ReflectliteType.toType t) #[tv a]).run Tryz.prog w = .ok (.iface 152 (.agg #[hd 110])) w := by kernel_rfl
theorem methodKind (h : Value) (w : World) : (Go.method 298 152 (.agg #[h]) "Kind").run Tryz.prog w = .ok (126, h) w := by kernel_rfl
theorem kindP (w : World) : ((ReflectliteType.abiMethod fun t => (fun a : Nat => Value.int IntKind.u8 (a : Int)) <$> Rtype.kind t) #[hd 110]).run Tryz.prog w = .ok (.int .u8 22) w := by kernel_rfl
theorem kindE (w : World) : ((ReflectliteType.abiMethod fun t => (fun a : Nat => Value.int IntKind.u8 (a : Int)) <$> Rtype.kind t) #[hd 33]).run Tryz.prog w = .ok (.int .u8 2) w := by kernel_rfl
theorem rlm (z : Sem Value) (f : TypeId → Addr → Nat → Nat → Sem Value) (v : Value) :
    ReflectliteValue.method z f #[v] = (do match ← ReflectliteValue.parts v with | none => z | some (t, a, fl) => f t a fl (fl % 32)) := rfl
theorem partsP (a : Addr) (w : World) : (ReflectliteValue.parts (tv a)).run Tryz.prog w = .ok (some (110, a, 150)) w := by kernel_rfl
theorem isNilP (a p : Addr) (W : World) (ha : W.cell? a = some (.pointer (some p))) :
    (ReflectliteValue.method (ReflectliteValue.valueError "reflectlite.Value.IsNil" 0) ReflectliteValue.isNil #[tv a]).run Tryz.prog W = .ok (.bool false) W := by
  rw [rlm]
  simp only [Sem.run_bind, partsP, Result.andThen]
  simp [ReflectliteValue.isNil, loadVar, isAgg, underlying, Tryz.underlying110, ha, Result.andThen]
theorem methodElem (h : Value) (w : World) : (Go.method 298 152 (.agg #[h]) "Elem").run Tryz.prog w = .ok (147, .agg #[h]) w := by kernel_rfl
theorem methodImplements (h : Value) (w : World) : (Go.method 298 152 (.agg #[h]) "Implements").run Tryz.prog w = .ok (148, .agg #[h]) w := by kernel_rfl
theorem methodAssignableTo (h : Value) (w : World) : (Go.method 298 152 (.agg #[h]) "AssignableTo").run Tryz.prog w = .ok (145, .agg #[h]) w := by kernel_rfl
theorem elemP (w : World) : (ReflectliteType.method ReflectliteType.elem #[.agg #[hd 110]]).run Tryz.prog w = .ok (.iface 152 (.agg #[hd 33])) w := by kernel_rfl
theorem implementsE (w : World) : (ReflectliteType.relation "Implements" ReflectliteType.implements_ #[.agg #[hd 33], .iface 152 (.agg #[hd 29])]).run Tryz.prog w = .ok (.bool true) w := by kernel_rfl
theorem typeOfE (v : Value) (w : World) : (ReflectliteType.typeOf #[.iface 33 v]).run Tryz.prog w = .ok (.iface 152 (.agg #[hd 33])) w := by kernel_rfl
theorem typeOfA (v : Value) (w : World) : (ReflectliteType.typeOf #[.iface 87 v]).run Tryz.prog w = .ok (.iface 152 (.agg #[hd 87])) w := by kernel_rfl
theorem assignableE (w : World) : (ReflectliteType.relation "AssignableTo" ReflectliteType.assignableTo #[.agg #[hd 33], .iface 152 (.agg #[hd 33])]).run Tryz.prog w = .ok (.bool true) w := by kernel_rfl
theorem assignableA (w : World) : (ReflectliteType.relation "AssignableTo" ReflectliteType.assignableTo #[.agg #[hd 87], .iface 152 (.agg #[hd 33])]).run Tryz.prog w = .ok (.bool false) w := by kernel_rfl
theorem valueOfE (n : Int) (w : World) : (ReflectliteValue.unpack (.iface 33 (.int .i64 n))).run Tryz.prog w = .ok (.agg #[hd 33, .pointer (some ⟨w.heap.size, 0, none⟩), .int .u64 130]) (w.alloc (.cells #[.int .i64 n] 33)) := by kernel_rfl
theorem elemOfP (w : World) : (Rtype.elem? 110).run Tryz.prog w = .ok (some 33) w := by kernel_rfl
theorem mkE (p : Addr) (w : World) : (ReflectliteValue.mk 33 p ReflectliteValue.flagAddr).run Tryz.prog w = .ok (.agg #[hd 33, .pointer (some p), .int .u64 386]) w := by kernel_rfl
theorem elemV (a p : Addr) (W : World) (ha : W.cell? a = some (.pointer (some p))) :
    (ReflectliteValue.method (ReflectliteValue.valueError "reflectlite.Value.Elem" 0) ReflectliteValue.elem #[tv a]).run Tryz.prog W = .ok (.agg #[hd 33, .pointer (some p), .int .u64 386]) W := by
  rw [rlm]
  simp only [Sem.run_bind, partsP, Result.andThen]
  simp [ReflectliteValue.elem, loadVar, isAgg, underlying, Tryz.underlying110, ha, Result.andThen, elemOfP, mkE]
theorem partsE (a : Addr) (fl : Nat) (hfl : fl = 386 ∨ fl = 130) (w : World) : (ReflectliteValue.parts (.agg #[hd 33, .pointer (some a), .int .u64 fl])).run Tryz.prog w = .ok (some (33, a, fl)) w := by
  rcases hfl with rfl | rfl
  · kernel_rfl
  · kernel_rfl
theorem directE (w : World) : (Rtype.directlyAssignable 33 33).run Tryz.prog w = .ok true w := by kernel_rfl
/-- (Value).Set: the Errno at ta gets what lies at b -/
theorem setE (ta b : Addr) (n : Int) (old : Value) (W : World) (hb : W.cell? b = some (.int .i64 n)) (ht : W.cell? ta = some old) (hf : W.frozen? ta = false) :
    (ReflectliteValue.set #[.agg #[hd 33, .pointer (some ta), .int .u64 386], .agg #[hd 33, .pointer (some b), .int .u64 130]]).run Tryz.prog W = .ok (.tuple #[]) (W.setCell ta (.int .i64 n)) := by
  have e1 := partsE ta 386 (.inl rfl) W
  have e2 := partsE b 130 (.inr rfl) W
  refine (congrArg (fun z : Sem Value => z.run Tryz.prog W) (show ReflectliteValue.set #[.agg #[hd 33, .pointer (some ta), .int .u64 386], .agg #[hd 33, .pointer (some b), .int .u64 130]] = (ReflectliteValue.parts (.agg #[hd 33, .pointer (some ta), .int .u64 ((386 : Nat) : Int)]) >>= fun p => ReflectliteValue.parts (.agg #[hd 33, .pointer (some b), .int .u64 ((130 : Nat) : Int)]) >>= fun q => _) from rfl)).trans ?_
  simp only [Sem.run_bind, e1, e2, Result.andThen]
  simp [ReflectliteValue.flagAddr, loadVar, isAgg, underlying, Tryz.underlying33, hb, Result.andThen, directE, storeVar, Value.cells, storeCells, Addr.add]
  rw [run_store Tryz.prog W ta _ _ (by rfl)]
  simp [ht, hf]
end ErAs
end
end Go.Proofs.YtblfeahbpklgiaaGreatDoor
