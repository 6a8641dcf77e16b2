/-
  What a type switch over an expression comes to, type by type. Expressions in memory: small facts. The walk of within: the parts right within an expression, as a slice. The walks of eval, hasOne, orNever and Eval: what an expression says is the plain function 'eval'. Slices of strings; is a name one of some? The walks of package ladder's small functions, of slices.IndexFunc over names, and of Number.
-/
import Derived.Test.YtgblillplgdbaaaGreatDoorLdRepAll
import Derived.Test.YtgblillplgdbaaaGreatDoorRdListAll
import Derived.Defers
import Derived.Recover
namespace Go.Proofs.YtgblillplgdbaaaGreatDoor
section
@[go_sem] theorem asConstConst (v : Value) (w : World) : (Instr.typeAssert (.iface 120 v) 28 120 true).run Tryz.prog w = .ok (.tuple #[v, .bool true]) w := by kernel_rfl
@[go_sem] theorem asConstBit (v : Value) (w : World) : (Instr.typeAssert (.iface 120 v) 28 121 true).run Tryz.prog w = .ok (.tuple #[.string ⟨#[]⟩, .bool false]) w := by kernel_rfl
@[go_sem] theorem asConstRise (v : Value) (w : World) : (Instr.typeAssert (.iface 120 v) 28 122 true).run Tryz.prog w = .ok (.tuple #[.string ⟨#[]⟩, .bool false]) w := by kernel_rfl
@[go_sem] theorem asConstFall (v : Value) (w : World) : (Instr.typeAssert (.iface 120 v) 28 123 true).run Tryz.prog w = .ok (.tuple #[.string ⟨#[]⟩, .bool false]) w := by kernel_rfl
@[go_sem] theorem asConstNot (v : Value) (w : World) : (Instr.typeAssert (.iface 120 v) 28 59 true).run Tryz.prog w = .ok (.tuple #[.agg #[.nilIface], .bool false]) w := by kernel_rfl
@[go_sem] theorem asConstAnd (v : Value) (w : World) : (Instr.typeAssert (.iface 120 v) 28 124 true).run Tryz.prog w = .ok (.tuple #[.slice none 0 0, .bool false]) w := by kernel_rfl
@[go_sem] theorem asConstOr (v : Value) (w : World) : (Instr.typeAssert (.iface 120 v) 28 61 true).run Tryz.prog w = .ok (.tuple #[.slice none 0 0, .bool false]) w := by kernel_rfl
@[go_sem] theorem asBitConst (v : Value) (w : World) : (Instr.typeAssert (.iface 121 v) 28 120 true).run Tryz.prog w = .ok (.tuple #[.bool false, .bool false]) w := by kernel_rfl
@[go_sem] theorem asBitBit (v : Value) (w : World) : (Instr.typeAssert (.iface 121 v) 28 121 true).run Tryz.prog w = .ok (.tuple #[v, .bool true]) w := by kernel_rfl
@[go_sem] theorem asBitRise (v : Value) (w : World) : (Instr.typeAssert (.iface 121 v) 28 122 true).run Tryz.prog w = .ok (.tuple #[.string ⟨#[]⟩, .bool false]) w := by kernel_rfl
@[go_sem] theorem asBitFall (v : Value) (w : World) : (Instr.typeAssert (.iface 121 v) 28 123 true).run Tryz.prog w = .ok (.tuple #[.string ⟨#[]⟩, .bool false]) w := by kernel_rfl
@[go_sem] theorem asBitNot (v : Value) (w : World) : (Instr.typeAssert (.iface 121 v) 28 59 true).run Tryz.prog w = .ok (.tuple #[.agg #[.nilIface], .bool false]) w := by kernel_rfl
@[go_sem] theorem asBitAnd (v : Value) (w : World) : (Instr.typeAssert (.iface 121 v) 28 124 true).run Tryz.prog w = .ok (.tuple #[.slice none 0 0, .bool false]) w := by kernel_rfl
@[go_sem] theorem asBitOr (v : Value) (w : World) : (Instr.typeAssert (.iface 121 v) 28 61 true).run Tryz.prog w = .ok (.tuple #[.slice none 0 0, .bool false]) w := by kernel_rfl
@[go_sem] theorem asRiseConst (v : Value) (w : World) : (Instr.typeAssert (.iface 122 v) 28 120 true).run Tryz.prog w = .ok (.tuple #[.bool false, .bool false]) w := by kernel_rfl
@[go_sem] theorem asRiseBit (v : Value) (w : World) : (Instr.typeAssert (.iface 122 v) 28 121 true).run Tryz.prog w = .ok (.tuple #[.string ⟨#[]⟩, .bool false]) w := by kernel_rfl
@[go_sem] theorem asRiseRise (v : Value) (w : World) : (Instr.typeAssert (.iface 122 v) 28 122 true).run Tryz.prog w = .ok (.tuple #[v, .bool true]) w := by kernel_rfl
@[go_sem] theorem asRiseFall (v : Value) (w : World) : (Instr.typeAssert (.iface 122 v) 28 123 true).run Tryz.prog w = .ok (.tuple #[.string ⟨#[]⟩, .bool false]) w := by kernel_rfl
@[go_sem] theorem asRiseNot (v : Value) (w : World) : (Instr.typeAssert (.iface 122 v) 28 59 true).run Tryz.prog w = .ok (.tuple #[.agg #[.nilIface], .bool false]) w := by kernel_rfl
@[go_sem] theorem asRiseAnd (v : Value) (w : World) : (Instr.typeAssert (.iface 122 v) 28 124 true).run Tryz.prog w = .ok (.tuple #[.slice none 0 0, .bool false]) w := by kernel_rfl
@[go_sem] theorem asRiseOr (v : Value) (w : World) : (Instr.typeAssert (.iface 122 v) 28 61 true).run Tryz.prog w = .ok (.tuple #[.slice none 0 0, .bool false]) w := by kernel_rfl
@[go_sem] theorem asFallConst (v : Value) (w : World) : (Instr.typeAssert (.iface 123 v) 28 120 true).run Tryz.prog w = .ok (.tuple #[.bool false, .bool false]) w := by kernel_rfl
@[go_sem] theorem asFallBit (v : Value) (w : World) : (Instr.typeAssert (.iface 123 v) 28 121 true).run Tryz.prog w = .ok (.tuple #[.string ⟨#[]⟩, .bool false]) w := by kernel_rfl
@[go_sem] theorem asFallRise (v : Value) (w : World) : (Instr.typeAssert (.iface 123 v) 28 122 true).run Tryz.prog w = .ok (.tuple #[.string ⟨#[]⟩, .bool false]) w := by kernel_rfl
@[go_sem] theorem asFallFall (v : Value) (w : World) : (Instr.typeAssert (.iface 123 v) 28 123 true).run Tryz.prog w = .ok (.tuple #[v, .bool true]) w := by kernel_rfl
@[go_sem] theorem asFallNot (v : Value) (w : World) : (Instr.typeAssert (.iface 123 v) 28 59 true).run Tryz.prog w = .ok (.tuple #[.agg #[.nilIface], .bool false]) w := by kernel_rfl
@[go_sem] theorem asFallAnd (v : Value) (w : World) : (Instr.typeAssert (.iface 123 v) 28 124 true).run Tryz.prog w = .ok (.tuple #[.slice none 0 0, .bool false]) w := by kernel_rfl
@[go_sem] theorem asFallOr (v : Value) (w : World) : (Instr.typeAssert (.iface 123 v) 28 61 true).run Tryz.prog w = .ok (.tuple #[.slice none 0 0, .bool false]) w := by kernel_rfl
@[go_sem] theorem asNotConst (v : Value) (w : World) : (Instr.typeAssert (.iface 59 v) 28 120 true).run Tryz.prog w = .ok (.tuple #[.bool false, .bool false]) w := by kernel_rfl
@[go_sem] theorem asNotBit (v : Value) (w : World) : (Instr.typeAssert (.iface 59 v) 28 121 true).run Tryz.prog w = .ok (.tuple #[.string ⟨#[]⟩, .bool false]) w := by kernel_rfl
@[go_sem] theorem asNotRise (v : Value) (w : World) : (Instr.typeAssert (.iface 59 v) 28 122 true).run Tryz.prog w = .ok (.tuple #[.string ⟨#[]⟩, .bool false]) w := by kernel_rfl
@[go_sem] theorem asNotFall (v : Value) (w : World) : (Instr.typeAssert (.iface 59 v) 28 123 true).run Tryz.prog w = .ok (.tuple #[.string ⟨#[]⟩, .bool false]) w := by kernel_rfl
@[go_sem] theorem asNotNot (v : Value) (w : World) : (Instr.typeAssert (.iface 59 v) 28 59 true).run Tryz.prog w = .ok (.tuple #[v, .bool true]) w := by kernel_rfl
@[go_sem] theorem asNotAnd (v : Value) (w : World) : (Instr.typeAssert (.iface 59 v) 28 124 true).run Tryz.prog w = .ok (.tuple #[.slice none 0 0, .bool false]) w := by kernel_rfl
@[go_sem] theorem asNotOr (v : Value) (w : World) : (Instr.typeAssert (.iface 59 v) 28 61 true).run Tryz.prog w = .ok (.tuple #[.slice none 0 0, .bool false]) w := by kernel_rfl
@[go_sem] theorem asAndConst (v : Value) (w : World) : (Instr.typeAssert (.iface 124 v) 28 120 true).run Tryz.prog w = .ok (.tuple #[.bool false, .bool false]) w := by kernel_rfl
@[go_sem] theorem asAndBit (v : Value) (w : World) : (Instr.typeAssert (.iface 124 v) 28 121 true).run Tryz.prog w = .ok (.tuple #[.string ⟨#[]⟩, .bool false]) w := by kernel_rfl
@[go_sem] theorem asAndRise (v : Value) (w : World) : (Instr.typeAssert (.iface 124 v) 28 122 true).run Tryz.prog w = .ok (.tuple #[.string ⟨#[]⟩, .bool false]) w := by kernel_rfl
@[go_sem] theorem asAndFall (v : Value) (w : World) : (Instr.typeAssert (.iface 124 v) 28 123 true).run Tryz.prog w = .ok (.tuple #[.string ⟨#[]⟩, .bool false]) w := by kernel_rfl
@[go_sem] theorem asAndNot (v : Value) (w : World) : (Instr.typeAssert (.iface 124 v) 28 59 true).run Tryz.prog w = .ok (.tuple #[.agg #[.nilIface], .bool false]) w := by kernel_rfl
@[go_sem] theorem asAndAnd (v : Value) (w : World) : (Instr.typeAssert (.iface 124 v) 28 124 true).run Tryz.prog w = .ok (.tuple #[v, .bool true]) w := by kernel_rfl
@[go_sem] theorem asAndOr (v : Value) (w : World) : (Instr.typeAssert (.iface 124 v) 28 61 true).run Tryz.prog w = .ok (.tuple #[.slice none 0 0, .bool false]) w := by kernel_rfl
@[go_sem] theorem asOrConst (v : Value) (w : World) : (Instr.typeAssert (.iface 61 v) 28 120 true).run Tryz.prog w = .ok (.tuple #[.bool false, .bool false]) w := by kernel_rfl
@[go_sem] theorem asOrBit (v : Value) (w : World) : (Instr.typeAssert (.iface 61 v) 28 121 true).run Tryz.prog w = .ok (.tuple #[.string ⟨#[]⟩, .bool false]) w := by kernel_rfl
@[go_sem] theorem asOrRise (v : Value) (w : World) : (Instr.typeAssert (.iface 61 v) 28 122 true).run Tryz.prog w = .ok (.tuple #[.string ⟨#[]⟩, .bool false]) w := by kernel_rfl
@[go_sem] theorem asOrFall (v : Value) (w : World) : (Instr.typeAssert (.iface 61 v) 28 123 true).run Tryz.prog w = .ok (.tuple #[.string ⟨#[]⟩, .bool false]) w := by kernel_rfl
@[go_sem] theorem asOrNot (v : Value) (w : World) : (Instr.typeAssert (.iface 61 v) 28 59 true).run Tryz.prog w = .ok (.tuple #[.agg #[.nilIface], .bool false]) w := by kernel_rfl
@[go_sem] theorem asOrAnd (v : Value) (w : World) : (Instr.typeAssert (.iface 61 v) 28 124 true).run Tryz.prog w = .ok (.tuple #[.slice none 0 0, .bool false]) w := by kernel_rfl
@[go_sem] theorem asOrOr (v : Value) (w : World) : (Instr.typeAssert (.iface 61 v) 28 61 true).run Tryz.prog w = .ok (.tuple #[v, .bool true]) w := by kernel_rfl
end
section
open Go.RowKit
theorem ret_str {a b : ByteArray} (h : a = b) : Ending.returned (.string a) = .returned (.string b) := by rw [h]
theorem IsEx.le7 {ok : Nat → Prop} {w : World} (x : Ex) (v : Value) (h : IsEx ok w x v) : x.kind ≤ 7 := by
  obtain ⟨k, nm, l⟩ := x
  match k, h with
  | 0, _ => simp
  | 1, _ => simp
  | 2, _ => simp
  | 3, _ => simp
  | 4, _ => simp
  | 5, _ => simp
  | 6, _ => simp
  | 7, _ => simp
  | n + 8, h => simp only [IsEx] at h
end
section
open Go.RowKit
theorem ret_int {a b : Int} (h : a = b) : Ending.returned (.int .i64 a) = .returned (.int .i64 b) := by rw [h]
/-- a slice of expressions -/
def Parts (w : World) (sv : Value) (xs : List Ex) : Prop :=
  (xs = [] ∧ sv = .slice none 0 0) ∨ ∃ g cap, sv = .slice (some ⟨g, 0, none⟩) xs.length cap ∧ xs.length ≤ cap ∧ xs.length ≤ 9223372036854775807 ∧ ∀ (k : Nat) (x : Ex), xs[k]? = some x → ∃ u, w.cell? ⟨g, k, none⟩ = some u ∧ IsEx (fun _ => True) w x u
theorem Parts.below {w w' : World} {sv : Value} {xs : List Ex} (h : Parts w sv xs) (hb : Below w.heap.size w w') : Parts w' sv xs := by
  rcases h with h | ⟨g, cap, h1, h2, h3, h4⟩
  · exact .inl h
  · refine .inr ⟨g, cap, h1, h2, h3, fun k x hx => ?_⟩
    obtain ⟨u, hu, he⟩ := h4 k x hx
    exact ⟨u, Stay.below (ok := fun _ => True) hb g k u trivial hu, IsEx.stay (Stay.below hb) (fun g hg => hg) x u he⟩
set_option maxHeartbeats 1000000 in
theorem within_parts (x : Ex) (v : Value) (w : World) (h : IsEx (fun _ => True) w x v) :
    Calls Tryz.prog 86 #[v] w fun e w' => ∃ sv, e = .returned sv ∧ Parts w' sv x.of ∧ Below w.heap.size w w' := by
  obtain ⟨k, nm, l⟩ := x
  match k, h with
  | 0, h =>
    simp only [IsEx] at h
    obtain ⟨_, hl, rfl⟩ := h
    go_enter Tryz.func86, Tryz.ntmps86
    go_wp2
    go_ret
    exact ⟨_, rfl, .inl ⟨hl, rfl⟩, Below.refl _ _⟩
  | 1, h =>
    simp only [IsEx] at h
    obtain ⟨_, hl, rfl⟩ := h
    go_enter Tryz.func86, Tryz.ntmps86
    go_wp2
    go_ret
    exact ⟨_, rfl, .inl ⟨hl, rfl⟩, Below.refl _ _⟩
  | 2, h =>
    simp only [IsEx] at h
    obtain ⟨hl, _, rfl⟩ := h
    go_enter Tryz.func86, Tryz.ntmps86
    go_wp2
    go_ret
    exact ⟨_, rfl, .inl ⟨hl, rfl⟩, Below.refl _ _⟩
  | 3, h =>
    simp only [IsEx] at h
    obtain ⟨hl, _, rfl⟩ := h
    go_enter Tryz.func86, Tryz.ntmps86
    go_wp2
    go_ret
    exact ⟨_, rfl, .inl ⟨hl, rfl⟩, Below.refl _ _⟩
  | 4, h =>
    simp only [IsEx] at h
    obtain ⟨hl, _, rfl⟩ := h
    go_enter Tryz.func86, Tryz.ntmps86
    go_wp2
    go_ret
    exact ⟨_, rfl, .inl ⟨hl, rfl⟩, Below.refl _ _⟩
  | 5, h =>
    simp only [IsEx] at h
    obtain ⟨_, h1, u, rfl, h3⟩ := h
    match l, h1 with
    | [y], _ =>
      have hy : IsEx (fun _ => True) w y u := h3 _ rfl
      obtain ⟨tu, yu, hiu⟩ := IsEx.iface y u hy
      subst hiu
      have HY := hide hy
      clear h3 hy
      go_enter Tryz.func86, Tryz.ntmps86
      go_wp2
      go_ret
      have hb : Below w.heap.size w ((w.alloc (.cells #[.iface tu yu] 59)).alloc (.cells #[.iface tu yu] 28)) := ((Below.refl _ w).alloc (Nat.le_refl _) _).alloc (by simp) _
      refine ⟨_, rfl, .inr ⟨w.heap.size + 1, 1, rfl, by simp, by simp, ?_⟩, hb⟩
      intro k x hk
      match k, hk with
      | 0, hk =>
        simp only [List.getElem?_cons_zero, Option.some.injEq] at hk
        subst hk
        exact ⟨_, by simp [go_sem], IsEx.stay (Stay.below hb) (fun g hg => hg) y _ HY.out⟩
      | k + 1, hk => simp at hk
  | 6, h =>
    simp only [IsEx] at h
    obtain ⟨_, _, h3, g, cap, rfl, h4, _, hr⟩ := h
    have HR := hide hr
    clear hr
    have hcap := h4
    generalize hn : l.length = n at *
    have HN := hide hn
    clear hn
    go_enter Tryz.func86, Tryz.ntmps86
    go_wp2
    go_ret
    exact ⟨.slice (some ⟨g, 0, none⟩) n cap, rfl, .inr ⟨g, cap, by show _ = Value.slice _ l.length cap; rw [HN.out], by show l.length ≤ cap; rw [HN.out]; exact h4, by show l.length ≤ _; rw [HN.out]; exact h3, fun k x hx => HR.out k _ (by rw [List.getElem?_map, hx]; rfl)⟩, Below.refl _ _⟩
  | 7, h =>
    simp only [IsEx] at h
    obtain ⟨_, _, h3, g, cap, rfl, h4, _, hr⟩ := h
    have HR := hide hr
    clear hr
    have hcap := h4
    generalize hn : l.length = n at *
    have HN := hide hn
    clear hn
    go_enter Tryz.func86, Tryz.ntmps86
    go_wp2
    go_ret
    exact ⟨.slice (some ⟨g, 0, none⟩) n cap, rfl, .inr ⟨g, cap, by show _ = Value.slice _ l.length cap; rw [HN.out], by show l.length ≤ cap; rw [HN.out]; exact h4, by show l.length ≤ _; rw [HN.out]; exact h3, fun k x hx => HR.out k _ (by rw [List.getElem?_map, hx]; rfl)⟩, Below.refl _ _⟩
  | n + 8, h => simp only [IsEx] at h
end
section
open Go.RowKit
/-- a closure that tells of each name whether it is so; it changes nothing -/
def Tells (f : Value) (p : List UInt8 → Bool) (w : World) : Prop :=
  ∃ K c, f = .func (.func K) #[] #[c] ∧ Entered K ∧ ∀ (W : World), Below w.heap.size w W → ∀ nm : List UInt8, Calls Tryz.prog K #[.string ⟨nm.toArray⟩, c] W fun e W' => e = .returned (.bool (p nm)) ∧ W' = W
theorem Tells.below {f : Value} {p : List UInt8 → Bool} {w w' : World} (h : Tells f p w) (hb : Below w.heap.size w w') : Tells f p w' := by
  obtain ⟨K, c, h1, h2, h3⟩ := h
  exact ⟨K, c, h1, h2, fun W hW => h3 W (hb.trans (hW.mono hb.size))⟩
theorem orNever_any (K : Nat) (c : Value) (w : World) : Calls Tryz.prog 31 #[.func (.func K) #[] #[c]] w fun e w' => e = .returned (.func (.func K) #[] #[c]) ∧ w' = w := by
  have hn : ∀ w : World, (binOp .eql 49 (.func (.func K) #[] #[c]) .nilFunc).run Tryz.prog w = .ok (.bool false) w := fun _ => by kernel_rfl
  go_enter Tryz.func31, Tryz.ntmps31
  go_wp2
  go_ret
  exact ⟨rfl, rfl⟩
/-- eval, at this expression -/
def EvalOK (x : Ex) : Prop := ∀ (v fi fw : Value) (is was : List UInt8 → Bool) (w : World), IsEx (fun _ => True) w x v → Tells fi is w → Tells fw was w →
  Calls Tryz.prog 30 #[v, fi, fw] w fun e w' => e = .returned (.bool (x.eval is was)) ∧ Below w.heap.size w w'
theorem beq_b (a b : Bool) : (a == b) = (if a = b then true else false) := by cases a <;> cases b <;> rfl
set_option maxHeartbeats 1000000 in
theorem hasOne_any (xs : List Ex) (hx : ∀ x, x ∈ xs → EvalOK x) (this : Bool) (g cap : Nat) (_hcap : xs.length ≤ cap) (hmx : xs.length ≤ 9223372036854775807) (fi fw : Value) (is was : List UInt8 → Bool) (w : World)
    (hc : ∀ (k : Nat) (x : Ex), xs[k]? = some x → ∃ u, w.cell? ⟨g, k, none⟩ = some u ∧ IsEx (fun _ => True) w x u) (hi : Tells fi is w) (hw : Tells fw was w) :
    Calls Tryz.prog 53 #[.slice (some ⟨g, 0, none⟩) xs.length cap, .bool this, fi, fw] w fun e w' => e = .returned (.bool ((xs.map fun x => x.eval is was).any (· == this))) ∧ Below w.heap.size w w' := by
  have HX := hide hx
  have HC := hide hc
  have HI := hide hi
  have HW := hide hw
  clear hx hc hi hw
  generalize hn : xs.length = n at *
  have HN := hide hn
  clear hn
  go_enter Tryz.func53, Tryz.ntmps53
  go_wp2_with fail
  go_loopw [13] (fun i wr => ∃ k : Nat, k ≤ n ∧ i = .int .i64 (k : Int) ∧ ((xs.take k).map fun x => x.eval is was).any (· == this) = false ∧ Below w.heap.size w wr) (fun i _ => n - (intOf i).toNat)
  case atStart => exact ⟨0, Nat.zero_le _, rfl, by simp, Below.refl _ _⟩
  case round =>
    obtain ⟨j, hj, rfl, hno, hbr⟩ := hrel
    have HNO := hide hno
    have HBR := hide hbr
    clear hno hbr
    by_cases hlt : j < n
    · have hjl : j < xs.length := by rw [HN.out]; exact hlt
      obtain ⟨u, hu, hxu⟩ := HC.out j xs[j] (List.getElem?_eq_getElem hjl)
      have hcell : wr.cell? ⟨g, j, none⟩ = some u := Stay.below (ok := fun _ => True) HBR.out g j u trivial hu
      have HE := hide (HX.out xs[j] (List.getElem_mem hjl) u fi fw is was wr (IsEx.stay (Stay.below HBR.out) (fun g hg => hg) _ u hxu) (HI.out.below HBR.out) (HW.out.below HBR.out))
      have HT : Hid (((xs.take (j + 1)).map fun x => x.eval is was).any (· == this) = (xs[j].eval is was == this)) := by
        show _ = _
        rw [List.take_succ_eq_append_getElem hjl, List.map_append, List.any_append, HNO.out]
        simp
      have HTRUE : Hid ((xs[j].eval is was == this) = true → ((xs.map fun x => x.eval is was).any (· == this)) = true) := fun h => by
        rw [List.any_eq_true]
        exact ⟨xs[j].eval is was, List.mem_map_of_mem (List.getElem_mem hjl), h⟩
      obtain ⟨tu2, yu2, hiu2⟩ := IsEx.iface _ u hxu
      subst hiu2
      clear hu hxu
      generalize xs[j].eval is was = bv at *
      clear hjl
      go_wp2_with fail
      refine HE.out.mono ?_
      rintro e w2 ⟨rfl, hb2⟩
      have HB2 := hide hb2
      clear hb2 HE
      cases hbt : (bv == this) with
      | true =>
        have HF := hide (HTRUE.out hbt)
        go_wp2_with fail
        go_ret
        exact ⟨ret_bool HF.out.symm, HBR.out.trans (HB2.out.mono HBR.out.size)⟩
      | false =>
        rw [hbt] at HT
        go_wp2_with fail
        go_roundw
        case rel => exact ⟨j + 1, by omega, by go_num, HT.out, HBR.out.trans (HB2.out.mono HBR.out.size)⟩
        case measure => simp [intOf]; omega
    · have hjn : j = n := by omega
      have HF : Hid ((xs.map fun x => x.eval is was).any (· == this) = false) := by
        show _ = _
        have := HNO.out
        rwa [List.take_of_length_le (by rw [HN.out]; omega)] at this
      clear hjn
      go_wp2_with fail
      go_ret
      exact ⟨ret_bool HF.out.symm, HBR.out⟩
theorem any_true (l : List Bool) : l.any (· == true) = l.any id := by congr 1; funext b; cases b <;> rfl
theorem all_false (l : List Bool) : (!(l.any (· == false))) = l.all id := by
  induction l with
  | nil => rfl
  | cons a r ih => cases a <;> simp_all
set_option maxHeartbeats 2000000 in
theorem eval_any (x : Ex) : EvalOK x := by
  induction x using Ex.ind with
  | h k nm l ih =>
    intro v fi fw is was w h hi hw
    have HIH := hide ih
    have HI := hide hi
    have HW := hide hw
    obtain ⟨Ki, ci, hfi, hei, hti⟩ := hi
    obtain ⟨Kw, cw, hfw, hew, htw⟩ := hw
    have HTI := hide (hti w (Below.refl _ _))
    have HTW := hide (htw w (Below.refl _ _))
    have hei' : ∀ (args : Array Value) (w : World), (callFunc Ki args).run Tryz.prog w = .ok (.enter Ki args) w := hei
    have hew' : ∀ (args : Array Value) (w : World), (callFunc Kw args).run Tryz.prog w = .ok (.enter Kw args) w := hew
    subst hfi
    subst hfw
    clear hti htw hei hew ih
    match k, h with
    | 0, h =>
      simp only [IsEx] at h
      obtain ⟨_, _, rfl⟩ := h
      have HF : Hid ((⟨0, nm, l⟩ : Ex).eval is was = false) := by show _ = _; simp [Ex.eval]
      go_enter Tryz.func30, Tryz.ntmps30
      go_wp2_with fail
      go_ret
      exact ⟨ret_bool HF.out.symm, Below.refl _ _⟩
    | 1, h =>
      simp only [IsEx] at h
      obtain ⟨_, _, rfl⟩ := h
      have HF : Hid ((⟨1, nm, l⟩ : Ex).eval is was = true) := by show _ = _; simp [Ex.eval]
      go_enter Tryz.func30, Tryz.ntmps30
      go_wp2_with fail
      go_ret
      exact ⟨ret_bool HF.out.symm, Below.refl _ _⟩
    | 2, h =>
      simp only [IsEx] at h
      obtain ⟨_, _, rfl⟩ := h
      have HF : Hid ((⟨2, nm, l⟩ : Ex).eval is was = is nm) := by show _ = _; simp [Ex.eval]
      have HC := hide (HTI.out nm)
      go_enter Tryz.func30, Tryz.ntmps30
      go_wp2_with fail
      refine HC.out.mono ?_
      rintro e w1 ⟨rfl, rfl⟩
      go_wp2_with fail
      go_ret
      exact ⟨ret_bool HF.out.symm, Below.refl _ _⟩
    | 3, h =>
      simp only [IsEx] at h
      obtain ⟨_, _, rfl⟩ := h
      have HF : Hid ((⟨3, nm, l⟩ : Ex).eval is was = (is nm && !was nm)) := by show _ = _; simp [Ex.eval]
      have HC := hide (HTI.out nm)
      have HD := hide (HTW.out nm)
      generalize is nm = bi at *
      generalize was nm = bw at *
      cases bi with
      | false =>
        go_enter Tryz.func30, Tryz.ntmps30
        go_wp2_with fail
        refine HC.out.mono ?_
        rintro e w1 ⟨rfl, rfl⟩
        go_wp2_with fail
        go_ret
        exact ⟨ret_bool HF.out.symm, Below.refl _ _⟩
      | true =>
        go_enter Tryz.func30, Tryz.ntmps30
        go_wp2_with fail
        refine HC.out.mono ?_
        rintro e w1 ⟨rfl, rfl⟩
        go_wp2_with fail
        refine HD.out.mono ?_
        rintro e w2 ⟨rfl, rfl⟩
        go_wp2_with fail
        go_ret
        exact ⟨ret_bool (by rw [HF.out]; rfl), Below.refl _ _⟩
    | 4, h =>
      simp only [IsEx] at h
      obtain ⟨_, _, rfl⟩ := h
      have HF : Hid ((⟨4, nm, l⟩ : Ex).eval is was = (!is nm && was nm)) := by show _ = _; simp [Ex.eval]
      have HC := hide (HTI.out nm)
      have HD := hide (HTW.out nm)
      generalize is nm = bi at *
      generalize was nm = bw at *
      cases bi with
      | true =>
        go_enter Tryz.func30, Tryz.ntmps30
        go_wp2_with fail
        refine HC.out.mono ?_
        rintro e w1 ⟨rfl, rfl⟩
        go_wp2_with fail
        go_ret
        exact ⟨ret_bool HF.out.symm, Below.refl _ _⟩
      | false =>
        go_enter Tryz.func30, Tryz.ntmps30
        go_wp2_with fail
        refine HC.out.mono ?_
        rintro e w1 ⟨rfl, rfl⟩
        go_wp2_with fail
        refine HD.out.mono ?_
        rintro e w2 ⟨rfl, rfl⟩
        go_wp2_with fail
        go_ret
        exact ⟨ret_bool (by rw [HF.out]; rfl), Below.refl _ _⟩
    | 5, h =>
      simp only [IsEx] at h
      obtain ⟨_, h1, u, rfl, h3⟩ := h
      match l, h1, HIH with
      | [y], _, HIH =>
        have hy : IsEx (fun _ => True) w y u := h3 _ rfl
        have hb : Below w.heap.size w (w.alloc (.cells #[u] 59)) := (Below.refl _ w).alloc (Nat.le_refl _) _
        have HF : Hid ((⟨5, nm, [y]⟩ : Ex).eval is was = !(y.eval is was)) := by show _ = _; simp [Ex.eval]
        have HC := hide (HIH.out y (by simp) u _ _ is was _ (IsEx.stay (Stay.below hb) (fun g hg => hg) y u hy) (HI.out.below hb) (HW.out.below hb))
        have HB := hide hb
        obtain ⟨tu, yu, hiu⟩ := IsEx.iface y u hy
        subst hiu
        clear h3 hy hb
        go_enter Tryz.func30, Tryz.ntmps30
        go_wp2_with fail
        refine HC.out.mono ?_
        rintro e w1 ⟨rfl, hb1⟩
        have HB1 := hide hb1
        clear hb1 HC
        go_wp2_with fail
        go_ret
        exact ⟨ret_bool HF.out.symm, HB.out.trans (HB1.out.mono (by simp))⟩
    | 6, h =>
      simp only [IsEx] at h
      obtain ⟨_, _, h3, g, cap, rfl, h4, _, hr⟩ := h
      have HF : Hid ((⟨6, nm, l⟩ : Ex).eval is was = !((l.map fun x => x.eval is was).any (· == false))) := by show _ = _; rw [all_false]; simp [Ex.eval]
      have HC := hide (hasOne_any l HIH.out false g cap h4 h3 _ _ is was w (fun k x hx => hr k _ (by rw [List.getElem?_map, hx]; rfl)) HI.out HW.out)
      clear hr
      generalize (l.map fun x => x.eval is was).any (· == false) = bv at *
      generalize l.length = n at *
      go_enter Tryz.func30, Tryz.ntmps30
      go_wp2_with fail
      refine HC.out.mono ?_
      rintro e w1 ⟨rfl, hb1⟩
      have HB1 := hide hb1
      clear hb1 HC
      go_wp2_with fail
      go_ret
      exact ⟨ret_bool HF.out.symm, HB1.out⟩
    | 7, h =>
      simp only [IsEx] at h
      obtain ⟨_, _, h3, g, cap, rfl, h4, _, hr⟩ := h
      have HF : Hid ((⟨7, nm, l⟩ : Ex).eval is was = (l.map fun x => x.eval is was).any (· == true)) := by show _ = _; rw [any_true]; simp [Ex.eval]
      have HC := hide (hasOne_any l HIH.out true g cap h4 h3 _ _ is was w (fun k x hx => hr k _ (by rw [List.getElem?_map, hx]; rfl)) HI.out HW.out)
      clear hr
      generalize (l.map fun x => x.eval is was).any (· == true) = bv at *
      generalize l.length = n at *
      go_enter Tryz.func30, Tryz.ntmps30
      go_wp2_with fail
      refine HC.out.mono ?_
      rintro e w1 ⟨rfl, hb1⟩
      have HB1 := hide hb1
      clear hb1 HC
      go_wp2_with fail
      go_ret
      exact ⟨ret_bool HF.out.symm, HB1.out⟩
    | n + 8, h => simp only [IsEx] at h
/-- the deferred closure of Eval, where nothing panics -/
theorem Eval_idle (p : Addr) (w : World) :
    CallsD Tryz.prog 29 #[.pointer (some p)] .returning w fun e u' w' => e = .returned (.tuple #[]) ∧ u' = .returning ∧ w' = w := by
  refine callsD_of_wpS Tryz.func29 rfl fun c₀ cs hu => ?_
  apply wpS_seq
  apply wpS_region
  simp [wpOpsS, go_sem, recoverD, hu, Tryz.ntmps29, Exit.thenS]
  refine wpS_cond (t := false) (by simp [Act.eval, Array.replicate]) ?_
  simp only [Bool.false_eq_true, if_false]
  refine wpS_of_wp (wp_skip ?_)
  cases c₀
  simp_all [bodyPostS, results, Tryz.results29]
set_option maxHeartbeats 1000000 in
/-- Eval, at every expression: the plain function 'eval' -/
theorem Eval_any (ok : Nat → Prop) (x : Ex) (v fi fw : Value) (is was : List UInt8 → Bool) (w : World) (h : IsEx ok w x v) (hi : Tells fi is w) (hw : Tells fw was w) :
    Calls Tryz.prog 12 #[v, fi, fw] w fun e w' => e = .returned (.bool (x.eval is was)) ∧ Below w.heap.size w w' := by
  have hmf : ∀ (fn : Fn) (first cap : Array Value) (w : World), (Instr.makeFunc fn first cap).run Tryz.prog w = .ok (.func fn first cap) w := fun _ _ _ _ => rfl
  have hb : Below w.heap.size w (w.alloc (.cells #[.bool false] 4)) := (Below.refl _ w).alloc (Nat.le_refl _) _
  have HC := hide (eval_any x v fi fw is was _ (IsEx.stay (Stay.below hb) (fun g _ => trivial) x v h) (hi.below hb) (hw.below hb))
  obtain ⟨tu, yu, hiu⟩ := IsEx.iface x v h
  obtain ⟨Ki, ci, hfi, hei, hti⟩ := hi
  obtain ⟨Kw, cw, hfw, hew, htw⟩ := hw
  subst hiu
  subst hfi
  subst hfw
  clear h hb hei hti hew htw
  generalize x.eval is was = bv at *
  go_enter_defers Tryz.func12, Tryz.ntmps12
  go_wp2_with fail
  refine (orNever_any Ki ci _).mono ?_
  rintro e w0 ⟨rfl, rfl⟩
  go_wp2_with fail
  refine (orNever_any Kw cw _).mono ?_
  rintro e w0 ⟨rfl, rfl⟩
  go_wp2_with fail
  refine HC.out.mono ?_
  rintro e w1 ⟨rfl, hb⟩
  have hsz : w.heap.size < w1.heap.size := by have := hb.size; simp at this; omega
  have hc0 : w1.cell? ⟨w.heap.size, 0, none⟩ = some (.bool false) := by rw [hb.cell (by simp)]; simp
  have hf0 : w1.frozen? ⟨w.heap.size, 0, none⟩ = false := by rw [hb.frozen (by simp)]; simp [go_sem]
  have HB : Hid (Below w.heap.size w w1) := ((Below.refl _ w).alloc (Nat.le_refl _) _).trans (hb.mono (by simp))
  clear hb HC
  go_wp2_with fail
  refine leaves_cons (f := 29) (args := #[.pointer (some ⟨w.heap.size, 0, none⟩)]) (by simp) (by simp [go_sem]) ?_
  refine (Eval_idle ⟨w.heap.size, 0, none⟩ _).mono ?_
  rintro e u' w'' ⟨rfl, rfl, rfl⟩
  have hc2 : (w1.setCell ⟨w.heap.size, 0, none⟩ (.bool bv)).cell? ⟨w.heap.size, 0, none⟩ = some (.bool bv) := World.cell?_setCell_same w1 _ _ hc0
  have HX := HB.out.setCell (p := ⟨w.heap.size, 0, none⟩) (Nat.le_refl _) (.bool bv)
  simp [Leaves, settle, results, Tryz.results12, go_sem, hc2]
  exact HX
end
section
open Go.RowKit
/-- a slice of strings -/
def Strs (w : World) (sv : Value) (ss : List ByteArray) : Prop :=
  (ss = [] ∧ ∃ a cap, sv = .slice a 0 cap) ∨ ∃ g o cap, sv = .slice (some ⟨g, o, none⟩) ss.length cap ∧ ss.length ≤ cap ∧ ss.length ≤ 1000000 ∧ ∀ k s, ss[k]? = some s → w.cell? ⟨g, o + k, none⟩ = some (.string s)
theorem Strs.below {w w' : World} {sv : Value} {ss : List ByteArray} (h : Strs w sv ss) (hb : Below w.heap.size w w') : Strs w' sv ss := by
  rcases h with h | ⟨g, o, cap, h1, h2, h3, h4⟩
  · exact .inl h
  · exact .inr ⟨g, o, cap, h1, h2, h3, fun k s hs => Stay.below (ok := fun _ => True) hb g _ _ trivial (h4 k s hs)⟩
/-- is a name one of these? -/
def amongB (ss : List ByteArray) (nm : List UInt8) : Bool := ss.any fun s => s.data.toList == nm
theorem bytes_list (l : List UInt8) : (⟨l.toArray⟩ : ByteArray).toList = l := by rw [ByteArray.toList_eq]
end
section
open Go.RowKit
theorem isCounted_any (k : Int) (w : World) : Calls Tryz.prog 117 #[.int .i64 k] w fun e w' => e = .returned (.bool (Ld.counted k)) ∧ w' = w := by
  by_cases h3 : k = 3 <;> by_cases h4 : k = 4
  all_goals
    go_enter Tryz.func117, Tryz.ntmps117
    go_wp2
    go_ret
    exact ⟨by simp [Ld.counted, *], rfl⟩
theorem kindOf_any (k : Int) (w : World) : Calls Tryz.prog 85 #[.int .i64 k] w fun e w' => e = .returned (.int .i64 (Ld.kindOf k)) ∧ w' = w := by
  by_cases h4 : k = 4
  · subst h4
    go_enter Tryz.func85, Tryz.ntmps85
    go_wp2
    go_ret
    exact ⟨rfl, rfl⟩
  by_cases h5 : k = 5
  · subst h5
    go_enter Tryz.func85, Tryz.ntmps85
    go_wp2
    go_ret
    exact ⟨rfl, rfl⟩
  by_cases h6 : k = 6
  · subst h6
    go_enter Tryz.func85, Tryz.ntmps85
    go_wp2
    go_ret
    exact ⟨rfl, rfl⟩
  have HK : Hid (Ld.kindOf k = 2) := by show _ = _; simp [Ld.kindOf, h4, h5, h6]
  have e4 : (k == 4) = false := by simpa using h4
  have e5 : (k == 5) = false := by simpa using h5
  have e6 : (k == 6) = false := by simpa using h6
  clear h4 h5 h6
  go_enter Tryz.func85, Tryz.ntmps85
  go_wp2
  go_ret
  exact ⟨by rw [HK.out]; rfl, rfl⟩
theorem mayCount_any (k c : Int) (w : World) : Calls Tryz.prog 84 #[.int .i64 k, .int .i64 c] w fun e w' => e = .returned (.bool (Ld.mayCount k c)) ∧ w' = w := by
  cases hk : Ld.counted k with
  | true =>
    by_cases h1 : 1 ≤ c
    · by_cases h2 : c ≤ 7
      all_goals
        go_enter Tryz.func84, Tryz.ntmps84
        go_wp2_with (go_at_call 117; refine (isCounted_any _ _).mono ?_; rintro e w' ⟨rfl, rfl⟩; rw [hk])
        go_ret
        exact ⟨by simp [Ld.mayCount, *], rfl⟩
    · go_enter Tryz.func84, Tryz.ntmps84
      go_wp2_with (go_at_call 117; refine (isCounted_any _ _).mono ?_; rintro e w' ⟨rfl, rfl⟩; rw [hk])
      go_ret
      exact ⟨by simp [Ld.mayCount, *]; omega, rfl⟩
  | false =>
    by_cases h1 : c = 0
    all_goals
      go_enter Tryz.func84, Tryz.ntmps84
      go_wp2_with (go_at_call 117; refine (isCounted_any _ _).mono ?_; rintro e w' ⟨rfl, rfl⟩; rw [hk])
      go_ret
      exact ⟨by simp [Ld.mayCount, *], rfl⟩
/-- a predicate on names, as a function value: it says this of each, and changes nothing old -/
def NPred (w : World) (f : Value) (p : Ld.Nme → Bool) : Prop := ∃ K c, f = .func (.func K) #[] #[c] ∧ Entered K ∧ ∀ (n : Ld.Nme) (W : World), Below w.heap.size w W → n.name.length ≤ maxLen →
  Calls Tryz.prog K #[.agg #[.string ⟨n.name.toArray⟩, .int .i64 n.kind, .int .i64 n.count], c] W fun e W' => e = .returned (.bool (p n)) ∧ Below W.heap.size W W'
theorem NPred.below {w w' : World} {f : Value} {p : Ld.Nme → Bool} (h : NPred w f p) (hb : Below w.heap.size w w') : NPred w' f p := by
  obtain ⟨K, c, h1, h2, h3⟩ := h
  exact ⟨K, c, h1, h2, fun n W hW => h3 n W (hb.trans (hW.mono hb.size))⟩
set_option maxHeartbeats 1000000 in
set_option maxRecDepth 100000 in
theorem number1_any (b : Nat) (s : List UInt8) (n : Ld.Nme) (w : World) (hc : w.cell? ⟨b, 0, none⟩ = some (.string ⟨s.toArray⟩)) :
    Calls Tryz.prog 56 #[.agg #[.string ⟨n.name.toArray⟩, .int .i64 n.kind, .int .i64 n.count], .pointer (some ⟨b, 0, none⟩)] w fun e w' => e = .returned (.bool (n.name == s)) ∧ Below w.heap.size w w' := by
  obtain ⟨nm, k, c⟩ := n
  go_enter Tryz.func56, Tryz.ntmps56
  have hb1 := bytes_list nm
  have hb2 := bytes_list s
  have hlt : b < w.heap.size := World.block_lt_of_cell? _ _ hc
  go_wp2
  go_ret
  exact ⟨by rfl, (Below.refl _ _).alloc (Nat.le_refl _) _⟩
set_option maxHeartbeats 2000000 in
set_option maxRecDepth 100000 in
theorem indexFunc_any (sv f : Value) (ns : List Ld.Nme) (p : Ld.Nme → Bool) (w : World) (hn : NamesAt w sv ns) (hf : NPred w f p) :
    Calls Tryz.prog 55 #[sv, f] w fun e w' => e = .returned (.int .i64 (Ld.numOf (ns.findIdx? p))) ∧ Below w.heap.size w w' := by
  obtain ⟨K, c, rfl, hent, hp⟩ := hf
  have hent' : ∀ (args : Array Value) (w : World), (callFunc K args).run Tryz.prog w = .ok (.enter K args) w := hent
  have HP := hide hp
  clear hent hp
  rcases hn with ⟨rfl, a, cap, rfl⟩ | ⟨g, cap, rfl, hcap, hlen, hcell⟩
  · go_enter Tryz.func55, Tryz.ntmps55
    go_wp2_with fail
    go_loopw [8] (fun i wr => i = .int .i64 0 ∧ wr = w) (fun _ _ => 0)
    case atStart => exact ⟨rfl, rfl⟩
    case round =>
      obtain ⟨rfl, rfl⟩ := hrel
      go_wp2_with fail
      go_ret
      exact ⟨rfl, Below.refl _ _⟩
  · have HC := hide hcell
    generalize hnn : ns.length = n at *
    have HN := hide hnn
    clear hcell hnn
    go_enter Tryz.func55, Tryz.ntmps55
    go_wp2_with fail
    go_loopw [8] (fun i wr => ∃ k : Nat, k ≤ n ∧ i = .int .i64 (k : Int) ∧ Hid (∀ j x, j < k → ns[j]? = some x → p x = false) ∧ Hid (Below w.heap.size w wr)) (fun i _ => n - (intOf i).toNat)
    case atStart => exact ⟨0, Nat.zero_le _, rfl, fun j x hj => absurd hj (Nat.not_lt_zero j), Below.refl _ _⟩
    case round =>
      obtain ⟨k, hk, rfl, HNO, HB⟩ := hrel
      by_cases hlt : k < n
      · have hkl : k < ns.length := by rw [HN.out]; exact hlt
        obtain ⟨e1, e2, e3, e4, e5⟩ := HC.out k ns[k] (List.getElem?_eq_getElem hkl)
        have c1 := (HB.out.cell (World.block_lt_of_cell? _ _ e1)).trans e1
        have c2 := (HB.out.cell (World.block_lt_of_cell? _ _ e2)).trans e2
        have c3 := (HB.out.cell (World.block_lt_of_cell? _ _ e3)).trans e3
        have HCALL := hide (HP.out ns[k] wr HB.out e4)
        have HHIT : Hid (p ns[k] = true → ns.findIdx? p = some k) := fun hp => by
          rw [List.findIdx?_eq_some_iff_getElem]
          exact ⟨hkl, hp, fun j hj => by rw [HNO.out j ns[j] hj (List.getElem?_eq_getElem (by omega))]; decide⟩
        have HON : Hid (p ns[k] = false → ∀ j x, j < k + 1 → ns[j]? = some x → p x = false) := fun hp j x hj hx => by
          by_cases e : j = k
          · subst e; rw [List.getElem?_eq_getElem hkl] at hx; cases hx; exact hp
          · exact HNO.out j x (by omega) hx
        clear e1 e2 e3 e4 e5
        generalize ns[k] = y at *
        go_wp2_with fail
        refine HCALL.out.mono ?_
        rintro e w1 ⟨rfl, hb1⟩
        have HB1 := hide (HB.out.trans (hb1.mono HB.out.size))
        clear hb1 HCALL
        cases hpy : p y with
        | true =>
          have HF := hide (HHIT.out hpy)
          go_wp2_with fail
          go_ret
          exact ⟨by rw [HF.out]; rfl, HB1.out⟩
        | false =>
          have HF := hide (HON.out hpy)
          go_wp2_with fail
          go_roundw
          case rel => exact ⟨k + 1, by omega, by go_num, HF.out, HB1.out⟩
          case measure => simp [intOf]; omega
      · have hkn : k = n := by omega
        have HF : Hid (ns.findIdx? p = none) := by
          show _ = _
          rw [List.findIdx?_eq_none_iff]
          intro x hx
          obtain ⟨j, hj, rfl⟩ := List.getElem_of_mem hx
          exact HNO.out j _ (by rw [HN.out] at hj; omega) (List.getElem?_eq_getElem hj)
        subst hkn
        go_wp2_with fail
        go_ret
        exact ⟨by rw [HF.out]; rfl, HB.out⟩
set_option maxHeartbeats 2000000 in
set_option maxRecDepth 100000 in
theorem Number_any (ns : List Ld.Nme) (nv rv : Value) (s : List UInt8) (w : World) (hn : NamesAt w nv ns) (hr : ∃ a n c, rv = .slice a n c) :
    Calls Tryz.prog 33 #[.agg #[nv, rv], .string ⟨s.toArray⟩] w fun e w' => e = .returned (.int .i64 (Ld.number ns s)) ∧ Below w.heap.size w w' := by
  have hmf : ∀ (fn : Fn) (first cap : Array Value) (w : World), (Instr.makeFunc fn first cap).run Tryz.prog w = .ok (.func fn first cap) w := fun _ _ _ _ => rfl
  obtain ⟨ra, rn, rc, rfl⟩ := hr
  have HNA := hide hn
  obtain ⟨na, nc, rfl, _⟩ := hn.slice
  clear hn
  generalize ns.length = nn at *
  obtain ⟨w2, hw2⟩ : ∃ w2, w2 = (w.alloc (.cells #[.slice na nn nc, .slice ra rn rc] 40)).alloc (.cells #[.string ⟨s.toArray⟩] 9) := ⟨_, rfl⟩
  have hb2 : Below w.heap.size w w2 := by rw [hw2]; exact ((Below.refl _ _).alloc (Nat.le_refl _) _).alloc (by simp) _
  have hc2 : w2.cell? ⟨w.heap.size + 1, 0, none⟩ = some (.string ⟨s.toArray⟩) := by rw [hw2]; simp [go_sem]
  have hs2 : w2.heap.size = w.heap.size + 1 + 1 := by rw [hw2]; simp
  have HI := hide (indexFunc_any (.slice na nn nc) (.func (.func 56) #[] #[.pointer (some ⟨w.heap.size + 1, 0, none⟩)]) ns (fun n => n.name == s) w2 (HNA.out.below hb2)
    ⟨56, _, rfl, fun _ _ => by kernel_rfl, fun n W hW hn => number1_any _ s n W ((hW.cell (p := ⟨w.heap.size + 1, 0, none⟩) (by show w.heap.size + 1 < _; omega)).trans hc2)⟩)
  rw [hw2] at HI
  have HB2 := hide hb2
  rw [hw2] at HB2
  clear hb2 hc2 hs2 hw2
  go_enter Tryz.func33, Tryz.ntmps33
  go_wp2_with fail
  refine HI.out.mono ?_
  rintro e w3 ⟨rfl, hb3⟩
  have HB3 := hide (HB2.out.trans (hb3.mono HB2.out.size))
  clear hb3 HI
  go_wp2_with fail
  go_ret
  exact ⟨rfl, HB3.out⟩
end
end Go.Proofs.YtgblillplgdbaaaGreatDoor
