/-
  What a type switch over an expression comes to, type by type. Expressions in memory: small facts. The walk of within: the parts right within an expression, as a slice. Slices of strings; is a name one of some?
-/
import Derived.Test.YtflonjbbolmelaaGreatDoorLdRepAll
import Derived.Test.YtflonjbbolmelaaGreatDoorRdKeepAll
import Derived.Defers
import Derived.Recover
namespace Go.Proofs.YtflonjbbolmelaaGreatDoor
section
@[go_sem] theorem asConstConst (v : Value) (w : World) : (Instr.typeAssert (.iface 105 v) 50 105 true).run Tryz.prog w = .ok (.tuple #[v, .bool true]) w := by kernel_rfl
@[go_sem] theorem asConstBit (v : Value) (w : World) : (Instr.typeAssert (.iface 105 v) 50 107 true).run Tryz.prog w = .ok (.tuple #[.string ⟨#[]⟩, .bool false]) w := by kernel_rfl
@[go_sem] theorem asConstRise (v : Value) (w : World) : (Instr.typeAssert (.iface 105 v) 50 128 true).run Tryz.prog w = .ok (.tuple #[.string ⟨#[]⟩, .bool false]) w := by kernel_rfl
@[go_sem] theorem asConstFall (v : Value) (w : World) : (Instr.typeAssert (.iface 105 v) 50 129 true).run Tryz.prog w = .ok (.tuple #[.string ⟨#[]⟩, .bool false]) w := by kernel_rfl
@[go_sem] theorem asConstNot (v : Value) (w : World) : (Instr.typeAssert (.iface 105 v) 50 103 true).run Tryz.prog w = .ok (.tuple #[.agg #[.nilIface], .bool false]) w := by kernel_rfl
@[go_sem] theorem asConstAnd (v : Value) (w : World) : (Instr.typeAssert (.iface 105 v) 50 106 true).run Tryz.prog w = .ok (.tuple #[.slice none 0 0, .bool false]) w := by kernel_rfl
@[go_sem] theorem asConstOr (v : Value) (w : World) : (Instr.typeAssert (.iface 105 v) 50 108 true).run Tryz.prog w = .ok (.tuple #[.slice none 0 0, .bool false]) w := by kernel_rfl
@[go_sem] theorem asBitConst (v : Value) (w : World) : (Instr.typeAssert (.iface 107 v) 50 105 true).run Tryz.prog w = .ok (.tuple #[.bool false, .bool false]) w := by kernel_rfl
@[go_sem] theorem asBitBit (v : Value) (w : World) : (Instr.typeAssert (.iface 107 v) 50 107 true).run Tryz.prog w = .ok (.tuple #[v, .bool true]) w := by kernel_rfl
@[go_sem] theorem asBitRise (v : Value) (w : World) : (Instr.typeAssert (.iface 107 v) 50 128 true).run Tryz.prog w = .ok (.tuple #[.string ⟨#[]⟩, .bool false]) w := by kernel_rfl
@[go_sem] theorem asBitFall (v : Value) (w : World) : (Instr.typeAssert (.iface 107 v) 50 129 true).run Tryz.prog w = .ok (.tuple #[.string ⟨#[]⟩, .bool false]) w := by kernel_rfl
@[go_sem] theorem asBitNot (v : Value) (w : World) : (Instr.typeAssert (.iface 107 v) 50 103 true).run Tryz.prog w = .ok (.tuple #[.agg #[.nilIface], .bool false]) w := by kernel_rfl
@[go_sem] theorem asBitAnd (v : Value) (w : World) : (Instr.typeAssert (.iface 107 v) 50 106 true).run Tryz.prog w = .ok (.tuple #[.slice none 0 0, .bool false]) w := by kernel_rfl
@[go_sem] theorem asBitOr (v : Value) (w : World) : (Instr.typeAssert (.iface 107 v) 50 108 true).run Tryz.prog w = .ok (.tuple #[.slice none 0 0, .bool false]) w := by kernel_rfl
@[go_sem] theorem asRiseConst (v : Value) (w : World) : (Instr.typeAssert (.iface 128 v) 50 105 true).run Tryz.prog w = .ok (.tuple #[.bool false, .bool false]) w := by kernel_rfl
@[go_sem] theorem asRiseBit (v : Value) (w : World) : (Instr.typeAssert (.iface 128 v) 50 107 true).run Tryz.prog w = .ok (.tuple #[.string ⟨#[]⟩, .bool false]) w := by kernel_rfl
@[go_sem] theorem asRiseRise (v : Value) (w : World) : (Instr.typeAssert (.iface 128 v) 50 128 true).run Tryz.prog w = .ok (.tuple #[v, .bool true]) w := by kernel_rfl
@[go_sem] theorem asRiseFall (v : Value) (w : World) : (Instr.typeAssert (.iface 128 v) 50 129 true).run Tryz.prog w = .ok (.tuple #[.string ⟨#[]⟩, .bool false]) w := by kernel_rfl
@[go_sem] theorem asRiseNot (v : Value) (w : World) : (Instr.typeAssert (.iface 128 v) 50 103 true).run Tryz.prog w = .ok (.tuple #[.agg #[.nilIface], .bool false]) w := by kernel_rfl
@[go_sem] theorem asRiseAnd (v : Value) (w : World) : (Instr.typeAssert (.iface 128 v) 50 106 true).run Tryz.prog w = .ok (.tuple #[.slice none 0 0, .bool false]) w := by kernel_rfl
@[go_sem] theorem asRiseOr (v : Value) (w : World) : (Instr.typeAssert (.iface 128 v) 50 108 true).run Tryz.prog w = .ok (.tuple #[.slice none 0 0, .bool false]) w := by kernel_rfl
@[go_sem] theorem asFallConst (v : Value) (w : World) : (Instr.typeAssert (.iface 129 v) 50 105 true).run Tryz.prog w = .ok (.tuple #[.bool false, .bool false]) w := by kernel_rfl
@[go_sem] theorem asFallBit (v : Value) (w : World) : (Instr.typeAssert (.iface 129 v) 50 107 true).run Tryz.prog w = .ok (.tuple #[.string ⟨#[]⟩, .bool false]) w := by kernel_rfl
@[go_sem] theorem asFallRise (v : Value) (w : World) : (Instr.typeAssert (.iface 129 v) 50 128 true).run Tryz.prog w = .ok (.tuple #[.string ⟨#[]⟩, .bool false]) w := by kernel_rfl
@[go_sem] theorem asFallFall (v : Value) (w : World) : (Instr.typeAssert (.iface 129 v) 50 129 true).run Tryz.prog w = .ok (.tuple #[v, .bool true]) w := by kernel_rfl
@[go_sem] theorem asFallNot (v : Value) (w : World) : (Instr.typeAssert (.iface 129 v) 50 103 true).run Tryz.prog w = .ok (.tuple #[.agg #[.nilIface], .bool false]) w := by kernel_rfl
@[go_sem] theorem asFallAnd (v : Value) (w : World) : (Instr.typeAssert (.iface 129 v) 50 106 true).run Tryz.prog w = .ok (.tuple #[.slice none 0 0, .bool false]) w := by kernel_rfl
@[go_sem] theorem asFallOr (v : Value) (w : World) : (Instr.typeAssert (.iface 129 v) 50 108 true).run Tryz.prog w = .ok (.tuple #[.slice none 0 0, .bool false]) w := by kernel_rfl
@[go_sem] theorem asNotConst (v : Value) (w : World) : (Instr.typeAssert (.iface 103 v) 50 105 true).run Tryz.prog w = .ok (.tuple #[.bool false, .bool false]) w := by kernel_rfl
@[go_sem] theorem asNotBit (v : Value) (w : World) : (Instr.typeAssert (.iface 103 v) 50 107 true).run Tryz.prog w = .ok (.tuple #[.string ⟨#[]⟩, .bool false]) w := by kernel_rfl
@[go_sem] theorem asNotRise (v : Value) (w : World) : (Instr.typeAssert (.iface 103 v) 50 128 true).run Tryz.prog w = .ok (.tuple #[.string ⟨#[]⟩, .bool false]) w := by kernel_rfl
@[go_sem] theorem asNotFall (v : Value) (w : World) : (Instr.typeAssert (.iface 103 v) 50 129 true).run Tryz.prog w = .ok (.tuple #[.string ⟨#[]⟩, .bool false]) w := by kernel_rfl
@[go_sem] theorem asNotNot (v : Value) (w : World) : (Instr.typeAssert (.iface 103 v) 50 103 true).run Tryz.prog w = .ok (.tuple #[v, .bool true]) w := by kernel_rfl
@[go_sem] theorem asNotAnd (v : Value) (w : World) : (Instr.typeAssert (.iface 103 v) 50 106 true).run Tryz.prog w = .ok (.tuple #[.slice none 0 0, .bool false]) w := by kernel_rfl
@[go_sem] theorem asNotOr (v : Value) (w : World) : (Instr.typeAssert (.iface 103 v) 50 108 true).run Tryz.prog w = .ok (.tuple #[.slice none 0 0, .bool false]) w := by kernel_rfl
@[go_sem] theorem asAndConst (v : Value) (w : World) : (Instr.typeAssert (.iface 106 v) 50 105 true).run Tryz.prog w = .ok (.tuple #[.bool false, .bool false]) w := by kernel_rfl
@[go_sem] theorem asAndBit (v : Value) (w : World) : (Instr.typeAssert (.iface 106 v) 50 107 true).run Tryz.prog w = .ok (.tuple #[.string ⟨#[]⟩, .bool false]) w := by kernel_rfl
@[go_sem] theorem asAndRise (v : Value) (w : World) : (Instr.typeAssert (.iface 106 v) 50 128 true).run Tryz.prog w = .ok (.tuple #[.string ⟨#[]⟩, .bool false]) w := by kernel_rfl
@[go_sem] theorem asAndFall (v : Value) (w : World) : (Instr.typeAssert (.iface 106 v) 50 129 true).run Tryz.prog w = .ok (.tuple #[.string ⟨#[]⟩, .bool false]) w := by kernel_rfl
@[go_sem] theorem asAndNot (v : Value) (w : World) : (Instr.typeAssert (.iface 106 v) 50 103 true).run Tryz.prog w = .ok (.tuple #[.agg #[.nilIface], .bool false]) w := by kernel_rfl
@[go_sem] theorem asAndAnd (v : Value) (w : World) : (Instr.typeAssert (.iface 106 v) 50 106 true).run Tryz.prog w = .ok (.tuple #[v, .bool true]) w := by kernel_rfl
@[go_sem] theorem asAndOr (v : Value) (w : World) : (Instr.typeAssert (.iface 106 v) 50 108 true).run Tryz.prog w = .ok (.tuple #[.slice none 0 0, .bool false]) w := by kernel_rfl
@[go_sem] theorem asOrConst (v : Value) (w : World) : (Instr.typeAssert (.iface 108 v) 50 105 true).run Tryz.prog w = .ok (.tuple #[.bool false, .bool false]) w := by kernel_rfl
@[go_sem] theorem asOrBit (v : Value) (w : World) : (Instr.typeAssert (.iface 108 v) 50 107 true).run Tryz.prog w = .ok (.tuple #[.string ⟨#[]⟩, .bool false]) w := by kernel_rfl
@[go_sem] theorem asOrRise (v : Value) (w : World) : (Instr.typeAssert (.iface 108 v) 50 128 true).run Tryz.prog w = .ok (.tuple #[.string ⟨#[]⟩, .bool false]) w := by kernel_rfl
@[go_sem] theorem asOrFall (v : Value) (w : World) : (Instr.typeAssert (.iface 108 v) 50 129 true).run Tryz.prog w = .ok (.tuple #[.string ⟨#[]⟩, .bool false]) w := by kernel_rfl
@[go_sem] theorem asOrNot (v : Value) (w : World) : (Instr.typeAssert (.iface 108 v) 50 103 true).run Tryz.prog w = .ok (.tuple #[.agg #[.nilIface], .bool false]) w := by kernel_rfl
@[go_sem] theorem asOrAnd (v : Value) (w : World) : (Instr.typeAssert (.iface 108 v) 50 106 true).run Tryz.prog w = .ok (.tuple #[.slice none 0 0, .bool false]) w := by kernel_rfl
@[go_sem] theorem asOrOr (v : Value) (w : World) : (Instr.typeAssert (.iface 108 v) 50 108 true).run Tryz.prog w = .ok (.tuple #[v, .bool true]) w := by kernel_rfl
end
section
open Go.RowKit
theorem ret_str {a b : ByteArray} (h : a = b) : Ending.returned (.string a) = .returned (.string b) := by rw [h]
theorem IsEx.le7 {ok : Nat → Prop} {w : World} (x : Ex) (v : Value) (h : IsEx ok w x v) : x.kind ≤ 7 := by
  obtain ⟨k, nm, l⟩ := x
  match k, h with
  | 0, _ => simp
  | 1, _ => simp
  | 2, _ => simp
  | 3, _ => simp
  | 4, _ => simp
  | 5, _ => simp
  | 6, _ => simp
  | 7, _ => simp
  | n + 8, h => simp only [IsEx] at h
/-- an expression's rows lie in blocks that are there -/
theorem IsEx.lt {ok : Nat → Prop} {w : World} : ∀ (x : Ex) (v : Value), IsEx ok w x v → IsEx (fun g => ok g ∧ g < w.heap.size) w x v := by
  intro x
  induction x using Ex.ind with
  | h k nm l ih =>
    intro v h
    have sub : ∀ (i : Nat) (P : Value → Prop), (l.map fun x => IsEx (fun g => ok g ∧ g < w.heap.size) w x)[i]? = some P → ∃ Q : Value → Prop, (l.map fun x => IsEx ok w x)[i]? = some Q ∧ ∀ u, Q u → P u := by
      intro i P hP
      rw [List.getElem?_map] at hP
      cases hl : l[i]? with
      | none => rw [hl] at hP; simp at hP
      | some y =>
        rw [hl] at hP
        simp only [Option.map_some, Option.some.injEq] at hP
        exact ⟨IsEx ok w y, by rw [List.getElem?_map, hl]; rfl, fun u hu => by rw [← hP]; exact ih y (List.mem_of_getElem? hl) u hu⟩
    have hlist : ∀ t, IsList ok w t l.length (l.map fun x => IsEx ok w x) v → IsList (fun g => ok g ∧ g < w.heap.size) w t l.length (l.map fun x => IsEx (fun g => ok g ∧ g < w.heap.size) w x) v := by
      rintro t ⟨h1, h2, g, cap, h3, h4, h5, h6⟩
      have hg : g < w.heap.size := by
        obtain ⟨u, hu, _⟩ := h6 0 (IsEx ok w l[0]) (by rw [List.getElem?_map, List.getElem?_eq_getElem (by omega)]; rfl)
        exact World.block_lt_of_cell? _ _ hu
      refine ⟨h1, h2, g, cap, h3, h4, ⟨h5, hg⟩, ?_⟩
      intro i P hP
      obtain ⟨Q, hQ, hq⟩ := sub i P hP
      obtain ⟨u, hu, hx⟩ := h6 i Q hQ
      exact ⟨u, hu, hq u hx⟩
    match k, h with
    | 0, h => simp only [IsEx] at h ⊢; exact h
    | 1, h => simp only [IsEx] at h ⊢; exact h
    | 2, h => simp only [IsEx] at h ⊢; exact h
    | 3, h => simp only [IsEx] at h ⊢; exact h
    | 4, h => simp only [IsEx] at h ⊢; exact h
    | 5, h =>
      simp only [IsEx] at h ⊢
      obtain ⟨h1, h2, u, h3, h4⟩ := h
      refine ⟨h1, h2, u, h3, ?_⟩
      intro P hP
      obtain ⟨Q, hQ, hq⟩ := sub 0 P hP
      exact hq u (h4 Q hQ)
    | 6, h => simp only [IsEx] at h ⊢; exact ⟨h.1, hlist _ h.2⟩
    | 7, h => simp only [IsEx] at h ⊢; exact ⟨h.1, hlist _ h.2⟩
    | n + 8, h => simp only [IsEx] at h
/-- an expression is an interface value -/
theorem IsEx.iface {ok : Nat → Prop} {w : World} (x : Ex) (v : Value) (h : IsEx ok w x v) : ∃ t y, v = .iface t y := by
  obtain ⟨k, nm, l⟩ := x
  match k, h with
  | 0, h => simp only [IsEx] at h; exact ⟨_, _, h.2.2⟩
  | 1, h => simp only [IsEx] at h; exact ⟨_, _, h.2.2⟩
  | 2, h => simp only [IsEx] at h; exact ⟨_, _, h.2.2⟩
  | 3, h => simp only [IsEx] at h; exact ⟨_, _, h.2.2⟩
  | 4, h => simp only [IsEx] at h; exact ⟨_, _, h.2.2⟩
  | 5, h => simp only [IsEx] at h; obtain ⟨_, _, u, h, _⟩ := h; exact ⟨_, _, h⟩
  | 6, h => simp only [IsEx] at h; obtain ⟨_, _, _, _, _, h, _⟩ := h; exact ⟨_, _, h⟩
  | 7, h => simp only [IsEx] at h; obtain ⟨_, _, _, _, _, h, _⟩ := h; exact ⟨_, _, h⟩
  | n + 8, h => simp only [IsEx] at h
/-- a function that is there -/
def Entered (K : Nat) : Prop := ∀ (args : Array Value) (w : World), (callFunc K args).run Tryz.prog w = .ok (.enter K args) w
end
section
open Go.RowKit
theorem ret_int {a b : Int} (h : a = b) : Ending.returned (.int .i64 a) = .returned (.int .i64 b) := by rw [h]
/-- a slice of expressions -/
def Parts (w : World) (sv : Value) (xs : List Ex) : Prop :=
  (xs = [] ∧ sv = .slice none 0 0) ∨ ∃ g cap, sv = .slice (some ⟨g, 0, none⟩) xs.length cap ∧ xs.length ≤ cap ∧ xs.length ≤ 9223372036854775807 ∧ ∀ (k : Nat) (x : Ex), xs[k]? = some x → ∃ u, w.cell? ⟨g, k, none⟩ = some u ∧ IsEx (fun _ => True) w x u
theorem Parts.below {w w' : World} {sv : Value} {xs : List Ex} (h : Parts w sv xs) (hb : Below w.heap.size w w') : Parts w' sv xs := by
  rcases h with h | ⟨g, cap, h1, h2, h3, h4⟩
  · exact .inl h
  · refine .inr ⟨g, cap, h1, h2, h3, fun k x hx => ?_⟩
    obtain ⟨u, hu, he⟩ := h4 k x hx
    exact ⟨u, Stay.below (ok := fun _ => True) hb g k u trivial hu, IsEx.stay (Stay.below hb) (fun g hg => hg) x u he⟩
set_option maxHeartbeats 1000000 in
theorem within_parts (x : Ex) (v : Value) (w : World) (h : IsEx (fun _ => True) w x v) :
    Calls Tryz.prog 84 #[v] w fun e w' => ∃ sv, e = .returned sv ∧ Parts w' sv x.of ∧ Below w.heap.size w w' := by
  obtain ⟨k, nm, l⟩ := x
  match k, h with
  | 0, h =>
    simp only [IsEx] at h
    obtain ⟨_, hl, rfl⟩ := h
    go_enter Tryz.func84, Tryz.ntmps84
    go_wp2
    go_ret
    exact ⟨_, rfl, .inl ⟨hl, rfl⟩, Below.refl _ _⟩
  | 1, h =>
    simp only [IsEx] at h
    obtain ⟨_, hl, rfl⟩ := h
    go_enter Tryz.func84, Tryz.ntmps84
    go_wp2
    go_ret
    exact ⟨_, rfl, .inl ⟨hl, rfl⟩, Below.refl _ _⟩
  | 2, h =>
    simp only [IsEx] at h
    obtain ⟨hl, _, rfl⟩ := h
    go_enter Tryz.func84, Tryz.ntmps84
    go_wp2
    go_ret
    exact ⟨_, rfl, .inl ⟨hl, rfl⟩, Below.refl _ _⟩
  | 3, h =>
    simp only [IsEx] at h
    obtain ⟨hl, _, rfl⟩ := h
    go_enter Tryz.func84, Tryz.ntmps84
    go_wp2
    go_ret
    exact ⟨_, rfl, .inl ⟨hl, rfl⟩, Below.refl _ _⟩
  | 4, h =>
    simp only [IsEx] at h
    obtain ⟨hl, _, rfl⟩ := h
    go_enter Tryz.func84, Tryz.ntmps84
    go_wp2
    go_ret
    exact ⟨_, rfl, .inl ⟨hl, rfl⟩, Below.refl _ _⟩
  | 5, h =>
    simp only [IsEx] at h
    obtain ⟨_, h1, u, rfl, h3⟩ := h
    match l, h1 with
    | [y], _ =>
      have hy : IsEx (fun _ => True) w y u := h3 _ rfl
      obtain ⟨tu, yu, hiu⟩ := IsEx.iface y u hy
      subst hiu
      have HY := hide hy
      clear h3 hy
      go_enter Tryz.func84, Tryz.ntmps84
      go_wp2
      go_ret
      have hb : Below w.heap.size w ((w.alloc (.cells #[.iface tu yu] 103)).alloc (.cells #[.iface tu yu] 50)) := ((Below.refl _ w).alloc (Nat.le_refl _) _).alloc (by simp) _
      refine ⟨_, rfl, .inr ⟨w.heap.size + 1, 1, rfl, by simp, by simp, ?_⟩, hb⟩
      intro k x hk
      match k, hk with
      | 0, hk =>
        simp only [List.getElem?_cons_zero, Option.some.injEq] at hk
        subst hk
        exact ⟨_, by simp [go_sem], IsEx.stay (Stay.below hb) (fun g hg => hg) y _ HY.out⟩
      | k + 1, hk => simp at hk
  | 6, h =>
    simp only [IsEx] at h
    obtain ⟨_, _, h3, g, cap, rfl, h4, _, hr⟩ := h
    have HR := hide hr
    clear hr
    have hcap := h4
    generalize hn : l.length = n at *
    have HN := hide hn
    clear hn
    go_enter Tryz.func84, Tryz.ntmps84
    go_wp2
    go_ret
    exact ⟨.slice (some ⟨g, 0, none⟩) n cap, rfl, .inr ⟨g, cap, by show _ = Value.slice _ l.length cap; rw [HN.out], by show l.length ≤ cap; rw [HN.out]; exact h4, by show l.length ≤ _; rw [HN.out]; exact h3, fun k x hx => HR.out k _ (by rw [List.getElem?_map, hx]; rfl)⟩, Below.refl _ _⟩
  | 7, h =>
    simp only [IsEx] at h
    obtain ⟨_, _, h3, g, cap, rfl, h4, _, hr⟩ := h
    have HR := hide hr
    clear hr
    have hcap := h4
    generalize hn : l.length = n at *
    have HN := hide hn
    clear hn
    go_enter Tryz.func84, Tryz.ntmps84
    go_wp2
    go_ret
    exact ⟨.slice (some ⟨g, 0, none⟩) n cap, rfl, .inr ⟨g, cap, by show _ = Value.slice _ l.length cap; rw [HN.out], by show l.length ≤ cap; rw [HN.out]; exact h4, by show l.length ≤ _; rw [HN.out]; exact h3, fun k x hx => HR.out k _ (by rw [List.getElem?_map, hx]; rfl)⟩, Below.refl _ _⟩
  | n + 8, h => simp only [IsEx] at h
end
section
open Go.RowKit
/-- a slice of strings -/
def Strs (w : World) (sv : Value) (ss : List ByteArray) : Prop :=
  (ss = [] ∧ ∃ a cap, sv = .slice a 0 cap) ∨ ∃ g o cap, sv = .slice (some ⟨g, o, none⟩) ss.length cap ∧ ss.length ≤ cap ∧ ss.length ≤ 1000000 ∧ ∀ k s, ss[k]? = some s → w.cell? ⟨g, o + k, none⟩ = some (.string s)
theorem Strs.below {w w' : World} {sv : Value} {ss : List ByteArray} (h : Strs w sv ss) (hb : Below w.heap.size w w') : Strs w' sv ss := by
  rcases h with h | ⟨g, o, cap, h1, h2, h3, h4⟩
  · exact .inl h
  · exact .inr ⟨g, o, cap, h1, h2, h3, fun k s hs => Stay.below (ok := fun _ => True) hb g _ _ trivial (h4 k s hs)⟩
/-- is a name one of these? -/
def amongB (ss : List ByteArray) (nm : List UInt8) : Bool := ss.any fun s => s.data.toList == nm
theorem bytes_list (l : List UInt8) : (⟨l.toArray⟩ : ByteArray).toList = l := by rw [ByteArray.toList_eq]
end
end Go.Proofs.YtflonjbbolmelaaGreatDoor
