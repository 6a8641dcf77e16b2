/-
  What a type switch over an expression comes to, type by type. Expressions in memory: small facts. The walk of within: the parts right within an expression, as a slice. Slices of strings; is a name one of some? The walks of eachName and of the closures that gather names: they stand, as they are met, in a row of the caller's own. The walk of eachName: the names of an expression, as they are met.
-/
import Derived.Test.YtgldbliohpfljaaGreatDoorLdRepAll
import Derived.Defers
import Derived.Recover
import Derived.Lib.OthersKept
namespace Go.Proofs.YtgldbliohpfljaaGreatDoor
section
@[go_sem] theorem asConstConst (v : Value) (w : World) : (Instr.typeAssert (.iface 248 v) 27 248 true).run Tryz.prog w = .ok (.tuple #[v, .bool true]) w := by kernel_rfl
@[go_sem] theorem asConstBit (v : Value) (w : World) : (Instr.typeAssert (.iface 248 v) 27 249 true).run Tryz.prog w = .ok (.tuple #[.string ⟨#[]⟩, .bool false]) w := by kernel_rfl
@[go_sem] theorem asConstRise (v : Value) (w : World) : (Instr.typeAssert (.iface 248 v) 27 250 true).run Tryz.prog w = .ok (.tuple #[.string ⟨#[]⟩, .bool false]) w := by kernel_rfl
@[go_sem] theorem asConstFall (v : Value) (w : World) : (Instr.typeAssert (.iface 248 v) 27 251 true).run Tryz.prog w = .ok (.tuple #[.string ⟨#[]⟩, .bool false]) w := by kernel_rfl
@[go_sem] theorem asConstNot (v : Value) (w : World) : (Instr.typeAssert (.iface 248 v) 27 253 true).run Tryz.prog w = .ok (.tuple #[.agg #[.nilIface], .bool false]) w := by kernel_rfl
@[go_sem] theorem asConstAnd (v : Value) (w : World) : (Instr.typeAssert (.iface 248 v) 27 254 true).run Tryz.prog w = .ok (.tuple #[.slice none 0 0, .bool false]) w := by kernel_rfl
@[go_sem] theorem asConstOr (v : Value) (w : World) : (Instr.typeAssert (.iface 248 v) 27 244 true).run Tryz.prog w = .ok (.tuple #[.slice none 0 0, .bool false]) w := by kernel_rfl
@[go_sem] theorem asBitConst (v : Value) (w : World) : (Instr.typeAssert (.iface 249 v) 27 248 true).run Tryz.prog w = .ok (.tuple #[.bool false, .bool false]) w := by kernel_rfl
@[go_sem] theorem asBitBit (v : Value) (w : World) : (Instr.typeAssert (.iface 249 v) 27 249 true).run Tryz.prog w = .ok (.tuple #[v, .bool true]) w := by kernel_rfl
@[go_sem] theorem asBitRise (v : Value) (w : World) : (Instr.typeAssert (.iface 249 v) 27 250 true).run Tryz.prog w = .ok (.tuple #[.string ⟨#[]⟩, .bool false]) w := by kernel_rfl
@[go_sem] theorem asBitFall (v : Value) (w : World) : (Instr.typeAssert (.iface 249 v) 27 251 true).run Tryz.prog w = .ok (.tuple #[.string ⟨#[]⟩, .bool false]) w := by kernel_rfl
@[go_sem] theorem asBitNot (v : Value) (w : World) : (Instr.typeAssert (.iface 249 v) 27 253 true).run Tryz.prog w = .ok (.tuple #[.agg #[.nilIface], .bool false]) w := by kernel_rfl
@[go_sem] theorem asBitAnd (v : Value) (w : World) : (Instr.typeAssert (.iface 249 v) 27 254 true).run Tryz.prog w = .ok (.tuple #[.slice none 0 0, .bool false]) w := by kernel_rfl
@[go_sem] theorem asBitOr (v : Value) (w : World) : (Instr.typeAssert (.iface 249 v) 27 244 true).run Tryz.prog w = .ok (.tuple #[.slice none 0 0, .bool false]) w := by kernel_rfl
@[go_sem] theorem asRiseConst (v : Value) (w : World) : (Instr.typeAssert (.iface 250 v) 27 248 true).run Tryz.prog w = .ok (.tuple #[.bool false, .bool false]) w := by kernel_rfl
@[go_sem] theorem asRiseBit (v : Value) (w : World) : (Instr.typeAssert (.iface 250 v) 27 249 true).run Tryz.prog w = .ok (.tuple #[.string ⟨#[]⟩, .bool false]) w := by kernel_rfl
@[go_sem] theorem asRiseRise (v : Value) (w : World) : (Instr.typeAssert (.iface 250 v) 27 250 true).run Tryz.prog w = .ok (.tuple #[v, .bool true]) w := by kernel_rfl
@[go_sem] theorem asRiseFall (v : Value) (w : World) : (Instr.typeAssert (.iface 250 v) 27 251 true).run Tryz.prog w = .ok (.tuple #[.string ⟨#[]⟩, .bool false]) w := by kernel_rfl
@[go_sem] theorem asRiseNot (v : Value) (w : World) : (Instr.typeAssert (.iface 250 v) 27 253 true).run Tryz.prog w = .ok (.tuple #[.agg #[.nilIface], .bool false]) w := by kernel_rfl
@[go_sem] theorem asRiseAnd (v : Value) (w : World) : (Instr.typeAssert (.iface 250 v) 27 254 true).run Tryz.prog w = .ok (.tuple #[.slice none 0 0, .bool false]) w := by kernel_rfl
@[go_sem] theorem asRiseOr (v : Value) (w : World) : (Instr.typeAssert (.iface 250 v) 27 244 true).run Tryz.prog w = .ok (.tuple #[.slice none 0 0, .bool false]) w := by kernel_rfl
@[go_sem] theorem asFallConst (v : Value) (w : World) : (Instr.typeAssert (.iface 251 v) 27 248 true).run Tryz.prog w = .ok (.tuple #[.bool false, .bool false]) w := by kernel_rfl
@[go_sem] theorem asFallBit (v : Value) (w : World) : (Instr.typeAssert (.iface 251 v) 27 249 true).run Tryz.prog w = .ok (.tuple #[.string ⟨#[]⟩, .bool false]) w := by kernel_rfl
@[go_sem] theorem asFallRise (v : Value) (w : World) : (Instr.typeAssert (.iface 251 v) 27 250 true).run Tryz.prog w = .ok (.tuple #[.string ⟨#[]⟩, .bool false]) w := by kernel_rfl
@[go_sem] theorem asFallFall (v : Value) (w : World) : (Instr.typeAssert (.iface 251 v) 27 251 true).run Tryz.prog w = .ok (.tuple #[v, .bool true]) w := by kernel_rfl
@[go_sem] theorem asFallNot (v : Value) (w : World) : (Instr.typeAssert (.iface 251 v) 27 253 true).run Tryz.prog w = .ok (.tuple #[.agg #[.nilIface], .bool false]) w := by kernel_rfl
@[go_sem] theorem asFallAnd (v : Value) (w : World) : (Instr.typeAssert (.iface 251 v) 27 254 true).run Tryz.prog w = .ok (.tuple #[.slice none 0 0, .bool false]) w := by kernel_rfl
@[go_sem] theorem asFallOr (v : Value) (w : World) : (Instr.typeAssert (.iface 251 v) 27 244 true).run Tryz.prog w = .ok (.tuple #[.slice none 0 0, .bool false]) w := by kernel_rfl
@[go_sem] theorem asNotConst (v : Value) (w : World) : (Instr.typeAssert (.iface 253 v) 27 248 true).run Tryz.prog w = .ok (.tuple #[.bool false, .bool false]) w := by kernel_rfl
@[go_sem] theorem asNotBit (v : Value) (w : World) : (Instr.typeAssert (.iface 253 v) 27 249 true).run Tryz.prog w = .ok (.tuple #[.string ⟨#[]⟩, .bool false]) w := by kernel_rfl
@[go_sem] theorem asNotRise (v : Value) (w : World) : (Instr.typeAssert (.iface 253 v) 27 250 true).run Tryz.prog w = .ok (.tuple #[.string ⟨#[]⟩, .bool false]) w := by kernel_rfl
@[go_sem] theorem asNotFall (v : Value) (w : World) : (Instr.typeAssert (.iface 253 v) 27 251 true).run Tryz.prog w = .ok (.tuple #[.string ⟨#[]⟩, .bool false]) w := by kernel_rfl
@[go_sem] theorem asNotNot (v : Value) (w : World) : (Instr.typeAssert (.iface 253 v) 27 253 true).run Tryz.prog w = .ok (.tuple #[v, .bool true]) w := by kernel_rfl
@[go_sem] theorem asNotAnd (v : Value) (w : World) : (Instr.typeAssert (.iface 253 v) 27 254 true).run Tryz.prog w = .ok (.tuple #[.slice none 0 0, .bool false]) w := by kernel_rfl
@[go_sem] theorem asNotOr (v : Value) (w : World) : (Instr.typeAssert (.iface 253 v) 27 244 true).run Tryz.prog w = .ok (.tuple #[.slice none 0 0, .bool false]) w := by kernel_rfl
@[go_sem] theorem asAndConst (v : Value) (w : World) : (Instr.typeAssert (.iface 254 v) 27 248 true).run Tryz.prog w = .ok (.tuple #[.bool false, .bool false]) w := by kernel_rfl
@[go_sem] theorem asAndBit (v : Value) (w : World) : (Instr.typeAssert (.iface 254 v) 27 249 true).run Tryz.prog w = .ok (.tuple #[.string ⟨#[]⟩, .bool false]) w := by kernel_rfl
@[go_sem] theorem asAndRise (v : Value) (w : World) : (Instr.typeAssert (.iface 254 v) 27 250 true).run Tryz.prog w = .ok (.tuple #[.string ⟨#[]⟩, .bool false]) w := by kernel_rfl
@[go_sem] theorem asAndFall (v : Value) (w : World) : (Instr.typeAssert (.iface 254 v) 27 251 true).run Tryz.prog w = .ok (.tuple #[.string ⟨#[]⟩, .bool false]) w := by kernel_rfl
@[go_sem] theorem asAndNot (v : Value) (w : World) : (Instr.typeAssert (.iface 254 v) 27 253 true).run Tryz.prog w = .ok (.tuple #[.agg #[.nilIface], .bool false]) w := by kernel_rfl
@[go_sem] theorem asAndAnd (v : Value) (w : World) : (Instr.typeAssert (.iface 254 v) 27 254 true).run Tryz.prog w = .ok (.tuple #[v, .bool true]) w := by kernel_rfl
@[go_sem] theorem asAndOr (v : Value) (w : World) : (Instr.typeAssert (.iface 254 v) 27 244 true).run Tryz.prog w = .ok (.tuple #[.slice none 0 0, .bool false]) w := by kernel_rfl
@[go_sem] theorem asOrConst (v : Value) (w : World) : (Instr.typeAssert (.iface 244 v) 27 248 true).run Tryz.prog w = .ok (.tuple #[.bool false, .bool false]) w := by kernel_rfl
@[go_sem] theorem asOrBit (v : Value) (w : World) : (Instr.typeAssert (.iface 244 v) 27 249 true).run Tryz.prog w = .ok (.tuple #[.string ⟨#[]⟩, .bool false]) w := by kernel_rfl
@[go_sem] theorem asOrRise (v : Value) (w : World) : (Instr.typeAssert (.iface 244 v) 27 250 true).run Tryz.prog w = .ok (.tuple #[.string ⟨#[]⟩, .bool false]) w := by kernel_rfl
@[go_sem] theorem asOrFall (v : Value) (w : World) : (Instr.typeAssert (.iface 244 v) 27 251 true).run Tryz.prog w = .ok (.tuple #[.string ⟨#[]⟩, .bool false]) w := by kernel_rfl
@[go_sem] theorem asOrNot (v : Value) (w : World) : (Instr.typeAssert (.iface 244 v) 27 253 true).run Tryz.prog w = .ok (.tuple #[.agg #[.nilIface], .bool false]) w := by kernel_rfl
@[go_sem] theorem asOrAnd (v : Value) (w : World) : (Instr.typeAssert (.iface 244 v) 27 254 true).run Tryz.prog w = .ok (.tuple #[.slice none 0 0, .bool false]) w := by kernel_rfl
@[go_sem] theorem asOrOr (v : Value) (w : World) : (Instr.typeAssert (.iface 244 v) 27 244 true).run Tryz.prog w = .ok (.tuple #[v, .bool true]) w := by kernel_rfl
end
section
open Go.RowKit
theorem ret_str {a b : ByteArray} (h : a = b) : Ending.returned (.string a) = .returned (.string b) := by rw [h]
theorem IsEx.le7 {ok : Nat → Prop} {w : World} (x : Ex) (v : Value) (h : IsEx ok w x v) : x.kind ≤ 7 := by
  obtain ⟨k, nm, l⟩ := x
  match k, h with
  | 0, _ => simp
  | 1, _ => simp
  | 2, _ => simp
  | 3, _ => simp
  | 4, _ => simp
  | 5, _ => simp
  | 6, _ => simp
  | 7, _ => simp
  | n + 8, h => simp only [IsEx] at h
/-- an expression's rows lie in blocks that are there -/
theorem IsEx.lt {ok : Nat → Prop} {w : World} : ∀ (x : Ex) (v : Value), IsEx ok w x v → IsEx (fun g => ok g ∧ g < w.heap.size) w x v := by
  intro x
  induction x using Ex.ind with
  | h k nm l ih =>
    intro v h
    have sub : ∀ (i : Nat) (P : Value → Prop), (l.map fun x => IsEx (fun g => ok g ∧ g < w.heap.size) w x)[i]? = some P → ∃ Q : Value → Prop, (l.map fun x => IsEx ok w x)[i]? = some Q ∧ ∀ u, Q u → P u := by
      intro i P hP
      rw [List.getElem?_map] at hP
      cases hl : l[i]? with
      | none => rw [hl] at hP; simp at hP
      | some y =>
        rw [hl] at hP
        simp only [Option.map_some, Option.some.injEq] at hP
        exact ⟨IsEx ok w y, by rw [List.getElem?_map, hl]; rfl, fun u hu => by rw [← hP]; exact ih y (List.mem_of_getElem? hl) u hu⟩
    have hlist : ∀ t, IsList ok w t l.length (l.map fun x => IsEx ok w x) v → IsList (fun g => ok g ∧ g < w.heap.size) w t l.length (l.map fun x => IsEx (fun g => ok g ∧ g < w.heap.size) w x) v := by
      rintro t ⟨h1, h2, g, cap, h3, h4, h5, h6⟩
      have hg : g < w.heap.size := by
        obtain ⟨u, hu, _⟩ := h6 0 (IsEx ok w l[0]) (by rw [List.getElem?_map, List.getElem?_eq_getElem (by omega)]; rfl)
        exact World.block_lt_of_cell? _ _ hu
      refine ⟨h1, h2, g, cap, h3, h4, ⟨h5, hg⟩, ?_⟩
      intro i P hP
      obtain ⟨Q, hQ, hq⟩ := sub i P hP
      obtain ⟨u, hu, hx⟩ := h6 i Q hQ
      exact ⟨u, hu, hq u hx⟩
    match k, h with
    | 0, h => simp only [IsEx] at h ⊢; exact h
    | 1, h => simp only [IsEx] at h ⊢; exact h
    | 2, h => simp only [IsEx] at h ⊢; exact h
    | 3, h => simp only [IsEx] at h ⊢; exact h
    | 4, h => simp only [IsEx] at h ⊢; exact h
    | 5, h =>
      simp only [IsEx] at h ⊢
      obtain ⟨h1, h2, u, h3, h4⟩ := h
      refine ⟨h1, h2, u, h3, ?_⟩
      intro P hP
      obtain ⟨Q, hQ, hq⟩ := sub 0 P hP
      exact hq u (h4 Q hQ)
    | 6, h => simp only [IsEx] at h ⊢; exact ⟨h.1, hlist _ h.2⟩
    | 7, h => simp only [IsEx] at h ⊢; exact ⟨h.1, hlist _ h.2⟩
    | n + 8, h => simp only [IsEx] at h
/-- an expression is an interface value -/
theorem IsEx.iface {ok : Nat → Prop} {w : World} (x : Ex) (v : Value) (h : IsEx ok w x v) : ∃ t y, v = .iface t y := by
  obtain ⟨k, nm, l⟩ := x
  match k, h with
  | 0, h => simp only [IsEx] at h; exact ⟨_, _, h.2.2⟩
  | 1, h => simp only [IsEx] at h; exact ⟨_, _, h.2.2⟩
  | 2, h => simp only [IsEx] at h; exact ⟨_, _, h.2.2⟩
  | 3, h => simp only [IsEx] at h; exact ⟨_, _, h.2.2⟩
  | 4, h => simp only [IsEx] at h; exact ⟨_, _, h.2.2⟩
  | 5, h => simp only [IsEx] at h; obtain ⟨_, _, u, h, _⟩ := h; exact ⟨_, _, h⟩
  | 6, h => simp only [IsEx] at h; obtain ⟨_, _, _, _, _, h, _⟩ := h; exact ⟨_, _, h⟩
  | 7, h => simp only [IsEx] at h; obtain ⟨_, _, _, _, _, h, _⟩ := h; exact ⟨_, _, h⟩
  | n + 8, h => simp only [IsEx] at h
/-- a function that is there -/
def Entered (K : Nat) : Prop := ∀ (args : Array Value) (w : World), (callFunc K args).run Tryz.prog w = .ok (.enter K args) w
end
section
open Go.RowKit
theorem ret_int {a b : Int} (h : a = b) : Ending.returned (.int .i64 a) = .returned (.int .i64 b) := by rw [h]
/-- a slice of expressions -/
def Parts (w : World) (sv : Value) (xs : List Ex) : Prop :=
  (xs = [] ∧ sv = .slice none 0 0) ∨ ∃ g cap, sv = .slice (some ⟨g, 0, none⟩) xs.length cap ∧ xs.length ≤ cap ∧ xs.length ≤ 9223372036854775807 ∧ ∀ (k : Nat) (x : Ex), xs[k]? = some x → ∃ u, w.cell? ⟨g, k, none⟩ = some u ∧ IsEx (fun _ => True) w x u
theorem Parts.below {w w' : World} {sv : Value} {xs : List Ex} (h : Parts w sv xs) (hb : Below w.heap.size w w') : Parts w' sv xs := by
  rcases h with h | ⟨g, cap, h1, h2, h3, h4⟩
  · exact .inl h
  · refine .inr ⟨g, cap, h1, h2, h3, fun k x hx => ?_⟩
    obtain ⟨u, hu, he⟩ := h4 k x hx
    exact ⟨u, Stay.below (ok := fun _ => True) hb g k u trivial hu, IsEx.stay (Stay.below hb) (fun g hg => hg) x u he⟩
set_option maxHeartbeats 1000000 in
theorem within_parts (x : Ex) (v : Value) (w : World) (h : IsEx (fun _ => True) w x v) :
    Calls Tryz.prog 168 #[v] w fun e w' => ∃ sv, e = .returned sv ∧ Parts w' sv x.of ∧ Below w.heap.size w w' := by
  obtain ⟨k, nm, l⟩ := x
  match k, h with
  | 0, h =>
    simp only [IsEx] at h
    obtain ⟨_, hl, rfl⟩ := h
    go_enter Tryz.func168, Tryz.ntmps168
    go_wp2
    go_ret
    exact ⟨_, rfl, .inl ⟨hl, rfl⟩, Below.refl _ _⟩
  | 1, h =>
    simp only [IsEx] at h
    obtain ⟨_, hl, rfl⟩ := h
    go_enter Tryz.func168, Tryz.ntmps168
    go_wp2
    go_ret
    exact ⟨_, rfl, .inl ⟨hl, rfl⟩, Below.refl _ _⟩
  | 2, h =>
    simp only [IsEx] at h
    obtain ⟨hl, _, rfl⟩ := h
    go_enter Tryz.func168, Tryz.ntmps168
    go_wp2
    go_ret
    exact ⟨_, rfl, .inl ⟨hl, rfl⟩, Below.refl _ _⟩
  | 3, h =>
    simp only [IsEx] at h
    obtain ⟨hl, _, rfl⟩ := h
    go_enter Tryz.func168, Tryz.ntmps168
    go_wp2
    go_ret
    exact ⟨_, rfl, .inl ⟨hl, rfl⟩, Below.refl _ _⟩
  | 4, h =>
    simp only [IsEx] at h
    obtain ⟨hl, _, rfl⟩ := h
    go_enter Tryz.func168, Tryz.ntmps168
    go_wp2
    go_ret
    exact ⟨_, rfl, .inl ⟨hl, rfl⟩, Below.refl _ _⟩
  | 5, h =>
    simp only [IsEx] at h
    obtain ⟨_, h1, u, rfl, h3⟩ := h
    match l, h1 with
    | [y], _ =>
      have hy : IsEx (fun _ => True) w y u := h3 _ rfl
      obtain ⟨tu, yu, hiu⟩ := IsEx.iface y u hy
      subst hiu
      have HY := hide hy
      clear h3 hy
      go_enter Tryz.func168, Tryz.ntmps168
      go_wp2
      go_ret
      have hb : Below w.heap.size w ((w.alloc (.cells #[.iface tu yu] 253)).alloc (.cells #[.iface tu yu] 27)) := ((Below.refl _ w).alloc (Nat.le_refl _) _).alloc (by simp) _
      refine ⟨_, rfl, .inr ⟨w.heap.size + 1, 1, rfl, by simp, by simp, ?_⟩, hb⟩
      intro k x hk
      match k, hk with
      | 0, hk =>
        simp only [List.getElem?_cons_zero, Option.some.injEq] at hk
        subst hk
        exact ⟨_, by simp [go_sem], IsEx.stay (Stay.below hb) (fun g hg => hg) y _ HY.out⟩
      | k + 1, hk => simp at hk
  | 6, h =>
    simp only [IsEx] at h
    obtain ⟨_, _, h3, g, cap, rfl, h4, _, hr⟩ := h
    have HR := hide hr
    clear hr
    have hcap := h4
    generalize hn : l.length = n at *
    have HN := hide hn
    clear hn
    go_enter Tryz.func168, Tryz.ntmps168
    go_wp2
    go_ret
    exact ⟨.slice (some ⟨g, 0, none⟩) n cap, rfl, .inr ⟨g, cap, by show _ = Value.slice _ l.length cap; rw [HN.out], by show l.length ≤ cap; rw [HN.out]; exact h4, by show l.length ≤ _; rw [HN.out]; exact h3, fun k x hx => HR.out k _ (by rw [List.getElem?_map, hx]; rfl)⟩, Below.refl _ _⟩
  | 7, h =>
    simp only [IsEx] at h
    obtain ⟨_, _, h3, g, cap, rfl, h4, _, hr⟩ := h
    have HR := hide hr
    clear hr
    have hcap := h4
    generalize hn : l.length = n at *
    have HN := hide hn
    clear hn
    go_enter Tryz.func168, Tryz.ntmps168
    go_wp2
    go_ret
    exact ⟨.slice (some ⟨g, 0, none⟩) n cap, rfl, .inr ⟨g, cap, by show _ = Value.slice _ l.length cap; rw [HN.out], by show l.length ≤ cap; rw [HN.out]; exact h4, by show l.length ≤ _; rw [HN.out]; exact h3, fun k x hx => HR.out k _ (by rw [List.getElem?_map, hx]; rfl)⟩, Below.refl _ _⟩
  | n + 8, h => simp only [IsEx] at h
end
section
open Go.RowKit
/-- a slice of strings -/
def Strs (w : World) (sv : Value) (ss : List ByteArray) : Prop :=
  (ss = [] ∧ ∃ a cap, sv = .slice a 0 cap) ∨ ∃ g o cap, sv = .slice (some ⟨g, o, none⟩) ss.length cap ∧ ss.length ≤ cap ∧ ss.length ≤ 1000000 ∧ ∀ k s, ss[k]? = some s → w.cell? ⟨g, o + k, none⟩ = some (.string s)
theorem Strs.below {w w' : World} {sv : Value} {ss : List ByteArray} (h : Strs w sv ss) (hb : Below w.heap.size w w') : Strs w' sv ss := by
  rcases h with h | ⟨g, o, cap, h1, h2, h3, h4⟩
  · exact .inl h
  · exact .inr ⟨g, o, cap, h1, h2, h3, fun k s hs => Stay.below (ok := fun _ => True) hb g _ _ trivial (h4 k s hs)⟩
/-- is a name one of these? -/
def amongB (ss : List ByteArray) (nm : List UInt8) : Bool := ss.any fun s => s.data.toList == nm
theorem bytes_list (l : List UInt8) : (⟨l.toArray⟩ : ByteArray).toList = l := by rw [ByteArray.toList_eq]
end
section
open Go.RowKit
def strV (l : List UInt8) : Value := .string ⟨l.toArray⟩
/-- all below p stands; of what lies above it all but p and the rows of strings -/
def Kn (p : Nat) (w w' : World) : Prop := Below p w w' ∧ Lib.OthersKept 9 (some p) w w'
namespace Kn
theorem refl (p : Nat) (w : World) : Kn p w w := ⟨Below.refl _ _, Lib.OthersKept.refl _ _ _⟩
theorem trans {p : Nat} {x y z : World} (h : Kn p x y) (k : Kn p y z) : Kn p x z := ⟨h.1.trans k.1, h.2.trans k.2⟩
theorem alloc {p : Nat} {a w : World} (h : Kn p a w) (hp : p ≤ w.heap.size) (o : Obj) : Kn p a (w.alloc o) := ⟨h.1.alloc hp o, h.2.alloc o⟩
theorem setCell {p : Nat} {a w : World} (h : Kn p a w) (q : Addr) (hq : q.block = p) (v : Value) : Kn p a (w.setCell q v) := ⟨h.1.setCell (by omega) v, h.2.setCell q hq v⟩
theorem grown {p : Nat} {a w w' : World} {row : Option Nat} (h : Kn p a w) (hg : w.grownBy w' row) (hp : p ≤ w.heap.size) (hr : ∀ k, row = some k → p ≤ k) (hrow : ∀ g, row = some g → ∃ c fz, w.heap[g]? = some (.cells c 9 fz)) : Kn p a w' :=
  ⟨h.1.grown hg hp hr, h.2.grown hg hrow⟩
theorem of_below {p : Nat} {w w' : World} (h : Below w.heap.size w w') (hp : p ≤ w.heap.size) : Kn p w w' :=
  ⟨h.mono hp, fun k o hk _ _ => by rw [h.block k (Array.getElem?_eq_some_iff.1 hk).1]; exact hk⟩
theorem keeps {p : Nat} {w w' : World} (h : Kn p w w') {g : Nat} {c : Array Value} {t : TypeId} {fz : Nat × Nat} (hg : w.heap[g]? = some (.cells c t fz)) (hp : g ≠ p) (ht : t ≠ 9) : w'.heap[g]? = some (.cells c t fz) :=
  h.2 g _ hg (fun e => hp (Option.some.inj e)) (fun c' fz' e => ht (by injection e))
end Kn
/-- in block p lies a slice of strings, its row behind p -/
structure St (p : Nat) (ns : List (List UInt8)) (w : World) : Prop where
  ex : ∃ v, w.heap[p]? = some (.cells #[v] 65 (0, 0)) ∧ w.ownsRow (p + 1) 9 1 v ns.length (ns.map strV)
theorem St.lt {p : Nat} {ns : List (List UInt8)} {w : World} (h : St p ns w) : p < w.heap.size := by
  obtain ⟨v, h1, _⟩ := h.ex
  exact (Array.getElem?_eq_some_iff.1 h1).1
theorem St.below {p : Nat} {ns : List (List UInt8)} {w w' : World} (h : St p ns w) (hb : Below w.heap.size w w') : St p ns w' := by
  have hlt := h.lt
  obtain ⟨v, h1, h2⟩ := h.ex
  exact ⟨v, by rw [hb.block p hlt]; exact h1, h2.kept (row := none) ⟨hb.os, hb.tape, hb.output, hb.size, fun k hk _ => hb.block k hk⟩ (by cases v.ownBlock <;> simp)⟩
theorem Tryz.infoStr : (Tryz.prog.info? 9).map (fun i => (i.zero, i.size, i.bytes)) = some (some (.string ⟨#[]⟩), 1, 16) := by kernel_rfl
theorem ownsRow_kind1 {w : World} {B : Nat} {e : TypeId} {v : Value} {n : Nat} {xs : List Value} (h : w.ownsRow B e 1 v n xs) : ∀ g, v.ownBlock = some g → ∃ c fz, w.heap[g]? = some (.cells c e fz) := by
  intro g hg
  rcases h.2 with ⟨hv, _⟩ | ⟨g', cap, cur, hv, _, hcur, _⟩
  · rw [hv] at hg; cases hg
  · rw [hv] at hg
    simp only [Value.ownBlock, Option.some.injEq] at hg
    subst hg
    exact ⟨cur, (0, 0), hcur⟩
/-- a closure that gathers: of each name (and whether it is an edge) those that are picked -/
def Gathers (K : Nat) (pick : Bool → Bool) : Prop := Entered K ∧ ∀ (p : Nat) (nm : List UInt8) (edge : Bool) (ns : List (List UInt8)) (w : World), St p ns w → ns.length ≤ 1000000 →
  Calls Tryz.prog K #[.string ⟨nm.toArray⟩, .bool edge, .pointer (some ⟨p, 0, none⟩)] w fun e w' => e = .returned (.tuple #[]) ∧ St p (ns ++ (if pick edge then [nm] else [])) w' ∧ Kn p w w'
/-- what an append to that row comes to -/
theorem St.put {p : Nat} {ns : List (List UInt8)} {nm : List UInt8} {v v' : Value} {w w2 : World} (hp : w.heap[p]? = some (.cells #[v] 65 (0, 0))) (ho : w.ownsRow (p + 1) 9 1 v ns.length (ns.map strV))
    (hown : w2.ownsRow (p + 1) 9 1 v' (ns.length + 1) (ns.map strV ++ [strV nm])) (hg : (w.alloc (.cells #[strV nm] 9)).grownBy w2 v.ownBlock) :
    w2.heap[p]? = some (.cells #[v] 65 (0, 0)) ∧ Kn p w w2 ∧ St p (ns ++ [nm]) (w2.setCell ⟨p, 0, none⟩ v') := by
  have hlt : p < w.heap.size := (Array.getElem?_eq_some_iff.1 hp).1
  have hb2 : w2.heap[p]? = some (.cells #[v] 65 (0, 0)) := by
    rw [hg.block p (by simp; omega) (fun e => by have := (ho.lt p e.symm).1; omega), Below.heap_alloc w _ p hlt]
    exact hp
  refine ⟨hb2, ?_, ?_⟩
  · refine ((Kn.refl p w).alloc (by omega) _).grown hg (by simp; omega) (fun k hk => by have := (ho.lt k hk).1; omega) (fun g hgg => ?_)
    obtain ⟨c, fz, hc⟩ := ownsRow_kind1 ho g hgg
    exact ⟨c, fz, by rw [Below.heap_alloc w _ g (ho.lt g hgg).2]; exact hc⟩
  · refine ⟨v', ?_, ?_⟩
    · simp [World.setCell, Array.getElem?_modify, hb2]
    · have e1 : (ns ++ [nm]).length = ns.length + 1 := by simp
      have e2 : (ns ++ [nm]).map strV = ns.map strV ++ [strV nm] := by simp
      rw [e1, e2]
      exact hown.kept (row := some p) ⟨rfl, rfl, rfl, by simp [World.setCell], fun k _ hk => Below.heap_setCell _ _ _ _ (fun e => hk (by simp [e]))⟩ (by
        cases hv : v'.ownBlock with
        | none => exact .inl rfl
        | some k => right; intro e; have := (hown.lt k hv).1; simp only [Option.some.injEq] at e; omega)
set_option maxHeartbeats 1000000 in
set_option maxRecDepth 100000 in
theorem names1_any : Gathers 136 (fun _ => true) := by
  refine ⟨fun _ _ => by kernel_rfl, ?_⟩
  intro p nm edge ns w h hlen
  obtain ⟨i0, hi0, hz0, hz1, hz2⟩ := info_parts Tryz.infoStr
  obtain ⟨v, hp, ho⟩ := h.ex
  have HP := hide hp
  have HO := hide ho
  have HO2 := hide (ho.alloc (.cells #[.string ⟨nm.toArray⟩] 9))
  have hlt := h.lt
  have c0 : w.cell? ⟨p, 0, none⟩ = some v := by rw [Lib.cell_of_heap hp]; rfl
  have hv0 : ∃ a n c, v = .slice a n c := by
    rcases ho.2 with ⟨hv, _⟩ | ⟨g, cap, cur, hv, _⟩
    · exact ⟨_, _, _, hv⟩
    · exact ⟨_, _, _, hv⟩
  clear h hp ho
  obtain ⟨a, n, c, rfl⟩ := hv0
  go_enter Tryz.func136, Tryz.ntmps136
  go_wp2_with (at_builtin; refine wpList_append_own _ rfl _ _ 65 rfl (p + 1) 9 i0 (.string ⟨#[]⟩) 1 16 Tryz.underlying65 hi0 hz0 hz1 hz2 rfl (by decide) _ ns.length (ns.map strV) rfl HO2.out ⟨w.heap.size, 0, none⟩ 1 1 [.string ⟨nm.toArray⟩] rfl rfl (cell_one_new _ _ _) ?c2 ?c3 ?c4 ?c5 ?_)
  case c2 => intro z hz; simp at hz; subst hz; rfl
  case c3 => unfold maxLen; omega
  case c4 => omega
  case c5 => simp; omega
  intro v' w2 hown' hgrow _
  have hput := St.put HP.out HO.out hown' hgrow
  have HB2 := hide hput.1
  have HK2 := hide hput.2.1
  have HS2 := hide hput.2.2
  have d0 : w2.cell? ⟨p, 0, none⟩ = some (.slice a n c) := by rw [Lib.cell_of_heap hput.1]; rfl
  have f0 : w2.frozen? ⟨p, 0, none⟩ = false := Lib.frozen_of_heap hput.1 0
  obtain ⟨g, cap, hv'⟩ : ∃ g cap, v' = .slice (some ⟨g, 0, none⟩) (ns.length + 1) cap := by
    rcases hown'.2 with ⟨_, h0⟩ | ⟨g, cap, cur, hv, _⟩
    · omega
    · exact ⟨g, cap, hv⟩
  rw [hv'] at HS2
  rw [hv']
  clear hown' hgrow hv' hput HO HO2 HP c0 HB2
  go_wp2_with fail
  go_end0
  exact ⟨rfl, HS2.out, HK2.out.setCell ⟨p, 0, none⟩ rfl _⟩
/-- the slice of an expression's parts: its row lies below p, or is a row of expressions -/
def PartsK (p : Nat) (w : World) (sv : Value) (xs : List Ex) : Prop :=
  (xs = [] ∧ sv = .slice none 0 0) ∨ ∃ g cap, sv = .slice (some ⟨g, 0, none⟩) xs.length cap ∧ xs.length ≤ cap ∧ xs.length ≤ 9223372036854775807 ∧ (g < p ∨ (g ≠ p ∧ ∃ c fz, w.heap[g]? = some (.cells c 27 fz))) ∧
    ∀ (k : Nat) (x : Ex), xs[k]? = some x → ∃ u, w.cell? ⟨g, k, none⟩ = some u ∧ IsEx (fun g => g < p) w x u
theorem IsEx.low {p : Nat} {w w' : World} {x : Ex} {v : Value} (h : IsEx (fun g => g < p) w x v) (hb : Below p w w') : IsEx (fun g => g < p) w' x v :=
  IsEx.stay (fun g i u hg hc => by rw [hb.cell (p := ⟨g, i, none⟩) hg]; exact hc) (fun g hg => hg) x v h
theorem PartsK.keep {p : Nat} {w w' : World} {sv : Value} {xs : List Ex} (h : PartsK p w sv xs) (hk : Kn p w w') : PartsK p w' sv xs := by
  rcases h with h | ⟨g, cap, h1, h2, h3, h4, h5⟩
  · exact .inl h
  · refine .inr ⟨g, cap, h1, h2, h3, ?_, fun k x hx => ?_⟩
    · rcases h4 with h4 | ⟨h4, c, fz, h6⟩
      · exact .inl h4
      · exact .inr ⟨h4, c, fz, hk.keeps h6 h4 (by decide)⟩
    · obtain ⟨u, hu, he⟩ := h5 k x hx
      refine ⟨u, ?_, he.low hk.1⟩
      rcases h4 with h4 | ⟨h4, c, fz, h6⟩
      · rw [hk.1.cell (p := ⟨g, k, none⟩) h4]; exact hu
      · rw [Lib.cell_of_heap (hk.keeps h6 h4 (by decide)), ← Lib.cell_of_heap h6]; exact hu
set_option maxHeartbeats 1000000 in
theorem within_k (p : Nat) (x : Ex) (v : Value) (w : World) (hp : p < w.heap.size) (h : IsEx (fun g => g < p) w x v) :
    Calls Tryz.prog 168 #[v] w fun e w' => ∃ sv, e = .returned sv ∧ PartsK p w' sv x.of ∧ Below w.heap.size w w' := by
  obtain ⟨k, nm, l⟩ := x
  match k, h with
  | 0, h =>
    simp only [IsEx] at h
    obtain ⟨_, hl, rfl⟩ := h
    go_enter Tryz.func168, Tryz.ntmps168
    go_wp2
    go_ret
    exact ⟨_, rfl, .inl ⟨hl, rfl⟩, Below.refl _ _⟩
  | 1, h =>
    simp only [IsEx] at h
    obtain ⟨_, hl, rfl⟩ := h
    go_enter Tryz.func168, Tryz.ntmps168
    go_wp2
    go_ret
    exact ⟨_, rfl, .inl ⟨hl, rfl⟩, Below.refl _ _⟩
  | 2, h =>
    simp only [IsEx] at h
    obtain ⟨hl, _, rfl⟩ := h
    go_enter Tryz.func168, Tryz.ntmps168
    go_wp2
    go_ret
    exact ⟨_, rfl, .inl ⟨hl, rfl⟩, Below.refl _ _⟩
  | 3, h =>
    simp only [IsEx] at h
    obtain ⟨hl, _, rfl⟩ := h
    go_enter Tryz.func168, Tryz.ntmps168
    go_wp2
    go_ret
    exact ⟨_, rfl, .inl ⟨hl, rfl⟩, Below.refl _ _⟩
  | 4, h =>
    simp only [IsEx] at h
    obtain ⟨hl, _, rfl⟩ := h
    go_enter Tryz.func168, Tryz.ntmps168
    go_wp2
    go_ret
    exact ⟨_, rfl, .inl ⟨hl, rfl⟩, Below.refl _ _⟩
  | 5, h =>
    simp only [IsEx] at h
    obtain ⟨_, h1, u, rfl, h3⟩ := h
    match l, h1 with
    | [y], _ =>
      have hy : IsEx (fun g => g < p) w y u := h3 _ rfl
      obtain ⟨tu, yu, hiu⟩ := IsEx.iface y u hy
      subst hiu
      have HY := hide hy
      clear h3 hy
      go_enter Tryz.func168, Tryz.ntmps168
      go_wp2
      go_ret
      have hb : Below w.heap.size w ((w.alloc (.cells #[.iface tu yu] 253)).alloc (.cells #[.iface tu yu] 27)) := ((Below.refl _ w).alloc (Nat.le_refl _) _).alloc (by simp) _
      have hh := heap_alloc_new (w.alloc (.cells #[.iface tu yu] 253)) (.cells #[.iface tu yu] 27)
      rw [World.size_alloc] at hh
      refine ⟨_, rfl, .inr ⟨w.heap.size + 1, 1, rfl, by simp, by simp, .inr ⟨by omega, _, _, hh⟩, ?_⟩, hb⟩
      intro k x hk
      match k, hk with
      | 0, hk =>
        simp only [List.getElem?_cons_zero, Option.some.injEq] at hk
        subst hk
        exact ⟨_, by simp [go_sem], HY.out.low (hb.mono (by omega))⟩
      | k + 1, hk => simp at hk
  | 6, h =>
    simp only [IsEx] at h
    obtain ⟨_, _, h3, g, cap, rfl, h4, hg, hr⟩ := h
    have HR := hide hr
    clear hr
    generalize hn : l.length = n at *
    have HN := hide hn
    clear hn
    go_enter Tryz.func168, Tryz.ntmps168
    go_wp2
    go_ret
    exact ⟨.slice (some ⟨g, 0, none⟩) n cap, rfl, .inr ⟨g, cap, by show _ = Value.slice _ l.length cap; rw [HN.out], by show l.length ≤ cap; rw [HN.out]; exact h4, by show l.length ≤ _; rw [HN.out]; exact h3, .inl hg, fun k x hx => HR.out k _ (by rw [List.getElem?_map, hx]; rfl)⟩, Below.refl _ _⟩
  | 7, h =>
    simp only [IsEx] at h
    obtain ⟨_, _, h3, g, cap, rfl, h4, hg, hr⟩ := h
    have HR := hide hr
    clear hr
    generalize hn : l.length = n at *
    have HN := hide hn
    clear hn
    go_enter Tryz.func168, Tryz.ntmps168
    go_wp2
    go_ret
    exact ⟨.slice (some ⟨g, 0, none⟩) n cap, rfl, .inr ⟨g, cap, by show _ = Value.slice _ l.length cap; rw [HN.out], by show l.length ≤ cap; rw [HN.out]; exact h4, by show l.length ≤ _; rw [HN.out]; exact h3, .inl hg, fun k x hx => HR.out k _ (by rw [List.getElem?_map, hx]; rfl)⟩, Below.refl _ _⟩
  | n + 8, h => simp only [IsEx] at h
end
section
open Go.RowKit
set_option linter.unusedVariables false
/-- eachName, at this expression, with a closure that gathers -/
def EachOK (K : Nat) (all : Bool) (x : Ex) : Prop := ∀ (p : Nat) (v : Value) (ns : List (List UInt8)) (w : World), IsEx (fun g => g < p) w x v → St p ns w → ns.length + x.size ≤ 1000000 →
  Calls Tryz.prog 135 #[v, .func (.func K) #[] #[.pointer (some ⟨p, 0, none⟩)]] w fun e w' => e = .returned (.tuple #[]) ∧ St p (ns ++ x.named all) w' ∧ Kn p w w'
namespace Ex
/-- the names of the first k -/
def nameds (all : Bool) (l : List Ex) (k : Nat) : List (List UInt8) := ((l.take k).map fun x => x.named all).flatten
theorem nameds_zero (all : Bool) (l : List Ex) : nameds all l 0 = [] := by simp [nameds]
theorem nameds_succ (all : Bool) (l : List Ex) (k : Nat) (h : k < l.length) : nameds all l (k + 1) = nameds all l k ++ l[k].named all := by
  unfold nameds
  rw [List.take_succ_eq_append_getElem h]
  simp only [List.map_append, List.flatten_append, List.map_cons, List.map_nil, List.flatten_cons, List.flatten_nil, List.append_nil]
theorem nameds_all (all : Bool) (l : List Ex) : nameds all l l.length = (l.map fun x => x.named all).flatten := by unfold nameds; rw [List.take_length]
theorem nameds_le (all : Bool) (l : List Ex) : ∀ (j k : Nat), k + j = l.length → (nameds all l k).length + ((l.drop k).map fun x => x.size).sum ≤ (l.map fun x => x.size).sum
  | j, 0, _ => by simp [nameds]
  | j, k + 1, h => by
    have ih := nameds_le all l (j + 1) k (by omega)
    have hk : k < l.length := by omega
    rw [nameds_succ all l k hk, List.length_append]
    rw [List.drop_eq_getElem_cons hk, List.map_cons, List.sum_cons] at ih
    have := named_le all l[k]
    omega
end Ex
set_option maxHeartbeats 4000000 in
set_option maxRecDepth 100000 in
/-- eachName, over an expression of this kind -/
theorem each_0 (K : Nat) (all : Bool) (pick : Bool → Bool) (hK : Gathers K pick) (hp0 : pick false = all) (hp1 : pick true = true) (nm : List UInt8) (l : List Ex) (ih : ∀ y, y ∈ l → EachOK K all y) : EachOK K all ⟨0, nm, l⟩ := by
  intro p v ns w h hst hlen
  obtain ⟨hent, hG⟩ := hK
  have hent' : ∀ (args : Array Value) (w : World), (callFunc K args).run Tryz.prog w = .ok (.enter K args) w := hent
  have HG := hide hG
  have HIH := hide ih
  have HSZ : Hid (ns.length + (1 + (l.map fun x => x.size).sum) ≤ 1000000) := by show _ ≤ _; have := hlen; simp only [Ex.size] at this; exact this
  have hnl : ns.length ≤ 1000000 := by omega
  clear hent hG ih hlen
  have hl0 : l = [] := by have := h; simp only [IsEx] at this; exact this.2.1
  subst hl0
  have HX := hide h
  have HS := hide hst
  simp only [IsEx] at h
  obtain ⟨_, _, rfl⟩ := h
  clear hst
  have HEQ : Hid (ns ++ Ex.named all ⟨0, nm, []⟩ = ns) := by show _ = _; rw [Ex.named_of _ _ _ _ (by decide)]; simp
  have HS0 := HS
  have HK0 := hide (Kn.refl p w)
  have HX0 := HX
  clear HS HX
  go_enter Tryz.func135, Tryz.ntmps135
  go_wp2_with fail
  refine (within_k p ⟨0, nm, []⟩ _ w (by have := HS0.out.lt; omega) HX0.out).mono ?_
  rintro e w1 ⟨sv, rfl, hp, hb⟩
  have HS1 := hide (HS0.out.below hb)
  have HK1 := hide (HK0.out.trans (Kn.of_below hb (by have := HS0.out.lt; omega)))
  obtain ⟨a, cap, hsv⟩ : ∃ a cap, sv = .slice a 0 cap := by
    rcases hp with ⟨_, h⟩ | ⟨g, cap, h, _⟩
    · exact ⟨_, _, h⟩
    · exact ⟨_, _, h⟩
  subst hsv
  clear hb HS0 HK0 HX0 hp
  go_wp2_with fail
  go_loopw [31] (fun i wr => i = .int .i64 0 ∧ wr = w1) (fun _ _ => 0)
  case atStart => exact ⟨rfl, rfl⟩
  case round =>
    obtain ⟨rfl, rfl⟩ := hrel
    go_wp2_with fail
    go_end0
    exact ⟨rfl, by rw [HEQ.out]; exact HS1.out, HK1.out⟩
set_option maxHeartbeats 4000000 in
set_option maxRecDepth 100000 in
/-- eachName, over an expression of this kind -/
theorem each_1 (K : Nat) (all : Bool) (pick : Bool → Bool) (hK : Gathers K pick) (hp0 : pick false = all) (hp1 : pick true = true) (nm : List UInt8) (l : List Ex) (ih : ∀ y, y ∈ l → EachOK K all y) : EachOK K all ⟨1, nm, l⟩ := by
  intro p v ns w h hst hlen
  obtain ⟨hent, hG⟩ := hK
  have hent' : ∀ (args : Array Value) (w : World), (callFunc K args).run Tryz.prog w = .ok (.enter K args) w := hent
  have HG := hide hG
  have HIH := hide ih
  have HSZ : Hid (ns.length + (1 + (l.map fun x => x.size).sum) ≤ 1000000) := by show _ ≤ _; have := hlen; simp only [Ex.size] at this; exact this
  have hnl : ns.length ≤ 1000000 := by omega
  clear hent hG ih hlen
  have hl0 : l = [] := by have := h; simp only [IsEx] at this; exact this.2.1
  subst hl0
  have HX := hide h
  have HS := hide hst
  simp only [IsEx] at h
  obtain ⟨_, _, rfl⟩ := h
  clear hst
  have HEQ : Hid (ns ++ Ex.named all ⟨1, nm, []⟩ = ns) := by show _ = _; rw [Ex.named_of _ _ _ _ (by decide)]; simp
  have HS0 := HS
  have HK0 := hide (Kn.refl p w)
  have HX0 := HX
  clear HS HX
  go_enter Tryz.func135, Tryz.ntmps135
  go_wp2_with fail
  refine (within_k p ⟨1, nm, []⟩ _ w (by have := HS0.out.lt; omega) HX0.out).mono ?_
  rintro e w1 ⟨sv, rfl, hp, hb⟩
  have HS1 := hide (HS0.out.below hb)
  have HK1 := hide (HK0.out.trans (Kn.of_below hb (by have := HS0.out.lt; omega)))
  obtain ⟨a, cap, hsv⟩ : ∃ a cap, sv = .slice a 0 cap := by
    rcases hp with ⟨_, h⟩ | ⟨g, cap, h, _⟩
    · exact ⟨_, _, h⟩
    · exact ⟨_, _, h⟩
  subst hsv
  clear hb HS0 HK0 HX0 hp
  go_wp2_with fail
  go_loopw [31] (fun i wr => i = .int .i64 0 ∧ wr = w1) (fun _ _ => 0)
  case atStart => exact ⟨rfl, rfl⟩
  case round =>
    obtain ⟨rfl, rfl⟩ := hrel
    go_wp2_with fail
    go_end0
    exact ⟨rfl, by rw [HEQ.out]; exact HS1.out, HK1.out⟩
set_option maxHeartbeats 4000000 in
set_option maxRecDepth 100000 in
/-- eachName, over an expression of this kind -/
theorem each_2 (K : Nat) (all : Bool) (pick : Bool → Bool) (hK : Gathers K pick) (hp0 : pick false = all) (hp1 : pick true = true) (nm : List UInt8) (l : List Ex) (ih : ∀ y, y ∈ l → EachOK K all y) : EachOK K all ⟨2, nm, l⟩ := by
  intro p v ns w h hst hlen
  obtain ⟨hent, hG⟩ := hK
  have hent' : ∀ (args : Array Value) (w : World), (callFunc K args).run Tryz.prog w = .ok (.enter K args) w := hent
  have HG := hide hG
  have HIH := hide ih
  have HSZ : Hid (ns.length + (1 + (l.map fun x => x.size).sum) ≤ 1000000) := by show _ ≤ _; have := hlen; simp only [Ex.size] at this; exact this
  have hnl : ns.length ≤ 1000000 := by omega
  clear hent hG ih hlen
  have hl0 : l = [] := by have := h; simp only [IsEx] at this; exact this.1
  subst hl0
  have HX := hide h
  have HS := hide hst
  simp only [IsEx] at h
  obtain ⟨_, _, rfl⟩ := h
  clear hst
  have HC := hide (HG.out p nm false ns w HS.out hnl)
  rw [hp0] at HC
  have HEQ : Hid (ns ++ Ex.named all ⟨2, nm, []⟩ = ns ++ (if all = true then [nm] else [])) := by show _ = _; rw [Ex.named2]; try rfl
  generalize ns ++ (if all = true then [nm] else []) = NS0 at *
  go_enter Tryz.func135, Tryz.ntmps135
  go_wp2_with fail
  refine HC.out.mono ?_
  rintro e w0 ⟨rfl, hs0, hk0⟩
  have HS0 := hide hs0
  have HK0 := hide hk0
  have HX0 := hide (HX.out.low hk0.1)
  clear hs0 hk0 HC HS HX
  go_wp2_with fail
  refine (within_k p ⟨2, nm, []⟩ _ w0 (by have := HS0.out.lt; omega) HX0.out).mono ?_
  rintro e w1 ⟨sv, rfl, hp, hb⟩
  have HS1 := hide (HS0.out.below hb)
  have HK1 := hide (HK0.out.trans (Kn.of_below hb (by have := HS0.out.lt; omega)))
  obtain ⟨a, cap, hsv⟩ : ∃ a cap, sv = .slice a 0 cap := by
    rcases hp with ⟨_, h⟩ | ⟨g, cap, h, _⟩
    · exact ⟨_, _, h⟩
    · exact ⟨_, _, h⟩
  subst hsv
  clear hb HS0 HK0 HX0 hp
  go_wp2_with fail
  go_loopw [31] (fun i wr => i = .int .i64 0 ∧ wr = w1) (fun _ _ => 0)
  case atStart => exact ⟨rfl, rfl⟩
  case round =>
    obtain ⟨rfl, rfl⟩ := hrel
    go_wp2_with fail
    go_end0
    exact ⟨rfl, by rw [HEQ.out]; exact HS1.out, HK1.out⟩
set_option maxHeartbeats 4000000 in
set_option maxRecDepth 100000 in
/-- eachName, over an expression of this kind -/
theorem each_3 (K : Nat) (all : Bool) (pick : Bool → Bool) (hK : Gathers K pick) (hp0 : pick false = all) (hp1 : pick true = true) (nm : List UInt8) (l : List Ex) (ih : ∀ y, y ∈ l → EachOK K all y) : EachOK K all ⟨3, nm, l⟩ := by
  intro p v ns w h hst hlen
  obtain ⟨hent, hG⟩ := hK
  have hent' : ∀ (args : Array Value) (w : World), (callFunc K args).run Tryz.prog w = .ok (.enter K args) w := hent
  have HG := hide hG
  have HIH := hide ih
  have HSZ : Hid (ns.length + (1 + (l.map fun x => x.size).sum) ≤ 1000000) := by show _ ≤ _; have := hlen; simp only [Ex.size] at this; exact this
  have hnl : ns.length ≤ 1000000 := by omega
  clear hent hG ih hlen
  have hl0 : l = [] := by have := h; simp only [IsEx] at this; exact this.1
  subst hl0
  have HX := hide h
  have HS := hide hst
  simp only [IsEx] at h
  obtain ⟨_, _, rfl⟩ := h
  clear hst
  have HC := hide (HG.out p nm true ns w HS.out hnl)
  rw [hp1] at HC
  have HEQ : Hid (ns ++ Ex.named all ⟨3, nm, []⟩ = ns ++ (if true = true then [nm] else [])) := by show _ = _; rw [Ex.named3]; try rfl
  generalize ns ++ (if true = true then [nm] else []) = NS0 at *
  go_enter Tryz.func135, Tryz.ntmps135
  go_wp2_with fail
  refine HC.out.mono ?_
  rintro e w0 ⟨rfl, hs0, hk0⟩
  have HS0 := hide hs0
  have HK0 := hide hk0
  have HX0 := hide (HX.out.low hk0.1)
  clear hs0 hk0 HC HS HX
  go_wp2_with fail
  refine (within_k p ⟨3, nm, []⟩ _ w0 (by have := HS0.out.lt; omega) HX0.out).mono ?_
  rintro e w1 ⟨sv, rfl, hp, hb⟩
  have HS1 := hide (HS0.out.below hb)
  have HK1 := hide (HK0.out.trans (Kn.of_below hb (by have := HS0.out.lt; omega)))
  obtain ⟨a, cap, hsv⟩ : ∃ a cap, sv = .slice a 0 cap := by
    rcases hp with ⟨_, h⟩ | ⟨g, cap, h, _⟩
    · exact ⟨_, _, h⟩
    · exact ⟨_, _, h⟩
  subst hsv
  clear hb HS0 HK0 HX0 hp
  go_wp2_with fail
  go_loopw [31] (fun i wr => i = .int .i64 0 ∧ wr = w1) (fun _ _ => 0)
  case atStart => exact ⟨rfl, rfl⟩
  case round =>
    obtain ⟨rfl, rfl⟩ := hrel
    go_wp2_with fail
    go_end0
    exact ⟨rfl, by rw [HEQ.out]; exact HS1.out, HK1.out⟩
set_option maxHeartbeats 4000000 in
set_option maxRecDepth 100000 in
/-- eachName, over an expression of this kind -/
theorem each_4 (K : Nat) (all : Bool) (pick : Bool → Bool) (hK : Gathers K pick) (hp0 : pick false = all) (hp1 : pick true = true) (nm : List UInt8) (l : List Ex) (ih : ∀ y, y ∈ l → EachOK K all y) : EachOK K all ⟨4, nm, l⟩ := by
  intro p v ns w h hst hlen
  obtain ⟨hent, hG⟩ := hK
  have hent' : ∀ (args : Array Value) (w : World), (callFunc K args).run Tryz.prog w = .ok (.enter K args) w := hent
  have HG := hide hG
  have HIH := hide ih
  have HSZ : Hid (ns.length + (1 + (l.map fun x => x.size).sum) ≤ 1000000) := by show _ ≤ _; have := hlen; simp only [Ex.size] at this; exact this
  have hnl : ns.length ≤ 1000000 := by omega
  clear hent hG ih hlen
  have hl0 : l = [] := by have := h; simp only [IsEx] at this; exact this.1
  subst hl0
  have HX := hide h
  have HS := hide hst
  simp only [IsEx] at h
  obtain ⟨_, _, rfl⟩ := h
  clear hst
  have HC := hide (HG.out p nm true ns w HS.out hnl)
  rw [hp1] at HC
  have HEQ : Hid (ns ++ Ex.named all ⟨4, nm, []⟩ = ns ++ (if true = true then [nm] else [])) := by show _ = _; rw [Ex.named4]; try rfl
  generalize ns ++ (if true = true then [nm] else []) = NS0 at *
  go_enter Tryz.func135, Tryz.ntmps135
  go_wp2_with fail
  refine HC.out.mono ?_
  rintro e w0 ⟨rfl, hs0, hk0⟩
  have HS0 := hide hs0
  have HK0 := hide hk0
  have HX0 := hide (HX.out.low hk0.1)
  clear hs0 hk0 HC HS HX
  go_wp2_with fail
  refine (within_k p ⟨4, nm, []⟩ _ w0 (by have := HS0.out.lt; omega) HX0.out).mono ?_
  rintro e w1 ⟨sv, rfl, hp, hb⟩
  have HS1 := hide (HS0.out.below hb)
  have HK1 := hide (HK0.out.trans (Kn.of_below hb (by have := HS0.out.lt; omega)))
  obtain ⟨a, cap, hsv⟩ : ∃ a cap, sv = .slice a 0 cap := by
    rcases hp with ⟨_, h⟩ | ⟨g, cap, h, _⟩
    · exact ⟨_, _, h⟩
    · exact ⟨_, _, h⟩
  subst hsv
  clear hb HS0 HK0 HX0 hp
  go_wp2_with fail
  go_loopw [31] (fun i wr => i = .int .i64 0 ∧ wr = w1) (fun _ _ => 0)
  case atStart => exact ⟨rfl, rfl⟩
  case round =>
    obtain ⟨rfl, rfl⟩ := hrel
    go_wp2_with fail
    go_end0
    exact ⟨rfl, by rw [HEQ.out]; exact HS1.out, HK1.out⟩
set_option maxHeartbeats 4000000 in
set_option maxRecDepth 100000 in
/-- eachName, over an expression of this kind -/
theorem each_5 (K : Nat) (all : Bool) (pick : Bool → Bool) (hK : Gathers K pick) (hp0 : pick false = all) (hp1 : pick true = true) (nm : List UInt8) (l : List Ex) (ih : ∀ y, y ∈ l → EachOK K all y) : EachOK K all ⟨5, nm, l⟩ := by
  intro p v ns w h hst hlen
  obtain ⟨hent, hG⟩ := hK
  have hent' : ∀ (args : Array Value) (w : World), (callFunc K args).run Tryz.prog w = .ok (.enter K args) w := hent
  have HG := hide hG
  have HIH := hide ih
  have HSZ : Hid (ns.length + (1 + (l.map fun x => x.size).sum) ≤ 1000000) := by show _ ≤ _; have := hlen; simp only [Ex.size] at this; exact this
  have hnl : ns.length ≤ 1000000 := by omega
  clear hent hG ih hlen
  have HX := hide h
  have HS := hide hst
  simp only [IsEx] at h
  obtain ⟨_, _, u, rfl, _⟩ := h
  clear hst
  have HEQ : Hid (ns ++ Ex.named all ⟨5, nm, l⟩ = ns ++ Ex.nameds all l l.length) := by show _ = _; rw [Ex.named_of _ _ _ _ (by decide), Ex.nameds_all]
  have HS0 := HS
  have HK0 := hide (Kn.refl p w)
  have HX0 := HX
  clear HS HX
  go_enter Tryz.func135, Tryz.ntmps135
  go_wp2_with fail
  refine (within_k p ⟨5, nm, l⟩ _ w (by have := HS0.out.lt; omega) HX0.out).mono ?_
  rintro e w1 ⟨sv, rfl, hp, hb⟩
  have HB := hide hb
  have HS1 := hide (HS0.out.below hb)
  have HK1 := hide (HK0.out.trans (Kn.of_below hb (by have := HS0.out.lt; omega)))
  have HP1 := hide hp
  clear hb HS0 HK0 HX0
  rcases hp with ⟨hl, rfl⟩ | ⟨g, cap, rfl, hcap, hmx, _, _⟩
  · change l = [] at hl
    subst hl
    go_wp2_with fail
    go_loopw [31] (fun i wr => i = .int .i64 0 ∧ wr = w1) (fun _ _ => 0)
    case atStart => exact ⟨rfl, rfl⟩
    case round =>
      obtain ⟨rfl, rfl⟩ := hrel
      go_wp2_with fail
      go_end0
      exact ⟨rfl, by rw [HEQ.out]; simpa [Ex.nameds] using HS1.out, HK1.out⟩
  · change l.length ≤ cap at hcap
    change l.length ≤ 9223372036854775807 at hmx
    have e0 : ({ kind := 5, name := nm, of := l } : Ex).of.length = l.length := rfl
    rw [e0]
    rw [e0] at HP1
    clear e0
    obtain ⟨n, hn⟩ : ∃ n, n = l.length := ⟨_, rfl⟩
    have HN := hide hn
    rw [← hn] at hcap hmx HP1
    rw [← hn]
    clear hn
    go_wp2_with fail
    go_loopw [31] (fun i wr => ∃ k : Nat, k ≤ n ∧ i = .int .i64 (k : Int) ∧ St p (ns ++ Ex.nameds all l k) wr ∧ Kn p w1 wr) (fun i _ => n - (intOf i).toNat)
    case atStart => exact ⟨0, Nat.zero_le _, rfl, by simpa [Ex.nameds] using HS1.out, Kn.refl _ _⟩
    case round =>
      obtain ⟨j, hj, rfl, hs, hkr⟩ := hrel
      have HSR := hide hs
      have HKR := hide hkr
      clear hs hkr
      by_cases hlt : j < n
      · have hjl : j < l.length := by rw [← HN.out]; exact hlt
        have hcell : ∀ x, l[j]? = some x → ∃ u, wr.cell? ⟨g, j, none⟩ = some u ∧ IsEx (fun g => g < p) wr x u := by
          rcases HP1.out.keep HKR.out with ⟨hl0, _⟩ | ⟨g', cap', hsv, _, _, _, hcell⟩
          · intro x hx; change l = [] at hl0; rw [hl0] at hx; simp at hx
          · simp only [Value.slice.injEq, Option.some.injEq, Addr.mk.injEq] at hsv
            obtain ⟨⟨rfl, _⟩, _⟩ := hsv
            exact fun x hx => hcell j x hx
        obtain ⟨u, hu, hxu⟩ := hcell l[j] (List.getElem?_eq_getElem hjl)
        clear hcell
        have hle := Ex.nameds_le all l (l.length - j) j (by omega)
        have hdr : ((l.drop j).map fun x => x.size).sum = l[j].size + ((l.drop (j + 1)).map fun x => x.size).sum := by
          rw [List.drop_eq_getElem_cons hjl, List.map_cons, List.sum_cons]
        have hsz := HSZ.out
        have HE := hide (HIH.out l[j] (List.getElem_mem hjl) p u (ns ++ Ex.nameds all l j) wr hxu HSR.out (by rw [List.length_append]; omega))
        have HJ := hide (Ex.nameds_succ all l j hjl)
        obtain ⟨tu2, yu2, hiu2⟩ := IsEx.iface _ u hxu
        subst hiu2
        clear hxu hle hdr hsz
        go_wp2_with fail
        refine HE.out.mono ?_
        rintro e w2 ⟨rfl, hs2, hk2⟩
        have HS2 := hide hs2
        have HK2 := hide hk2
        clear hs2 hk2
        go_wp2_with fail
        go_roundw
        case rel => exact ⟨j + 1, by omega, by go_num, by rw [HJ.out, ← List.append_assoc]; exact HS2.out, HKR.out.trans HK2.out⟩
        case measure => simp [intOf]; omega
      · have hjn : j = n := by omega
        subst hjn
        go_wp2_with fail
        go_end0
        refine ⟨rfl, ?_, HK1.out.trans HKR.out⟩
        rw [HEQ.out, ← HN.out]
        exact HSR.out
set_option maxHeartbeats 4000000 in
set_option maxRecDepth 100000 in
/-- eachName, over an expression of this kind -/
theorem each_6 (K : Nat) (all : Bool) (pick : Bool → Bool) (hK : Gathers K pick) (hp0 : pick false = all) (hp1 : pick true = true) (nm : List UInt8) (l : List Ex) (ih : ∀ y, y ∈ l → EachOK K all y) : EachOK K all ⟨6, nm, l⟩ := by
  intro p v ns w h hst hlen
  obtain ⟨hent, hG⟩ := hK
  have hent' : ∀ (args : Array Value) (w : World), (callFunc K args).run Tryz.prog w = .ok (.enter K args) w := hent
  have HG := hide hG
  have HIH := hide ih
  have HSZ : Hid (ns.length + (1 + (l.map fun x => x.size).sum) ≤ 1000000) := by show _ ≤ _; have := hlen; simp only [Ex.size] at this; exact this
  have hnl : ns.length ≤ 1000000 := by omega
  clear hent hG ih hlen
  have HX := hide h
  have HS := hide hst
  simp only [IsEx] at h
  obtain ⟨_, _, _, g0, cap0, rfl, _⟩ := h
  clear hst
  generalize hl0 : l.length = n0 at *
  clear hl0
  have HEQ : Hid (ns ++ Ex.named all ⟨6, nm, l⟩ = ns ++ Ex.nameds all l l.length) := by show _ = _; rw [Ex.named_of _ _ _ _ (by decide), Ex.nameds_all]
  have HS0 := HS
  have HK0 := hide (Kn.refl p w)
  have HX0 := HX
  clear HS HX
  go_enter Tryz.func135, Tryz.ntmps135
  go_wp2_with fail
  refine (within_k p ⟨6, nm, l⟩ _ w (by have := HS0.out.lt; omega) HX0.out).mono ?_
  rintro e w1 ⟨sv, rfl, hp, hb⟩
  have HB := hide hb
  have HS1 := hide (HS0.out.below hb)
  have HK1 := hide (HK0.out.trans (Kn.of_below hb (by have := HS0.out.lt; omega)))
  have HP1 := hide hp
  clear hb HS0 HK0 HX0
  rcases hp with ⟨hl, rfl⟩ | ⟨g, cap, rfl, hcap, hmx, _, _⟩
  · change l = [] at hl
    subst hl
    go_wp2_with fail
    go_loopw [31] (fun i wr => i = .int .i64 0 ∧ wr = w1) (fun _ _ => 0)
    case atStart => exact ⟨rfl, rfl⟩
    case round =>
      obtain ⟨rfl, rfl⟩ := hrel
      go_wp2_with fail
      go_end0
      exact ⟨rfl, by rw [HEQ.out]; simpa [Ex.nameds] using HS1.out, HK1.out⟩
  · change l.length ≤ cap at hcap
    change l.length ≤ 9223372036854775807 at hmx
    have e0 : ({ kind := 6, name := nm, of := l } : Ex).of.length = l.length := rfl
    rw [e0]
    rw [e0] at HP1
    clear e0
    obtain ⟨n, hn⟩ : ∃ n, n = l.length := ⟨_, rfl⟩
    have HN := hide hn
    rw [← hn] at hcap hmx HP1
    rw [← hn]
    clear hn
    go_wp2_with fail
    go_loopw [31] (fun i wr => ∃ k : Nat, k ≤ n ∧ i = .int .i64 (k : Int) ∧ St p (ns ++ Ex.nameds all l k) wr ∧ Kn p w1 wr) (fun i _ => n - (intOf i).toNat)
    case atStart => exact ⟨0, Nat.zero_le _, rfl, by simpa [Ex.nameds] using HS1.out, Kn.refl _ _⟩
    case round =>
      obtain ⟨j, hj, rfl, hs, hkr⟩ := hrel
      have HSR := hide hs
      have HKR := hide hkr
      clear hs hkr
      by_cases hlt : j < n
      · have hjl : j < l.length := by rw [← HN.out]; exact hlt
        have hcell : ∀ x, l[j]? = some x → ∃ u, wr.cell? ⟨g, j, none⟩ = some u ∧ IsEx (fun g => g < p) wr x u := by
          rcases HP1.out.keep HKR.out with ⟨hl0, _⟩ | ⟨g', cap', hsv, _, _, _, hcell⟩
          · intro x hx; change l = [] at hl0; rw [hl0] at hx; simp at hx
          · simp only [Value.slice.injEq, Option.some.injEq, Addr.mk.injEq] at hsv
            obtain ⟨⟨rfl, _⟩, _⟩ := hsv
            exact fun x hx => hcell j x hx
        obtain ⟨u, hu, hxu⟩ := hcell l[j] (List.getElem?_eq_getElem hjl)
        clear hcell
        have hle := Ex.nameds_le all l (l.length - j) j (by omega)
        have hdr : ((l.drop j).map fun x => x.size).sum = l[j].size + ((l.drop (j + 1)).map fun x => x.size).sum := by
          rw [List.drop_eq_getElem_cons hjl, List.map_cons, List.sum_cons]
        have hsz := HSZ.out
        have HE := hide (HIH.out l[j] (List.getElem_mem hjl) p u (ns ++ Ex.nameds all l j) wr hxu HSR.out (by rw [List.length_append]; omega))
        have HJ := hide (Ex.nameds_succ all l j hjl)
        obtain ⟨tu2, yu2, hiu2⟩ := IsEx.iface _ u hxu
        subst hiu2
        clear hxu hle hdr hsz
        go_wp2_with fail
        refine HE.out.mono ?_
        rintro e w2 ⟨rfl, hs2, hk2⟩
        have HS2 := hide hs2
        have HK2 := hide hk2
        clear hs2 hk2
        go_wp2_with fail
        go_roundw
        case rel => exact ⟨j + 1, by omega, by go_num, by rw [HJ.out, ← List.append_assoc]; exact HS2.out, HKR.out.trans HK2.out⟩
        case measure => simp [intOf]; omega
      · have hjn : j = n := by omega
        subst hjn
        go_wp2_with fail
        go_end0
        refine ⟨rfl, ?_, HK1.out.trans HKR.out⟩
        rw [HEQ.out, ← HN.out]
        exact HSR.out
set_option maxHeartbeats 4000000 in
set_option maxRecDepth 100000 in
/-- eachName, over an expression of this kind -/
theorem each_7 (K : Nat) (all : Bool) (pick : Bool → Bool) (hK : Gathers K pick) (hp0 : pick false = all) (hp1 : pick true = true) (nm : List UInt8) (l : List Ex) (ih : ∀ y, y ∈ l → EachOK K all y) : EachOK K all ⟨7, nm, l⟩ := by
  intro p v ns w h hst hlen
  obtain ⟨hent, hG⟩ := hK
  have hent' : ∀ (args : Array Value) (w : World), (callFunc K args).run Tryz.prog w = .ok (.enter K args) w := hent
  have HG := hide hG
  have HIH := hide ih
  have HSZ : Hid (ns.length + (1 + (l.map fun x => x.size).sum) ≤ 1000000) := by show _ ≤ _; have := hlen; simp only [Ex.size] at this; exact this
  have hnl : ns.length ≤ 1000000 := by omega
  clear hent hG ih hlen
  have HX := hide h
  have HS := hide hst
  simp only [IsEx] at h
  obtain ⟨_, _, _, g0, cap0, rfl, _⟩ := h
  clear hst
  generalize hl0 : l.length = n0 at *
  clear hl0
  have HEQ : Hid (ns ++ Ex.named all ⟨7, nm, l⟩ = ns ++ Ex.nameds all l l.length) := by show _ = _; rw [Ex.named_of _ _ _ _ (by decide), Ex.nameds_all]
  have HS0 := HS
  have HK0 := hide (Kn.refl p w)
  have HX0 := HX
  clear HS HX
  go_enter Tryz.func135, Tryz.ntmps135
  go_wp2_with fail
  refine (within_k p ⟨7, nm, l⟩ _ w (by have := HS0.out.lt; omega) HX0.out).mono ?_
  rintro e w1 ⟨sv, rfl, hp, hb⟩
  have HB := hide hb
  have HS1 := hide (HS0.out.below hb)
  have HK1 := hide (HK0.out.trans (Kn.of_below hb (by have := HS0.out.lt; omega)))
  have HP1 := hide hp
  clear hb HS0 HK0 HX0
  rcases hp with ⟨hl, rfl⟩ | ⟨g, cap, rfl, hcap, hmx, _, _⟩
  · change l = [] at hl
    subst hl
    go_wp2_with fail
    go_loopw [31] (fun i wr => i = .int .i64 0 ∧ wr = w1) (fun _ _ => 0)
    case atStart => exact ⟨rfl, rfl⟩
    case round =>
      obtain ⟨rfl, rfl⟩ := hrel
      go_wp2_with fail
      go_end0
      exact ⟨rfl, by rw [HEQ.out]; simpa [Ex.nameds] using HS1.out, HK1.out⟩
  · change l.length ≤ cap at hcap
    change l.length ≤ 9223372036854775807 at hmx
    have e0 : ({ kind := 7, name := nm, of := l } : Ex).of.length = l.length := rfl
    rw [e0]
    rw [e0] at HP1
    clear e0
    obtain ⟨n, hn⟩ : ∃ n, n = l.length := ⟨_, rfl⟩
    have HN := hide hn
    rw [← hn] at hcap hmx HP1
    rw [← hn]
    clear hn
    go_wp2_with fail
    go_loopw [31] (fun i wr => ∃ k : Nat, k ≤ n ∧ i = .int .i64 (k : Int) ∧ St p (ns ++ Ex.nameds all l k) wr ∧ Kn p w1 wr) (fun i _ => n - (intOf i).toNat)
    case atStart => exact ⟨0, Nat.zero_le _, rfl, by simpa [Ex.nameds] using HS1.out, Kn.refl _ _⟩
    case round =>
      obtain ⟨j, hj, rfl, hs, hkr⟩ := hrel
      have HSR := hide hs
      have HKR := hide hkr
      clear hs hkr
      by_cases hlt : j < n
      · have hjl : j < l.length := by rw [← HN.out]; exact hlt
        have hcell : ∀ x, l[j]? = some x → ∃ u, wr.cell? ⟨g, j, none⟩ = some u ∧ IsEx (fun g => g < p) wr x u := by
          rcases HP1.out.keep HKR.out with ⟨hl0, _⟩ | ⟨g', cap', hsv, _, _, _, hcell⟩
          · intro x hx; change l = [] at hl0; rw [hl0] at hx; simp at hx
          · simp only [Value.slice.injEq, Option.some.injEq, Addr.mk.injEq] at hsv
            obtain ⟨⟨rfl, _⟩, _⟩ := hsv
            exact fun x hx => hcell j x hx
        obtain ⟨u, hu, hxu⟩ := hcell l[j] (List.getElem?_eq_getElem hjl)
        clear hcell
        have hle := Ex.nameds_le all l (l.length - j) j (by omega)
        have hdr : ((l.drop j).map fun x => x.size).sum = l[j].size + ((l.drop (j + 1)).map fun x => x.size).sum := by
          rw [List.drop_eq_getElem_cons hjl, List.map_cons, List.sum_cons]
        have hsz := HSZ.out
        have HE := hide (HIH.out l[j] (List.getElem_mem hjl) p u (ns ++ Ex.nameds all l j) wr hxu HSR.out (by rw [List.length_append]; omega))
        have HJ := hide (Ex.nameds_succ all l j hjl)
        obtain ⟨tu2, yu2, hiu2⟩ := IsEx.iface _ u hxu
        subst hiu2
        clear hxu hle hdr hsz
        go_wp2_with fail
        refine HE.out.mono ?_
        rintro e w2 ⟨rfl, hs2, hk2⟩
        have HS2 := hide hs2
        have HK2 := hide hk2
        clear hs2 hk2
        go_wp2_with fail
        go_roundw
        case rel => exact ⟨j + 1, by omega, by go_num, by rw [HJ.out, ← List.append_assoc]; exact HS2.out, HKR.out.trans HK2.out⟩
        case measure => simp [intOf]; omega
      · have hjn : j = n := by omega
        subst hjn
        go_wp2_with fail
        go_end0
        refine ⟨rfl, ?_, HK1.out.trans HKR.out⟩
        rw [HEQ.out, ← HN.out]
        exact HSR.out
/-- eachName, at every expression -/
theorem each_any (K : Nat) (all : Bool) (pick : Bool → Bool) (hK : Gathers K pick) (hp0 : pick false = all) (hp1 : pick true = true) (x : Ex) : EachOK K all x := by
  induction x using Ex.ind with
  | h k nm l ih =>
    match k with
    | 0 => exact each_0 K all pick hK hp0 hp1 nm l ih
    | 1 => exact each_1 K all pick hK hp0 hp1 nm l ih
    | 2 => exact each_2 K all pick hK hp0 hp1 nm l ih
    | 3 => exact each_3 K all pick hK hp0 hp1 nm l ih
    | 4 => exact each_4 K all pick hK hp0 hp1 nm l ih
    | 5 => exact each_5 K all pick hK hp0 hp1 nm l ih
    | 6 => exact each_6 K all pick hK hp0 hp1 nm l ih
    | 7 => exact each_7 K all pick hK hp0 hp1 nm l ih
    | n + 8 => intro p v ns w h; simp only [IsEx] at h
end
end Go.Proofs.YtgldbliohpfljaaGreatDoor
