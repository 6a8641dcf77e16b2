/-
  The walks of the statements' own at and bare, at whatever error.
-/
import Derived.Test.YtdeijfkahhgojaaDoorRkSame
import Derived.Test.YtdeijfkahhgojaaDoorBkClone
namespace Go.Proofs.YtdeijfkahhgojaaDoor
namespace Bk
open Go.RowKit ErAs
theorem door_kept {w w' : World} (h : Door w) (hb : Below w.heap.size w w') : Door w' := kept hb h
theorem nilEqR (w : World) : (binOp BinOp.eql 33 .nilIface .nilIface).run Tryd.prog w = .ok (.bool true) w := by kernel_rfl
set_option maxHeartbeats 2000000 in
theorem TellNil_any (w : World) : Calls Tryd.prog 36 #[.nilIface] w fun x w' => x = .returned (.int .i64 0) ∧ w' = w := by
  have q := nilEqR
  go_enter Tryd.func36, Tryd.ntmps36
  go_wp2_with fail
  go_ret
  exact ⟨rfl, rfl⟩
set_option maxHeartbeats 2000000 in
theorem PlaceNil_any (w : World) : Calls Tryd.prog 21 #[.nilIface] w fun x w' => x = .returned (.tuple #[.int .i64 0, .int .i64 (-1)]) ∧ Below w.heap.size w w' := by
  have q := neqNilN
  have HT := hide (TellNil_any w)
  go_enter Tryd.func21, Tryd.ntmps21
  go_wp2_with fail
  refine HT.out.mono ?_
  rintro e w1 ⟨rfl, rfl⟩
  go_wp2_with fail
  go_loop [0] (fun v => v = .nilIface) (fun _ => 0)
  case atStart => rfl
  case round =>
    subst hrel
    go_wp2_with fail
    go_ret2
    exact ⟨rfl, Below.refl _ _⟩
theorem placef_any (r : Option (Nat × Option Nat)) (v : Value) (w : World) (hg : Door w) (h : ErrIs w v r) : Calls Tryd.prog 21 #[v] w fun x w' => x = .returned (.tuple #[.int .i64 (fltE r), .int .i64 (fltP r)]) ∧ Below w.heap.size w w' := by
  match r, h with
  | none, h =>
    have : v = .nilIface := h
    subst this
    exact PlaceNil_any w
  | some (e, none), h => exact Place_any v (e : Int) (-1) w hg (.inl ⟨h, rfl⟩)
  | some (e, some p), ⟨a, h1, h2, h3⟩ => exact Place_any v (e : Int) (p : Int) w hg (.inr ⟨a, h1, h2, h3⟩)
theorem err_form {w : World} {v : Value} : ∀ {r : Option (Nat × Option Nat)}, ErrIs w v r → (∃ t x, v = .iface t x) ∨ v = .nilIface
  | none, h => .inr h
  | some (_, none), h => .inl ⟨_, _, h⟩
  | some (_, some _), ⟨_, h1, _⟩ => .inl ⟨_, _, h1⟩
set_option maxHeartbeats 2000000 in
set_option maxRecDepth 100000 in
theorem atf_any (r : Option (Nat × Option Nat)) (v : Value) (w : World) (hg : Door w) (h : ErrIs w v r) : Calls Tryd.prog 8 #[v, .agg #[.int .i64 (fltE r), .int .i64 (fltP r)]] w fun x w' => x = .returned (.bool true) ∧ Below w.heap.size w w' := by
  obtain ⟨w1, hw1⟩ : ∃ w1, w1 = w.alloc (.cells #[.int .i64 (fltE r), .int .i64 (fltP r)] 28) := ⟨_, rfl⟩
  have HB1 : Hid (Below w.heap.size w w1) := by rw [hw1]; exact (Below.refl _ _).alloc (Nat.le_refl _) _
  have HC := hide (placef_any r v w1 (door_kept hg HB1.out) (h.below HB1.out))
  have HR : Hid (RowIs w1 w.heap.size 28 [.int .i64 (fltE r), .int .i64 (fltP r)]) := by rw [hw1]; exact RowIs.new _ _ _
  have HW1 := hide hw1
  have hx := err_form h
  generalize fltE r = e1 at *
  generalize fltP r = e2 at *
  clear hw1 hg h
  rcases hx with ⟨t, x, rfl⟩ | rfl
  all_goals
    go_enter Tryd.func8, Tryd.ntmps8
    go_wp2_with fail
    rw [← HW1.out]
    refine HC.out.mono ?_
    rintro y w2 ⟨rfl, hb⟩
    have c0 := (HR.out.below hb).cell 0 _ rfl
    have c1 := (HR.out.below hb).cell 1 _ rfl
    have HB := hide (then_ HB1.out hb)
    clear hb HC
    go_wp2_with fail
    go_ret
    exact ⟨by simp, HB.out⟩
set_option maxHeartbeats 2000000 in
set_option maxRecDepth 100000 in
theorem bare_any (r : Option (Nat × Option Nat)) (v : Value) (w : World) (hg : Door w) (h : ErrIs w v r) (hr : fltP r = -1) : Calls Tryd.prog 17 #[v, .int .i64 (fltE r)] w fun x w' => x = .returned (.bool true) ∧ Below w.heap.size w w' := by
  have HC := hide (bare0_any (fltE r) w)
  have HA : Hid (∀ W, Below w.heap.size w W → Calls Tryd.prog 8 #[v, .agg #[.int .i64 (fltE r), .int .i64 (-1)]] W fun x w' => x = .returned (.bool true) ∧ Below W.heap.size W w') := fun W hW => by
    have h := atf_any r v W (door_kept hg hW) (h.below hW)
    rw [hr] at h
    exact h
  unfold faultV at HC
  have hx := err_form h
  generalize fltE r = e1 at *
  clear hg h hr
  rcases hx with ⟨t, x, rfl⟩ | rfl
  all_goals
    go_enter Tryd.func17, Tryd.ntmps17
    go_wp2_with fail
    refine HC.out.mono ?_
    rintro y w1 ⟨rfl, hb⟩
    have HB := hide hb
    clear hb HC
    go_wp2_with fail
    refine (HA.out _ HB.out).mono ?_
    rintro y w2 ⟨rfl, hb⟩
    have HB2 := hide (then_ HB.out hb)
    clear hb
    go_wp2_with fail
    go_ret
    exact ⟨rfl, HB2.out⟩
end Bk
end Go.Proofs.YtdeijfkahhgojaaDoor
