/-
  The walks of the statements' own at and bare, at errors without a place, and at none.
-/
import Derived.Test.YtmdblokmplbpmaaDoorLsErPlace
import Derived.Test.YtmdblokmplbpmaaDoorLsRight
namespace Go.Proofs.YtmdblokmplbpmaaDoor
namespace Ls
open Go.RowKit ErAs
theorem door_below {w w' : World} (h : Door w) (hb : Below w.heap.size w w') : Door w' := kept hb h
theorem errNeqB (k : Nat) (w : World) : (binOp BinOp.eql 34 (.iface 30 (.int .i64 (k : Int))) .nilIface).run Tryd.prog w = .ok (.bool false) w := by kernel_rfl
theorem nilEqB (w : World) : (binOp BinOp.eql 34 .nilIface .nilIface).run Tryd.prog w = .ok (.bool true) w := by kernel_rfl
theorem nilNeB (w : World) : (binOp BinOp.neq 34 .nilIface .nilIface).run Tryd.prog w = .ok (.bool false) w := by kernel_rfl
set_option maxHeartbeats 2000000 in
theorem Bare_any (e : Nat) (w : World) : Calls Tryd.prog 21 #[.int .i64 (e : Int)] w fun x w' => x = .returned (.agg #[.int .i64 (e : Int), .int .i64 (-1)]) ∧ Below w.heap.size w w' := by
  go_enter Tryd.func21, Tryd.ntmps21
  go_wp2_with fail
  refine bodyPost_ret_by (v := .agg #[.int .i64 (e : Int), .int .i64 (-1)]) ?_ rfl ?_
  · simp [results, Tryd.results21, go_sem]
  · exact ⟨rfl, (Below.refl _ _).alloc (Nat.le_refl _) _⟩
set_option maxHeartbeats 2000000 in
theorem TellNil_any (w : World) : Calls Tryd.prog 51 #[.nilIface] w fun x w' => x = .returned (.int .i64 0) ∧ w' = w := by
  have q := nilEqB
  go_enter Tryd.func51, Tryd.ntmps51
  go_wp2_with fail
  go_ret
  exact ⟨rfl, rfl⟩
set_option maxHeartbeats 2000000 in
theorem PlaceNil_any (w : World) : Calls Tryd.prog 33 #[.nilIface] w fun x w' => x = .returned (.tuple #[.int .i64 0, .int .i64 (-1)]) ∧ Below w.heap.size w w' := by
  have q := nilNeB
  have HT := hide (TellNil_any w)
  go_enter Tryd.func33, Tryd.ntmps33
  go_wp2_with fail
  refine HT.out.mono ?_
  rintro e w1 ⟨rfl, rfl⟩
  go_wp2_with fail
  go_loop [0] (fun v => v = .nilIface) (fun _ => 0)
  case atStart => rfl
  case round =>
    subst hrel
    go_wp2_with fail
    go_ret2
    exact ⟨rfl, Below.refl _ _⟩
/-- the number of an error -/
def num (r : Option Nat) : Nat := r.getD 0
theorem place_at (r : Option Nat) (w : World) (hg : Door w) : Calls Tryd.prog 33 #[errV r] w fun x w' => x = .returned (.tuple #[.int .i64 (num r : Int), .int .i64 (-1)]) ∧ Below w.heap.size w w' := by
  cases r with
  | none => exact PlaceNil_any w
  | some k => exact (Place_any _ (k : Int) (-1) w hg (.inl ⟨rfl, rfl⟩)).mono fun e w' h => h
set_option maxHeartbeats 2000000 in
set_option maxRecDepth 100000 in
theorem at_at (r : Option Nat) (e : Nat) (w : World) (hg : Door w) : Calls Tryd.prog 20 #[errV r, .agg #[.int .i64 (e : Int), .int .i64 (-1)]] w fun x w' => x = .returned (.bool (decide (num r = e))) ∧ Below w.heap.size w w' := by
  obtain ⟨w1, hw1⟩ : ∃ w1, w1 = w.alloc (.cells #[.int .i64 (e : Int), .int .i64 (-1)] 62) := ⟨_, rfl⟩
  have HB1 : Hid (Below w.heap.size w w1) := by rw [hw1]; exact (Below.refl _ _).alloc (Nat.le_refl _) _
  have HC := hide (place_at r w1 (door_below hg HB1.out))
  have HR : Hid (RowIs w1 w.heap.size 62 [.int .i64 (e : Int), .int .i64 (-1)]) := by rw [hw1]; exact RowIs.new _ _ _
  have HW1 := hide hw1
  have hx : (∃ t v, errV r = .iface t v) ∨ errV r = .nilIface := by
    cases r with
    | none => exact .inr rfl
    | some k => exact .inl ⟨_, _, rfl⟩
  generalize errV r = ev at *
  generalize num r = k at *
  clear hw1 hg
  rcases hx with ⟨t, v, rfl⟩ | rfl
  all_goals
    go_enter Tryd.func20, Tryd.ntmps20
    go_wp2_with fail
    rw [← HW1.out]
    refine HC.out.mono ?_
    rintro x w2 ⟨rfl, hb⟩
    have c0 := (HR.out.below hb).cell 0 _ rfl
    have c1 := (HR.out.below hb).cell 1 _ rfl
    have HB := hide (HB1.out.trans (hb.mono HB1.out.size))
    clear hb HC
    by_cases hke : k = e
    · subst hke
      go_wp2_with fail
      go_ret
      exact ⟨ret_bool (by simp), HB.out⟩
    · have hki : ¬ (k : Int) = (e : Int) := by omega
      have hkb : ((k : Int) == (e : Int)) = false := by simp; omega
      go_wp2_with fail
      go_ret
      exact ⟨ret_bool (by simp [hke]), HB.out⟩
set_option maxHeartbeats 2000000 in
set_option maxRecDepth 100000 in
theorem bare_any (r : Option Nat) (e : Nat) (w : World) (hg : Door w) : Calls Tryd.prog 7 #[errV r, .int .i64 (e : Int)] w fun x w' => x = .returned (.bool (decide (num r = e))) ∧ Below w.heap.size w w' := by
  have HB := hide (Bare_any e w)
  have HA := hide (fun W (hW : Below w.heap.size w W) => at_at r e W (door_below hg hW))
  have hx : (∃ t v, errV r = .iface t v) ∨ errV r = .nilIface := by
    cases r with
    | none => exact .inr rfl
    | some k => exact .inl ⟨_, _, rfl⟩
  generalize errV r = ev at *
  generalize decide (num r = e) = y at *
  clear hg
  rcases hx with ⟨t, v, rfl⟩ | rfl
  all_goals
    go_enter Tryd.func7, Tryd.ntmps7
    go_wp2_with fail
    refine HB.out.mono ?_
    rintro x w1 ⟨rfl, hb1⟩
    have HB1 := hide hb1
    have HC := hide (HA.out w1 hb1)
    clear hb1
    go_wp2_with fail
    refine HC.out.mono ?_
    rintro x w2 ⟨rfl, hb2⟩
    have HB2 := hide (then_ HB1.out hb2)
    clear hb2
    go_wp2_with fail
    go_ret
    exact ⟨rfl, HB2.out⟩
end Ls
end Go.Proofs.YtmdblokmplbpmaaDoor
