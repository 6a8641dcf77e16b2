/-
  The document's routes and tracks in memory; the walks of its within, abs and Bare, and of the law's own at.
-/
import Derived.Test.YtmniiclmimidjaaDoorRjMath
import Derived.Test.YtmniiclmimidjaaDoorRoCheckW
import Derived.Test.YtmniiclmimidjaaDoorRoErPlace
namespace Go.Proofs.YtmniiclmimidjaaDoor
namespace Ro
open Go.RowKit ErAs
set_option maxHeartbeats 2000000 in
theorem within_any (n l m : Int) (w : World) : Calls Tryd.prog 12 #[.int .i64 n, .int .i64 l, .int .i64 m] w fun e w' => e = .returned (.bool (fromTo l m n)) ∧ w' = w := by
  by_cases h : l ≤ n
  · go_enter Tryd.func12, Tryd.ntmps12
    go_wp2_with fail
    go_ret
    exact ⟨ret_bool (by unfold fromTo; simp [h]), rfl⟩
  · go_enter Tryd.func12, Tryd.ntmps12
    go_wp2_with fail
    go_ret
    exact ⟨ret_bool (by unfold fromTo; rw [decide_eq_false (Int.not_le.2 h)]; rfl), rfl⟩
set_option maxHeartbeats 2000000 in
theorem abs_any (n : Int) (h1 : -2000 ≤ n) (h2 : n ≤ 2000) (w : World) : Calls Tryd.prog 14 #[.int .i64 n] w fun e w' => e = .returned (.int .i64 (absI n)) ∧ w' = w := by
  by_cases h : n < -n
  · have e : absI n = -n := by unfold absI; omega
    rw [e]
    go_enter Tryd.func14, Tryd.ntmps14
    go_wp2_with fail
    go_ret
    exact ⟨rfl, rfl⟩
  · have e : absI n = n := by unfold absI; omega
    rw [e]
    go_enter Tryd.func14, Tryd.ntmps14
    go_wp2_with fail
    go_ret
    exact ⟨rfl, rfl⟩
set_option maxHeartbeats 2000000 in
theorem bareF_any (e : Int) (w : World) : Calls Tryd.prog 13 #[.int .i64 e] w fun x w' => x = .returned (.agg #[.int .i64 e, .int .i64 (-1)]) ∧ Below w.heap.size w w' := by
  go_enter Tryd.func13, Tryd.ntmps13
  go_wp2_with fail
  refine bodyPost_ret_by (v := .agg #[.int .i64 e, .int .i64 (-1)]) ?_ rfl ?_
  · simp [results, Tryd.results13, go_sem]
  · exact ⟨rfl, newB _ _⟩
/-- a fault's two numbers -/
def flt : Option (Nat × Option Nat) → Int × Int
  | none => (0, -1)
  | some (e, none) => ((e : Int), -1)
  | some (e, some i) => ((e : Int), (i : Int))
/-- the document's routes, as a slice -/
def Rrs (w : World) (sv : Value) (l : List Rr) : Prop := ∃ a c, sv = .slice a l.length c ∧ l.length ≤ maxLen ∧ ∀ (k : Nat) r, l[k]? = some r → ∃ g o u v, a = some ⟨g, o, none⟩ ∧ l.length ≤ c ∧ w.cell? ⟨g, o + k * 2, none⟩ = some u ∧ w.cell? ⟨g, o + k * 2 + 1, none⟩ = some v ∧ Ints w u r.secs ∧ Ints w v r.pts
theorem Rrs.below {w w' : World} {sv : Value} {l : List Rr} (h : Rrs w sv l) (hb : Below w.heap.size w w') : Rrs w' sv l := by
  obtain ⟨a, c, h1, h2, h3⟩ := h
  refine ⟨a, c, h1, h2, fun k x hx => ?_⟩
  obtain ⟨g, o, u, v, e1, e2, e3, e4, e5, e6⟩ := h3 k x hx
  exact ⟨g, o, u, v, e1, e2, kept hb e3, kept hb e4, e5.below hb, e6.below hb⟩
theorem Rrs.slice {w : World} {sv : Value} {l : List Rr} (h : Rrs w sv l) : ∃ a c, sv = .slice a l.length c := by obtain ⟨a, c, h, _⟩ := h; exact ⟨a, c, h⟩
theorem Rrs.len {w : World} {sv : Value} {l : List Rr} (h : Rrs w sv l) : l.length ≤ maxLen := by obtain ⟨a, c, _, h, _⟩ := h; exact h
theorem Rrs.cell {w : World} {a : Option Addr} {n c : Nat} {l : List Rr} (h : Rrs w (.slice a n c) l) (k : Nat) (r : Rr) (hx : l[k]? = some r) : ∃ g o sa sc pa pc, a = some ⟨g, o, none⟩ ∧ w.cell? ⟨g, o + k * 2, none⟩ = some (.slice sa r.secs.length sc) ∧ w.cell? ⟨g, o + k * 2 + 1, none⟩ = some (.slice pa r.pts.length pc) ∧ Ints w (.slice sa r.secs.length sc) r.secs ∧ Ints w (.slice pa r.pts.length pc) r.pts := by
  obtain ⟨a', c', h1, h2, h3⟩ := h
  obtain ⟨g, o, u, v, e1, e2, e3, e4, e5, e6⟩ := h3 k r hx
  simp only [Value.slice.injEq] at h1
  obtain ⟨sa, sc, rfl⟩ := e5.slice
  obtain ⟨pa, pc, rfl⟩ := e6.slice
  exact ⟨g, o, sa, sc, pa, pc, by rw [h1.1]; exact e1, e3, e4, e5, e6⟩
theorem door_below {w w' : World} (h : Door w) (hb : Below w.heap.size w w') : Door w' := kept hb h
theorem nilEqR (w : World) : (binOp BinOp.eql 36 .nilIface .nilIface).run Tryd.prog w = .ok (.bool true) w := by kernel_rfl
theorem nilNeR (w : World) : (binOp BinOp.neq 36 .nilIface .nilIface).run Tryd.prog w = .ok (.bool false) w := by kernel_rfl
set_option maxHeartbeats 2000000 in
theorem TellNil_any (w : World) : Calls Tryd.prog 28 #[.nilIface] w fun x w' => x = .returned (.int .i64 0) ∧ w' = w := by
  have q := nilEqR
  go_enter Tryd.func28, Tryd.ntmps28
  go_wp2_with fail
  go_ret
  exact ⟨rfl, rfl⟩
set_option maxHeartbeats 2000000 in
theorem PlaceNil_any (w : World) : Calls Tryd.prog 15 #[.nilIface] w fun x w' => x = .returned (.tuple #[.int .i64 0, .int .i64 (-1)]) ∧ Below w.heap.size w w' := by
  have q := nilNeR
  have HT := hide (TellNil_any w)
  go_enter Tryd.func15, Tryd.ntmps15
  go_wp2_with fail
  refine HT.out.mono ?_
  rintro e w1 ⟨rfl, rfl⟩
  go_wp2_with fail
  go_loop [0] (fun v => v = .nilIface) (fun _ => 0)
  case atStart => rfl
  case round =>
    subst hrel
    go_wp2_with fail
    go_ret2
    exact ⟨rfl, Below.refl _ _⟩
theorem place_any (r : Option (Nat × Option Nat)) (v : Value) (w : World) (hg : Door w) (h : ErrIs w v r) : Calls Tryd.prog 15 #[v] w fun x w' => x = .returned (.tuple #[.int .i64 (flt r).1, .int .i64 (flt r).2]) ∧ Below w.heap.size w w' := by
  match r, h with
  | none, h =>
    have : v = .nilIface := h
    subst this
    exact PlaceNil_any w
  | some (e, none), h => exact Place_any v (e : Int) (-1) w hg (.inl ⟨h, rfl⟩)
  | some (e, some p), ⟨a, h1, h2, h3⟩ => exact Place_any v (e : Int) (p : Int) w hg (.inr ⟨a, h1, h2, h3⟩)
theorem err_form {w : World} {v : Value} : ∀ {r : Option (Nat × Option Nat)}, ErrIs w v r → (∃ t x, v = .iface t x) ∨ v = .nilIface
  | none, h => .inr h
  | some (_, none), h => .inl ⟨_, _, h⟩
  | some (_, some _), ⟨_, h1, _⟩ => .inl ⟨_, _, h1⟩
set_option maxHeartbeats 2000000 in
set_option maxRecDepth 100000 in
theorem at_any (r : Option (Nat × Option Nat)) (v : Value) (w : World) (hg : Door w) (h : ErrIs w v r) : Calls Tryd.prog 6 #[v, .agg #[.int .i64 (flt r).1, .int .i64 (flt r).2]] w fun x w' => x = .returned (.bool true) ∧ Below w.heap.size w w' := by
  obtain ⟨w1, hw1⟩ : ∃ w1, w1 = w.alloc (.cells #[.int .i64 (flt r).1, .int .i64 (flt r).2] 32) := ⟨_, rfl⟩
  have HB1 : Hid (Below w.heap.size w w1) := by rw [hw1]; exact newB _ _
  have HC := hide (place_any r v w1 (door_below hg HB1.out) (h.below HB1.out))
  have HR : Hid (RowIs w1 w.heap.size 32 [.int .i64 (flt r).1, .int .i64 (flt r).2]) := by rw [hw1]; exact RowIs.new _ _ _
  have HW1 := hide hw1
  have hx := err_form h
  generalize (flt r).1 = e1 at *
  generalize (flt r).2 = e2 at *
  clear hw1 hg h
  rcases hx with ⟨t, x, rfl⟩ | rfl
  all_goals
    go_enter Tryd.func6, Tryd.ntmps6
    go_wp2_with fail
    rw [← HW1.out]
    refine HC.out.mono ?_
    rintro y w2 ⟨rfl, hb⟩
    have c0 := (HR.out.below hb).cell 0 _ rfl
    have c1 := (HR.out.below hb).cell 1 _ rfl
    have HB := hide (then_ HB1.out hb)
    clear hb HC
    go_wp2_with fail
    go_ret
    exact ⟨by simp, HB.out⟩
end Ro
end Go.Proofs.YtmniiclmimidjaaDoor
