/-
  The walk of within: the parts right within an expression, as a slice.
-/
import Derived.Test.YtbimjhgngohhoaaExLe
namespace Go.Proofs.Ytbimjhgngohhoaa
open Go.RowKit
theorem ret_int {a b : Int} (h : a = b) : Ending.returned (.int .i64 a) = .returned (.int .i64 b) := by rw [h]
/-- a slice of expressions -/
def Parts (w : World) (sv : Value) (xs : List Ex) : Prop :=
  (xs = [] ∧ sv = .slice none 0 0) ∨ ∃ g cap, sv = .slice (some ⟨g, 0, none⟩) xs.length cap ∧ xs.length ≤ cap ∧ xs.length ≤ 9223372036854775807 ∧ ∀ (k : Nat) (x : Ex), xs[k]? = some x → ∃ u, w.cell? ⟨g, k, none⟩ = some u ∧ IsEx (fun _ => True) w x u
theorem Parts.below {w w' : World} {sv : Value} {xs : List Ex} (h : Parts w sv xs) (hb : Below w.heap.size w w') : Parts w' sv xs := by
  rcases h with h | ⟨g, cap, h1, h2, h3, h4⟩
  · exact .inl h
  · refine .inr ⟨g, cap, h1, h2, h3, fun k x hx => ?_⟩
    obtain ⟨u, hu, he⟩ := h4 k x hx
    exact ⟨u, Stay.below (ok := fun _ => True) hb g k u trivial hu, IsEx.stay (Stay.below hb) (fun g hg => hg) x u he⟩
set_option maxHeartbeats 1000000 in
theorem within_parts (x : Ex) (v : Value) (w : World) (h : IsEx (fun _ => True) w x v) :
    Calls Try.prog 31 #[v] w fun e w' => ∃ sv, e = .returned sv ∧ Parts w' sv x.of ∧ Below w.heap.size w w' := by
  obtain ⟨k, nm, l⟩ := x
  match k, h with
  | 0, h =>
    simp only [IsEx] at h
    obtain ⟨_, hl, rfl⟩ := h
    go_enter Try.func31, Try.ntmps31
    go_wp2
    go_ret
    exact ⟨_, rfl, .inl ⟨hl, rfl⟩, Below.refl _ _⟩
  | 1, h =>
    simp only [IsEx] at h
    obtain ⟨_, hl, rfl⟩ := h
    go_enter Try.func31, Try.ntmps31
    go_wp2
    go_ret
    exact ⟨_, rfl, .inl ⟨hl, rfl⟩, Below.refl _ _⟩
  | 2, h =>
    simp only [IsEx] at h
    obtain ⟨hl, _, rfl⟩ := h
    go_enter Try.func31, Try.ntmps31
    go_wp2
    go_ret
    exact ⟨_, rfl, .inl ⟨hl, rfl⟩, Below.refl _ _⟩
  | 3, h =>
    simp only [IsEx] at h
    obtain ⟨hl, _, rfl⟩ := h
    go_enter Try.func31, Try.ntmps31
    go_wp2
    go_ret
    exact ⟨_, rfl, .inl ⟨hl, rfl⟩, Below.refl _ _⟩
  | 4, h =>
    simp only [IsEx] at h
    obtain ⟨hl, _, rfl⟩ := h
    go_enter Try.func31, Try.ntmps31
    go_wp2
    go_ret
    exact ⟨_, rfl, .inl ⟨hl, rfl⟩, Below.refl _ _⟩
  | 5, h =>
    simp only [IsEx] at h
    obtain ⟨_, h1, u, rfl, h3⟩ := h
    match l, h1 with
    | [y], _ =>
      have hy : IsEx (fun _ => True) w y u := h3 _ rfl
      obtain ⟨tu, yu, hiu⟩ := IsEx.iface y u hy
      subst hiu
      have HY := hide hy
      clear h3 hy
      go_enter Try.func31, Try.ntmps31
      go_wp2
      go_ret
      have hb : Below w.heap.size w ((w.alloc (.cells #[.iface tu yu] 73)).alloc (.cells #[.iface tu yu] 24)) := ((Below.refl _ w).alloc (Nat.le_refl _) _).alloc (by simp) _
      refine ⟨_, rfl, .inr ⟨w.heap.size + 1, 1, rfl, by simp, by simp, ?_⟩, hb⟩
      intro k x hk
      match k, hk with
      | 0, hk =>
        simp only [List.getElem?_cons_zero, Option.some.injEq] at hk
        subst hk
        exact ⟨_, by simp [go_sem], IsEx.stay (Stay.below hb) (fun g hg => hg) y _ HY.out⟩
      | k + 1, hk => simp at hk
  | 6, h =>
    simp only [IsEx] at h
    obtain ⟨_, _, h3, g, cap, rfl, h4, _, hr⟩ := h
    have HR := hide hr
    clear hr
    have hcap := h4
    generalize hn : l.length = n at *
    have HN := hide hn
    clear hn
    go_enter Try.func31, Try.ntmps31
    go_wp2
    go_ret
    exact ⟨.slice (some ⟨g, 0, none⟩) n cap, rfl, .inr ⟨g, cap, by show _ = Value.slice _ l.length cap; rw [HN.out], by show l.length ≤ cap; rw [HN.out]; exact h4, by show l.length ≤ _; rw [HN.out]; exact h3, fun k x hx => HR.out k _ (by rw [List.getElem?_map, hx]; rfl)⟩, Below.refl _ _⟩
  | 7, h =>
    simp only [IsEx] at h
    obtain ⟨_, _, h3, g, cap, rfl, h4, _, hr⟩ := h
    have HR := hide hr
    clear hr
    have hcap := h4
    generalize hn : l.length = n at *
    have HN := hide hn
    clear hn
    go_enter Try.func31, Try.ntmps31
    go_wp2
    go_ret
    exact ⟨.slice (some ⟨g, 0, none⟩) n cap, rfl, .inr ⟨g, cap, by show _ = Value.slice _ l.length cap; rw [HN.out], by show l.length ≤ cap; rw [HN.out]; exact h4, by show l.length ≤ _; rw [HN.out]; exact h3, fun k x hx => HR.out k _ (by rw [List.getElem?_map, hx]; rfl)⟩, Below.refl _ _⟩
  | n + 8, h => simp only [IsEx] at h
end Go.Proofs.Ytbimjhgngohhoaa
