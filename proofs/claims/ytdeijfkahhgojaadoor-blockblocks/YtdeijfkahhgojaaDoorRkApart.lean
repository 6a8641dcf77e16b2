/-
  Plain mathematics of chapter 9: in how few inputs two states tell something unlike, round by round. Nothing of the program is named here.
-/
import Derived.Test.YtdeijfkahhgojaaDoorBkGrp
namespace Go.Proofs.YtdeijfkahhgojaaDoor
namespace Bk
/-- in how few inputs, of at most d, two states tell something unlike; 0: in none -/
def lv (t : Tb) : Nat → Nat → Nat → Nat
  | 0, _, _ => 0
  | d + 1, a, b => if 0 < lv t d a b then lv t d a b else if eqB t (d + 1) a b = true then 0 else d + 1
theorem lv_zero (t : Tb) : ∀ d a b, lv t d a b = 0 ↔ eqB t d a b = true
  | 0, _, _ => ⟨fun _ => rfl, fun _ => rfl⟩
  | d + 1, a, b => by
    have ih := lv_zero t d a b
    rw [lv]
    by_cases h : 0 < lv t d a b
    · rw [if_pos h]
      refine ⟨fun h2 => by omega, fun h2 => ?_⟩
      have := ih.2 (eqB_less t d a b h2)
      omega
    · rw [if_neg h]
      by_cases h2 : eqB t (d + 1) a b = true
      · rw [if_pos h2]; exact ⟨fun _ => h2, fun _ => rfl⟩
      · rw [if_neg h2]; exact ⟨fun h3 => by omega, fun h3 => absurd h3 h2⟩
theorem lv_val (t : Tb) : ∀ d a b, 0 < lv t d a b → lv t d a b ≤ d ∧ eqB t (lv t d a b) a b = false ∧ eqB t (lv t d a b - 1) a b = true
  | 0, _, _, h => by simp [lv] at h
  | d + 1, a, b, h => by
    by_cases h1 : 0 < lv t d a b
    · have e : lv t (d + 1) a b = lv t d a b := by rw [lv, if_pos h1]
      obtain ⟨i1, i2, i3⟩ := lv_val t d a b h1
      rw [e]
      exact ⟨by omega, i2, i3⟩
    · by_cases h2 : eqB t (d + 1) a b = true
      · rw [lv, if_neg h1, if_pos h2] at h; omega
      · have e : lv t (d + 1) a b = d + 1 := by rw [lv, if_neg h1, if_neg h2]
        rw [e]
        exact ⟨Nat.le_refl _, by simpa using h2, (lv_zero t d a b).1 (by omega)⟩
/-- what was found stays -/
theorem lv_keep (t : Tb) (d a b : Nat) (h : 0 < lv t d a b) : lv t (d + 1) a b = lv t d a b := by rw [lv, if_pos h]
/-- the first round -/
theorem lv_first (t : Tb) (a b : Nat) : lv t 1 a b = 1 ↔ ∃ i, i < t.k ∧ t.tl a i ≠ t.tl b i := by
  constructor
  · intro h
    have h2 : ¬ eqB t 1 a b = true := fun h3 => by have := (lv_zero t 1 a b).2 h3; omega
    by_cases hex : ∃ i, i < t.k ∧ t.tl a i ≠ t.tl b i
    · exact hex
    · refine absurd ((eqB_succ t 0 a b).2 fun i hi => ⟨?_, rfl⟩) h2
      by_cases he : t.tl a i = t.tl b i
      · exact he
      · exact absurd ⟨i, hi, he⟩ hex
  · rintro ⟨i, hi, hne⟩
    have h2 : ¬ eqB t 1 a b = true := fun h3 => hne ((eqB_succ t 0 a b).1 h3 i hi).1
    rw [lv, if_neg (by simp [lv]), if_neg h2]
/-- a later round: one step ahead of what was found in the round ahead -/
theorem lv_later (t : Tb) (d a b : Nat) (hd : 1 ≤ d) (h0 : lv t d a b = 0) : lv t (d + 1) a b = d + 1 ↔ ∃ i, i < t.k ∧ lv t d (t.nx a i) (t.nx b i) = d := by
  have hab := (lv_zero t d a b).1 h0
  obtain ⟨e, rfl⟩ : ∃ e, d = e + 1 := ⟨d - 1, by omega⟩
  constructor
  · intro h
    have h2 : ¬ eqB t (e + 1 + 1) a b = true := fun h3 => by have := (lv_zero t (e + 1 + 1) a b).2 h3; omega
    by_cases hex : ∃ i, i < t.k ∧ ¬ eqB t (e + 1) (t.nx a i) (t.nx b i) = true
    · obtain ⟨i, hi, hne⟩ := hex
      refine ⟨i, hi, ?_⟩
      have h3 := ((eqB_succ t e a b).1 hab i hi).2
      have h4 := (lv_zero t e _ _).2 h3
      rw [lv, if_neg (by omega), if_neg hne]
    · refine absurd ((eqB_succ t (e + 1) a b).2 fun i hi => ⟨((eqB_succ t e a b).1 hab i hi).1, ?_⟩) h2
      by_cases he : eqB t (e + 1) (t.nx a i) (t.nx b i) = true
      · exact he
      · exact absurd ⟨i, hi, he⟩ hex
  · rintro ⟨i, hi, h⟩
    have h2 : ¬ eqB t (e + 1 + 1) a b = true := fun h3 => by
      have := (lv_zero t (e + 1) _ _).2 ((eqB_succ t (e + 1) a b).1 h3 i hi).2
      omega
    rw [lv, if_neg (by omega), if_neg h2]
/-- a round in which nothing is found: nothing is parted any more -/
theorem lv_stable {t : Tb} (ok : t.Ok) (d : Nat) (h : ∀ a b, a < t.n → b < t.n → lv t d a b = 0 → lv t (d + 1) a b = 0) : Stable t d :=
  stable_of ok d fun a b ha hb hab => (lv_zero t (d + 1) a b).1 (h a b ha hb ((lv_zero t d a b).2 hab))
end Bk
end Go.Proofs.YtdeijfkahhgojaaDoor
