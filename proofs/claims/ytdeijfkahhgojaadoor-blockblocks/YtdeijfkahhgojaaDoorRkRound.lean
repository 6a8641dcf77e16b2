/-
  Plain mathematics of chapter 9: the document's rounds of marking, pair by pair. Nothing of the program is named here.
-/
import Derived.Test.YtdeijfkahhgojaaDoorRkApart
namespace Go.Proofs.YtdeijfkahhgojaaDoor
namespace Bk
/-- the marks in round r + 1, ahead of pair a, b -/
def cur (t : Tb) (r a b i j : Nat) : Nat := if i < a ∨ (i = a ∧ j < b) then lv t (r + 1) i j else lv t r i j
def hitR (t : Tb) (r a b i : Nat) : Bool := if r = 0 then decide (t.tl a i ≠ t.tl b i) else decide (lv t r (t.nx a i) (t.nx b i) = r)
theorem lv_up (t : Tb) (r a b : Nat) (h : lv t r a b = 0) : lv t (r + 1) a b = 0 ∨ lv t (r + 1) a b = r + 1 := by
  rw [lv, if_neg (by omega)]
  by_cases h2 : eqB t (r + 1) a b = true
  · rw [if_pos h2]; exact .inl rfl
  · rw [if_neg h2]; exact .inr rfl
theorem lv_hit (t : Tb) (r a b i : Nat) (h : lv t r a b = 0) (hi : i < t.k) (hh : hitR t r a b i = true) : lv t (r + 1) a b = r + 1 := by
  unfold hitR at hh
  by_cases h0 : r = 0
  · subst h0
    rw [if_pos rfl] at hh
    exact (lv_first t a b).2 ⟨i, hi, by simpa using hh⟩
  · rw [if_neg h0] at hh
    exact (lv_later t r a b (by omega) h).2 ⟨i, hi, by simpa using hh⟩
theorem lv_nohit (t : Tb) (r a b : Nat) (h : lv t r a b = 0) (hn : ∀ i, i < t.k → hitR t r a b i = false) : lv t (r + 1) a b = 0 := by
  rcases lv_up t r a b h with h1 | h1
  · exact h1
  · exfalso
    by_cases h0 : r = 0
    · subst h0
      obtain ⟨i, hi, hne⟩ := (lv_first t a b).1 h1
      have := hn i hi
      unfold hitR at this
      rw [if_pos rfl] at this
      simp at this
      exact hne this
    · obtain ⟨i, hi, he⟩ := (lv_later t r a b (by omega) h).1 h1
      have := hn i hi
      unfold hitR at this
      rw [if_neg h0] at this
      simp at this
      exact this he
theorem lv_zero_up (t : Tb) (r a b : Nat) (h : lv t (r + 1) a b = 0) : lv t r a b = 0 := by
  rcases Nat.eq_zero_or_pos (lv t r a b) with h1 | h1
  · exact h1
  · rw [lv_keep t r a b h1] at h; omega
theorem cur_at (t : Tb) (r a b : Nat) : cur t r a b a b = lv t r a b := by rw [cur, if_neg (by omega)]
/-- whether a later round's step is met is the same, of marks of this round or of the one ahead -/
theorem cur_was (t : Tb) (r a b x y : Nat) (hr : r ≠ 0) : cur t r a b x y = r ↔ lv t r x y = r := by
  unfold cur
  split
  · rcases Nat.eq_zero_or_pos (lv t r x y) with h1 | h1
    · rcases lv_up t r x y h1 with h2 | h2 <;> omega
    · rw [lv_keep t r x y h1]
  · exact Iff.rfl
theorem cur_set (t : Tb) (r a b i j : Nat) : cur t r a (b + 1) i j = if i = a ∧ j = b then lv t (r + 1) a b else cur t r a b i j := by
  unfold cur
  by_cases h : i = a ∧ j = b
  · obtain ⟨rfl, rfl⟩ := h
    rw [if_pos (by omega), if_pos ⟨rfl, rfl⟩]
  · rw [if_neg h]
    by_cases h2 : i < a ∨ (i = a ∧ j < b)
    · rw [if_pos (by omega), if_pos h2]
    · rw [if_neg (by omega), if_neg h2]
theorem cur_row (t : Tb) (r a n i j : Nat) (hj : j < n) : cur t r a n i j = cur t r (a + 1) 0 i j := by
  unfold cur
  by_cases h2 : i < a ∨ (i = a ∧ j < n)
  · rw [if_pos h2, if_pos (by omega)]
  · rw [if_neg h2, if_neg (by omega)]
theorem cur_end (t : Tb) (r n i j : Nat) (hi : i < n) : cur t r n 0 i j = lv t (r + 1) i j := by rw [cur, if_pos (by omega)]
theorem cur_start (t : Tb) (r i j : Nat) : cur t r 0 0 i j = lv t r i j := by rw [cur, if_neg (by omega)]
/-- the mark ahead: nothing is new, so far; or something is -/
def Still (t : Tb) (r a b : Nat) : Prop := ∀ i j, i < t.n → j < t.n → (i < a ∨ (i = a ∧ j < b)) → lv t r i j = 0 → lv t (r + 1) i j = 0
def News (t : Tb) (r : Nat) : Prop := ∃ i j, i < t.n ∧ j < t.n ∧ lv t r i j = 0 ∧ lv t (r + 1) i j ≠ 0
def MoreOk (t : Tb) (r a b : Nat) (mb : Bool) : Prop := (mb = false → Still t r a b) ∧ (mb = true → News t r)
theorem MoreOk.start (t : Tb) (r : Nat) : MoreOk t r 0 0 false := ⟨fun _ i j _ _ h => (by omega), fun h => (by cases h)⟩
theorem MoreOk.same {t : Tb} {r a b : Nat} {mb : Bool} (h : MoreOk t r a b mb) (hs : lv t r a b = 0 → lv t (r + 1) a b = 0) : MoreOk t r a (b + 1) mb := by
  refine ⟨fun hm i j hi hj hij h0 => ?_, h.2⟩
  by_cases e : i = a ∧ j = b
  · obtain ⟨rfl, rfl⟩ := e; exact hs h0
  · exact h.1 hm i j hi hj (by omega) h0
theorem MoreOk.new {t : Tb} {r a b : Nat} (ha : a < t.n) (hb : b < t.n) (h0 : lv t r a b = 0) (h1 : lv t (r + 1) a b = r + 1) : MoreOk t r a (b + 1) true :=
  ⟨fun h => (by cases h), fun _ => ⟨a, b, ha, hb, h0, by omega⟩⟩
theorem MoreOk.row {t : Tb} {r a : Nat} {mb : Bool} (h : MoreOk t r a t.n mb) : MoreOk t r (a + 1) 0 mb := ⟨fun hm i j hi hj hij h0 => h.1 hm i j hi hj (by omega) h0, h.2⟩
theorem Still.stable {t : Tb} (ok : t.Ok) {r : Nat} (h : Still t r t.n 0) : Stable t r := lv_stable ok r fun a b ha hb h0 => h a b ha hb (.inl ha) h0
/-- how many pairs are not marked -/
def zc (t : Tb) (d : Nat) : Nat := cnt (fun q => decide (lv t d (q / t.n) (q % t.n) = 0)) (t.n * t.n)
theorem cnt_max (p : Nat → Bool) : ∀ n, cnt p n ≤ n
  | 0 => Nat.le_refl _
  | n + 1 => by have := cnt_max p n; have h : (p n).toNat ≤ 1 := by cases p n <;> simp
                simp only [cnt]; omega
theorem zc_max (t : Tb) (d : Nat) : zc t d ≤ t.n * t.n := cnt_max _ _
theorem zc_less {t : Tb} {r : Nat} (h : News t r) : zc t (r + 1) + 1 ≤ zc t r := by
  obtain ⟨a, b, ha, hb, h0, h1⟩ := h
  have hle := cnt_le (p := fun q => decide (lv t (r + 1) (q / t.n) (q % t.n) = 0)) (q := fun q => decide (lv t r (q / t.n) (q % t.n) = 0)) (t.n * t.n) (fun q _ hq => by
    simp only [decide_eq_true_eq] at hq ⊢
    exact lv_zero_up t r _ _ hq)
  unfold zc
  rcases Nat.lt_or_ge (cnt (fun q => decide (lv t (r + 1) (q / t.n) (q % t.n) = 0)) (t.n * t.n)) (cnt (fun q => decide (lv t r (q / t.n) (q % t.n) = 0)) (t.n * t.n)) with h2 | h2
  · exact h2
  · exfalso
    have hq : a * t.n + b < t.n * t.n := by
      have : (a + 1) * t.n ≤ t.n * t.n := Nat.mul_le_mul_right t.n ha
      rw [Nat.add_mul, Nat.one_mul] at this
      omega
    have e1 : (a * t.n + b) / t.n = a := by rw [Nat.add_comm, Nat.add_mul_div_right _ _ (by omega), Nat.div_eq_of_lt hb, Nat.zero_add]
    have e2 : (a * t.n + b) % t.n = b := by rw [Nat.add_comm, Nat.add_mul_mod_self_right, Nat.mod_eq_of_lt hb]
    have := cnt_eq (p := fun q => decide (lv t (r + 1) (q / t.n) (q % t.n) = 0)) (q := fun q => decide (lv t r (q / t.n) (q % t.n) = 0)) (t.n * t.n) (fun q _ hq => by
      simp only [decide_eq_true_eq] at hq ⊢
      exact lv_zero_up t r _ _ hq) (by omega) _ hq
    simp only [e1, e2, h0, h1, decide_false, decide_true] at this
    cases this
end Bk
end Go.Proofs.YtdeijfkahhgojaaDoor
