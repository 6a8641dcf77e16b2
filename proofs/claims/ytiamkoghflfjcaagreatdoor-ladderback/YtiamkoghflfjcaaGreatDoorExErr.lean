/-
  Plain mathematics of chapter 1: where reading goes wrong lies within the text.
-/
import Derived.Test.YtiamkoghflfjcaaGreatDoorExAdv
namespace Go.Proofs.YtiamkoghflfjcaaGreatDoor
namespace Ex
def ErrB (l : List UInt8) (r : Nat → Res Ex) : Prop := ∀ i e p, i ≤ l.length → r i = .inl (e, p) → p ≤ l.length
theorem nameP_err (l : List UInt8) (k : Nat) : ErrB l (nameP l k) := by
  intro i e p hi h
  have h2 := skip_le l i hi
  unfold nameP at h
  simp only at h
  split at h
  · simp only [Sum.inl.injEq, Prod.mk.injEq] at h; omega
  · split at h
    · cases h
    · simp only [Sum.inl.injEq, Prod.mk.injEq] at h; omega
theorem listP_err (l : List UInt8) (sep : Nat) (hs : sep ≠ 32) (r : Nat → Res Ex) (hr : Adv l r) (he : ErrB l r) : ∀ f i e p, i ≤ l.length → listP l sep r f i = .inl (e, p) → p ≤ l.length := by
  intro f
  induction f with
  | zero => intro i e p hi h; simp only [listP, Sum.inl.injEq, Prod.mk.injEq] at h; omega
  | succ f ih =>
    intro i e p hi h
    unfold listP at h
    cases hri : r i with
    | inl q => rw [hri] at h; simp only [Sum.inl.injEq] at h; subst h; exact he i _ _ hi hri
    | inr q =>
      obtain ⟨x, j⟩ := q
      rw [hri] at h
      simp only at h
      have hj := hr i x j hi hri
      by_cases hsg : sg l (skip l j) = sep
      · rw [if_pos hsg] at h
        have hlt := sg_lt l (skip l j) (by rw [hsg]; exact hs)
        cases hm : listP l sep r f (skip l j + 1) with
        | inl q =>
          rw [hm] at h
          simp only [Sum.inl.injEq] at h
          subst h
          exact ih _ _ _ (by omega) hm
        | inr q => rw [hm] at h; cases h
      · rw [if_neg hsg] at h; cases h
theorem made_err (k : Nat) (q : Res (List Ex)) (e p : Nat) (h : made k q = .inl (e, p)) : q = .inl (e, p) := by
  match q, h with
  | .inl x, h => simp only [made, Sum.inl.injEq] at h; rw [h]
  | .inr ([], m), h => simp [made] at h
  | .inr ([x], m), h => simp [made] at h
  | .inr (x :: y :: t, m), h => simp [made] at h
theorem partP_err (l : List UInt8) (r : Nat → Res Ex) (hr : Adv l r) (he : ErrB l r) : ErrB l (partP l r) := fun i e p hi h => listP_err l 38 (by decide) r hr he _ i e p hi (made_err _ _ _ _ h)
theorem wholeP_err (l : List UInt8) (r : Nat → Res Ex) (hr : Adv l r) (he : ErrB l r) : ErrB l (wholeP l r) := fun i e p hi h => listP_err l 124 (by decide) _ (partP_adv l r hr) (partP_err l r hr he) _ i e p hi (made_err _ _ _ _ h)
theorem pieceP_err (l : List UInt8) : ∀ d, ErrB l (pieceP l d) := by
  intro d
  induction d with
  | zero => intro i e p hi h; have := skip_le l i hi; simp only [pieceP, Sum.inl.injEq, Prod.mk.injEq] at h; omega
  | succ d ih =>
    intro i e p hi h
    have h2 := skip_le l i hi
    unfold pieceP at h
    simp only at h
    by_cases c1 : sg l (skip l i) = 33
    · rw [if_pos c1] at h
      have hlt := sg_lt l (skip l i) (by rw [c1]; decide)
      cases hq : pieceP l d (skip l i + 1) with
      | inl q => rw [hq] at h; simp only [notP, Sum.inl.injEq] at h; subst h; exact ih _ _ _ (by omega) hq
      | inr q => rw [hq] at h; simp [notP] at h
    rw [if_neg c1] at h
    by_cases c2 : sg l (skip l i) = 40
    · rw [if_pos c2] at h
      have hlt := sg_lt l (skip l i) (by rw [c2]; decide)
      cases hq : wholeP l (pieceP l d) (skip l i + 1) with
      | inl q => rw [hq] at h; simp only [parP, Sum.inl.injEq] at h; subst h; exact wholeP_err l _ (pieceP_adv l d) ih _ _ _ (by omega) hq
      | inr q =>
        obtain ⟨x, m⟩ := q
        rw [hq] at h
        have hm := wholeP_adv l _ (pieceP_adv l d) _ _ _ (by omega) hq
        have := skip_le l m hm.2
        simp only [parP] at h
        split at h
        · cases h
        · simp only [Sum.inl.injEq, Prod.mk.injEq] at h; omega
    rw [if_neg c2] at h
    by_cases c3 : sg l (skip l i) = 48
    · rw [if_pos c3] at h; cases h
    rw [if_neg c3] at h
    by_cases c4 : sg l (skip l i) = 49
    · rw [if_pos c4] at h; cases h
    rw [if_neg c4] at h
    by_cases c5 : sg l (skip l i) = 94
    · rw [if_pos c5] at h
      have hlt := sg_lt l (skip l i) (by rw [c5]; decide)
      exact nameP_err l 3 _ _ _ (by omega) h
    rw [if_neg c5] at h
    by_cases c6 : sg l (skip l i) = 126
    · rw [if_pos c6] at h
      have hlt := sg_lt l (skip l i) (by rw [c6]; decide)
      exact nameP_err l 4 _ _ _ (by omega) h
    rw [if_neg c6] at h
    exact nameP_err l 2 _ _ _ h2 h
theorem parse_place (t : List UInt8) (e : Nat) (pl : Option Nat) (h : parse t = .inl (e, pl)) : pl.getD 0 ≤ t.length := by
  unfold parse at h
  split at h
  · simp only [Sum.inl.injEq, Prod.mk.injEq] at h; rw [← h.2]; simp
  · cases hq : wholeP t (pieceP t 20) 0 with
    | inl q =>
      rw [hq] at h
      simp only [Sum.inl.injEq, Prod.mk.injEq] at h
      rw [← h.2]
      exact wholeP_err t _ (pieceP_adv t 20) (pieceP_err t 20) 0 _ _ (Nat.zero_le _) hq
    | inr q =>
      obtain ⟨x, m⟩ := q
      rw [hq] at h
      simp only at h
      split at h
      · simp only [Sum.inl.injEq, Prod.mk.injEq] at h; rw [← h.2]; simp; omega
      · cases h
end Ex
end Go.Proofs.YtiamkoghflfjcaaGreatDoor
