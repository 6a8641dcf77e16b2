/-
  Plain mathematics of chapter 1: reading goes forward, and stays within the text. Nothing of the program is named here.
-/
import Derived.Test.YtblfeahbpklgiaaGreatDoorExMath
namespace Go.Proofs.YtblfeahbpklgiaaGreatDoor
namespace Ex
/-- what is read ends behind where it began, within the text -/
def Adv (l : List UInt8) (r : Nat → Res Ex) : Prop := ∀ i x m, i ≤ l.length → r i = .inr (x, m) → i < m ∧ m ≤ l.length
theorem sg_lt (l : List UInt8) (i : Nat) (h : sg l i ≠ 32) : i < l.length := by
  unfold sg at h
  by_cases hi : i < l.length
  · exact hi
  · rw [if_neg hi] at h; exact absurd rfl h
theorem ends32 : ends 32 = true := by decide
theorem nameP_adv (l : List UInt8) (k : Nat) : Adv l (nameP l k) := by
  intro i x m hi h
  have h1 := skip_ge l i
  have h2 := skip_le l i hi
  unfold nameP at h
  simp only at h
  by_cases c1 : sg l (skip l i) = 48 ∨ sg l (skip l i) = 49 ∨ ends (sg l (skip l i)) = true
  · rw [if_pos c1] at h; cases h
  · rw [if_neg c1] at h
    by_cases c2 : Nm.name (cut l (skip l i) (wend l (skip l i))) = true
    · rw [if_pos c2] at h
      simp only [Sum.inr.injEq, Prod.mk.injEq] at h
      have hne : sg l (skip l i) ≠ 32 := fun e => c1 (.inr (.inr (by rw [e]; exact ends32)))
      have hlt := sg_lt l _ hne
      have hf : ends (l.getD (skip l i) 0).toNat = false := by
        have : ends (sg l (skip l i)) = false := by
          cases hb : ends (sg l (skip l i)) with
          | true => exact absurd (.inr (.inr hb)) c1
          | false => rfl
        simpa [sg, hlt] using this
      have h3 := wend_on l (skip l i) hlt hf
      have h4 := wend_ge l (skip l i + 1)
      have h5 := wend_le l (skip l i) (by omega)
      omega
    · rw [if_neg c2] at h; cases h
theorem listP_adv (l : List UInt8) (sep : Nat) (hs : sep ≠ 32) (r : Nat → Res Ex) (hr : Adv l r) :
    ∀ f i xs m, i ≤ l.length → listP l sep r f i = .inr (xs, m) → i < m ∧ m ≤ l.length ∧ xs ≠ [] := by
  intro f
  induction f with
  | zero => intro i xs m _ h; simp [listP] at h
  | succ f ih =>
    intro i xs m hi h
    unfold listP at h
    cases hri : r i with
    | inl e => rw [hri] at h; simp at h
    | inr p =>
      obtain ⟨x, j⟩ := p
      have ha := hr i x j hi hri
      have h1 := skip_ge l j
      have h2 := skip_le l j ha.2
      rw [hri] at h
      simp only at h
      by_cases c : sg l (skip l j) = sep
      · rw [if_pos c] at h
        have hlt := sg_lt l (skip l j) (by rw [c]; exact hs)
        cases hl : listP l sep r f (skip l j + 1) with
        | inl e => rw [hl] at h; simp at h
        | inr q =>
          obtain ⟨ys, k⟩ := q
          rw [hl] at h
          simp only [Sum.inr.injEq, Prod.mk.injEq] at h
          have := ih (skip l j + 1) ys k (by omega) hl
          refine ⟨by omega, by omega, ?_⟩
          rw [← h.1]; simp
      · rw [if_neg c] at h
        simp only [Sum.inr.injEq, Prod.mk.injEq] at h
        refine ⟨by omega, by omega, ?_⟩
        rw [← h.1]; simp
theorem made_inr (k : Nat) (r : Res (List Ex)) (x : Ex) (m : Nat) (h : made k r = .inr (x, m)) : ∃ xs, r = .inr (xs, m) := by
  match r, h with
  | .inr ([], _), h => simp only [made, Sum.inr.injEq, Prod.mk.injEq] at h; exact ⟨_, by rw [h.2]⟩
  | .inr ([y], _), h => simp only [made, Sum.inr.injEq, Prod.mk.injEq] at h; exact ⟨_, by rw [h.2]⟩
  | .inr (_ :: _ :: _, _), h => simp only [made, Sum.inr.injEq, Prod.mk.injEq] at h; exact ⟨_, by rw [h.2]⟩
theorem partP_adv (l : List UInt8) (r : Nat → Res Ex) (hr : Adv l r) : Adv l (partP l r) := by
  intro i x m hi h
  obtain ⟨xs, hx⟩ := made_inr _ _ _ _ h
  have := listP_adv l 38 (by decide) r hr _ i xs m hi hx
  omega
theorem wholeP_adv (l : List UInt8) (r : Nat → Res Ex) (hr : Adv l r) : Adv l (wholeP l r) := by
  intro i x m hi h
  obtain ⟨xs, hx⟩ := made_inr _ _ _ _ h
  have := listP_adv l 124 (by decide) _ (partP_adv l r hr) _ i xs m hi hx
  omega
theorem pieceP_adv (l : List UInt8) : ∀ d, Adv l (pieceP l d) := by
  intro d
  induction d with
  | zero => intro i x m _ h; simp [pieceP] at h
  | succ d ih =>
    intro i x m hi h
    have h1 := skip_ge l i
    have h2 := skip_le l i hi
    have low : sg l (skip l i) ≠ 32 → skip l i + 1 ≤ l.length := fun h => by have := sg_lt l _ h; omega
    unfold pieceP at h
    simp only at h
    by_cases c1 : sg l (skip l i) = 33
    · rw [if_pos c1] at h
      cases hp : pieceP l d (skip l i + 1) with
      | inl e => rw [hp] at h; simp [notP] at h
      | inr q =>
        obtain ⟨y, k⟩ := q
        rw [hp] at h
        simp only [notP, Sum.inr.injEq, Prod.mk.injEq] at h
        have := ih (skip l i + 1) y k (low (by omega)) hp
        omega
    rw [if_neg c1] at h
    by_cases c2 : sg l (skip l i) = 40
    · rw [if_pos c2] at h
      cases hp : wholeP l (pieceP l d) (skip l i + 1) with
      | inl e => rw [hp] at h; simp [parP] at h
      | inr q =>
        obtain ⟨y, k⟩ := q
        rw [hp] at h
        have ha := wholeP_adv l _ ih (skip l i + 1) y k (low (by omega)) hp
        have h3 := skip_ge l k
        unfold parP at h
        simp only at h
        by_cases c : sg l (skip l k) = 41
        · rw [if_pos c] at h
          simp only [Sum.inr.injEq, Prod.mk.injEq] at h
          have := sg_lt l (skip l k) (by omega)
          omega
        · rw [if_neg c] at h; simp at h
    rw [if_neg c2] at h
    by_cases c3 : sg l (skip l i) = 48
    · rw [if_pos c3] at h
      simp only [Sum.inr.injEq, Prod.mk.injEq] at h
      have := low (by omega)
      omega
    rw [if_neg c3] at h
    by_cases c4 : sg l (skip l i) = 49
    · rw [if_pos c4] at h
      simp only [Sum.inr.injEq, Prod.mk.injEq] at h
      have := low (by omega)
      omega
    rw [if_neg c4] at h
    by_cases c5 : sg l (skip l i) = 94
    · rw [if_pos c5] at h
      have := nameP_adv l 3 _ x m (low (by omega)) h
      omega
    rw [if_neg c5] at h
    by_cases c6 : sg l (skip l i) = 126
    · rw [if_pos c6] at h
      have := nameP_adv l 4 _ x m (low (by omega)) h
      omega
    rw [if_neg c6] at h
    have := nameP_adv l 2 _ x m h2 h
    omega
end Ex
end Go.Proofs.YtblfeahbpklgiaaGreatDoor
