/-
  Plain mathematics of chapter 1: of which form an expression that was read is. Nothing of the program is named here.
-/
import Derived.Test.YtmchohajfgemcaaDoorRtBound
namespace Go.Proofs.YtmchohajfgemcaaDoor
namespace Ex
/-- it may stand as a part: an And of such pieces, or such a piece -/
def FitQ (F : Ex → Prop) (x : Ex) : Prop := (x.kind = 6 ∧ x.name = [] ∧ 2 ≤ x.of.length ∧ ∀ y, y ∈ x.of → F y) ∨ (x.kind ≠ 6 ∧ F x)
/-- it may stand as a whole: an Or of such parts, or such a part -/
def FitW (F : Ex → Prop) (x : Ex) : Prop := (x.kind = 7 ∧ x.name = [] ∧ 2 ≤ x.of.length ∧ ∀ y, y ∈ x.of → FitQ F y) ∨ (x.kind ≠ 7 ∧ FitQ F x)
/-- it may stand as a piece, where so many may still stand around -/
def FitP : Nat → Ex → Prop
  | 0, _ => False
  | D + 1, x =>
    (x.kind ≤ 1 ∧ x.name = [] ∧ x.of = []) ∨ (2 ≤ x.kind ∧ x.kind ≤ 4 ∧ Nm.name x.name = true ∧ x.of = []) ∨ (x.kind = 5 ∧ x.name = [] ∧ ∃ y, x.of = [y] ∧ FitP D y) ∨
    (x.kind = 6 ∧ x.name = [] ∧ 2 ≤ x.of.length ∧ ∀ y, y ∈ x.of → FitP D y) ∨ (x.kind = 7 ∧ x.name = [] ∧ 2 ≤ x.of.length ∧ ∀ y, y ∈ x.of → FitQ (FitP D) y)
theorem FitQ.mono {F G : Ex → Prop} (h : ∀ x, F x → G x) (x : Ex) (hx : FitQ F x) : FitQ G x := by
  rcases hx with ⟨h1, h2, h3, h4⟩ | ⟨h1, h2⟩
  · exact .inl ⟨h1, h2, h3, fun y hy => h y (h4 y hy)⟩
  · exact .inr ⟨h1, h x h2⟩
theorem FitP.mono : ∀ (D : Nat) (x : Ex), FitP D x → FitP (D + 1) x := by
  intro D
  induction D with
  | zero => intro x h; exact absurd h (by simp [FitP])
  | succ D ih =>
    intro x h
    unfold FitP at h
    unfold FitP
    rcases h with h | h | ⟨h1, h2, y, h3, h4⟩ | ⟨h1, h2, h3, h4⟩ | ⟨h1, h2, h3, h4⟩
    · exact .inl h
    · exact .inr (.inl h)
    · exact .inr (.inr (.inl ⟨h1, h2, y, h3, ih y h4⟩))
    · exact .inr (.inr (.inr (.inl ⟨h1, h2, h3, fun y hy => ih y (h4 y hy)⟩)))
    · exact .inr (.inr (.inr (.inr ⟨h1, h2, h3, fun y hy => FitQ.mono ih y (h4 y hy)⟩)))
theorem FitP.le7 (D : Nat) (x : Ex) (h : FitP D x) : x.kind ≤ 7 := by
  cases D with
  | zero => exact absurd h (by simp [FitP])
  | succ D =>
    unfold FitP at h
    omega
/-- what may stand as a piece may stand as a part -/
theorem FitP.part (D : Nat) (x : Ex) (h : FitP D x) : FitQ (FitP D) x := by
  by_cases hk : x.kind = 6
  · cases D with
    | zero => exact absurd h (by simp [FitP])
    | succ D =>
      have h' := h
      unfold FitP at h'
      rcases h' with ⟨h1, _⟩ | ⟨_, h1, _⟩ | ⟨h1, _⟩ | ⟨h1, h2, h3, h4⟩ | ⟨h1, _⟩
      · omega
      · omega
      · omega
      · exact .inl ⟨h1, h2, h3, fun y hy => FitP.mono D y (h4 y hy)⟩
      · omega
  · exact .inr ⟨hk, h⟩
/-- what may stand as a part may stand as a whole -/
theorem FitQ.whole (D : Nat) (x : Ex) (h : FitQ (FitP D) x) : FitW (FitP D) x := by
  by_cases hk : x.kind = 7
  · rcases h with ⟨h1, _⟩ | ⟨_, h⟩
    · omega
    · cases D with
      | zero => exact absurd h (by simp [FitP])
      | succ D =>
        have h' := h
        unfold FitP at h'
        rcases h' with ⟨h1, _⟩ | ⟨_, h1, _⟩ | ⟨h1, _⟩ | ⟨h1, _⟩ | ⟨h1, h2, h3, h4⟩
        · omega
        · omega
        · omega
        · omega
        · exact .inl ⟨h1, h2, h3, fun y hy => FitQ.mono (FitP.mono D) y (h4 y hy)⟩
  · exact .inr ⟨hk, h⟩
/-- what may stand as a whole may stand as a piece, in parentheses -/
theorem FitW.piece (D : Nat) (x : Ex) (h : FitW (FitP D) x) : FitP (D + 1) x := by
  rcases h with ⟨h1, h2, h3, h4⟩ | ⟨_, ⟨h1, h2, h3, h4⟩ | ⟨_, h⟩⟩
  · unfold FitP; exact .inr (.inr (.inr (.inr ⟨h1, h2, h3, h4⟩)))
  · unfold FitP; exact .inr (.inr (.inr (.inl ⟨h1, h2, h3, h4⟩)))
  · exact FitP.mono D x h
theorem listP_all (l : List UInt8) (sep : Nat) (hs : sep ≠ 32) (F : Ex → Prop) (r : Nat → Res Ex) (hr : Adv l r) (hb : ∀ i x m, i ≤ l.length → r i = .inr (x, m) → F x) :
    ∀ f i xs m, i ≤ l.length → listP l sep r f i = .inr (xs, m) → ∀ x, x ∈ xs → F x := by
  intro f
  induction f with
  | zero => intro i xs m _ h; simp [listP] at h
  | succ f ih =>
    intro i xs m hi h
    unfold listP at h
    cases hri : r i with
    | inl e => rw [hri] at h; simp at h
    | inr p =>
      obtain ⟨x, j⟩ := p
      have ha := hr i x j hi hri
      have hx := hb i x j hi hri
      have h1 := skip_ge l j
      rw [hri] at h
      simp only at h
      by_cases c : sg l (skip l j) = sep
      · rw [if_pos c] at h
        have hlt := sg_lt l (skip l j) (by rw [c]; exact hs)
        cases hl : listP l sep r f (skip l j + 1) with
        | inl e => rw [hl] at h; simp at h
        | inr q =>
          obtain ⟨ys, k⟩ := q
          rw [hl] at h
          simp only [Sum.inr.injEq, Prod.mk.injEq] at h
          obtain ⟨rfl, rfl⟩ := h
          intro y hy
          rcases List.mem_cons.1 hy with rfl | hy
          · exact hx
          · exact ih (skip l j + 1) ys k (by omega) hl y hy
      · rw [if_neg c] at h
        simp only [Sum.inr.injEq, Prod.mk.injEq] at h
        obtain ⟨rfl, rfl⟩ := h
        intro y hy
        simp only [List.mem_singleton] at hy
        rw [hy]; exact hx
theorem partP_fit (l : List UInt8) (D : Nat) (r : Nat → Res Ex) (hr : Adv l r) (hb : ∀ i x m, i ≤ l.length → r i = .inr (x, m) → FitP D x) (i : Nat) (x : Ex) (m : Nat) (hi : i ≤ l.length) (h : partP l r i = .inr (x, m)) : FitQ (FitP D) x := by
  have hne : ∀ ys n, listP l 38 r (l.length + 1) i = .inr (ys, n) → ys ≠ [] := fun ys n hy => (listP_adv l 38 (by decide) r hr _ i ys n hi hy).2.2
  rcases made_cases 6 _ x m h hne with h1 | ⟨xs, h2, h1, rfl⟩
  · exact FitP.part D x (listP_all l 38 (by decide) _ r hr hb _ i [x] m hi h1 x (by simp))
  · exact .inl ⟨rfl, rfl, h2, listP_all l 38 (by decide) _ r hr hb _ i xs m hi h1⟩
theorem wholeP_fit (l : List UInt8) (D : Nat) (r : Nat → Res Ex) (hr : Adv l r) (hb : ∀ i x m, i ≤ l.length → r i = .inr (x, m) → FitP D x) (i : Nat) (x : Ex) (m : Nat) (hi : i ≤ l.length) (h : wholeP l r i = .inr (x, m)) : FitW (FitP D) x := by
  have hpa := partP_adv l r hr
  have hne : ∀ ys n, listP l 124 (partP l r) (l.length + 1) i = .inr (ys, n) → ys ≠ [] := fun ys n hy => (listP_adv l 124 (by decide) _ hpa _ i ys n hi hy).2.2
  have hall := listP_all l 124 (by decide) (FitQ (FitP D)) _ hpa (partP_fit l D r hr hb) (l.length + 1) i
  rcases made_cases 7 _ x m h hne with h1 | ⟨xs, h2, h1, rfl⟩
  · exact FitQ.whole D x (hall [x] m hi h1 x (by simp))
  · exact .inl ⟨rfl, rfl, h2, hall xs m hi h1⟩
theorem pieceP_fit (l : List UInt8) : ∀ d i x m, i ≤ l.length → pieceP l d i = .inr (x, m) → FitP d x := by
  intro d
  induction d with
  | zero => intro i x m _ h; simp [pieceP] at h
  | succ d ih =>
    intro i x m hi h
    have h2 := skip_le l i hi
    have low : sg l (skip l i) ≠ 32 → skip l i + 1 ≤ l.length := fun h => by have := sg_lt l _ h; omega
    have leaf : ∀ k, 2 ≤ k → k ≤ 4 → ∀ j, j ≤ l.length → nameP l k j = .inr (x, m) → FitP (d + 1) x := by
      intro k h3 h4 j hj hn
      have := nameP_bnd l k j x m hj hn
      unfold FitP
      exact .inr (.inl ⟨by omega, by omega, this.2.2.1, this.2.1⟩)
    unfold pieceP at h
    simp only at h
    by_cases c1 : sg l (skip l i) = 33
    · rw [if_pos c1] at h
      cases hp : pieceP l d (skip l i + 1) with
      | inl e => rw [hp] at h; simp [notP] at h
      | inr q =>
        obtain ⟨y, k⟩ := q
        rw [hp] at h
        simp only [notP, Sum.inr.injEq, Prod.mk.injEq] at h
        obtain ⟨rfl, rfl⟩ := h
        have := ih (skip l i + 1) y k (low (by omega)) hp
        unfold FitP
        exact .inr (.inr (.inl ⟨rfl, rfl, y, rfl, this⟩))
    rw [if_neg c1] at h
    by_cases c2 : sg l (skip l i) = 40
    · rw [if_pos c2] at h
      cases hp : wholeP l (pieceP l d) (skip l i + 1) with
      | inl e => rw [hp] at h; simp [parP] at h
      | inr q =>
        obtain ⟨y, k⟩ := q
        rw [hp] at h
        have hf := wholeP_fit l d _ (pieceP_adv l d) ih (skip l i + 1) y k (low (by omega)) hp
        unfold parP at h
        simp only at h
        by_cases c : sg l (skip l k) = 41
        · rw [if_pos c] at h
          simp only [Sum.inr.injEq, Prod.mk.injEq] at h
          obtain ⟨rfl, rfl⟩ := h
          exact FitW.piece d y hf
        · rw [if_neg c] at h; simp at h
    rw [if_neg c2] at h
    by_cases c3 : sg l (skip l i) = 48
    · rw [if_pos c3] at h
      simp only [Sum.inr.injEq, Prod.mk.injEq] at h
      obtain ⟨rfl, rfl⟩ := h
      unfold FitP; exact .inl ⟨by simp, rfl, rfl⟩
    rw [if_neg c3] at h
    by_cases c4 : sg l (skip l i) = 49
    · rw [if_pos c4] at h
      simp only [Sum.inr.injEq, Prod.mk.injEq] at h
      obtain ⟨rfl, rfl⟩ := h
      unfold FitP; exact .inl ⟨by simp, rfl, rfl⟩
    rw [if_neg c4] at h
    by_cases c5 : sg l (skip l i) = 94
    · rw [if_pos c5] at h; exact leaf 3 (by decide) (by decide) _ (low (by omega)) h
    rw [if_neg c5] at h
    by_cases c6 : sg l (skip l i) = 126
    · rw [if_pos c6] at h; exact leaf 4 (by decide) (by decide) _ (low (by omega)) h
    rw [if_neg c6] at h
    exact leaf 2 (by decide) (by decide) _ h2 h
theorem parse_fit (l : List UInt8) (x : Ex) (h : parse l = .inr x) : FitW (FitP 20) x := by
  unfold parse at h
  by_cases h1 : 2000 < l.length
  · rw [if_pos h1] at h; simp at h
  · rw [if_neg h1] at h
    cases hw : wholeP l (pieceP l 20) 0 with
    | inl e => rw [hw] at h; simp at h
    | inr q =>
      obtain ⟨y, m⟩ := q
      rw [hw] at h
      simp only at h
      by_cases c : skip l m < l.length
      · rw [if_pos c] at h; simp at h
      · rw [if_neg c] at h
        simp only [Sum.inr.injEq] at h
        subst h
        exact wholeP_fit l 20 _ (pieceP_adv l 20) (pieceP_fit l 20) 0 y m (Nat.zero_le _) hw
end Ex
end Go.Proofs.YtmchohajfgemcaaDoor
