/-
  Plain mathematics of chapter 1: what is read is no greater than its text. Nothing of the program is named here.
-/
import Derived.Test.YtblfeahbpklgiaaGreatDoorExAdv
namespace Go.Proofs.YtblfeahbpklgiaaGreatDoor
namespace Ex
theorem par_le (b : Bool) (l : List UInt8) : l.length ≤ (par b l).length ∧ (par b l).length ≤ l.length + 2 := by cases b <;> simp [par] <;> omega
theorem text5 (nm : List UInt8) (y : Ex) : text ⟨5, nm, [y]⟩ = 33 :: par (decide (6 ≤ y.kind)) y.text := by simp [text]
theorem text6 (nm : List UInt8) (l : List Ex) : text ⟨6, nm, l⟩ = join [32, 38, 32] (l.map fun x => par (decide (6 ≤ x.kind)) x.text) := by simp [text]
theorem text7 (nm : List UInt8) (l : List Ex) : text ⟨7, nm, l⟩ = join [32, 124, 32] (l.map fun x => par (decide (7 ≤ x.kind)) x.text) := by simp [text]
theorem size_def (k : Nat) (nm : List UInt8) (l : List Ex) : size ⟨k, nm, l⟩ = 1 + (l.map fun x => x.size).sum := by simp [size]
theorem join_len (sep : List UInt8) (hs : sep.length = 3) : ∀ l : List (List UInt8), l ≠ [] → (join sep l).length + 3 = (l.map List.length).sum + 3 * l.length
  | [], h => absurd rfl h
  | [a], _ => by simp [join]
  | a :: b :: r, _ => by
    have ih := join_len sep hs (b :: r) (by simp)
    simp only [join, List.length_append, List.map_cons, List.sum_cons, List.length_cons] at ih ⊢
    omega
/-- what is read, and its text in this form, is no greater than what it was read of -/
def Bnd (l : List UInt8) (t : Ex → List UInt8) (r : Nat → Res Ex) : Prop := ∀ i x m, i ≤ l.length → r i = .inr (x, m) → i + x.size ≤ m ∧ 3 * i + (t x).length ≤ 3 * m
theorem nameP_bnd (l : List UInt8) (k : Nat) (i : Nat) (x : Ex) (m : Nat) (hi : i ≤ l.length) (h : nameP l k i = .inr (x, m)) : x.kind = k ∧ x.of = [] ∧ Nm.name x.name = true ∧ i < m ∧ i + x.name.length ≤ m := by
  have ha := nameP_adv l k i x m hi h
  have h1 := skip_ge l i
  unfold nameP at h
  simp only at h
  by_cases c1 : sg l (skip l i) = 48 ∨ sg l (skip l i) = 49 ∨ ends (sg l (skip l i)) = true
  · rw [if_pos c1] at h; cases h
  · rw [if_neg c1] at h
    by_cases c2 : Nm.name (cut l (skip l i) (wend l (skip l i))) = true
    · rw [if_pos c2] at h
      simp only [Sum.inr.injEq, Prod.mk.injEq] at h
      obtain ⟨rfl, rfl⟩ := h
      refine ⟨rfl, rfl, c2, ha.1, ?_⟩
      show i + (cut l (skip l i) (wend l (skip l i))).length ≤ _
      unfold cut
      have h3 := wend_ge l (skip l i)
      simp only [List.length_drop, List.length_take]
      omega
    · rw [if_neg c2] at h; cases h
theorem listP_bnd (l : List UInt8) (sep : Nat) (hs : sep ≠ 32) (t : Ex → List UInt8) (r : Nat → Res Ex) (hr : Adv l r) (hb : Bnd l t r) :
    ∀ f i xs m, i ≤ l.length → listP l sep r f i = .inr (xs, m) → i + (xs.map fun x => x.size).sum + xs.length ≤ m + 1 ∧ 3 * i + ((xs.map t).map List.length).sum + 3 * xs.length ≤ 3 * m + 3 := by
  intro f
  induction f with
  | zero => intro i xs m _ h; simp [listP] at h
  | succ f ih =>
    intro i xs m hi h
    unfold listP at h
    cases hri : r i with
    | inl e => rw [hri] at h; simp at h
    | inr p =>
      obtain ⟨x, j⟩ := p
      have ha := hr i x j hi hri
      have hbb := hb i x j hi hri
      have h1 := skip_ge l j
      rw [hri] at h
      simp only at h
      by_cases c : sg l (skip l j) = sep
      · rw [if_pos c] at h
        have hlt := sg_lt l (skip l j) (by rw [c]; exact hs)
        cases hl : listP l sep r f (skip l j + 1) with
        | inl e => rw [hl] at h; simp at h
        | inr q =>
          obtain ⟨ys, k⟩ := q
          rw [hl] at h
          simp only [Sum.inr.injEq, Prod.mk.injEq] at h
          have h2 := ih (skip l j + 1) ys k (by omega) hl
          obtain ⟨rfl, rfl⟩ := h
          simp only [List.map_cons, List.sum_cons, List.length_cons]
          omega
      · rw [if_neg c] at h
        simp only [Sum.inr.injEq, Prod.mk.injEq] at h
        obtain ⟨rfl, rfl⟩ := h
        simp only [List.map_cons, List.sum_cons, List.length_cons, List.map_nil, List.sum_nil, List.length_nil]
        omega
/-- its text as a piece, as a part, as a whole -/
def tP (x : Ex) : List UInt8 := par (decide (6 ≤ x.kind)) x.text
def tQ (x : Ex) : List UInt8 := par (decide (7 ≤ x.kind)) x.text
theorem tQ_le (x : Ex) : (tQ x).length ≤ (tP x).length := by
  unfold tQ tP
  by_cases h7 : 7 ≤ x.kind
  · have h6 : 6 ≤ x.kind := by omega
    simp [h7, h6]
  · by_cases h6 : 6 ≤ x.kind
    · simp [h7, h6, par]; omega
    · simp [h7, h6, par]
theorem text_le_tQ (x : Ex) : x.text.length ≤ (tQ x).length := (par_le _ _).1
theorem made_cases (k : Nat) (r : Res (List Ex)) (x : Ex) (m : Nat) (h : made k r = .inr (x, m)) (hne : ∀ ys n, r = .inr (ys, n) → ys ≠ []) : r = .inr ([x], m) ∨ ∃ xs, 2 ≤ xs.length ∧ r = .inr (xs, m) ∧ x = ⟨k, [], xs⟩ := by
  match r, h with
  | .inr ([], n), _ => exact absurd rfl (hne [] n rfl)
  | .inr ([y], _), h => simp only [made, Sum.inr.injEq, Prod.mk.injEq] at h; obtain ⟨rfl, rfl⟩ := h; exact .inl rfl
  | .inr (a :: b :: r, _), h => simp only [made, Sum.inr.injEq, Prod.mk.injEq] at h; obtain ⟨rfl, rfl⟩ := h; exact .inr ⟨_, by simp, rfl, rfl⟩
theorem partP_bnd (l : List UInt8) (r : Nat → Res Ex) (hr : Adv l r) (hb : Bnd l tP r) : Bnd l tQ (partP l r) := by
  intro i x m hi h
  have hne : ∀ ys n, listP l 38 r (l.length + 1) i = .inr (ys, n) → ys ≠ [] := fun ys n hy => (listP_adv l 38 (by decide) r hr _ i ys n hi hy).2.2
  rcases made_cases 6 _ x m h hne with h1 | ⟨xs, h2, h1, rfl⟩
  · have := listP_bnd l 38 (by decide) tP r hr hb _ i [x] m hi h1
    have := tQ_le x
    simp at *
    omega
  · have h3 := listP_bnd l 38 (by decide) tP r hr hb _ i xs m hi h1
    have h4 := join_len [32, 38, 32] rfl (xs.map tP) (by intro e; have := congrArg List.length e; simp at this; rw [this] at h2; simp at h2)
    have e1 : tQ ⟨6, [], xs⟩ = join [32, 38, 32] (xs.map tP) := by unfold tQ; rw [text6]; rfl
    rw [e1, size_def]
    rw [List.length_map] at h4
    omega
theorem wholeP_bnd (l : List UInt8) (r : Nat → Res Ex) (hr : Adv l r) (hb : Bnd l tP r) : Bnd l text (wholeP l r) := by
  intro i x m hi h
  have hpa := partP_adv l r hr
  have hpb := partP_bnd l r hr hb
  have hne : ∀ ys n, listP l 124 (partP l r) (l.length + 1) i = .inr (ys, n) → ys ≠ [] := fun ys n hy => (listP_adv l 124 (by decide) _ hpa _ i ys n hi hy).2.2
  rcases made_cases 7 _ x m h hne with h1 | ⟨xs, h2, h1, rfl⟩
  · have := listP_bnd l 124 (by decide) tQ _ hpa hpb _ i [x] m hi h1
    have := text_le_tQ x
    simp at *
    omega
  · have h3 := listP_bnd l 124 (by decide) tQ _ hpa hpb _ i xs m hi h1
    have h4 := join_len [32, 124, 32] rfl (xs.map tQ) (by intro e; have := congrArg List.length e; simp at this; rw [this] at h2; simp at h2)
    have e1 : text ⟨7, [], xs⟩ = join [32, 124, 32] (xs.map tQ) := by rw [text7]; rfl
    rw [e1, size_def]
    rw [List.length_map] at h4
    omega
theorem leaf_bnd (k : Nat) (hk : k ≤ 4) (x : Ex) (hx : x.kind = k) (ho : x.of = []) : x.size = 1 ∧ (tP x).length ≤ x.name.length + 1 := by
  obtain ⟨k', nm, l⟩ := x
  simp only at hx ho
  subst hx ho
  refine ⟨by simp [size_def], ?_⟩
  match k', hk with
  | 0, _ => simp [tP, text, par]
  | 1, _ => simp [tP, text, par]
  | 2, _ => simp [tP, text, par]
  | 3, _ => simp [tP, text, par]
  | 4, _ => simp [tP, text, par]
theorem pieceP_bnd (l : List UInt8) : ∀ d, Bnd l tP (pieceP l d) := by
  intro d
  induction d with
  | zero => intro i x m _ h; simp [pieceP] at h
  | succ d ih =>
    intro i x m hi h
    have h1 := skip_ge l i
    have h2 := skip_le l i hi
    have low : sg l (skip l i) ≠ 32 → skip l i + 1 ≤ l.length := fun h => by have := sg_lt l _ h; omega
    unfold pieceP at h
    simp only at h
    by_cases c1 : sg l (skip l i) = 33
    · rw [if_pos c1] at h
      cases hp : pieceP l d (skip l i + 1) with
      | inl e => rw [hp] at h; simp [notP] at h
      | inr q =>
        obtain ⟨y, k⟩ := q
        rw [hp] at h
        simp only [notP, Sum.inr.injEq, Prod.mk.injEq] at h
        obtain ⟨rfl, rfl⟩ := h
        have := ih (skip l i + 1) y k (low (by omega)) hp
        have e1 : tP ⟨5, [], [y]⟩ = 33 :: tP y := by unfold tP; rw [text5]; rfl
        rw [e1, size_def]
        simp
        omega
    rw [if_neg c1] at h
    by_cases c2 : sg l (skip l i) = 40
    · rw [if_pos c2] at h
      cases hp : wholeP l (pieceP l d) (skip l i + 1) with
      | inl e => rw [hp] at h; simp [parP] at h
      | inr q =>
        obtain ⟨y, k⟩ := q
        rw [hp] at h
        have hb := wholeP_bnd l _ (pieceP_adv l d) ih (skip l i + 1) y k (low (by omega)) hp
        have h3 := skip_ge l k
        unfold parP at h
        simp only at h
        by_cases c : sg l (skip l k) = 41
        · rw [if_pos c] at h
          simp only [Sum.inr.injEq, Prod.mk.injEq] at h
          obtain ⟨rfl, rfl⟩ := h
          have := (par_le (decide (6 ≤ y.kind)) y.text).2
          unfold tP
          omega
        · rw [if_neg c] at h; simp at h
    rw [if_neg c2] at h
    by_cases c3 : sg l (skip l i) = 48
    · rw [if_pos c3] at h
      simp only [Sum.inr.injEq, Prod.mk.injEq] at h
      obtain ⟨rfl, rfl⟩ := h
      have := leaf_bnd 0 (by decide) ⟨0, [], []⟩ rfl rfl
      simp at this
      omega
    rw [if_neg c3] at h
    by_cases c4 : sg l (skip l i) = 49
    · rw [if_pos c4] at h
      simp only [Sum.inr.injEq, Prod.mk.injEq] at h
      obtain ⟨rfl, rfl⟩ := h
      have := leaf_bnd 1 (by decide) ⟨1, [], []⟩ rfl rfl
      simp at this
      omega
    rw [if_neg c4] at h
    by_cases c5 : sg l (skip l i) = 94
    · rw [if_pos c5] at h
      have hn := nameP_bnd l 3 _ x m (low (by omega)) h
      have := leaf_bnd 3 (by decide) x hn.1 hn.2.1
      omega
    rw [if_neg c5] at h
    by_cases c6 : sg l (skip l i) = 126
    · rw [if_pos c6] at h
      have hn := nameP_bnd l 4 _ x m (low (by omega)) h
      have := leaf_bnd 4 (by decide) x hn.1 hn.2.1
      omega
    rw [if_neg c6] at h
    have hn := nameP_bnd l 2 _ x m h2 h
    have := leaf_bnd 2 (by decide) x hn.1 hn.2.1
    omega
/-- an expression that was read: its size, and its text's length, by the text's -/
theorem parse_bnd (l : List UInt8) (x : Ex) (h : parse l = .inr x) : l.length ≤ 2000 ∧ x.size ≤ l.length ∧ x.text.length ≤ 3 * l.length := by
  unfold parse at h
  by_cases h1 : 2000 < l.length
  · rw [if_pos h1] at h; simp at h
  · rw [if_neg h1] at h
    cases hw : wholeP l (pieceP l 20) 0 with
    | inl e => rw [hw] at h; simp at h
    | inr q =>
      obtain ⟨y, m⟩ := q
      rw [hw] at h
      simp only at h
      by_cases c : skip l m < l.length
      · rw [if_pos c] at h; simp at h
      · rw [if_neg c] at h
        simp only [Sum.inr.injEq] at h
        subst h
        have ha := wholeP_adv l _ (pieceP_adv l 20) 0 y m (Nat.zero_le _) hw
        have hb := wholeP_bnd l _ (pieceP_adv l 20) (pieceP_bnd l 20) 0 y m (Nat.zero_le _) hw
        omega
end Ex
end Go.Proofs.YtblfeahbpklgiaaGreatDoor
