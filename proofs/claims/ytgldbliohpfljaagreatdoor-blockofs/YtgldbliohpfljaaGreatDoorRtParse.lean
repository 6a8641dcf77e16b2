/-
  Plain mathematics of chapter 1: of which form an expression that was read is. Nothing of the program is named here. Plain mathematics of chapter 1: what an expression's text tells is that expression again. Nothing of the program is named here. Plain mathematics of chapter 1: pieces, parts and wholes are read again from their texts. Nothing of the program is named here.
-/
import Derived.Test.YtgldbliohpfljaaGreatDoorRtBoundAll
namespace Go.Proofs.YtgldbliohpfljaaGreatDoor
namespace Ex
/-- it may stand as a part: an And of such pieces, or such a piece -/
def FitQ (F : Ex → Prop) (x : Ex) : Prop := (x.kind = 6 ∧ x.name = [] ∧ 2 ≤ x.of.length ∧ ∀ y, y ∈ x.of → F y) ∨ (x.kind ≠ 6 ∧ F x)
/-- it may stand as a whole: an Or of such parts, or such a part -/
def FitW (F : Ex → Prop) (x : Ex) : Prop := (x.kind = 7 ∧ x.name = [] ∧ 2 ≤ x.of.length ∧ ∀ y, y ∈ x.of → FitQ F y) ∨ (x.kind ≠ 7 ∧ FitQ F x)
/-- it may stand as a piece, where so many may still stand around -/
def FitP : Nat → Ex → Prop
  | 0, _ => False
  | D + 1, x =>
    (x.kind ≤ 1 ∧ x.name = [] ∧ x.of = []) ∨ (2 ≤ x.kind ∧ x.kind ≤ 4 ∧ Nm.name x.name = true ∧ x.of = []) ∨ (x.kind = 5 ∧ x.name = [] ∧ ∃ y, x.of = [y] ∧ FitP D y) ∨
    (x.kind = 6 ∧ x.name = [] ∧ 2 ≤ x.of.length ∧ ∀ y, y ∈ x.of → FitP D y) ∨ (x.kind = 7 ∧ x.name = [] ∧ 2 ≤ x.of.length ∧ ∀ y, y ∈ x.of → FitQ (FitP D) y)
theorem FitQ.mono {F G : Ex → Prop} (h : ∀ x, F x → G x) (x : Ex) (hx : FitQ F x) : FitQ G x := by
  rcases hx with ⟨h1, h2, h3, h4⟩ | ⟨h1, h2⟩
  · exact .inl ⟨h1, h2, h3, fun y hy => h y (h4 y hy)⟩
  · exact .inr ⟨h1, h x h2⟩
theorem FitP.mono : ∀ (D : Nat) (x : Ex), FitP D x → FitP (D + 1) x := by
  intro D
  induction D with
  | zero => intro x h; exact absurd h (by simp [FitP])
  | succ D ih =>
    intro x h
    unfold FitP at h
    unfold FitP
    rcases h with h | h | ⟨h1, h2, y, h3, h4⟩ | ⟨h1, h2, h3, h4⟩ | ⟨h1, h2, h3, h4⟩
    · exact .inl h
    · exact .inr (.inl h)
    · exact .inr (.inr (.inl ⟨h1, h2, y, h3, ih y h4⟩))
    · exact .inr (.inr (.inr (.inl ⟨h1, h2, h3, fun y hy => ih y (h4 y hy)⟩)))
    · exact .inr (.inr (.inr (.inr ⟨h1, h2, h3, fun y hy => FitQ.mono ih y (h4 y hy)⟩)))
theorem FitP.le7 (D : Nat) (x : Ex) (h : FitP D x) : x.kind ≤ 7 := by
  cases D with
  | zero => exact absurd h (by simp [FitP])
  | succ D =>
    unfold FitP at h
    omega
/-- what may stand as a piece may stand as a part -/
theorem FitP.part (D : Nat) (x : Ex) (h : FitP D x) : FitQ (FitP D) x := by
  by_cases hk : x.kind = 6
  · cases D with
    | zero => exact absurd h (by simp [FitP])
    | succ D =>
      have h' := h
      unfold FitP at h'
      rcases h' with ⟨h1, _⟩ | ⟨_, h1, _⟩ | ⟨h1, _⟩ | ⟨h1, h2, h3, h4⟩ | ⟨h1, _⟩
      · omega
      · omega
      · omega
      · exact .inl ⟨h1, h2, h3, fun y hy => FitP.mono D y (h4 y hy)⟩
      · omega
  · exact .inr ⟨hk, h⟩
/-- what may stand as a part may stand as a whole -/
theorem FitQ.whole (D : Nat) (x : Ex) (h : FitQ (FitP D) x) : FitW (FitP D) x := by
  by_cases hk : x.kind = 7
  · rcases h with ⟨h1, _⟩ | ⟨_, h⟩
    · omega
    · cases D with
      | zero => exact absurd h (by simp [FitP])
      | succ D =>
        have h' := h
        unfold FitP at h'
        rcases h' with ⟨h1, _⟩ | ⟨_, h1, _⟩ | ⟨h1, _⟩ | ⟨h1, _⟩ | ⟨h1, h2, h3, h4⟩
        · omega
        · omega
        · omega
        · omega
        · exact .inl ⟨h1, h2, h3, fun y hy => FitQ.mono (FitP.mono D) y (h4 y hy)⟩
  · exact .inr ⟨hk, h⟩
/-- what may stand as a whole may stand as a piece, in parentheses -/
theorem FitW.piece (D : Nat) (x : Ex) (h : FitW (FitP D) x) : FitP (D + 1) x := by
  rcases h with ⟨h1, h2, h3, h4⟩ | ⟨_, ⟨h1, h2, h3, h4⟩ | ⟨_, h⟩⟩
  · unfold FitP; exact .inr (.inr (.inr (.inr ⟨h1, h2, h3, h4⟩)))
  · unfold FitP; exact .inr (.inr (.inr (.inl ⟨h1, h2, h3, h4⟩)))
  · exact FitP.mono D x h
theorem listP_all (l : List UInt8) (sep : Nat) (hs : sep ≠ 32) (F : Ex → Prop) (r : Nat → Res Ex) (hr : Adv l r) (hb : ∀ i x m, i ≤ l.length → r i = .inr (x, m) → F x) :
    ∀ f i xs m, i ≤ l.length → listP l sep r f i = .inr (xs, m) → ∀ x, x ∈ xs → F x := by
  intro f
  induction f with
  | zero => intro i xs m _ h; simp [listP] at h
  | succ f ih =>
    intro i xs m hi h
    unfold listP at h
    cases hri : r i with
    | inl e => rw [hri] at h; simp at h
    | inr p =>
      obtain ⟨x, j⟩ := p
      have ha := hr i x j hi hri
      have hx := hb i x j hi hri
      have h1 := skip_ge l j
      rw [hri] at h
      simp only at h
      by_cases c : sg l (skip l j) = sep
      · rw [if_pos c] at h
        have hlt := sg_lt l (skip l j) (by rw [c]; exact hs)
        cases hl : listP l sep r f (skip l j + 1) with
        | inl e => rw [hl] at h; simp at h
        | inr q =>
          obtain ⟨ys, k⟩ := q
          rw [hl] at h
          simp only [Sum.inr.injEq, Prod.mk.injEq] at h
          obtain ⟨rfl, rfl⟩ := h
          intro y hy
          rcases List.mem_cons.1 hy with rfl | hy
          · exact hx
          · exact ih (skip l j + 1) ys k (by omega) hl y hy
      · rw [if_neg c] at h
        simp only [Sum.inr.injEq, Prod.mk.injEq] at h
        obtain ⟨rfl, rfl⟩ := h
        intro y hy
        simp only [List.mem_singleton] at hy
        rw [hy]; exact hx
theorem partP_fit (l : List UInt8) (D : Nat) (r : Nat → Res Ex) (hr : Adv l r) (hb : ∀ i x m, i ≤ l.length → r i = .inr (x, m) → FitP D x) (i : Nat) (x : Ex) (m : Nat) (hi : i ≤ l.length) (h : partP l r i = .inr (x, m)) : FitQ (FitP D) x := by
  have hne : ∀ ys n, listP l 38 r (l.length + 1) i = .inr (ys, n) → ys ≠ [] := fun ys n hy => (listP_adv l 38 (by decide) r hr _ i ys n hi hy).2.2
  rcases made_cases 6 _ x m h hne with h1 | ⟨xs, h2, h1, rfl⟩
  · exact FitP.part D x (listP_all l 38 (by decide) _ r hr hb _ i [x] m hi h1 x (by simp))
  · exact .inl ⟨rfl, rfl, h2, listP_all l 38 (by decide) _ r hr hb _ i xs m hi h1⟩
theorem wholeP_fit (l : List UInt8) (D : Nat) (r : Nat → Res Ex) (hr : Adv l r) (hb : ∀ i x m, i ≤ l.length → r i = .inr (x, m) → FitP D x) (i : Nat) (x : Ex) (m : Nat) (hi : i ≤ l.length) (h : wholeP l r i = .inr (x, m)) : FitW (FitP D) x := by
  have hpa := partP_adv l r hr
  have hne : ∀ ys n, listP l 124 (partP l r) (l.length + 1) i = .inr (ys, n) → ys ≠ [] := fun ys n hy => (listP_adv l 124 (by decide) _ hpa _ i ys n hi hy).2.2
  have hall := listP_all l 124 (by decide) (FitQ (FitP D)) _ hpa (partP_fit l D r hr hb) (l.length + 1) i
  rcases made_cases 7 _ x m h hne with h1 | ⟨xs, h2, h1, rfl⟩
  · exact FitQ.whole D x (hall [x] m hi h1 x (by simp))
  · exact .inl ⟨rfl, rfl, h2, hall xs m hi h1⟩
theorem pieceP_fit (l : List UInt8) : ∀ d i x m, i ≤ l.length → pieceP l d i = .inr (x, m) → FitP d x := by
  intro d
  induction d with
  | zero => intro i x m _ h; simp [pieceP] at h
  | succ d ih =>
    intro i x m hi h
    have h2 := skip_le l i hi
    have low : sg l (skip l i) ≠ 32 → skip l i + 1 ≤ l.length := fun h => by have := sg_lt l _ h; omega
    have leaf : ∀ k, 2 ≤ k → k ≤ 4 → ∀ j, j ≤ l.length → nameP l k j = .inr (x, m) → FitP (d + 1) x := by
      intro k h3 h4 j hj hn
      have := nameP_bnd l k j x m hj hn
      unfold FitP
      exact .inr (.inl ⟨by omega, by omega, this.2.2.1, this.2.1⟩)
    unfold pieceP at h
    simp only at h
    by_cases c1 : sg l (skip l i) = 33
    · rw [if_pos c1] at h
      cases hp : pieceP l d (skip l i + 1) with
      | inl e => rw [hp] at h; simp [notP] at h
      | inr q =>
        obtain ⟨y, k⟩ := q
        rw [hp] at h
        simp only [notP, Sum.inr.injEq, Prod.mk.injEq] at h
        obtain ⟨rfl, rfl⟩ := h
        have := ih (skip l i + 1) y k (low (by omega)) hp
        unfold FitP
        exact .inr (.inr (.inl ⟨rfl, rfl, y, rfl, this⟩))
    rw [if_neg c1] at h
    by_cases c2 : sg l (skip l i) = 40
    · rw [if_pos c2] at h
      cases hp : wholeP l (pieceP l d) (skip l i + 1) with
      | inl e => rw [hp] at h; simp [parP] at h
      | inr q =>
        obtain ⟨y, k⟩ := q
        rw [hp] at h
        have hf := wholeP_fit l d _ (pieceP_adv l d) ih (skip l i + 1) y k (low (by omega)) hp
        unfold parP at h
        simp only at h
        by_cases c : sg l (skip l k) = 41
        · rw [if_pos c] at h
          simp only [Sum.inr.injEq, Prod.mk.injEq] at h
          obtain ⟨rfl, rfl⟩ := h
          exact FitW.piece d y hf
        · rw [if_neg c] at h; simp at h
    rw [if_neg c2] at h
    by_cases c3 : sg l (skip l i) = 48
    · rw [if_pos c3] at h
      simp only [Sum.inr.injEq, Prod.mk.injEq] at h
      obtain ⟨rfl, rfl⟩ := h
      unfold FitP; exact .inl ⟨by simp, rfl, rfl⟩
    rw [if_neg c3] at h
    by_cases c4 : sg l (skip l i) = 49
    · rw [if_pos c4] at h
      simp only [Sum.inr.injEq, Prod.mk.injEq] at h
      obtain ⟨rfl, rfl⟩ := h
      unfold FitP; exact .inl ⟨by simp, rfl, rfl⟩
    rw [if_neg c4] at h
    by_cases c5 : sg l (skip l i) = 94
    · rw [if_pos c5] at h; exact leaf 3 (by decide) (by decide) _ (low (by omega)) h
    rw [if_neg c5] at h
    by_cases c6 : sg l (skip l i) = 126
    · rw [if_pos c6] at h; exact leaf 4 (by decide) (by decide) _ (low (by omega)) h
    rw [if_neg c6] at h
    exact leaf 2 (by decide) (by decide) _ h2 h
theorem parse_fit (l : List UInt8) (x : Ex) (h : parse l = .inr x) : FitW (FitP 20) x := by
  unfold parse at h
  by_cases h1 : 2000 < l.length
  · rw [if_pos h1] at h; simp at h
  · rw [if_neg h1] at h
    cases hw : wholeP l (pieceP l 20) 0 with
    | inl e => rw [hw] at h; simp at h
    | inr q =>
      obtain ⟨y, m⟩ := q
      rw [hw] at h
      simp only at h
      by_cases c : skip l m < l.length
      · rw [if_pos c] at h; simp at h
      · rw [if_neg c] at h
        simp only [Sum.inr.injEq] at h
        subst h
        exact wholeP_fit l 20 _ (pieceP_adv l 20) (pieceP_fit l 20) 0 y m (Nat.zero_le _) hw
end Ex
namespace Ex
theorem skip_append (a b : List UInt8) (i : Nat) : skip (a ++ b) (a.length + i) = a.length + skip b i := by
  unfold skip
  have e : (a ++ b).drop (a.length + i) = b.drop i := by rw [List.drop_append]; simp
  rw [e]; omega
theorem sg_append (a b : List UInt8) (i : Nat) : sg (a ++ b) (a.length + i) = sg b i := by
  unfold sg
  have e : (a ++ b).getD (a.length + i) 0 = b.getD i 0 := by
    simp [List.getD_eq_getElem?_getD, List.getElem?_append_right]
  rw [e]
  by_cases h : i < b.length
  · rw [if_pos h, if_pos (by simp; omega)]
  · rw [if_neg h, if_neg (by simp; omega)]
theorem wend_append (a b : List UInt8) (i : Nat) : wend (a ++ b) (a.length + i) = a.length + wend b i := by
  unfold wend
  have e : (a ++ b).drop (a.length + i) = b.drop i := by rw [List.drop_append]; simp
  rw [e]; omega
/-- a word ends there -/
def Stop (post : List UInt8) : Prop := ends (sg post 0) = true
/-- the next sign -/
def nxt (post : List UInt8) : Nat := sg post (skip post 0)
theorem sg_cons (c : UInt8) (r : List UInt8) : sg (c :: r) 0 = c.toNat := by simp [sg]
theorem skip_cons (c : UInt8) (r : List UInt8) (h : c.toNat ≠ 32) : skip (c :: r) 0 = 0 := skip_stop _ 0 (by simp) (by intro e; apply h; simp at e; rw [e]; rfl)
/-- reading there gives this, up to the text's end -/
def Nice (L : List UInt8) (Q : List UInt8 → Prop) (R : Nat → Res Ex) (x : Ex) (t : List UInt8) : Prop :=
  ∀ pre post i, L = pre ++ t ++ post → Q post → i ≤ L.length → skip L i = pre.length → ∃ m, R i = .inr (x, m) ∧ m ≤ L.length ∧ skip L m = skip L (pre.length + t.length)
/-- a text that begins with a sign -/
def Head (t : List UInt8) : Prop := ∃ c r, t = c :: r ∧ c.toNat ≠ 32
theorem join_two (sep a b : List UInt8) (r : List (List UInt8)) : join sep (a :: b :: r) = a ++ sep ++ join sep (b :: r) := rfl
theorem list_back (L : List UInt8) (sep : Nat) (hs : sep < 256) (hs32 : sep ≠ 32) (Q Qe : List UInt8 → Prop) (R : Nat → Res Ex)
    (hsep : ∀ r, Qe ([32, sep.toUInt8, 32] ++ r)) (hlast : ∀ post, Q post → Qe post ∧ nxt post ≠ sep) :
    ∀ (xs : List Ex) (t : Ex → List UInt8), xs ≠ [] → (∀ x, x ∈ xs → Nice L Qe R x (t x) ∧ Head (t x)) →
    ∀ f pre post i, xs.length ≤ f → L = pre ++ join [32, sep.toUInt8, 32] (xs.map t) ++ post → Q post → i ≤ L.length → skip L i = pre.length →
    listP L sep R f i = .inr (xs, skip L (pre.length + (join [32, sep.toUInt8, 32] (xs.map t)).length)) := by
  have hsn : sep.toUInt8.toNat = sep := by simp; omega
  intro xs t
  induction xs with
  | nil => intro h; exact absurd rfl h
  | cons x r ih =>
    intro _ hx f pre post i hf hL hQ hi hsk
    obtain ⟨f, rfl⟩ : ∃ g, f = g + 1 := ⟨f - 1, by simp at hf; omega⟩
    cases r with
    | nil =>
      simp only [List.map_cons, List.map_nil, join] at hL ⊢
      obtain ⟨h1, h2⟩ := hlast post hQ
      obtain ⟨m, hm, hml, hms⟩ := (hx x (by simp)).1 pre post i hL h1 hi hsk
      have hn : sg L (skip L m) ≠ sep := by
        rw [hms]
        have e : skip L (pre.length + (t x).length) = (pre ++ t x).length + skip post 0 := by
          have := skip_append (pre ++ t x) post 0
          rw [Nat.add_zero, ← hL] at this
          rw [← this]; simp
        rw [e, hL, sg_append]
        exact h2
      unfold listP
      rw [hm]
      simp only [if_neg hn]
      rw [hms]
    | cons y r =>
      simp only [List.map_cons] at hL ⊢
      rw [join_two] at hL ⊢
      have hy := hx y (by simp)
      obtain ⟨c, rr, hty, hc⟩ := hy.2
      have hL2 : L = pre ++ t x ++ ([32, sep.toUInt8, 32] ++ (join [32, sep.toUInt8, 32] (t y :: r.map t) ++ post)) := by rw [hL]; simp
      obtain ⟨m, hm, hml, hms⟩ := (hx x (by simp)).1 pre _ i hL2 (hsep _) hi hsk
      have e1 : skip L (pre.length + (t x).length) = pre.length + (t x).length + 1 := by
        have := skip_append (pre ++ t x) ([32, sep.toUInt8, 32] ++ (join [32, sep.toUInt8, 32] (t y :: r.map t) ++ post)) 0
        rw [Nat.add_zero, ← hL2] at this
        have e2 : skip ([32, sep.toUInt8, 32] ++ (join [32, sep.toUInt8, 32] (t y :: r.map t) ++ post)) 0 = 1 := by
          rw [skip_blank _ 0 (by simp) (by simp)]
          exact skip_stop _ 1 (by simp) (by simp; intro e; have := congrArg UInt8.toNat e; rw [hsn] at this; exact hs32 this)
        rw [e2] at this
        simpa using this
      have hsg : sg L (skip L m) = sep := by
        rw [hms, e1]
        have := sg_append (pre ++ t x) ([32, sep.toUInt8, 32] ++ (join [32, sep.toUInt8, 32] (t y :: r.map t) ++ post)) 1
        rw [← hL2] at this
        simp only [List.length_append] at this
        rw [this]
        simp only [sg, List.cons_append, List.length_cons, List.nil_append]
        rw [if_pos (by omega)]
        simpa using hsn
      have hL3 : L = (pre ++ t x ++ [32, sep.toUInt8, 32]) ++ join [32, sep.toUInt8, 32] ((y :: r).map t) ++ post := by rw [hL]; simp
      have hjoin : ∃ r2, join [32, sep.toUInt8, 32] ((y :: r).map t) ++ post = c :: r2 := by
        cases r with
        | nil => exact ⟨rr ++ post, by simp [join, hty]⟩
        | cons z r => exact ⟨_, by simp only [List.map_cons]; rw [join_two, hty]; simp; rfl⟩
      obtain ⟨r2, hr2⟩ := hjoin
      have e3 : skip L (pre.length + (t x).length + 1 + 1) = (pre ++ t x ++ [32, sep.toUInt8, 32]).length := by
        have h3 : L = (pre ++ t x ++ [32, sep.toUInt8]) ++ (32 :: c :: r2) := by rw [hL3, List.append_assoc _ _ post, hr2]; simp
        have := skip_append (pre ++ t x ++ [32, sep.toUInt8]) (32 :: c :: r2) 0
        rw [Nat.add_zero, ← h3] at this
        have e4 : skip (32 :: c :: r2) 0 = 1 := by
          rw [skip_blank _ 0 (by simp) (by simp)]
          exact skip_stop _ 1 (by simp) (by simp; intro e; apply hc; rw [e]; rfl)
        rw [e4] at this
        simp only [List.length_append, List.length_cons, List.length_nil] at this ⊢
        rw [show pre.length + (t x).length + 1 + 1 = pre.length + (t x).length + (0 + 1 + 1) from by omega, this]
      have hlen : pre.length + (t x).length + 1 + 1 ≤ L.length := by rw [hL3]; simp; omega
      have hrec := ih (by simp) (fun z hz => hx z (List.mem_cons_of_mem x hz)) f (pre ++ t x ++ [32, sep.toUInt8, 32]) post (pre.length + (t x).length + 1 + 1) (by simp at hf ⊢; omega) hL3 hQ hlen e3
      unfold listP
      rw [hm]
      simp only [if_pos hsg]
      rw [hms, e1, hrec]
      simp only [List.map_cons]
      congr 3
      simp
      omega
end Ex
namespace Ex
theorem skip_twice (l : List UInt8) (i : Nat) (h : i ≤ l.length) : skip l (skip l i) = skip l i := by
  by_cases h1 : skip l i < l.length
  · have h2 : sg l (skip l i) ≠ 32 := fun e => by have := (sg_skip l i h).1 e; omega
    refine skip_stop l _ h1 (fun e => h2 ?_)
    simp only [sg, if_pos h1, e]; rfl
  · exact skip_end l _ (by omega)
theorem sg_head (pre : List UInt8) (c : UInt8) (r : List UInt8) : sg (pre ++ c :: r) pre.length = c.toNat := by
  have := sg_append pre (c :: r) 0
  rw [Nat.add_zero, sg_cons] at this
  exact this
theorem skip_head (pre : List UInt8) (c : UInt8) (r : List UInt8) (h : c.toNat ≠ 32) : skip (pre ++ c :: r) pre.length = pre.length := by
  have := skip_append pre (c :: r) 0
  rw [Nat.add_zero, skip_cons c r h, Nat.add_zero] at this
  exact this
theorem nm_not_end (c : UInt8) (h : Nm.nm (c.toNat : Int) = true) : ends c.toNat = false := by
  unfold Nm.nm Nm.lo Nm.di at h
  simp only [Bool.or_eq_true, Bool.and_eq_true, decide_eq_true_eq, beq_iff_eq] at h
  unfold ends
  simp only [List.contains_eq_mem, List.mem_cons, List.not_mem_nil, or_false, decide_eq_false_iff_not]
  omega
theorem name_signs (nm : List UInt8) (h : Nm.name nm = true) : (∀ c, c ∈ nm → ends c.toNat = false) ∧ ∃ c r, nm = c :: r ∧ 97 ≤ c.toNat ∧ c.toNat ≤ 122 := by
  unfold Nm.name at h
  simp only [Bool.and_eq_true, Bool.not_eq_true', decide_eq_true_eq] at h
  obtain ⟨⟨⟨⟨h1, _⟩, h3⟩, h4⟩, _⟩ := h
  refine ⟨?_, ?_⟩
  · intro c hc
    unfold Nm.upto at h4
    rw [List.take_length, List.all_eq_true] at h4
    exact nm_not_end c (h4 c hc)
  · cases nm with
    | nil => simp at h1
    | cons c r =>
      refine ⟨c, r, rfl, ?_⟩
      unfold Nm.lo Nm.sign at h3
      simp at h3
      omega
theorem takeWhile_stop (nm post : List UInt8) (h : ∀ c, c ∈ nm → ends c.toNat = false) (hp : Stop post) : ((nm ++ post).takeWhile fun c => !ends c.toNat) = nm := by
  induction nm with
  | nil =>
    cases post with
    | nil => rfl
    | cons c r =>
      unfold Stop at hp
      rw [sg_cons] at hp
      simp [hp]
  | cons c r ih =>
    have hc := h c (by simp)
    simp [hc, ih (fun d hd => h d (by simp [hd]))]
theorem name_back (L pre nm post : List UInt8) (k i : Nat) (hL : L = pre ++ nm ++ post) (hn : Nm.name nm = true) (hp : Stop post) (hsk : skip L i = pre.length) :
    nameP L k i = .inr (⟨k, nm, []⟩, pre.length + nm.length) := by
  obtain ⟨h1, c, r, hc, h2, h3⟩ := name_signs nm hn
  have hw : wend L pre.length = pre.length + nm.length := by
    have := wend_append pre (nm ++ post) 0
    rw [Nat.add_zero, ← List.append_assoc, ← hL] at this
    rw [this]
    unfold wend
    rw [List.drop_zero, takeWhile_stop nm post h1 hp]
    omega
  have hs : sg L pre.length = c.toNat := by rw [hL, hc, List.append_assoc]; exact sg_head pre c _
  have he : ends (sg L pre.length) = false := by rw [hs]; exact h1 c (by rw [hc]; simp)
  have hcut : cut L pre.length (pre.length + nm.length) = nm := by
    unfold cut
    rw [hL, List.append_assoc, List.take_append, List.drop_append]
    simp
  unfold nameP
  simp only [hsk]
  rw [if_neg (by rw [he, hs]; simp; omega), hw, hcut, if_pos hn]
def Qq (post : List UInt8) : Prop := Stop post ∧ nxt post ≠ 38
def Qw (post : List UInt8) : Prop := Stop post ∧ nxt post ≠ 38 ∧ nxt post ≠ 124
theorem stop_sep (s : UInt8) (r : List UInt8) : Stop ([32, s, 32] ++ r) := by unfold Stop; simp [sg, ends]
theorem nxt_sep (s : UInt8) (hs : s.toNat ≠ 32) (r : List UInt8) : nxt ([32, s, 32] ++ r) = s.toNat := by
  unfold nxt
  rw [skip_blank _ 0 (by simp) (by simp), skip_stop _ (0 + 1) (by simp) (by simp; intro e; apply hs; rw [e]; rfl)]
  simp [sg]
theorem join_head (sep : List UInt8) (a : List UInt8) (r : List (List UInt8)) (h : Head a) : Head (join sep (a :: r)) := by
  obtain ⟨c, s, rfl, hc⟩ := h
  cases r with
  | nil => exact ⟨c, s, rfl, hc⟩
  | cons b r => exact ⟨c, s ++ sep ++ join sep (b :: r), by rw [join_two]; simp, hc⟩
theorem eta (x : Ex) (k : Nat) (h1 : x.kind = k) (h2 : x.name = []) : x = ⟨k, [], x.of⟩ := by
  obtain ⟨a, b, c⟩ := x
  simp only at h1 h2
  rw [h1, h2]
theorem made_list (k : Nat) (xs : List Ex) (m : Nat) (h : 2 ≤ xs.length) : made k (.inr (xs, m)) = .inr (⟨k, [], xs⟩, m) := by
  match xs, h with
  | _ :: _ :: _, _ => rfl
theorem part_back (L : List UInt8) (D : Nat) (HP : ∀ x, FitP D x → Nice L Stop (pieceP L D) x (tP x) ∧ Head (tP x)) (x : Ex) (hx : FitQ (FitP D) x) : Nice L Qq (partP L (pieceP L D)) x (tQ x) ∧ Head (tQ x) := by
  have hsep : ∀ r, Stop ([32, (38 : Nat).toUInt8, 32] ++ r) := fun r => stop_sep _ r
  have hlast : ∀ post, Qq post → Stop post ∧ nxt post ≠ 38 := fun post h => h
  rcases hx with ⟨h1, h2, h3, h4⟩ | ⟨h1, h2⟩
  · have ht : tQ x = join [32, (38 : Nat).toUInt8, 32] (x.of.map tP) := by
      rw [eta x 6 h1 h2]; unfold tQ; rw [text6]; rfl
    have hne : x.of ≠ [] := by intro e; rw [e] at h3; simp at h3
    have hall : ∀ y, y ∈ x.of → Nice L Stop (pieceP L D) y (tP y) ∧ Head (tP y) := fun y hy => HP y (h4 y hy)
    refine ⟨?_, ?_⟩
    · intro pre post i hL hQ hi hsk
      rw [ht] at hL
      have hjl := join_len [32, (38 : Nat).toUInt8, 32] rfl (x.of.map tP) (by simpa using hne)
      have hf : x.of.length ≤ L.length + 1 := by
        rw [List.length_map] at hjl
        have : L.length = pre.length + (join [32, (38 : Nat).toUInt8, 32] (x.of.map tP)).length + post.length := by rw [hL]; simp; omega
        omega
      have := list_back L 38 (by decide) (by decide) Qq Stop (pieceP L D) hsep hlast x.of tP hne hall (L.length + 1) pre post i hf hL hQ hi hsk
      refine ⟨skip L (pre.length + (tQ x).length), ?_, ?_, ?_⟩
      · unfold partP
        rw [this, made_list 6 _ _ h3, ← eta x 6 h1 h2, ht]
      · exact skip_le L _ (by rw [ht, hL]; simp <;> omega)
      · exact skip_twice L _ (by rw [ht, hL]; simp <;> omega)
    · rw [ht]
      match hof : x.of, hne with
      | y :: r, _ =>
        simp only [List.map_cons]
        exact join_head _ _ _ (hall y (by rw [hof]; simp)).2
  · have ht : tQ x = tP x := by
      unfold tQ tP
      have : decide (7 ≤ x.kind) = decide (6 ≤ x.kind) := by
        by_cases h : 6 ≤ x.kind
        · have : 7 ≤ x.kind := by omega
          simp [h, this]
        · have : ¬ 7 ≤ x.kind := by omega
          simp [h, this]
      rw [this]
    have hn := HP x h2
    rw [ht]
    refine ⟨?_, hn.2⟩
    intro pre post i hL hQ hi hsk
    have := list_back L 38 (by decide) (by decide) Qq Stop (pieceP L D) hsep hlast [x] tP (by simp) (by simpa using hn) (L.length + 1) pre post i (by simp) (by simpa [join] using hL) hQ hi hsk
    simp only [List.map_cons, List.map_nil, join] at this
    refine ⟨skip L (pre.length + (tP x).length), ?_, ?_, ?_⟩
    · unfold partP
      rw [this]
      rfl
    · exact skip_le L _ (by rw [hL]; simp <;> omega)
    · exact skip_twice L _ (by rw [hL]; simp <;> omega)
theorem whole_back (L : List UInt8) (D : Nat) (HP : ∀ x, FitP D x → Nice L Stop (pieceP L D) x (tP x) ∧ Head (tP x)) (x : Ex) (hx : FitW (FitP D) x) : Nice L Qw (wholeP L (pieceP L D)) x x.text ∧ Head x.text := by
  have hq : ∀ y, FitQ (FitP D) y → Nice L Qq (partP L (pieceP L D)) y (tQ y) ∧ Head (tQ y) := part_back L D HP
  have hsep : ∀ r, Qq ([32, (124 : Nat).toUInt8, 32] ++ r) := fun r => ⟨stop_sep _ r, by rw [nxt_sep _ (by decide)]; decide⟩
  have hlast : ∀ post, Qw post → Qq post ∧ nxt post ≠ 124 := fun post h => ⟨⟨h.1, h.2.1⟩, h.2.2⟩
  rcases hx with ⟨h1, h2, h3, h4⟩ | ⟨h1, h2⟩
  · have ht : x.text = join [32, (124 : Nat).toUInt8, 32] (x.of.map tQ) := by
      conv => lhs; rw [eta x 7 h1 h2]
      rw [text7]; rfl
    have hne : x.of ≠ [] := by intro e; rw [e] at h3; simp at h3
    have hall : ∀ y, y ∈ x.of → Nice L Qq (partP L (pieceP L D)) y (tQ y) ∧ Head (tQ y) := fun y hy => hq y (h4 y hy)
    refine ⟨?_, ?_⟩
    · intro pre post i hL hQ hi hsk
      rw [ht] at hL
      have hjl := join_len [32, (124 : Nat).toUInt8, 32] rfl (x.of.map tQ) (by simpa using hne)
      have hf : x.of.length ≤ L.length + 1 := by
        rw [List.length_map] at hjl
        have : L.length = pre.length + (join [32, (124 : Nat).toUInt8, 32] (x.of.map tQ)).length + post.length := by rw [hL]; simp; omega
        omega
      have := list_back L 124 (by decide) (by decide) Qw Qq (partP L (pieceP L D)) hsep hlast x.of tQ hne hall (L.length + 1) pre post i hf hL hQ hi hsk
      refine ⟨skip L (pre.length + x.text.length), ?_, ?_, ?_⟩
      · unfold wholeP
        rw [this, made_list 7 _ _ h3, ← eta x 7 h1 h2, ht]
      · exact skip_le L _ (by rw [ht, hL]; simp <;> omega)
      · exact skip_twice L _ (by rw [ht, hL]; simp <;> omega)
    · rw [ht]
      match hof : x.of, hne with
      | y :: r, _ =>
        simp only [List.map_cons]
        exact join_head _ _ _ (hall y (by rw [hof]; simp)).2
  · have ht : tQ x = x.text := by
      have hk : x.kind ≤ 6 := by
        rcases h2 with ⟨h2, _⟩ | ⟨_, h2⟩
        · omega
        · have := FitP.le7 D x h2; omega
      unfold tQ
      have : ¬ 7 ≤ x.kind := by omega
      simp [this, par]
    have hn := hq x h2
    rw [ht] at hn
    refine ⟨?_, hn.2⟩
    intro pre post i hL hQ hi hsk
    have := list_back L 124 (by decide) (by decide) Qw Qq (partP L (pieceP L D)) hsep hlast [x] text (by simp) (by simpa using hn) (L.length + 1) pre post i (by simp) (by simpa [join] using hL) hQ hi hsk
    simp only [List.map_cons, List.map_nil, join] at this
    refine ⟨skip L (pre.length + x.text.length), ?_, ?_, ?_⟩
    · unfold wholeP
      rw [this]
      rfl
    · exact skip_le L _ (by rw [hL]; simp <;> omega)
    · exact skip_twice L _ (by rw [hL]; simp <;> omega)
theorem piece_step (L : List UInt8) (D i j c : Nat) (h1 : skip L i = j) (h2 : sg L j = c) : pieceP L (D + 1) i =
    if c = 33 then notP (pieceP L D (j + 1)) else if c = 40 then parP L (wholeP L (pieceP L D) (j + 1)) else if c = 48 then .inr (⟨0, [], []⟩, j + 1) else if c = 49 then .inr (⟨1, [], []⟩, j + 1)
    else if c = 94 then nameP L 3 (j + 1) else if c = 126 then nameP L 4 (j + 1) else nameP L 2 j := by
  subst h1 h2
  rfl
theorem tP_low (x : Ex) (h : ¬ 6 ≤ x.kind) : tP x = x.text := by unfold tP; simp [h, par]
theorem piece_back (L : List UInt8) : ∀ (D : Nat) (x : Ex), FitP D x → Nice L Stop (pieceP L D) x (tP x) ∧ Head (tP x) := by
  intro D
  induction D with
  | zero => intro x h; exact absurd h (by simp [FitP])
  | succ D ih =>
    intro x h
    have hFW : 6 ≤ x.kind → FitW (FitP D) x := by
      intro hk
      have h' := h
      unfold FitP at h'
      rcases h' with ⟨h1, _⟩ | ⟨_, h1, _⟩ | ⟨h1, _⟩ | ⟨h1, h2, h3, h4⟩ | ⟨h1, h2, h3, h4⟩
      · omega
      · omega
      · omega
      · exact .inr ⟨by omega, .inl ⟨h1, h2, h3, h4⟩⟩
      · exact .inl ⟨h1, h2, h3, h4⟩
    by_cases hk6 : 6 ≤ x.kind
    · have hW := whole_back L D ih x (hFW hk6)
      have ht : tP x = 40 :: (x.text ++ [41]) := by unfold tP; simp [hk6, par]
      rw [ht]
      refine ⟨?_, ⟨40, _, rfl, by decide⟩⟩
      intro pre post i hL hQ hi hsk
      have hL1 : L = pre ++ 40 :: (x.text ++ [41] ++ post) := by rw [hL]; simp
      have hs : sg L pre.length = 40 := by rw [hL1]; exact sg_head pre 40 _
      have hL2 : L = (pre ++ [40]) ++ x.text ++ (41 :: post) := by rw [hL]; simp
      obtain ⟨c, r, hc, hc32⟩ := hW.2
      have hsk2 : skip L (pre.length + 1) = (pre ++ [40]).length := by
        have h3 : L = (pre ++ [40]) ++ c :: (r ++ 41 :: post) := by rw [hL2, hc]; simp
        have := skip_head (pre ++ [40]) c (r ++ 41 :: post) hc32
        rw [← h3] at this
        simpa using this
      have hlen : pre.length + 1 ≤ L.length := by rw [hL1]; simp <;> omega
      obtain ⟨m, hm, hml, hms⟩ := hW.1 (pre ++ [40]) (41 :: post) (pre.length + 1) hL2 ⟨by simp [Stop, sg_cons, ends], by unfold nxt; rw [skip_cons _ _ (by decide), sg_cons]; decide, by unfold nxt; rw [skip_cons _ _ (by decide), sg_cons]; decide⟩ hlen hsk2
      have hL3 : L = ((pre ++ [40]) ++ x.text) ++ 41 :: post := hL2
      have e1 : skip L ((pre ++ [40]).length + x.text.length) = (pre ++ [40]).length + x.text.length := by
        have := skip_head ((pre ++ [40]) ++ x.text) 41 post (by decide)
        rw [← hL3, List.length_append] at this
        exact this
      have e2 : sg L ((pre ++ [40]).length + x.text.length) = 41 := by
        have := sg_head ((pre ++ [40]) ++ x.text) 41 post
        rw [← hL3, List.length_append] at this
        exact this
      refine ⟨(pre ++ [40]).length + x.text.length + 1, ?_, ?_, ?_⟩
      · rw [piece_step L D i _ 40 hsk hs, if_neg (by decide), if_pos rfl, hm]
        unfold parP
        simp only [hms, e1, e2, if_true]
      · rw [hL2]; simp <;> omega
      · congr 1; simp <;> omega
    · rw [tP_low x hk6]
      have h' := h
      unfold FitP at h'
      rcases h' with ⟨h1, h2, h3⟩ | ⟨h0, h1, h2, h3⟩ | ⟨h1, h2, y, h3, h4⟩ | ⟨h1, _⟩ | ⟨h1, _⟩
      · obtain ⟨k, nm, l⟩ := x
        simp only at h1 h2 h3
        subst h2 h3
        match k, h1 with
        | 0, _ =>
          have ht : text ⟨0, [], []⟩ = [48] := by simp [text]
          rw [ht]
          refine ⟨?_, ⟨48, [], rfl, by decide⟩⟩
          intro pre post i hL hQ hi hsk
          have hs : sg L pre.length = 48 := by rw [hL, List.append_assoc]; exact sg_head pre 48 _
          exact ⟨pre.length + 1, by rw [piece_step L D i _ 48 hsk hs, if_neg (by decide), if_neg (by decide), if_pos rfl], by rw [hL]; simp, rfl⟩
        | 1, _ =>
          have ht : text ⟨1, [], []⟩ = [49] := by simp [text]
          rw [ht]
          refine ⟨?_, ⟨49, [], rfl, by decide⟩⟩
          intro pre post i hL hQ hi hsk
          have hs : sg L pre.length = 49 := by rw [hL, List.append_assoc]; exact sg_head pre 49 _
          exact ⟨pre.length + 1, by rw [piece_step L D i _ 49 hsk hs, if_neg (by decide), if_neg (by decide), if_neg (by decide), if_pos rfl], by rw [hL]; simp, rfl⟩
      · obtain ⟨k, nm, l⟩ := x
        simp only at h0 h1 h2 h3
        subst h3
        obtain ⟨hns, c, r, hc, hc1, hc2⟩ := name_signs nm h2
        match k, h0, h1 with
        | 2, _, _ =>
          have ht : text ⟨2, nm, []⟩ = nm := by simp [text]
          rw [ht]
          refine ⟨?_, ⟨c, r, hc, by omega⟩⟩
          intro pre post i hL hQ hi hsk
          have hs : sg L pre.length = c.toNat := by rw [hL, hc, List.append_assoc]; exact sg_head pre c _
          have hsk2 : skip L pre.length = pre.length := by rw [← hsk]; exact skip_twice L i hi
          exact ⟨pre.length + nm.length, by rw [piece_step L D i _ _ hsk hs, if_neg (by omega), if_neg (by omega), if_neg (by omega), if_neg (by omega), if_neg (by omega), if_neg (by omega)]; exact name_back L pre nm post 2 _ hL h2 hQ hsk2, by rw [hL]; simp <;> omega, rfl⟩
        | 3, _, _ =>
          have ht : text ⟨3, nm, []⟩ = 94 :: nm := by simp [text]
          rw [ht]
          refine ⟨?_, ⟨94, nm, rfl, by decide⟩⟩
          intro pre post i hL hQ hi hsk
          have hs : sg L pre.length = 94 := by rw [hL, List.append_assoc]; exact sg_head pre 94 _
          have hL2 : L = (pre ++ [94]) ++ nm ++ post := by rw [hL]; simp
          have hsk2 : skip L (pre.length + 1) = (pre ++ [94]).length := by
            have := skip_head (pre ++ [94]) c (r ++ post) (by omega)
            rw [show (pre ++ [94]) ++ c :: (r ++ post) = L from by rw [hL2, hc]; simp] at this
            simpa using this
          exact ⟨pre.length + (94 :: nm).length, by rw [piece_step L D i _ 94 hsk hs, if_neg (by decide), if_neg (by decide), if_neg (by decide), if_neg (by decide), if_pos rfl, name_back L (pre ++ [94]) nm post 3 _ hL2 h2 hQ hsk2]; congr 2; simp <;> omega, by rw [hL]; simp <;> omega, rfl⟩
        | 4, _, _ =>
          have ht : text ⟨4, nm, []⟩ = 126 :: nm := by simp [text]
          rw [ht]
          refine ⟨?_, ⟨126, nm, rfl, by decide⟩⟩
          intro pre post i hL hQ hi hsk
          have hs : sg L pre.length = 126 := by rw [hL, List.append_assoc]; exact sg_head pre 126 _
          have hL2 : L = (pre ++ [126]) ++ nm ++ post := by rw [hL]; simp
          have hsk2 : skip L (pre.length + 1) = (pre ++ [126]).length := by
            have := skip_head (pre ++ [126]) c (r ++ post) (by omega)
            rw [show (pre ++ [126]) ++ c :: (r ++ post) = L from by rw [hL2, hc]; simp] at this
            simpa using this
          exact ⟨pre.length + (126 :: nm).length, by rw [piece_step L D i _ 126 hsk hs, if_neg (by decide), if_neg (by decide), if_neg (by decide), if_neg (by decide), if_neg (by decide), if_pos rfl, name_back L (pre ++ [126]) nm post 4 _ hL2 h2 hQ hsk2]; congr 2; simp <;> omega, by rw [hL]; simp <;> omega, rfl⟩
      · have ht : x.text = 33 :: tP y := by
          conv => lhs; rw [eta x 5 h1 h2, h3]
          rw [text5]; rfl
        have hy := ih y h4
        rw [ht]
        refine ⟨?_, ⟨33, _, rfl, by decide⟩⟩
        intro pre post i hL hQ hi hsk
        have hs : sg L pre.length = 33 := by rw [hL, List.append_assoc]; exact sg_head pre 33 _
        have hL2 : L = (pre ++ [33]) ++ tP y ++ post := by rw [hL]; simp
        obtain ⟨c, r, hc, hc32⟩ := hy.2
        have hsk2 : skip L (pre.length + 1) = (pre ++ [33]).length := by
          have := skip_head (pre ++ [33]) c (r ++ post) hc32
          rw [show (pre ++ [33]) ++ c :: (r ++ post) = L from by rw [hL2, hc]; simp] at this
          simpa using this
        have hlen : pre.length + 1 ≤ L.length := by rw [hL]; simp <;> omega
        obtain ⟨m, hm, hml, hms⟩ := hy.1 (pre ++ [33]) post (pre.length + 1) hL2 hQ hlen hsk2
        refine ⟨m, ?_, hml, ?_⟩
        · rw [piece_step L D i _ 33 hsk hs, if_pos rfl, hm]
          unfold notP
          simp only
          rw [eta x 5 h1 h2, h3]
        · rw [hms]; congr 1; simp; omega
      · omega
      · omega
/-- WHAT AN EXPRESSION's TEXT TELLS IS THAT EXPRESSION AGAIN -/
theorem parse_back (l : List UInt8) (x : Ex) (h : parse l = .inr x) (hlen : x.text.length ≤ 2000) : parse x.text = .inr x := by
  have hf := parse_fit l x h
  have hW := whole_back x.text 20 (piece_back x.text 20) x hf
  obtain ⟨c, r, hc, hc32⟩ := hW.2
  have hsk : skip x.text 0 = ([] : List UInt8).length := by rw [hc]; exact skip_cons c r hc32
  obtain ⟨m, hm, hml, hms⟩ := hW.1 [] [] 0 (by simp) ⟨by simp [Stop, sg, ends], by simp [nxt, sg, skip], by simp [nxt, sg, skip]⟩ (Nat.zero_le _) hsk
  unfold parse
  rw [if_neg (by omega), hm]
  simp only
  rw [hms]
  have : skip x.text (([] : List UInt8).length + x.text.length) = x.text.length := by simp [skip_end]
  rw [this, if_neg (by omega)]
end Ex
end Go.Proofs.YtgldbliohpfljaaGreatDoor
