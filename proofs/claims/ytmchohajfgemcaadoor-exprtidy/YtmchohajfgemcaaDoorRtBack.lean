/-
  Plain mathematics of chapter 1: what an expression's text tells is that expression again. Nothing of the program is named here.
-/
import Derived.Test.YtmchohajfgemcaaDoorRtFit
namespace Go.Proofs.YtmchohajfgemcaaDoor
namespace Ex
theorem skip_append (a b : List UInt8) (i : Nat) : skip (a ++ b) (a.length + i) = a.length + skip b i := by
  unfold skip
  have e : (a ++ b).drop (a.length + i) = b.drop i := by rw [List.drop_append]; simp
  rw [e]; omega
theorem sg_append (a b : List UInt8) (i : Nat) : sg (a ++ b) (a.length + i) = sg b i := by
  unfold sg
  have e : (a ++ b).getD (a.length + i) 0 = b.getD i 0 := by
    simp [List.getD_eq_getElem?_getD, List.getElem?_append_right]
  rw [e]
  by_cases h : i < b.length
  · rw [if_pos h, if_pos (by simp; omega)]
  · rw [if_neg h, if_neg (by simp; omega)]
theorem wend_append (a b : List UInt8) (i : Nat) : wend (a ++ b) (a.length + i) = a.length + wend b i := by
  unfold wend
  have e : (a ++ b).drop (a.length + i) = b.drop i := by rw [List.drop_append]; simp
  rw [e]; omega
/-- a word ends there -/
def Stop (post : List UInt8) : Prop := ends (sg post 0) = true
/-- the next sign -/
def nxt (post : List UInt8) : Nat := sg post (skip post 0)
theorem sg_cons (c : UInt8) (r : List UInt8) : sg (c :: r) 0 = c.toNat := by simp [sg]
theorem skip_cons (c : UInt8) (r : List UInt8) (h : c.toNat ≠ 32) : skip (c :: r) 0 = 0 := skip_stop _ 0 (by simp) (by intro e; apply h; simp at e; rw [e]; rfl)
/-- reading there gives this, up to the text's end -/
def Nice (L : List UInt8) (Q : List UInt8 → Prop) (R : Nat → Res Ex) (x : Ex) (t : List UInt8) : Prop :=
  ∀ pre post i, L = pre ++ t ++ post → Q post → i ≤ L.length → skip L i = pre.length → ∃ m, R i = .inr (x, m) ∧ m ≤ L.length ∧ skip L m = skip L (pre.length + t.length)
/-- a text that begins with a sign -/
def Head (t : List UInt8) : Prop := ∃ c r, t = c :: r ∧ c.toNat ≠ 32
theorem join_two (sep a b : List UInt8) (r : List (List UInt8)) : join sep (a :: b :: r) = a ++ sep ++ join sep (b :: r) := rfl
theorem list_back (L : List UInt8) (sep : Nat) (hs : sep < 256) (hs32 : sep ≠ 32) (Q Qe : List UInt8 → Prop) (R : Nat → Res Ex)
    (hsep : ∀ r, Qe ([32, sep.toUInt8, 32] ++ r)) (hlast : ∀ post, Q post → Qe post ∧ nxt post ≠ sep) :
    ∀ (xs : List Ex) (t : Ex → List UInt8), xs ≠ [] → (∀ x, x ∈ xs → Nice L Qe R x (t x) ∧ Head (t x)) →
    ∀ f pre post i, xs.length ≤ f → L = pre ++ join [32, sep.toUInt8, 32] (xs.map t) ++ post → Q post → i ≤ L.length → skip L i = pre.length →
    listP L sep R f i = .inr (xs, skip L (pre.length + (join [32, sep.toUInt8, 32] (xs.map t)).length)) := by
  have hsn : sep.toUInt8.toNat = sep := by simp; omega
  intro xs t
  induction xs with
  | nil => intro h; exact absurd rfl h
  | cons x r ih =>
    intro _ hx f pre post i hf hL hQ hi hsk
    obtain ⟨f, rfl⟩ : ∃ g, f = g + 1 := ⟨f - 1, by simp at hf; omega⟩
    cases r with
    | nil =>
      simp only [List.map_cons, List.map_nil, join] at hL ⊢
      obtain ⟨h1, h2⟩ := hlast post hQ
      obtain ⟨m, hm, hml, hms⟩ := (hx x (by simp)).1 pre post i hL h1 hi hsk
      have hn : sg L (skip L m) ≠ sep := by
        rw [hms]
        have e : skip L (pre.length + (t x).length) = (pre ++ t x).length + skip post 0 := by
          have := skip_append (pre ++ t x) post 0
          rw [Nat.add_zero, ← hL] at this
          rw [← this]; simp
        rw [e, hL, sg_append]
        exact h2
      unfold listP
      rw [hm]
      simp only [if_neg hn]
      rw [hms]
    | cons y r =>
      simp only [List.map_cons] at hL ⊢
      rw [join_two] at hL ⊢
      have hy := hx y (by simp)
      obtain ⟨c, rr, hty, hc⟩ := hy.2
      have hL2 : L = pre ++ t x ++ ([32, sep.toUInt8, 32] ++ (join [32, sep.toUInt8, 32] (t y :: r.map t) ++ post)) := by rw [hL]; simp
      obtain ⟨m, hm, hml, hms⟩ := (hx x (by simp)).1 pre _ i hL2 (hsep _) hi hsk
      have e1 : skip L (pre.length + (t x).length) = pre.length + (t x).length + 1 := by
        have := skip_append (pre ++ t x) ([32, sep.toUInt8, 32] ++ (join [32, sep.toUInt8, 32] (t y :: r.map t) ++ post)) 0
        rw [Nat.add_zero, ← hL2] at this
        have e2 : skip ([32, sep.toUInt8, 32] ++ (join [32, sep.toUInt8, 32] (t y :: r.map t) ++ post)) 0 = 1 := by
          rw [skip_blank _ 0 (by simp) (by simp)]
          exact skip_stop _ 1 (by simp) (by simp; intro e; have := congrArg UInt8.toNat e; rw [hsn] at this; exact hs32 this)
        rw [e2] at this
        simpa using this
      have hsg : sg L (skip L m) = sep := by
        rw [hms, e1]
        have := sg_append (pre ++ t x) ([32, sep.toUInt8, 32] ++ (join [32, sep.toUInt8, 32] (t y :: r.map t) ++ post)) 1
        rw [← hL2] at this
        simp only [List.length_append] at this
        rw [this]
        simp only [sg, List.cons_append, List.length_cons, List.nil_append]
        rw [if_pos (by omega)]
        simpa using hsn
      have hL3 : L = (pre ++ t x ++ [32, sep.toUInt8, 32]) ++ join [32, sep.toUInt8, 32] ((y :: r).map t) ++ post := by rw [hL]; simp
      have hjoin : ∃ r2, join [32, sep.toUInt8, 32] ((y :: r).map t) ++ post = c :: r2 := by
        cases r with
        | nil => exact ⟨rr ++ post, by simp [join, hty]⟩
        | cons z r => exact ⟨_, by simp only [List.map_cons]; rw [join_two, hty]; simp; rfl⟩
      obtain ⟨r2, hr2⟩ := hjoin
      have e3 : skip L (pre.length + (t x).length + 1 + 1) = (pre ++ t x ++ [32, sep.toUInt8, 32]).length := by
        have h3 : L = (pre ++ t x ++ [32, sep.toUInt8]) ++ (32 :: c :: r2) := by rw [hL3, List.append_assoc _ _ post, hr2]; simp
        have := skip_append (pre ++ t x ++ [32, sep.toUInt8]) (32 :: c :: r2) 0
        rw [Nat.add_zero, ← h3] at this
        have e4 : skip (32 :: c :: r2) 0 = 1 := by
          rw [skip_blank _ 0 (by simp) (by simp)]
          exact skip_stop _ 1 (by simp) (by simp; intro e; apply hc; rw [e]; rfl)
        rw [e4] at this
        simp only [List.length_append, List.length_cons, List.length_nil] at this ⊢
        rw [show pre.length + (t x).length + 1 + 1 = pre.length + (t x).length + (0 + 1 + 1) from by omega, this]
      have hlen : pre.length + (t x).length + 1 + 1 ≤ L.length := by rw [hL3]; simp; omega
      have hrec := ih (by simp) (fun z hz => hx z (List.mem_cons_of_mem x hz)) f (pre ++ t x ++ [32, sep.toUInt8, 32]) post (pre.length + (t x).length + 1 + 1) (by simp at hf ⊢; omega) hL3 hQ hlen e3
      unfold listP
      rw [hm]
      simp only [if_pos hsg]
      rw [hms, e1, hrec]
      simp only [List.map_cons]
      congr 3
      simp
      omega
end Ex
end Go.Proofs.YtmchohajfgemcaaDoor
