/-
  Plain mathematics of chapter 1: expressions as trees, their text, what they say, their size; reading a text (1.2). Nothing of the program is named here.
-/
import Derived.Test.YtblfeahbpklgiaaGreatDoorNmMath
namespace Go.Proofs.YtblfeahbpklgiaaGreatDoor
/-- An expression: kinds 0, 1 (always false, true), 2 (a name), 3 (rises), 4 (falls), 5 (not), 6 (and), 7 (or). -/
structure Ex where
  kind : Nat
  name : List UInt8
  of : List Ex
namespace Ex
theorem ind {P : Ex → Prop} (h : ∀ k n l, (∀ x, x ∈ l → P x) → P ⟨k, n, l⟩) : ∀ e, P e
  | ⟨k, n, l⟩ => h k n l (fun x _ => ind h x)
def size : Ex → Nat
  | ⟨_, _, l⟩ => 1 + (l.map fun x => x.size).sum
def join (sep : List UInt8) : List (List UInt8) → List UInt8
  | [] => []
  | [a] => a
  | a :: r => a ++ sep ++ join sep r
def par (b : Bool) (l : List UInt8) : List UInt8 := if b then 40 :: (l ++ [41]) else l
def text : Ex → List UInt8
  | ⟨0, _, _⟩ => [48]
  | ⟨1, _, _⟩ => [49]
  | ⟨2, n, _⟩ => n
  | ⟨3, n, _⟩ => 94 :: n
  | ⟨4, n, _⟩ => 126 :: n
  | ⟨5, _, l⟩ => 33 :: (l.map fun x => par (decide (6 ≤ x.kind)) x.text).flatten
  | ⟨6, _, l⟩ => join [32, 38, 32] (l.map fun x => par (decide (6 ≤ x.kind)) x.text)
  | ⟨_, _, l⟩ => join [32, 124, 32] (l.map fun x => par (decide (7 ≤ x.kind)) x.text)
def eval (is was : List UInt8 → Bool) : Ex → Bool
  | ⟨0, _, _⟩ => false
  | ⟨1, _, _⟩ => true
  | ⟨2, n, _⟩ => is n
  | ⟨3, n, _⟩ => is n && !was n
  | ⟨4, n, _⟩ => !is n && was n
  | ⟨5, _, l⟩ => !((l.map fun x => x.eval is was).any id)
  | ⟨6, _, l⟩ => (l.map fun x => x.eval is was).all id
  | ⟨_, _, l⟩ => (l.map fun x => x.eval is was).any id
/-- the first place from i on where no blank stands -/
def skip (l : List UInt8) (i : Nat) : Nat := i + ((l.drop i).takeWhile fun c => c == 32).length
/-- the byte at a place (a blank, behind the end) -/
def sg (l : List UInt8) (i : Nat) : Nat := if i < l.length then (l.getD i 0).toNat else 32
/-- does a byte end a word? -/
def ends (c : Nat) : Bool := [32, 38, 124, 33, 94, 126, 40, 41, 61].contains c
/-- the first place from i on where a word ends -/
def wend (l : List UInt8) (i : Nat) : Nat := i + ((l.drop i).takeWhile fun c => !ends c.toNat).length
/-- the bytes from i up to j -/
def cut (l : List UInt8) (i j : Nat) : List UInt8 := (l.take j).drop i
/-- what reading comes to: an error (its number, its place), or what is read, and the place behind it -/
abbrev Res (α : Type) := (Nat × Nat) ⊕ (α × Nat)
def nameP (l : List UInt8) (kind i : Nat) : Res Ex :=
  let j := skip l i
  if sg l j = 48 ∨ sg l j = 49 ∨ ends (sg l j) = true then .inl (3, j)
  else if Nm.name (cut l j (wend l j)) = true then .inr (⟨kind, cut l j (wend l j), []⟩, wend l j)
  else .inl (5, j)
def listP (l : List UInt8) (sep : Nat) (read : Nat → Res Ex) : Nat → Nat → Res (List Ex)
  | 0, i => .inl (0, i)
  | f + 1, i =>
    match read i with
    | .inl e => .inl e
    | .inr (x, j) =>
      if sg l (skip l j) = sep then
        match listP l sep read f (skip l j + 1) with
        | .inl e => .inl e
        | .inr (xs, m) => .inr (x :: xs, m)
      else .inr ([x], skip l j)
/-- one alone is it; more are a list of that kind -/
def made (kind : Nat) : Res (List Ex) → Res Ex
  | .inl e => .inl e
  | .inr ([x], m) => .inr (x, m)
  | .inr (xs, m) => .inr (⟨kind, [], xs⟩, m)
def partP (l : List UInt8) (piece : Nat → Res Ex) (i : Nat) : Res Ex := made 6 (listP l 38 piece (l.length + 1) i)
def wholeP (l : List UInt8) (piece : Nat → Res Ex) (i : Nat) : Res Ex := made 7 (listP l 124 (partP l piece) (l.length + 1) i)
def notP : Res Ex → Res Ex
  | .inl e => .inl e
  | .inr (x, m) => .inr (⟨5, [], [x]⟩, m)
def parP (l : List UInt8) : Res Ex → Res Ex
  | .inl e => .inl e
  | .inr (x, m) => if sg l (skip l m) = 41 then .inr (x, skip l m + 1) else .inl (3, skip l m)
def pieceP (l : List UInt8) : Nat → Nat → Res Ex
  | 0, i => .inl (4, skip l i)
  | d + 1, i =>
    let j := skip l i
    let c := sg l j
    if c = 33 then notP (pieceP l d (j + 1))
    else if c = 40 then parP l (wholeP l (pieceP l d) (j + 1))
    else if c = 48 then .inr (⟨0, [], []⟩, j + 1)
    else if c = 49 then .inr (⟨1, [], []⟩, j + 1)
    else if c = 94 then nameP l 3 (j + 1)
    else if c = 126 then nameP l 4 (j + 1)
    else nameP l 2 j
/-- a text as a whole: an error (its place, if it has one), or an expression -/
def parse (l : List UInt8) : (Nat × Option Nat) ⊕ Ex :=
  if 2000 < l.length then .inl (4, none)
  else match wholeP l (pieceP l 20) 0 with
    | .inl (e, p) => .inl (e, some p)
    | .inr (x, m) => if skip l m < l.length then .inl (3, some (skip l m)) else .inr x

theorem skip_ge (l : List UInt8) (i : Nat) : i ≤ skip l i := by unfold skip; omega
theorem skip_le (l : List UInt8) (i : Nat) (h : i ≤ l.length) : skip l i ≤ l.length := by
  unfold skip
  have h1 : ((l.drop i).takeWhile fun c => c == 32).length ≤ (l.drop i).length := (List.takeWhile_sublist _).length_le
  rw [List.length_drop] at h1
  omega
theorem wend_ge (l : List UInt8) (i : Nat) : i ≤ wend l i := by unfold wend; omega
theorem wend_le (l : List UInt8) (i : Nat) (h : i ≤ l.length) : wend l i ≤ l.length := by
  unfold wend
  have h1 : ((l.drop i).takeWhile fun c => !ends c.toNat).length ≤ (l.drop i).length := (List.takeWhile_sublist _).length_le
  rw [List.length_drop] at h1
  omega
/-- one step of skipping -/
theorem skip_blank (l : List UInt8) (i : Nat) (h : i < l.length) (hb : l.getD i 0 = 32) : skip l i = skip l (i + 1) := by
  unfold skip
  rw [List.drop_eq_getElem_cons h]
  have e : l[i] = 32 := by simpa [List.getD_eq_getElem?_getD, h] using hb
  rw [List.takeWhile_cons, e]; simp only [BEq.rfl, if_true, List.length_cons]; omega
theorem skip_stop (l : List UInt8) (i : Nat) (h : i < l.length) (hb : l.getD i 0 ≠ 32) : skip l i = i := by
  unfold skip
  rw [List.drop_eq_getElem_cons h]
  have e : (l[i] == 32) = false := by simpa [List.getD_eq_getElem?_getD, h] using hb
  rw [List.takeWhile_cons, e]; rfl
theorem skip_end (l : List UInt8) (i : Nat) (h : l.length ≤ i) : skip l i = i := by
  unfold skip
  rw [List.drop_eq_nil_of_le h]; simp
theorem wend_on (l : List UInt8) (i : Nat) (h : i < l.length) (hb : ends (l.getD i 0).toNat = false) : wend l i = wend l (i + 1) := by
  unfold wend
  rw [List.drop_eq_getElem_cons h]
  have e : ends (l[i]).toNat = false := by simpa [List.getD_eq_getElem?_getD, h] using hb
  rw [List.takeWhile_cons, e]; simp only [Bool.not_false, if_true, List.length_cons]; omega
theorem wend_stop (l : List UInt8) (i : Nat) (h : i < l.length) (hb : ends (l.getD i 0).toNat = true) : wend l i = i := by
  unfold wend
  rw [List.drop_eq_getElem_cons h]
  have e : ends (l[i]).toNat = true := by simpa [List.getD_eq_getElem?_getD, h] using hb
  rw [List.takeWhile_cons, e]; rfl
theorem wend_end (l : List UInt8) (i : Nat) (h : l.length ≤ i) : wend l i = i := by
  unfold wend
  rw [List.drop_eq_nil_of_le h]; simp
/-- behind skipping a blank stands only at the end -/
theorem sg_skip (l : List UInt8) (i : Nat) (h : i ≤ l.length) : sg l (skip l i) = 32 ↔ skip l i = l.length := by
  have key : ∀ n i, l.length - i = n → i ≤ l.length → (sg l (skip l i) = 32 ↔ skip l i = l.length) := by
    intro n
    induction n with
    | zero => intro i hn hi; rw [skip_end l i (by omega)]; simp [sg]; omega
    | succ n ih =>
      intro i hn hi
      by_cases hb : l.getD i 0 = 32
      · rw [skip_blank l i (by omega) hb]; exact ih (i + 1) (by omega) (by omega)
      · rw [skip_stop l i (by omega) hb]
        have : (l.getD i 0).toNat ≠ 32 := fun h => hb (by rw [← UInt8.toNat_inj]; simpa using h)
        simp only [sg, if_pos (show i < l.length by omega)]
        exact ⟨fun h => absurd h this, fun h => by omega⟩
  exact key _ i rfl h
end Ex
end Go.Proofs.YtblfeahbpklgiaaGreatDoor
