/-
  Plain mathematics of chapter 1: expressions as trees, their text, what they say, their size; reading a text (1.2). Nothing of the program is named here. Plain mathematics of chapter 1: the names in an expression; what it says hangs on them alone. Nothing of the program is named here. Plain mathematics of chapter 2: programs, names and rungs; which may be (2.1), numbers, kinds, edges (2.2), their text (2.3). Nothing of the program is named here. The walks of chapter 1's names: package expr's isLetter, isDigit, isKept, Name. Plain mathematics of chapter 1: reading goes forward, and stays within the text. Nothing of the program is named here. What the walks of package expr's reader go by: the reader's cells in memory; that all else is as it was. (Out of RdBase: no function is named.) Expressions in memory, as package expr lays them: an interface value; And and Or are rows of such. 'ok' says which blocks those rows may lie in. Programs in memory, as package ladder lays them: two slices; three cells a name, three a rung.
-/
import Derived.Test.YtgldbliohpfljaaGreatDoorNmMath
import Derived.Test.YtgldbliohpfljaaGreatDoorRows
import Derived.WalkKit
import Derived.WalkSpells
import Derived.WalkLawsBesides
import Derived.Deep.QuietTactic
import Derived.BigQuiet
import Derived.Deep.LoopGhost
import Derived.Lib.Bytealg
namespace Go.Proofs.YtgldbliohpfljaaGreatDoor
section
/-- An expression: kinds 0, 1 (always false, true), 2 (a name), 3 (rises), 4 (falls), 5 (not), 6 (and), 7 (or). -/
structure Ex where
  kind : Nat
  name : List UInt8
  of : List Ex
namespace Ex
theorem ind {P : Ex → Prop} (h : ∀ k n l, (∀ x, x ∈ l → P x) → P ⟨k, n, l⟩) : ∀ e, P e
  | ⟨k, n, l⟩ => h k n l (fun x _ => ind h x)
def size : Ex → Nat
  | ⟨_, _, l⟩ => 1 + (l.map fun x => x.size).sum
def join (sep : List UInt8) : List (List UInt8) → List UInt8
  | [] => []
  | [a] => a
  | a :: r => a ++ sep ++ join sep r
def par (b : Bool) (l : List UInt8) : List UInt8 := if b then 40 :: (l ++ [41]) else l
def text : Ex → List UInt8
  | ⟨0, _, _⟩ => [48]
  | ⟨1, _, _⟩ => [49]
  | ⟨2, n, _⟩ => n
  | ⟨3, n, _⟩ => 94 :: n
  | ⟨4, n, _⟩ => 126 :: n
  | ⟨5, _, l⟩ => 33 :: (l.map fun x => par (decide (6 ≤ x.kind)) x.text).flatten
  | ⟨6, _, l⟩ => join [32, 38, 32] (l.map fun x => par (decide (6 ≤ x.kind)) x.text)
  | ⟨_, _, l⟩ => join [32, 124, 32] (l.map fun x => par (decide (7 ≤ x.kind)) x.text)
def eval (is was : List UInt8 → Bool) : Ex → Bool
  | ⟨0, _, _⟩ => false
  | ⟨1, _, _⟩ => true
  | ⟨2, n, _⟩ => is n
  | ⟨3, n, _⟩ => is n && !was n
  | ⟨4, n, _⟩ => !is n && was n
  | ⟨5, _, l⟩ => !((l.map fun x => x.eval is was).any id)
  | ⟨6, _, l⟩ => (l.map fun x => x.eval is was).all id
  | ⟨_, _, l⟩ => (l.map fun x => x.eval is was).any id
/-- the first place from i on where no blank stands -/
def skip (l : List UInt8) (i : Nat) : Nat := i + ((l.drop i).takeWhile fun c => c == 32).length
/-- the byte at a place (a blank, behind the end) -/
def sg (l : List UInt8) (i : Nat) : Nat := if i < l.length then (l.getD i 0).toNat else 32
/-- does a byte end a word? -/
def ends (c : Nat) : Bool := [32, 38, 124, 33, 94, 126, 40, 41, 61].contains c
/-- the first place from i on where a word ends -/
def wend (l : List UInt8) (i : Nat) : Nat := i + ((l.drop i).takeWhile fun c => !ends c.toNat).length
/-- the bytes from i up to j -/
def cut (l : List UInt8) (i j : Nat) : List UInt8 := (l.take j).drop i
/-- what reading comes to: an error (its number, its place), or what is read, and the place behind it -/
abbrev Res (α : Type) := (Nat × Nat) ⊕ (α × Nat)
def nameP (l : List UInt8) (kind i : Nat) : Res Ex :=
  let j := skip l i
  if sg l j = 48 ∨ sg l j = 49 ∨ ends (sg l j) = true then .inl (3, j)
  else if Nm.name (cut l j (wend l j)) = true then .inr (⟨kind, cut l j (wend l j), []⟩, wend l j)
  else .inl (5, j)
def listP (l : List UInt8) (sep : Nat) (read : Nat → Res Ex) : Nat → Nat → Res (List Ex)
  | 0, i => .inl (0, i)
  | f + 1, i =>
    match read i with
    | .inl e => .inl e
    | .inr (x, j) =>
      if sg l (skip l j) = sep then
        match listP l sep read f (skip l j + 1) with
        | .inl e => .inl e
        | .inr (xs, m) => .inr (x :: xs, m)
      else .inr ([x], skip l j)
/-- one alone is it; more are a list of that kind -/
def made (kind : Nat) : Res (List Ex) → Res Ex
  | .inl e => .inl e
  | .inr ([x], m) => .inr (x, m)
  | .inr (xs, m) => .inr (⟨kind, [], xs⟩, m)
def partP (l : List UInt8) (piece : Nat → Res Ex) (i : Nat) : Res Ex := made 6 (listP l 38 piece (l.length + 1) i)
def wholeP (l : List UInt8) (piece : Nat → Res Ex) (i : Nat) : Res Ex := made 7 (listP l 124 (partP l piece) (l.length + 1) i)
def notP : Res Ex → Res Ex
  | .inl e => .inl e
  | .inr (x, m) => .inr (⟨5, [], [x]⟩, m)
def parP (l : List UInt8) : Res Ex → Res Ex
  | .inl e => .inl e
  | .inr (x, m) => if sg l (skip l m) = 41 then .inr (x, skip l m + 1) else .inl (3, skip l m)
def pieceP (l : List UInt8) : Nat → Nat → Res Ex
  | 0, i => .inl (4, skip l i)
  | d + 1, i =>
    let j := skip l i
    let c := sg l j
    if c = 33 then notP (pieceP l d (j + 1))
    else if c = 40 then parP l (wholeP l (pieceP l d) (j + 1))
    else if c = 48 then .inr (⟨0, [], []⟩, j + 1)
    else if c = 49 then .inr (⟨1, [], []⟩, j + 1)
    else if c = 94 then nameP l 3 (j + 1)
    else if c = 126 then nameP l 4 (j + 1)
    else nameP l 2 j
/-- a text as a whole: an error (its place, if it has one), or an expression -/
def parse (l : List UInt8) : (Nat × Option Nat) ⊕ Ex :=
  if 2000 < l.length then .inl (4, none)
  else match wholeP l (pieceP l 20) 0 with
    | .inl (e, p) => .inl (e, some p)
    | .inr (x, m) => if skip l m < l.length then .inl (3, some (skip l m)) else .inr x

theorem skip_ge (l : List UInt8) (i : Nat) : i ≤ skip l i := by unfold skip; omega
theorem skip_le (l : List UInt8) (i : Nat) (h : i ≤ l.length) : skip l i ≤ l.length := by
  unfold skip
  have h1 : ((l.drop i).takeWhile fun c => c == 32).length ≤ (l.drop i).length := (List.takeWhile_sublist _).length_le
  rw [List.length_drop] at h1
  omega
theorem wend_ge (l : List UInt8) (i : Nat) : i ≤ wend l i := by unfold wend; omega
theorem wend_le (l : List UInt8) (i : Nat) (h : i ≤ l.length) : wend l i ≤ l.length := by
  unfold wend
  have h1 : ((l.drop i).takeWhile fun c => !ends c.toNat).length ≤ (l.drop i).length := (List.takeWhile_sublist _).length_le
  rw [List.length_drop] at h1
  omega
/-- one step of skipping -/
theorem skip_blank (l : List UInt8) (i : Nat) (h : i < l.length) (hb : l.getD i 0 = 32) : skip l i = skip l (i + 1) := by
  unfold skip
  rw [List.drop_eq_getElem_cons h]
  have e : l[i] = 32 := by simpa [List.getD_eq_getElem?_getD, h] using hb
  rw [List.takeWhile_cons, e]; simp only [BEq.rfl, if_true, List.length_cons]; omega
theorem skip_stop (l : List UInt8) (i : Nat) (h : i < l.length) (hb : l.getD i 0 ≠ 32) : skip l i = i := by
  unfold skip
  rw [List.drop_eq_getElem_cons h]
  have e : (l[i] == 32) = false := by simpa [List.getD_eq_getElem?_getD, h] using hb
  rw [List.takeWhile_cons, e]; rfl
theorem skip_end (l : List UInt8) (i : Nat) (h : l.length ≤ i) : skip l i = i := by
  unfold skip
  rw [List.drop_eq_nil_of_le h]; simp
theorem wend_on (l : List UInt8) (i : Nat) (h : i < l.length) (hb : ends (l.getD i 0).toNat = false) : wend l i = wend l (i + 1) := by
  unfold wend
  rw [List.drop_eq_getElem_cons h]
  have e : ends (l[i]).toNat = false := by simpa [List.getD_eq_getElem?_getD, h] using hb
  rw [List.takeWhile_cons, e]; simp only [Bool.not_false, if_true, List.length_cons]; omega
theorem wend_stop (l : List UInt8) (i : Nat) (h : i < l.length) (hb : ends (l.getD i 0).toNat = true) : wend l i = i := by
  unfold wend
  rw [List.drop_eq_getElem_cons h]
  have e : ends (l[i]).toNat = true := by simpa [List.getD_eq_getElem?_getD, h] using hb
  rw [List.takeWhile_cons, e]; rfl
theorem wend_end (l : List UInt8) (i : Nat) (h : l.length ≤ i) : wend l i = i := by
  unfold wend
  rw [List.drop_eq_nil_of_le h]; simp
/-- behind skipping a blank stands only at the end -/
theorem sg_skip (l : List UInt8) (i : Nat) (h : i ≤ l.length) : sg l (skip l i) = 32 ↔ skip l i = l.length := by
  have key : ∀ n i, l.length - i = n → i ≤ l.length → (sg l (skip l i) = 32 ↔ skip l i = l.length) := by
    intro n
    induction n with
    | zero => intro i hn hi; rw [skip_end l i (by omega)]; simp [sg]; omega
    | succ n ih =>
      intro i hn hi
      by_cases hb : l.getD i 0 = 32
      · rw [skip_blank l i (by omega) hb]; exact ih (i + 1) (by omega) (by omega)
      · rw [skip_stop l i (by omega) hb]
        have : (l.getD i 0).toNat ≠ 32 := fun h => hb (by rw [← UInt8.toNat_inj]; simpa using h)
        simp only [sg, if_pos (show i < l.length by omega)]
        exact ⟨fun h => absurd h this, fun h => by omega⟩
  exact key _ i rfl h
end Ex
end
section
namespace Ex
/-- the names in an expression, as they are met (all: also those of which it asks only what they are) -/
def named (all : Bool) : Ex → List (List UInt8)
  | ⟨2, n, _⟩ => if all then [n] else []
  | ⟨3, n, _⟩ => [n]
  | ⟨4, n, _⟩ => [n]
  | ⟨_, _, l⟩ => (l.map fun x => x.named all).flatten
theorem named2 (all : Bool) (n : List UInt8) (l : List Ex) : named all ⟨2, n, l⟩ = if all then [n] else [] := by simp [named]
theorem named3 (all : Bool) (n : List UInt8) (l : List Ex) : named all ⟨3, n, l⟩ = [n] := by simp [named]
theorem named4 (all : Bool) (n : List UInt8) (l : List Ex) : named all ⟨4, n, l⟩ = [n] := by simp [named]
theorem named_of (all : Bool) (k : Nat) (n : List UInt8) (l : List Ex) (h : k ≠ 2 ∧ k ≠ 3 ∧ k ≠ 4) : named all ⟨k, n, l⟩ = (l.map fun x => x.named all).flatten := by
  obtain ⟨h2, h3, h4⟩ := h
  match k, h2, h3, h4 with
  | 0, _, _, _ => simp [named]
  | 1, _, _, _ => simp [named]
  | k + 5, _, _, _ => simp [named]
/-- what it says hangs on its names alone, and on what those were of which it asks that -/
theorem eval_congr (is is' was was' : List UInt8 → Bool) (x : Ex) : (∀ n, n ∈ x.named true → is n = is' n) → (∀ n, n ∈ x.named false → was n = was' n) → x.eval is was = x.eval is' was' := by
  induction x using Ex.ind with
  | h k nm l ih =>
    intro h1 h2
    have sub : (k ≠ 2 ∧ k ≠ 3 ∧ k ≠ 4) → (l.map fun x => x.eval is was) = (l.map fun x => x.eval is' was') := by
      intro hk
      rw [named_of _ _ _ _ hk] at h1 h2
      apply List.map_congr_left
      intro y hy
      refine ih y hy (fun n hn => h1 n ?_) (fun n hn => h2 n ?_)
      · rw [List.mem_flatten]; exact ⟨_, List.mem_map_of_mem hy, hn⟩
      · rw [List.mem_flatten]; exact ⟨_, List.mem_map_of_mem hy, hn⟩
    match k, h1, h2, sub with
    | 0, _, _, _ => simp [eval]
    | 1, _, _, _ => simp [eval]
    | 2, h1, _, _ =>
      rw [named2] at h1
      simp only [eval]
      exact h1 nm (by simp)
    | 3, h1, h2, _ =>
      rw [named3] at h1 h2
      simp only [eval]
      rw [h1 nm (by simp), h2 nm (by simp)]
    | 4, h1, h2, _ =>
      rw [named4] at h1 h2
      simp only [eval]
      rw [h1 nm (by simp), h2 nm (by simp)]
    | 5, _, _, sub => simp only [eval]; rw [sub (by decide)]
    | 6, _, _, sub => simp only [eval]; rw [sub (by decide)]
    | k + 7, _, _, sub =>
      have := sub ⟨by omega, by omega, by omega⟩
      simp only [eval]; rw [this]
/-- those of which it asks what they were are among its names -/
theorem edges_names (x : Ex) : ∀ n, n ∈ x.named false → n ∈ x.named true := by
  induction x using Ex.ind with
  | h k nm l ih =>
    intro n hn
    by_cases h2 : k = 2
    · subst h2; rw [named2] at hn; simp at hn
    by_cases h3 : k = 3
    · subst h3; rw [named3] at hn ⊢; exact hn
    by_cases h4 : k = 4
    · subst h4; rw [named4] at hn ⊢; exact hn
    rw [named_of _ _ _ _ ⟨h2, h3, h4⟩, List.mem_flatten] at hn ⊢
    obtain ⟨a, ha, hn⟩ := hn
    obtain ⟨y, hy, rfl⟩ := List.mem_map.1 ha
    exact ⟨_, List.mem_map_of_mem hy, ih y hy n hn⟩
/-- there are no more names than parts -/
theorem named_le (all : Bool) (x : Ex) : (x.named all).length ≤ x.size := by
  induction x using Ex.ind with
  | h k nm l ih =>
    have hs : size ⟨k, nm, l⟩ = 1 + (l.map fun x => x.size).sum := by simp [size]
    rw [hs]
    by_cases h2 : k = 2
    · subst h2; rw [named2]; cases all <;> simp
    by_cases h3 : k = 3
    · subst h3; rw [named3]; simp
    by_cases h4 : k = 4
    · subst h4; rw [named4]; simp
    rw [named_of _ _ _ _ ⟨h2, h3, h4⟩, List.length_flatten, List.map_map]
    have : (l.map (List.length ∘ fun x => x.named all)).sum ≤ (l.map fun x => x.size).sum := by
      clear hs h2 h3 h4
      induction l with
      | nil => simp
      | cons a r ihr =>
        have h1 := ih a (by simp)
        have h2 := ihr (fun y hy => ih y (by simp [hy]))
        simp only [List.map_cons, List.sum_cons, Function.comp] at *
        omega
    omega
end Ex
end
section
namespace Ld
/-- a name: 1 input, 2 coil, 3 timer, 4 counter -/
structure Nme where
  name : List UInt8
  kind : Int
  count : Int
/-- a rung: 1 sets, 2 set, 3 reset, 4 run, 5 count, 6 zero -/
structure Rng where
  kind : Int
  name : List UInt8
  cond : Option Ex
structure Prg where
  names : List Nme
  rungs : List Rng
/-- a place in a list, or -1 -/
def numOf : Option Nat → Int
  | some i => (i : Int)
  | none => -1
def number (ns : List Nme) (s : List UInt8) : Int := numOf (ns.findIdx? fun n => n.name == s)
theorem number_hit (ns : List Nme) (s : List UInt8) (k : Nat) (h : k < ns.length) (hk : (ns[k].name == s) = true) (hb : ∀ j (hj : j < k), (ns[j].name == s) = false) : number ns s = (k : Int) := by
  have : (ns.findIdx? fun n => n.name == s) = some k := by
    rw [List.findIdx?_eq_some_iff_getElem]
    exact ⟨h, hk, fun j hj => by rw [hb j hj]; decide⟩
  rw [number, this]; rfl
theorem number_none (ns : List Nme) (s : List UInt8) (hb : ∀ j (hj : j < ns.length), (ns[j].name == s) = false) : number ns s = -1 := by
  have : (ns.findIdx? fun n => n.name == s) = none := by
    rw [List.findIdx?_eq_none_iff]
    intro x hx
    obtain ⟨i, hi, rfl⟩ := List.getElem_of_mem hx
    exact hb i hi
  rw [number, this]; rfl
theorem number_cases (ns : List Nme) (s : List UInt8) : (number ns s = -1 ∧ ∀ n, n ∈ ns → n.name ≠ s) ∨ ∃ (k : Nat) (h : k < ns.length), number ns s = (k : Int) ∧ ns[k].name = s ∧ ∀ j (hj : j < k), ns[j].name ≠ s := by
  cases hf : (ns.findIdx? fun n => n.name == s) with
  | none =>
    refine .inl ⟨by rw [number, hf]; rfl, fun n hn => ?_⟩
    rw [List.findIdx?_eq_none_iff] at hf
    exact beq_eq_false_iff_ne.1 (hf n hn)
  | some k =>
    rw [List.findIdx?_eq_some_iff_getElem] at hf
    obtain ⟨h1, h2, h3⟩ := hf
    refine .inr ⟨k, h1, number_hit ns s k h1 h2 (fun j hj => by have := h3 j hj; simpa using this), by simpa using h2, fun j hj => by have := h3 j hj; simpa using this⟩
theorem number_lt (ns : List Nme) (s : List UInt8) : number ns s < (ns.length : Int) := by
  rcases number_cases ns s with ⟨h, _⟩ | ⟨k, hk, h, _⟩
  · omega
  · omega
theorem number_ge (ns : List Nme) (s : List UInt8) : -1 ≤ number ns s := by
  rcases number_cases ns s with ⟨h, _⟩ | ⟨k, hk, h, _⟩
  · omega
  · omega
/-- the places below k of those of which it holds -/
def placesTo (p : Nme → Bool) (ns : List Nme) (k : Nat) : List Nat := (List.range k).filter fun i => match ns[i]? with | some n => p n | none => false
theorem placesTo_zero (p : Nme → Bool) (ns : List Nme) : placesTo p ns 0 = [] := rfl
theorem placesTo_succ (p : Nme → Bool) (ns : List Nme) (k : Nat) (h : k < ns.length) : placesTo p ns (k + 1) = placesTo p ns k ++ (if p ns[k] then [k] else []) := by
  unfold placesTo
  rw [List.range_succ, List.filter_append]
  congr 1
  simp only [List.filter_cons, List.filter_nil, List.getElem?_eq_getElem h]
theorem placesTo_le (p : Nme → Bool) (ns : List Nme) (k : Nat) : (placesTo p ns k).length ≤ k := by
  unfold placesTo
  exact Nat.le_trans (List.length_filter_le _ _) (by simp)
def kindL (ns : List Nme) (k : Int) : List Nat := placesTo (fun n => n.kind == k) ns ns.length
def counted (k : Int) : Bool := k == 3 || k == 4
def mayCount (k c : Int) : Bool := if counted k then decide (1 ≤ c) && decide (c ≤ 7) else c == 0
/-- what is wrong with name n at place i; 0: nothing -/
def wrongN (ns : List Nme) (i : Nat) (n : Nme) : Nat :=
  if Nm.name n.name = false then 5
  else if n.kind < 1 ∨ 4 < n.kind then 1
  else if mayCount n.kind n.count = false then 2
  else if number ns n.name < (i : Int) then 9
  else 0
/-- of which kind the names of such rungs are -/
def kindOf (k : Int) : Int := if k = 4 then 3 else if k = 5 ∨ k = 6 then 4 else 2
def kindAt (ns : List Nme) (i : Int) : Int := match ns[i.toNat]? with | some n => n.kind | none => 0
/-- are all names of an expression a program's? -/
def known (ns : List Nme) (x : Ex) : Bool := (x.named true).all fun s => decide (0 ≤ number ns s)
def wrongR (ns : List Nme) (r : Rng) : Nat :=
  if r.kind < 1 ∨ 6 < r.kind then 1
  else match r.cond with
    | none => 1
    | some x =>
      if number ns r.name < 0 then 7
      else if kindAt ns (number ns r.name) ≠ kindOf r.kind then 1
      else if known ns x then 0 else 7
/-- the first thing below n that is wrong -/
def bad (f : Nat → Nat) : Nat → Option (Nat × Nat)
  | 0 => none
  | n + 1 => match bad f n with
    | some r => some r
    | none => if f n = 0 then none else some (f n, n)
theorem bad_on (f : Nat → Nat) (n : Nat) (h : bad f n = none) (hf : f n = 0) : bad f (n + 1) = none := by simp [bad, h, hf]
theorem bad_hit (f : Nat → Nat) (k n : Nat) (h : bad f k = none) (hf : f k ≠ 0) (hk : k < n) : bad f n = some (f k, k) := by
  induction n with
  | zero => omega
  | succ n ih =>
    by_cases e : k = n
    · subst e; simp [bad, h, hf]
    · simp [bad, ih (by omega)]
theorem bad_lt (f : Nat → Nat) : ∀ (n e i : Nat), bad f n = some (e, i) → i < n ∧ e = f i ∧ e ≠ 0
  | 0, _, _, h => by simp [bad] at h
  | n + 1, e, i, h => by
    cases hb : bad f n with
    | some r =>
      obtain ⟨e', i'⟩ := r
      rw [bad, hb] at h
      simp only [Option.some.injEq, Prod.mk.injEq] at h
      obtain ⟨rfl, rfl⟩ := h
      have := bad_lt f n _ _ hb
      exact ⟨by omega, this.2⟩
    | none =>
      rw [bad, hb] at h
      by_cases h0 : f n = 0
      · simp [h0] at h
      · simp only [h0, if_false, Option.some.injEq, Prod.mk.injEq] at h
        obtain ⟨rfl, rfl⟩ := h
        exact ⟨by omega, rfl, h0⟩
theorem bad_none (f : Nat → Nat) : ∀ (n : Nat), bad f n = none → ∀ i, i < n → f i = 0
  | 0, _, i, hi => by omega
  | n + 1, h, i, hi => by
    cases hb : bad f n with
    | some r => rw [bad, hb] at h; simp at h
    | none =>
      rw [bad, hb] at h
      by_cases h0 : f n = 0
      · by_cases e : i = n
        · rw [e]; exact h0
        · exact bad_none f n hb i (by omega)
      · simp [h0] at h
def nameAt (ns : List Nme) (i : Nat) : Nat := match ns[i]? with | some n => wrongN ns i n | none => 0
def rungAt (p : Prg) (i : Nat) : Nat := match p.rungs[i]? with | some r => wrongR p.names r | none => 0
theorem nameAt_at (ns : List Nme) (i : Nat) (h : i < ns.length) : nameAt ns i = wrongN ns i ns[i] := by rw [nameAt, List.getElem?_eq_getElem h]
theorem rungAt_at (p : Prg) (i : Nat) (h : i < p.rungs.length) : rungAt p i = wrongR p.names p.rungs[i] := by rw [rungAt, List.getElem?_eq_getElem h]
/-- what is wrong, and its place, if it has one -/
def check (p : Prg) : Option (Nat × Option Nat) :=
  if 12 < p.names.length ∨ 40 < p.rungs.length then some (4, none)
  else match bad (nameAt p.names) p.names.length with
    | some (e, i) => some (e, some i)
    | none => match bad (rungAt p) p.rungs.length with
      | some (e, i) => some (e, some (p.names.length + i))
      | none => none
/-- the names whose edges a rung asks for -/
def asksR (r : Rng) : List (List UInt8) := match r.cond with | some x => x.named false | none => []
/-- the names whose edges a program asks for -/
def asked (p : Prg) : List (List UInt8) := (p.rungs.map asksR).flatten
def edges (p : Prg) : List Nat := placesTo (fun n => (asked p).contains n.name) p.names p.names.length
end Ld
end
section
open Go.RowKit

theorem ret_bool {a b : Bool} (h : a = b) : Ending.returned (.bool a) = .returned (.bool b) := by rw [h]
theorem hide {p : Prop} (h : p) : Hid p := h
theorem unhide {p : Prop} (h : Hid p) : p := h
theorem getD_byte (s : ByteArray) (k : Nat) (h : k < s.size) : s.data.toList.getD k 0 = s[k] := by
  simp [List.getD_eq_getElem?_getD, h]; rfl
theorem sign_byte (s : ByteArray) (k : Nat) (h : k < s.size) : Nm.sign s.data.toList k = (s[k].toNat : Int) := by
  unfold Nm.sign; rw [getD_byte s k h]
theorem isLetter_any (c : Int) (w : World) :
    Calls Tryz.prog 193 #[.int .u8 c] w fun e w' => e = .returned (.bool (Nm.lo c)) ∧ w' = w := by
  by_cases h1 : 97 ≤ c <;> by_cases h2 : c ≤ 122
  all_goals
    go_enter Tryz.func193, Tryz.ntmps193
    go_wp2
    go_ret
    exact ⟨by simp [Nm.lo]; omega, rfl⟩
theorem isDigit_any (c : Int) (w : World) :
    Calls Tryz.prog 194 #[.int .u8 c] w fun e w' => e = .returned (.bool (Nm.di c)) ∧ w' = w := by
  by_cases h1 : 48 ≤ c <;> by_cases h2 : c ≤ 57
  all_goals
    go_enter Tryz.func194, Tryz.ntmps194
    go_wp2
    go_ret
    exact ⟨by simp [Nm.di]; omega, rfl⟩
theorem isKept_any (s : ByteArray) (w : World) :
    Calls Tryz.prog 195 #[.string s] w fun e w' => e = .returned (.bool (Nm.kept s.data.toList)) ∧ w' = w := by
  rw [← ByteArray.toList_eq]
  go_enter Tryz.func195, Tryz.ntmps195
  go_wp2
  all_goals
    go_ret
    exact ⟨by simp_all [Nm.kept], rfl⟩
set_option maxHeartbeats 400000 in
theorem Name_any (s : ByteArray) (w : World) (hs : s.size ≤ maxLen) :
    Calls Tryz.prog 157 #[.string s] w fun e w' => e = .returned (.bool (Nm.name s.data.toList)) ∧ w' = w := by
  unfold maxLen at hs
  have hlen : s.data.toList.length = s.size := by simp
  by_cases h0 : s.size = 0
  · have hfin : Nm.name s.data.toList = false := Nm.no_empty _ (by omega)
    rw [hfin]
    have h0' : ((s.size : Int) == 0) = true := by simp [h0]
    clear hlen
    go_enter Tryz.func157, Tryz.ntmps157
    go_wp2_with fail
    go_ret
    exact ⟨rfl, rfl⟩
  have h0' : ((s.size : Int) == 0) = false := beq_eq_false_iff_ne.2 (by omega)
  by_cases h8 : 8 < s.size
  · have hfin : Nm.name s.data.toList = false := Nm.no_long _ (by omega)
    rw [hfin]
    have h8' : (8 : Int) < (s.size : Int) := by omega
    clear hlen
    go_enter Tryz.func157, Tryz.ntmps157
    go_wp2_with fail
    go_ret
    exact ⟨rfl, rfl⟩
  have h8' : ¬ (8 : Int) < (s.size : Int) := by omega
  have hpos : 0 < s.size := by omega
  cases hl : Nm.lo (s[0].toNat : Int) with
  | false =>
    have hfin : Nm.name s.data.toList = false := Nm.no_first _ (by rw [sign_byte s 0 hpos]; exact hl)
    rw [hfin]
    clear hlen
    go_enter Tryz.func157, Tryz.ntmps157
    go_wp2_with (go_at_call 193; refine (isLetter_any _ _).mono ?_; rintro e w' ⟨rfl, rfl⟩)
    go_ret
    exact ⟨rfl, rfl⟩
  | true =>
    have HL : Hid (s.data.toList.length = s.size) := hlen
    clear hlen
    go_enter Tryz.func157, Tryz.ntmps157
    go_wp2_with (go_at_call 193; refine (isLetter_any _ _).mono ?_; rintro e w' ⟨rfl, rfl⟩)
    go_loop [20] (fun i => ∃ k : Nat, k ≤ s.size ∧ i = .int .i64 k ∧ Nm.upto s.data.toList k = true) (fun i => s.size - (intOf i).toNat)
    case atStart => exact ⟨0, Nat.zero_le _, rfl, Nm.upto_zero _⟩
    case round =>
      obtain ⟨k, hk, rfl, hu⟩ := hrel
      have HU : Hid (Nm.upto s.data.toList k = true) := hu
      clear hu
      by_cases hlt : k < s.size
      · have HS : Hid (Nm.sign s.data.toList k = (s[k].toNat : Int)) := sign_byte s k hlt
        cases hn : Nm.nm (s[k].toNat : Int) with
        | false =>
          have HF : Hid (Nm.name s.data.toList = false) := Nm.no_sign _ k (by rw [HL.out]; exact hlt) (by rw [HS.out]; exact hn)
          have h3 : Nm.lo (s[k].toNat : Int) = false := by cases h : Nm.lo (s[k].toNat : Int) with | true => simp [Nm.nm, h] at hn | false => rfl
          have h4 : Nm.di (s[k].toNat : Int) = false := by cases h : Nm.di (s[k].toNat : Int) with | true => simp [Nm.nm, h] at hn | false => rfl
          have h5 : ((s[k].toNat : Int) != 95) = true := by rw [bne_iff_ne]; intro h; simp [Nm.nm, h] at hn
          clear hn
          go_wp2_with (first | (go_at_call 193; refine (isLetter_any _ _).mono ?_; rintro e w' ⟨rfl, rfl⟩) | (go_at_call 194; refine (isDigit_any _ _).mono ?_; rintro e w' ⟨rfl, rfl⟩))
          go_ret
          exact ⟨ret_bool HF.out.symm, rfl⟩
        | true =>
          have HN : Hid (Nm.upto s.data.toList (k + 1) = true) := by show _ = true; rw [Nm.upto_succ _ k (by rw [HL.out]; exact hlt), HU.out, HS.out, hn]; rfl
          cases h3 : Nm.lo (s[k].toNat : Int) with
          | true =>
            clear hn
            go_wp2_with (first | (go_at_call 193; refine (isLetter_any _ _).mono ?_; rintro e w' ⟨rfl, rfl⟩) | (go_at_call 194; refine (isDigit_any _ _).mono ?_; rintro e w' ⟨rfl, rfl⟩))
            go_round
            case rel => exact ⟨k + 1, by omega, by go_num, HN.out⟩
            case measure => simp [intOf]; omega
          | false =>
            cases h4 : Nm.di (s[k].toNat : Int) with
            | true =>
              clear hn
              go_wp2_with (first | (go_at_call 193; refine (isLetter_any _ _).mono ?_; rintro e w' ⟨rfl, rfl⟩) | (go_at_call 194; refine (isDigit_any _ _).mono ?_; rintro e w' ⟨rfl, rfl⟩))
              go_round
              case rel => exact ⟨k + 1, by omega, by go_num, HN.out⟩
              case measure => simp [intOf]; omega
            | false =>
              have h5 : ((s[k].toNat : Int) != 95) = false := by simpa [Nm.nm, h3, h4] using hn
              clear hn
              go_wp2_with (first | (go_at_call 193; refine (isLetter_any _ _).mono ?_; rintro e w' ⟨rfl, rfl⟩) | (go_at_call 194; refine (isDigit_any _ _).mono ?_; rintro e w' ⟨rfl, rfl⟩))
              go_round
              case rel => exact ⟨k + 1, by omega, by go_num, HN.out⟩
              case measure => simp [intOf]; omega
      · have hk' : k = s.size := by omega
        have HF : Hid (Nm.name s.data.toList = !(Nm.kept s.data.toList)) := by
          show _ = _
          have e1 : s.data.toList.isEmpty = false := by rw [List.isEmpty_eq_false_iff]; intro h; have := HL.out; rw [h] at this; simp at this; omega
          have e2 : decide (s.data.toList.length ≤ 8) = true := by rw [HL.out]; simp; omega
          have e3 : Nm.lo (Nm.sign s.data.toList 0) = true := by rw [sign_byte s 0 hpos]; exact hl
          have e4 : Nm.upto s.data.toList s.data.toList.length = true := by rw [HL.out, ← hk']; exact HU.out
          unfold Nm.name; rw [e1, e2, e3, e4]; rfl
        clear hk'
        go_wp2_with (go_at_call 195; refine (isKept_any _ _).mono ?_; rintro e w' ⟨rfl, rfl⟩)
        go_ret
        exact ⟨ret_bool HF.out.symm, rfl⟩
end
section
namespace Ex
/-- what is read ends behind where it began, within the text -/
def Adv (l : List UInt8) (r : Nat → Res Ex) : Prop := ∀ i x m, i ≤ l.length → r i = .inr (x, m) → i < m ∧ m ≤ l.length
theorem sg_lt (l : List UInt8) (i : Nat) (h : sg l i ≠ 32) : i < l.length := by
  unfold sg at h
  by_cases hi : i < l.length
  · exact hi
  · rw [if_neg hi] at h; exact absurd rfl h
theorem ends32 : ends 32 = true := by decide
theorem nameP_adv (l : List UInt8) (k : Nat) : Adv l (nameP l k) := by
  intro i x m hi h
  have h1 := skip_ge l i
  have h2 := skip_le l i hi
  unfold nameP at h
  simp only at h
  by_cases c1 : sg l (skip l i) = 48 ∨ sg l (skip l i) = 49 ∨ ends (sg l (skip l i)) = true
  · rw [if_pos c1] at h; cases h
  · rw [if_neg c1] at h
    by_cases c2 : Nm.name (cut l (skip l i) (wend l (skip l i))) = true
    · rw [if_pos c2] at h
      simp only [Sum.inr.injEq, Prod.mk.injEq] at h
      have hne : sg l (skip l i) ≠ 32 := fun e => c1 (.inr (.inr (by rw [e]; exact ends32)))
      have hlt := sg_lt l _ hne
      have hf : ends (l.getD (skip l i) 0).toNat = false := by
        have : ends (sg l (skip l i)) = false := by
          cases hb : ends (sg l (skip l i)) with
          | true => exact absurd (.inr (.inr hb)) c1
          | false => rfl
        simpa [sg, hlt] using this
      have h3 := wend_on l (skip l i) hlt hf
      have h4 := wend_ge l (skip l i + 1)
      have h5 := wend_le l (skip l i) (by omega)
      omega
    · rw [if_neg c2] at h; cases h
theorem listP_adv (l : List UInt8) (sep : Nat) (hs : sep ≠ 32) (r : Nat → Res Ex) (hr : Adv l r) :
    ∀ f i xs m, i ≤ l.length → listP l sep r f i = .inr (xs, m) → i < m ∧ m ≤ l.length ∧ xs ≠ [] := by
  intro f
  induction f with
  | zero => intro i xs m _ h; simp [listP] at h
  | succ f ih =>
    intro i xs m hi h
    unfold listP at h
    cases hri : r i with
    | inl e => rw [hri] at h; simp at h
    | inr p =>
      obtain ⟨x, j⟩ := p
      have ha := hr i x j hi hri
      have h1 := skip_ge l j
      have h2 := skip_le l j ha.2
      rw [hri] at h
      simp only at h
      by_cases c : sg l (skip l j) = sep
      · rw [if_pos c] at h
        have hlt := sg_lt l (skip l j) (by rw [c]; exact hs)
        cases hl : listP l sep r f (skip l j + 1) with
        | inl e => rw [hl] at h; simp at h
        | inr q =>
          obtain ⟨ys, k⟩ := q
          rw [hl] at h
          simp only [Sum.inr.injEq, Prod.mk.injEq] at h
          have := ih (skip l j + 1) ys k (by omega) hl
          refine ⟨by omega, by omega, ?_⟩
          rw [← h.1]; simp
      · rw [if_neg c] at h
        simp only [Sum.inr.injEq, Prod.mk.injEq] at h
        refine ⟨by omega, by omega, ?_⟩
        rw [← h.1]; simp
theorem made_inr (k : Nat) (r : Res (List Ex)) (x : Ex) (m : Nat) (h : made k r = .inr (x, m)) : ∃ xs, r = .inr (xs, m) := by
  match r, h with
  | .inr ([], _), h => simp only [made, Sum.inr.injEq, Prod.mk.injEq] at h; exact ⟨_, by rw [h.2]⟩
  | .inr ([y], _), h => simp only [made, Sum.inr.injEq, Prod.mk.injEq] at h; exact ⟨_, by rw [h.2]⟩
  | .inr (_ :: _ :: _, _), h => simp only [made, Sum.inr.injEq, Prod.mk.injEq] at h; exact ⟨_, by rw [h.2]⟩
theorem partP_adv (l : List UInt8) (r : Nat → Res Ex) (hr : Adv l r) : Adv l (partP l r) := by
  intro i x m hi h
  obtain ⟨xs, hx⟩ := made_inr _ _ _ _ h
  have := listP_adv l 38 (by decide) r hr _ i xs m hi hx
  omega
theorem wholeP_adv (l : List UInt8) (r : Nat → Res Ex) (hr : Adv l r) : Adv l (wholeP l r) := by
  intro i x m hi h
  obtain ⟨xs, hx⟩ := made_inr _ _ _ _ h
  have := listP_adv l 124 (by decide) _ (partP_adv l r hr) _ i xs m hi hx
  omega
theorem pieceP_adv (l : List UInt8) : ∀ d, Adv l (pieceP l d) := by
  intro d
  induction d with
  | zero => intro i x m _ h; simp [pieceP] at h
  | succ d ih =>
    intro i x m hi h
    have h1 := skip_ge l i
    have h2 := skip_le l i hi
    have low : sg l (skip l i) ≠ 32 → skip l i + 1 ≤ l.length := fun h => by have := sg_lt l _ h; omega
    unfold pieceP at h
    simp only at h
    by_cases c1 : sg l (skip l i) = 33
    · rw [if_pos c1] at h
      cases hp : pieceP l d (skip l i + 1) with
      | inl e => rw [hp] at h; simp [notP] at h
      | inr q =>
        obtain ⟨y, k⟩ := q
        rw [hp] at h
        simp only [notP, Sum.inr.injEq, Prod.mk.injEq] at h
        have := ih (skip l i + 1) y k (low (by omega)) hp
        omega
    rw [if_neg c1] at h
    by_cases c2 : sg l (skip l i) = 40
    · rw [if_pos c2] at h
      cases hp : wholeP l (pieceP l d) (skip l i + 1) with
      | inl e => rw [hp] at h; simp [parP] at h
      | inr q =>
        obtain ⟨y, k⟩ := q
        rw [hp] at h
        have ha := wholeP_adv l _ ih (skip l i + 1) y k (low (by omega)) hp
        have h3 := skip_ge l k
        unfold parP at h
        simp only at h
        by_cases c : sg l (skip l k) = 41
        · rw [if_pos c] at h
          simp only [Sum.inr.injEq, Prod.mk.injEq] at h
          have := sg_lt l (skip l k) (by omega)
          omega
        · rw [if_neg c] at h; simp at h
    rw [if_neg c2] at h
    by_cases c3 : sg l (skip l i) = 48
    · rw [if_pos c3] at h
      simp only [Sum.inr.injEq, Prod.mk.injEq] at h
      have := low (by omega)
      omega
    rw [if_neg c3] at h
    by_cases c4 : sg l (skip l i) = 49
    · rw [if_pos c4] at h
      simp only [Sum.inr.injEq, Prod.mk.injEq] at h
      have := low (by omega)
      omega
    rw [if_neg c4] at h
    by_cases c5 : sg l (skip l i) = 94
    · rw [if_pos c5] at h
      have := nameP_adv l 3 _ x m (low (by omega)) h
      omega
    rw [if_neg c5] at h
    by_cases c6 : sg l (skip l i) = 126
    · rw [if_pos c6] at h
      have := nameP_adv l 4 _ x m (low (by omega)) h
      omega
    rw [if_neg c6] at h
    have := nameP_adv l 2 _ x m h2 h
    omega
end Ex
end
section
open Go.RowKit

/-- Memory is as it was, but for block b and what is new. -/
structure Keep (b : Nat) (w w' : World) : Prop where
  os : w'.os = w.os
  tape : w'.tape = w.tape
  output : w'.output = w.output
  size : w.heap.size ≤ w'.heap.size
  block : ∀ k, k < w.heap.size → k ≠ b → w'.heap[k]? = w.heap[k]?
namespace Keep
theorem refl (b : Nat) (w : World) : Keep b w w := ⟨rfl, rfl, rfl, Nat.le_refl _, fun _ _ _ => rfl⟩
theorem trans {b : Nat} {x y z : World} (h : Keep b x y) (k : Keep b y z) : Keep b x z :=
  ⟨k.os.trans h.os, k.tape.trans h.tape, k.output.trans h.output, Nat.le_trans h.size k.size, fun i hi hb => (k.block i (Nat.lt_of_lt_of_le hi h.size) hb).trans (h.block i hi hb)⟩
theorem drew {b : Nat} {a w : World} (h : Keep b a w) : Keep b a w.drew := ⟨h.os, h.tape, h.output, h.size, h.block⟩
theorem drewN {b : Nat} {a w : World} (n : Nat) (h : Keep b a w) : Keep b a (w.drewN n) := ⟨h.os, h.tape, h.output, h.size, h.block⟩
theorem alloc {b : Nat} {a w : World} (h : Keep b a w) (o : Obj) : Keep b a (w.alloc o) :=
  h.trans ⟨rfl, rfl, rfl, by simp, fun k hk _ => Below.heap_alloc w o k hk⟩
theorem setCell {b : Nat} {a w : World} (h : Keep b a w) {p : Addr} (hp : p.block = b) (u : Value) : Keep b a (w.setCell p u) :=
  h.trans ⟨by simp [World.setCell], by simp [World.setCell], by simp [World.setCell], by simp [World.setCell], fun k _ hb => Below.heap_setCell w p u k (by rw [hp]; exact hb)⟩
theorem setNew {b : Nat} {a w : World} (h : Keep b a w) {p : Addr} (hp : a.heap.size ≤ p.block) (u : Value) : Keep b a (w.setCell p u) :=
  ⟨by simpa [World.setCell] using h.os, by simpa [World.setCell] using h.tape, by simpa [World.setCell] using h.output, by simpa [World.setCell] using h.size, fun k hk hb => (Below.heap_setCell w p u k (by omega)).trans (h.block k hk hb)⟩
theorem of_below {b : Nat} {w w' : World} (h : Below w.heap.size w w') : Keep b w w' := ⟨h.os, h.tape, h.output, h.size, fun k hk _ => h.block k hk⟩
theorem cell {b : Nat} {w w' : World} (h : Keep b w w') {p : Addr} (hp : p.block < w.heap.size) (hb : p.block ≠ b) : w'.cell? p = w.cell? p := World.cell?_of_block (w := w) (h.block p.block hp hb)
theorem frozen {b : Nat} {w w' : World} (h : Keep b w w') {p : Addr} (hp : p.block < w.heap.size) (hb : p.block ≠ b) : w'.frozen? p = w.frozen? p := World.frozen?_of_block (w := w) (h.block p.block hp hb)
theorem below {b B : Nat} {w w' : World} (h : Keep b w w') (hB : B ≤ w.heap.size) (hb : B ≤ b) : Below B w w' := ⟨h.os, h.tape, h.output, h.size, fun k hk => h.block k (by omega) (by omega)⟩
end Keep

/-- The reader lies in block b: its text, where it is, how deep. -/
structure Rd (b : Nat) (s : ByteArray) (i d : Nat) (w : World) : Prop where
  c0 : w.cell? ⟨b, 0, none⟩ = some (.string s)
  c1 : w.cell? ⟨b, 1, none⟩ = some (.int .i64 (i : Int))
  c2 : w.cell? ⟨b, 2, none⟩ = some (.int .i64 (d : Int))
  f1 : w.frozen? ⟨b, 1, none⟩ = false
  f2 : w.frozen? ⟨b, 2, none⟩ = false
namespace Rd
theorem lt {b : Nat} {s : ByteArray} {i d : Nat} {w : World} (h : Rd b s i d w) : b < w.heap.size := World.block_lt_of_cell? _ _ h.c0
theorem drew {b : Nat} {s : ByteArray} {i d : Nat} {w : World} (h : Rd b s i d w) : Rd b s i d w.drew := ⟨h.c0, h.c1, h.c2, h.f1, h.f2⟩
theorem drewN {b : Nat} {s : ByteArray} {i d : Nat} {w : World} (n : Nat) (h : Rd b s i d w) : Rd b s i d (w.drewN n) := ⟨h.c0, h.c1, h.c2, h.f1, h.f2⟩
theorem below {b : Nat} {s : ByteArray} {i d : Nat} {w w' : World} (h : Rd b s i d w) (hb : Below w.heap.size w w') : Rd b s i d w' :=
  ⟨(hb.cell h.lt).trans h.c0, (hb.cell h.lt).trans h.c1, (hb.cell h.lt).trans h.c2, (hb.frozen h.lt).trans h.f1, (hb.frozen h.lt).trans h.f2⟩
theorem set1 {b : Nat} {s : ByteArray} {i d : Nat} {w : World} (h : Rd b s i d w) (j : Nat) : Rd b s j d (w.setCell ⟨b, 1, none⟩ (.int .i64 (j : Int))) :=
  ⟨(World.cell?_setCell_other w _ _ _ (by simp)).trans h.c0, World.cell?_setCell_same w _ _ h.c1, (World.cell?_setCell_other w _ _ _ (by simp)).trans h.c2, by simp [h.f1], by simp [h.f2]⟩
theorem set2 {b : Nat} {s : ByteArray} {i d : Nat} {w : World} (h : Rd b s i d w) (j : Nat) : Rd b s i j (w.setCell ⟨b, 2, none⟩ (.int .i64 (j : Int))) :=
  ⟨(World.cell?_setCell_other w _ _ _ (by simp)).trans h.c0, (World.cell?_setCell_other w _ _ _ (by simp)).trans h.c1, World.cell?_setCell_same w _ _ h.c2, by simp [h.f1], by simp [h.f2]⟩
end Rd
theorem ret_u8 {a b : Int} (h : a = b) : Ending.returned (.int .u8 a) = .returned (.int .u8 b) := by rw [h]
theorem sg_at (s : ByteArray) (i : Nat) (h : i < s.size) : Ex.sg s.data.toList i = s[i].toNat := by
  unfold Ex.sg
  have e : s.data.toList.length = s.size := by simp
  rw [if_pos (by rw [e]; exact h), getD_byte s i h]
theorem sg_end (s : ByteArray) (i : Nat) (h : ¬ i < s.size) : Ex.sg s.data.toList i = 32 := by
  unfold Ex.sg
  have e : s.data.toList.length = s.size := by simp
  rw [if_neg (by rw [e]; exact h)]
theorem blank_at (s : ByteArray) (i : Nat) (h : i < s.size) (hb : ((s[i].toNat : Int) == 32) = true) : s.data.toList.getD i 0 = 32 := by
  rw [getD_byte s i h, ← UInt8.toNat_inj]
  have := beq_iff_eq.1 hb
  show s[i].toNat = 32
  omega
theorem not_blank_at (s : ByteArray) (i : Nat) (h : i < s.size) (hb : ((s[i].toNat : Int) == 32) = false) : s.data.toList.getD i 0 ≠ 32 := by
  rw [getD_byte s i h]
  intro e
  have h2 := beq_eq_false_iff_ne.1 hb
  apply h2
  rw [e]; rfl
end
section
open Go.RowKit
/-- in block g lie, from its head on, values of which these hold -/
def Row (w : World) (g : Nat) (Ps : List (Value → Prop)) : Prop := ∀ i P, Ps[i]? = some P → ∃ u, w.cell? ⟨g, i, none⟩ = some u ∧ P u
/-- the value of a list of that type: a row of at least two -/
def IsList (ok : Nat → Prop) (w : World) (t : Nat) (n : Nat) (Ps : List (Value → Prop)) (v : Value) : Prop :=
  2 ≤ n ∧ n ≤ 9223372036854775807 ∧ ∃ g cap, v = .iface t (.slice (some ⟨g, 0, none⟩) n cap) ∧ n ≤ cap ∧ ok g ∧ Row w g Ps
def IsEx (ok : Nat → Prop) (w : World) : Ex → Value → Prop
  | ⟨0, nm, l⟩ => fun v => nm = [] ∧ l = [] ∧ v = .iface 248 (.bool false)
  | ⟨1, nm, l⟩ => fun v => nm = [] ∧ l = [] ∧ v = .iface 248 (.bool true)
  | ⟨2, nm, l⟩ => fun v => l = [] ∧ nm.length ≤ 8 ∧ v = .iface 249 (.string ⟨nm.toArray⟩)
  | ⟨3, nm, l⟩ => fun v => l = [] ∧ nm.length ≤ 8 ∧ v = .iface 250 (.string ⟨nm.toArray⟩)
  | ⟨4, nm, l⟩ => fun v => l = [] ∧ nm.length ≤ 8 ∧ v = .iface 251 (.string ⟨nm.toArray⟩)
  | ⟨5, nm, l⟩ => fun v => nm = [] ∧ l.length = 1 ∧ ∃ u, v = .iface 253 (.agg #[u]) ∧ ∀ P, (l.map fun x => IsEx ok w x)[0]? = some P → P u
  | ⟨6, nm, l⟩ => fun v => nm = [] ∧ IsList ok w 254 l.length (l.map fun x => IsEx ok w x) v
  | ⟨7, nm, l⟩ => fun v => nm = [] ∧ IsList ok w 244 l.length (l.map fun x => IsEx ok w x) v
  | ⟨_, _, _⟩ => fun _ => False
/-- cells in such blocks stand as they stood -/
def Stay (ok : Nat → Prop) (w w' : World) : Prop := ∀ g i u, ok g → w.cell? ⟨g, i, none⟩ = some u → w'.cell? ⟨g, i, none⟩ = some u
theorem Stay.trans {ok : Nat → Prop} {x y z : World} (h : Stay ok x y) (k : Stay ok y z) : Stay ok x z := fun g i u hg hc => k g i u hg (h g i u hg hc)
theorem Stay.keep {ok : Nat → Prop} {b : Nat} {w w' : World} (hk : Keep b w w') (hb : ∀ g, ok g → g ≠ b) : Stay ok w w' := fun g i u hg hc => by
  rw [hk.cell (p := ⟨g, i, none⟩) (World.block_lt_of_cell? _ _ hc) (hb g hg)]; exact hc
theorem Stay.below {ok : Nat → Prop} {w w' : World} (hk : Below w.heap.size w w') : Stay ok w w' := fun g i u _ hc => by
  rw [hk.cell (p := ⟨g, i, none⟩) (World.block_lt_of_cell? _ _ hc)]; exact hc
theorem Stay.grown {ok : Nat → Prop} {w w' : World} {row : Option Nat} (hk : w.grownBy w' row) (hb : ∀ g, ok g → some g ≠ row) : Stay ok w w' := fun g _ _ hg hc => hk.cell hc (hb g hg)
/-- an expression stands where its cells do; and what is asked of its blocks may be less -/
theorem IsEx.stay {ok ok' : Nat → Prop} {w w' : World} (hs : Stay ok w w') (hok : ∀ g, ok g → ok' g) : ∀ (x : Ex) (v : Value), IsEx ok w x v → IsEx ok' w' x v := by
  intro x
  induction x using Ex.ind with
  | h k nm l ih =>
    intro v h
    have hrow : ∀ g, ok g → Row w g (l.map fun x => IsEx ok w x) → Row w' g (l.map fun x => IsEx ok' w' x) := by
      intro g hg hr i P hP
      rw [List.getElem?_map] at hP
      cases hl : l[i]? with
      | none => rw [hl] at hP; simp at hP
      | some y =>
        rw [hl] at hP
        simp only [Option.map_some, Option.some.injEq] at hP
        obtain ⟨u, hu, hx⟩ := hr i (IsEx ok w y) (by rw [List.getElem?_map, hl]; rfl)
        exact ⟨u, hs g i u hg hu, by rw [← hP]; exact ih y (List.mem_of_getElem? hl) u hx⟩
    have hlist : ∀ t, IsList ok w t l.length (l.map fun x => IsEx ok w x) v → IsList ok' w' t l.length (l.map fun x => IsEx ok' w' x) v := by
      rintro t ⟨h1, h2, g, cap, h3, h4, h5, h6⟩
      exact ⟨h1, h2, g, cap, h3, h4, hok g h5, hrow g h5 h6⟩
    match k, h with
    | 0, h => simp only [IsEx] at h ⊢; exact h
    | 1, h => simp only [IsEx] at h ⊢; exact h
    | 2, h => simp only [IsEx] at h ⊢; exact h
    | 3, h => simp only [IsEx] at h ⊢; exact h
    | 4, h => simp only [IsEx] at h ⊢; exact h
    | 5, h =>
      simp only [IsEx] at h ⊢
      obtain ⟨h1, h2, u, h3, h4⟩ := h
      refine ⟨h1, h2, u, h3, ?_⟩
      intro P hP
      rw [List.getElem?_map] at hP
      cases hl : l[0]? with
      | none => rw [hl] at hP; simp at hP
      | some y =>
        rw [hl] at hP
        simp only [Option.map_some, Option.some.injEq] at hP
        rw [← hP]
        exact ih y (List.mem_of_getElem? hl) u (h4 _ (by rw [List.getElem?_map, hl]; rfl))
    | 6, h => simp only [IsEx] at h ⊢; exact ⟨h.1, hlist _ h.2⟩
    | 7, h => simp only [IsEx] at h ⊢; exact ⟨h.1, hlist _ h.2⟩
    | n + 8, h => simp only [IsEx] at h
/-- an error at a place: an At in a block that is not b -/
def IsErr (b : Nat) (w : World) (v : Value) (err p : Nat) : Prop :=
  ∃ a, a ≠ b ∧ v = .iface 227 (.pointer (some ⟨a, 0, none⟩)) ∧ w.cell? ⟨a, 0, none⟩ = some (.int .i64 (err : Int)) ∧ w.cell? ⟨a, 1, none⟩ = some (.int .i64 (p : Int))
theorem IsErr.stay {b : Nat} {w w' : World} {v : Value} {err p : Nat} (hs : Stay (fun g => g ≠ b) w w') (h : IsErr b w v err p) : IsErr b w' v err p := by
  obtain ⟨a, h1, h2, h3, h4⟩ := h
  exact ⟨a, h1, h2, hs a 0 _ h1 h3, hs a 1 _ h1 h4⟩
/-- What reading comes to in memory: an error, or what is read; the reader's place; all else is as it was. -/
def Read (b : Nat) (s : ByteArray) (d : Nat) (w : World) (r : Ex.Res Ex) (e : Ending) (w' : World) : Prop :=
  Keep b w w' ∧
  match r with
  | .inl (err, p) => ∃ v i, e = .returned (.tuple #[.nilIface, v]) ∧ IsErr b w' v err p ∧ Rd b s i d w'
  | .inr (x, m) => ∃ v, e = .returned (.tuple #[v, .nilIface]) ∧ IsEx (fun g => w.heap.size ≤ g) w' x v ∧ Rd b s m d w'
end
section
open Go.RowKit
/-- a number that an int holds -/
def I64 (n : Int) : Prop := -9223372036854775808 ≤ n ∧ n ≤ 9223372036854775807
/-- a name's three cells -/
def NameAt (w : World) (g i : Nat) (n : Ld.Nme) : Prop :=
  w.cell? ⟨g, i * 3, none⟩ = some (.string ⟨n.name.toArray⟩) ∧ w.cell? ⟨g, i * 3 + 1, none⟩ = some (.int .i64 n.kind) ∧ w.cell? ⟨g, i * 3 + 2, none⟩ = some (.int .i64 n.count) ∧ n.name.length ≤ maxLen ∧ I64 n.kind ∧ I64 n.count
/-- a slice of names -/
def NamesAt (w : World) (sv : Value) (ns : List Ld.Nme) : Prop :=
  (ns = [] ∧ ∃ a cap, sv = .slice a 0 cap) ∨ ∃ g cap, sv = .slice (some ⟨g, 0, none⟩) ns.length cap ∧ ns.length ≤ cap ∧ ns.length ≤ 1000000 ∧ ∀ (i : Nat) (n : Ld.Nme), ns[i]? = some n → NameAt w g i n
/-- what a rung asks, in memory -/
def CondAt (w : World) (x : Option Ex) (v : Value) : Prop := match x with
  | none => v = .nilIface
  | some x => IsEx (fun _ => True) w x v ∧ x.size ≤ 1000000 ∧ x.text.length ≤ 1000000
/-- a rung's three cells -/
def RungAt (w : World) (g i : Nat) (r : Ld.Rng) : Prop :=
  ∃ v, w.cell? ⟨g, i * 3, none⟩ = some (.int .i64 r.kind) ∧ w.cell? ⟨g, i * 3 + 1, none⟩ = some (.string ⟨r.name.toArray⟩) ∧ w.cell? ⟨g, i * 3 + 2, none⟩ = some v ∧ r.name.length ≤ maxLen ∧ I64 r.kind ∧ CondAt w r.cond v
def RungsAt (w : World) (sv : Value) (rs : List Ld.Rng) : Prop :=
  (rs = [] ∧ ∃ a cap, sv = .slice a 0 cap) ∨ ∃ g cap, sv = .slice (some ⟨g, 0, none⟩) rs.length cap ∧ rs.length ≤ cap ∧ rs.length ≤ 1000000 ∧ ∀ (i : Nat) (r : Ld.Rng), rs[i]? = some r → RungAt w g i r
/-- a program -/
def IsPrg (w : World) (p : Ld.Prg) (v : Value) : Prop := ∃ nv rv, v = .agg #[nv, rv] ∧ NamesAt w nv p.names ∧ RungsAt w rv p.rungs
theorem NameAt.below {w w' : World} {g i : Nat} {n : Ld.Nme} (h : NameAt w g i n) (hb : Below w.heap.size w w') : NameAt w' g i n := by
  obtain ⟨h1, h2, h3, h4⟩ := h
  exact ⟨(hb.cell (World.block_lt_of_cell? _ _ h1)).trans h1, (hb.cell (World.block_lt_of_cell? _ _ h2)).trans h2, (hb.cell (World.block_lt_of_cell? _ _ h3)).trans h3, h4⟩
theorem NamesAt.below {w w' : World} {sv : Value} {ns : List Ld.Nme} (h : NamesAt w sv ns) (hb : Below w.heap.size w w') : NamesAt w' sv ns := by
  rcases h with h | ⟨g, cap, h1, h2, h3, h4⟩
  · exact .inl h
  · exact .inr ⟨g, cap, h1, h2, h3, fun i n hi => (h4 i n hi).below hb⟩
theorem IsEx.aft {ok : Nat → Prop} {w w' : World} {x : Ex} {v : Value} (h : IsEx ok w x v) (hb : Below w.heap.size w w') : IsEx (fun _ => True) w' x v := IsEx.stay (Stay.below hb) (fun _ _ => trivial) x v h
theorem CondAt.below {w w' : World} {x : Option Ex} {v : Value} (h : CondAt w x v) (hb : Below w.heap.size w w') : CondAt w' x v := by
  cases x with
  | none => exact h
  | some x => exact ⟨h.1.aft hb, h.2⟩
theorem RungAt.below {w w' : World} {g i : Nat} {r : Ld.Rng} (h : RungAt w g i r) (hb : Below w.heap.size w w') : RungAt w' g i r := by
  obtain ⟨v, h1, h2, h3, h4, h5, h6⟩ := h
  exact ⟨v, (hb.cell (World.block_lt_of_cell? _ _ h1)).trans h1, (hb.cell (World.block_lt_of_cell? _ _ h2)).trans h2, (hb.cell (World.block_lt_of_cell? _ _ h3)).trans h3, h4, h5, h6.below hb⟩
theorem RungsAt.below {w w' : World} {sv : Value} {rs : List Ld.Rng} (h : RungsAt w sv rs) (hb : Below w.heap.size w w') : RungsAt w' sv rs := by
  rcases h with h | ⟨g, cap, h1, h2, h3, h4⟩
  · exact .inl h
  · exact .inr ⟨g, cap, h1, h2, h3, fun i n hi => (h4 i n hi).below hb⟩
theorem IsPrg.below {w w' : World} {p : Ld.Prg} {v : Value} (h : IsPrg w p v) (hb : Below w.heap.size w w') : IsPrg w' p v := by
  obtain ⟨nv, rv, h1, h2, h3⟩ := h
  exact ⟨nv, rv, h1, h2.below hb, h3.below hb⟩
theorem NamesAt.slice {w : World} {sv : Value} {ns : List Ld.Nme} (h : NamesAt w sv ns) : ∃ a c, sv = .slice a ns.length c ∧ ns.length ≤ 1000000 := by
  rcases h with ⟨rfl, a, c, rfl⟩ | ⟨g, cap, rfl, _, h3, _⟩
  · exact ⟨a, c, rfl, by simp⟩
  · exact ⟨_, _, rfl, h3⟩
theorem RungsAt.slice {w : World} {sv : Value} {rs : List Ld.Rng} (h : RungsAt w sv rs) : ∃ a c, sv = .slice a rs.length c ∧ rs.length ≤ 1000000 := by
  rcases h with ⟨rfl, a, c, rfl⟩ | ⟨g, cap, rfl, _, h3, _⟩
  · exact ⟨a, c, rfl, by simp⟩
  · exact ⟨_, _, rfl, h3⟩
end
end Go.Proofs.YtgldbliohpfljaaGreatDoor
