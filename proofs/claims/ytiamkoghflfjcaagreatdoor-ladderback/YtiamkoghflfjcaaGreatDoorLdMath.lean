/-
  Plain mathematics of chapter 2: programs, names and rungs; which may be (2.1), numbers, kinds, edges (2.2), their text (2.3). Nothing of the program is named here.
-/
import Derived.Test.YtiamkoghflfjcaaGreatDoorExMath
import Derived.Test.YtiamkoghflfjcaaGreatDoorNaMath
namespace Go.Proofs.YtiamkoghflfjcaaGreatDoor
namespace Ld
/-- a name: 1 input, 2 coil, 3 timer, 4 counter -/
structure Nme where
  name : List UInt8
  kind : Int
  count : Int
/-- a rung: 1 sets, 2 set, 3 reset, 4 run, 5 count, 6 zero -/
structure Rng where
  kind : Int
  name : List UInt8
  cond : Option Ex
structure Prg where
  names : List Nme
  rungs : List Rng
/-- a place in a list, or -1 -/
def numOf : Option Nat → Int
  | some i => (i : Int)
  | none => -1
def number (ns : List Nme) (s : List UInt8) : Int := numOf (ns.findIdx? fun n => n.name == s)
theorem number_hit (ns : List Nme) (s : List UInt8) (k : Nat) (h : k < ns.length) (hk : (ns[k].name == s) = true) (hb : ∀ j (hj : j < k), (ns[j].name == s) = false) : number ns s = (k : Int) := by
  have : (ns.findIdx? fun n => n.name == s) = some k := by
    rw [List.findIdx?_eq_some_iff_getElem]
    exact ⟨h, hk, fun j hj => by rw [hb j hj]; decide⟩
  rw [number, this]; rfl
theorem number_none (ns : List Nme) (s : List UInt8) (hb : ∀ j (hj : j < ns.length), (ns[j].name == s) = false) : number ns s = -1 := by
  have : (ns.findIdx? fun n => n.name == s) = none := by
    rw [List.findIdx?_eq_none_iff]
    intro x hx
    obtain ⟨i, hi, rfl⟩ := List.getElem_of_mem hx
    exact hb i hi
  rw [number, this]; rfl
theorem number_cases (ns : List Nme) (s : List UInt8) : (number ns s = -1 ∧ ∀ n, n ∈ ns → n.name ≠ s) ∨ ∃ (k : Nat) (h : k < ns.length), number ns s = (k : Int) ∧ ns[k].name = s ∧ ∀ j (hj : j < k), ns[j].name ≠ s := by
  cases hf : (ns.findIdx? fun n => n.name == s) with
  | none =>
    refine .inl ⟨by rw [number, hf]; rfl, fun n hn => ?_⟩
    rw [List.findIdx?_eq_none_iff] at hf
    exact beq_eq_false_iff_ne.1 (hf n hn)
  | some k =>
    rw [List.findIdx?_eq_some_iff_getElem] at hf
    obtain ⟨h1, h2, h3⟩ := hf
    refine .inr ⟨k, h1, number_hit ns s k h1 h2 (fun j hj => by have := h3 j hj; simpa using this), by simpa using h2, fun j hj => by have := h3 j hj; simpa using this⟩
theorem number_lt (ns : List Nme) (s : List UInt8) : number ns s < (ns.length : Int) := by
  rcases number_cases ns s with ⟨h, _⟩ | ⟨k, hk, h, _⟩
  · omega
  · omega
theorem number_ge (ns : List Nme) (s : List UInt8) : -1 ≤ number ns s := by
  rcases number_cases ns s with ⟨h, _⟩ | ⟨k, hk, h, _⟩
  · omega
  · omega
/-- the places below k of those of which it holds -/
def placesTo (p : Nme → Bool) (ns : List Nme) (k : Nat) : List Nat := (List.range k).filter fun i => match ns[i]? with | some n => p n | none => false
theorem placesTo_zero (p : Nme → Bool) (ns : List Nme) : placesTo p ns 0 = [] := rfl
theorem placesTo_succ (p : Nme → Bool) (ns : List Nme) (k : Nat) (h : k < ns.length) : placesTo p ns (k + 1) = placesTo p ns k ++ (if p ns[k] then [k] else []) := by
  unfold placesTo
  rw [List.range_succ, List.filter_append]
  congr 1
  simp only [List.filter_cons, List.filter_nil, List.getElem?_eq_getElem h]
theorem placesTo_le (p : Nme → Bool) (ns : List Nme) (k : Nat) : (placesTo p ns k).length ≤ k := by
  unfold placesTo
  exact Nat.le_trans (List.length_filter_le _ _) (by simp)
def kindL (ns : List Nme) (k : Int) : List Nat := placesTo (fun n => n.kind == k) ns ns.length
def counted (k : Int) : Bool := k == 3 || k == 4
def mayCount (k c : Int) : Bool := if counted k then decide (1 ≤ c) && decide (c ≤ 7) else c == 0
/-- what is wrong with name n at place i; 0: nothing -/
def wrongN (ns : List Nme) (i : Nat) (n : Nme) : Nat :=
  if Nm.name n.name = false then 5
  else if n.kind < 1 ∨ 4 < n.kind then 1
  else if mayCount n.kind n.count = false then 2
  else if number ns n.name < (i : Int) then 9
  else 0
/-- of which kind the names of such rungs are -/
def kindOf (k : Int) : Int := if k = 4 then 3 else if k = 5 ∨ k = 6 then 4 else 2
def kindAt (ns : List Nme) (i : Int) : Int := match ns[i.toNat]? with | some n => n.kind | none => 0
/-- are all names of an expression a program's? -/
def known (ns : List Nme) (x : Ex) : Bool := (x.named true).all fun s => decide (0 ≤ number ns s)
def wrongR (ns : List Nme) (r : Rng) : Nat :=
  if r.kind < 1 ∨ 6 < r.kind then 1
  else match r.cond with
    | none => 1
    | some x =>
      if number ns r.name < 0 then 7
      else if kindAt ns (number ns r.name) ≠ kindOf r.kind then 1
      else if known ns x then 0 else 7
/-- the first thing below n that is wrong -/
def bad (f : Nat → Nat) : Nat → Option (Nat × Nat)
  | 0 => none
  | n + 1 => match bad f n with
    | some r => some r
    | none => if f n = 0 then none else some (f n, n)
theorem bad_on (f : Nat → Nat) (n : Nat) (h : bad f n = none) (hf : f n = 0) : bad f (n + 1) = none := by simp [bad, h, hf]
theorem bad_hit (f : Nat → Nat) (k n : Nat) (h : bad f k = none) (hf : f k ≠ 0) (hk : k < n) : bad f n = some (f k, k) := by
  induction n with
  | zero => omega
  | succ n ih =>
    by_cases e : k = n
    · subst e; simp [bad, h, hf]
    · simp [bad, ih (by omega)]
theorem bad_lt (f : Nat → Nat) : ∀ (n e i : Nat), bad f n = some (e, i) → i < n ∧ e = f i ∧ e ≠ 0
  | 0, _, _, h => by simp [bad] at h
  | n + 1, e, i, h => by
    cases hb : bad f n with
    | some r =>
      obtain ⟨e', i'⟩ := r
      rw [bad, hb] at h
      simp only [Option.some.injEq, Prod.mk.injEq] at h
      obtain ⟨rfl, rfl⟩ := h
      have := bad_lt f n _ _ hb
      exact ⟨by omega, this.2⟩
    | none =>
      rw [bad, hb] at h
      by_cases h0 : f n = 0
      · simp [h0] at h
      · simp only [h0, if_false, Option.some.injEq, Prod.mk.injEq] at h
        obtain ⟨rfl, rfl⟩ := h
        exact ⟨by omega, rfl, h0⟩
theorem bad_none (f : Nat → Nat) : ∀ (n : Nat), bad f n = none → ∀ i, i < n → f i = 0
  | 0, _, i, hi => by omega
  | n + 1, h, i, hi => by
    cases hb : bad f n with
    | some r => rw [bad, hb] at h; simp at h
    | none =>
      rw [bad, hb] at h
      by_cases h0 : f n = 0
      · by_cases e : i = n
        · rw [e]; exact h0
        · exact bad_none f n hb i (by omega)
      · simp [h0] at h
def nameAt (ns : List Nme) (i : Nat) : Nat := match ns[i]? with | some n => wrongN ns i n | none => 0
def rungAt (p : Prg) (i : Nat) : Nat := match p.rungs[i]? with | some r => wrongR p.names r | none => 0
theorem nameAt_at (ns : List Nme) (i : Nat) (h : i < ns.length) : nameAt ns i = wrongN ns i ns[i] := by rw [nameAt, List.getElem?_eq_getElem h]
theorem rungAt_at (p : Prg) (i : Nat) (h : i < p.rungs.length) : rungAt p i = wrongR p.names p.rungs[i] := by rw [rungAt, List.getElem?_eq_getElem h]
/-- what is wrong, and its place, if it has one -/
def check (p : Prg) : Option (Nat × Option Nat) :=
  if 12 < p.names.length ∨ 40 < p.rungs.length then some (4, none)
  else match bad (nameAt p.names) p.names.length with
    | some (e, i) => some (e, some i)
    | none => match bad (rungAt p) p.rungs.length with
      | some (e, i) => some (e, some (p.names.length + i))
      | none => none
/-- the names whose edges a rung asks for -/
def asksR (r : Rng) : List (List UInt8) := match r.cond with | some x => x.named false | none => []
/-- the names whose edges a program asks for -/
def asked (p : Prg) : List (List UInt8) := (p.rungs.map asksR).flatten
def edges (p : Prg) : List Nat := placesTo (fun n => (asked p).contains n.name) p.names p.names.length
end Ld
end Go.Proofs.YtiamkoghflfjcaaGreatDoor
