/-
  Plain mathematics of chapter 3: programs on their way. Nothing of the program is named here. Plain mathematics of chapter 2: a program's text (2.3), reading one (2.4). Nothing of the program is named here. Plain mathematics of chapter 1: reading goes forward, and stays within the text. Nothing of the program is named here. Plain mathematics of chapter 1: what is read is no greater than its text. Nothing of the program is named here.
-/
import Derived.Test.YtgdmohombcgjbaaGreatDoorLdMathAll
import Derived.Lib.AtoiAll
import Derived.Lib.ItoaNum
namespace Go.Proofs.YtgdmohombcgjbaaGreatDoor
section
namespace Sc
structure St where
  is : List Bool
  ct : List Int
def further (a most : Int) : Int := if a < most then a + 1 else most
def run (n : Nat) (most : Int) (says : Bool) (s : St) : St :=
  let c := if says then further (s.ct.getD n 0) most else 0
  ⟨s.is.set n (c == most), s.ct.set n c⟩
def count (n : Nat) (most : Int) (says : Bool) (s : St) : St :=
  let c := if says then further (s.ct.getD n 0) most else s.ct.getD n 0
  ⟨s.is.set n (c == most), s.ct.set n c⟩
def zero (n : Nat) (says : Bool) (s : St) : St := if says then ⟨s.is.set n false, s.ct.set n 0⟩ else s
/-- a rung of kind k does this to name n, whose count is most -/
def rung (k : Int) (n : Nat) (most : Int) (says : Bool) (s : St) : St :=
  if k = 1 then ⟨s.is.set n says, s.ct⟩
  else if k = 2 then ⟨s.is.set n (s.is.getD n false || says), s.ct⟩
  else if k = 3 then ⟨s.is.set n (s.is.getD n false && !says), s.ct⟩
  else if k = 4 then run n most says s
  else if k = 5 then count n most says s
  else if k = 6 then zero n says s
  else s
theorem rung_len (k : Int) (n : Nat) (most : Int) (says : Bool) (s : St) : (rung k n most says s).is.length = s.is.length ∧ (rung k n most says s).ct.length = s.ct.length := by
  unfold rung run count zero
  repeat' split
  all_goals simp
/-- what names are, told -/
def told (ns : List Ld.Nme) (l : List Bool) (s : List UInt8) : Bool := decide (0 ≤ Ld.number ns s) && l.getD (Ld.number ns s).toNat false
def doRung (ns : List Ld.Nme) (was : List Bool) (s : St) (r : Ld.Rng) : St :=
  match r.cond with
  | some x => if 0 ≤ Ld.number ns r.name then rung r.kind (Ld.number ns r.name).toNat ((ns.getD (Ld.number ns r.name).toNat ⟨[], 0, 0⟩).count) (x.eval (told ns s.is) (told ns was)) s else s
  | none => s
/-- inputs are read -/
def reads (l : List Nat) (inp : List Bool) (is : List Bool) : List Bool := (l.zip inp).foldl (fun acc p => acc.set p.1 p.2) is
def step (p : Ld.Prg) (s : St) (inp : List Bool) : St := p.rungs.foldl (doRung p.names s.is) ⟨reads (Ld.kindL p.names 1) inp s.is, s.ct⟩
def start (p : Ld.Prg) : St := ⟨List.replicate p.names.length false, List.replicate p.names.length 0⟩
end Sc
end
section
namespace Ld
/-- a text cut at each c -/
def split (c : UInt8) : List UInt8 → List (List UInt8)
  | [] => [[]]
  | a :: r => if a = c then [] :: split c r else match split c r with
    | [] => [[a]]
    | h :: t => (a :: h) :: t
def words (l : List UInt8) : List (List UInt8) := (split 32 l).filter fun w => !w.isEmpty
/-- each with the place of its first byte -/
def placed : Nat → List (List UInt8) → List (Nat × List UInt8)
  | _, [] => []
  | i, a :: r => (i, a) :: placed (i + a.length + 1) r
def isBlank (l : List UInt8) : Bool := l.all fun c => c == 32
def lns (l : List UInt8) : List (Nat × List UInt8) := (placed 0 (split 10 l)).filter fun p => !isBlank p.2
def nameW : Nat → List UInt8
  | 1 => [105, 110, 112, 117, 116]
  | 2 => [99, 111, 105, 108]
  | 3 => [116, 105, 109, 101, 114]
  | 4 => [99, 111, 117, 110, 116, 101, 114]
  | _ => []
def rungW : Nat → List UInt8
  | 2 => [115, 101, 116]
  | 3 => [114, 101, 115, 101, 116]
  | 4 => [114, 117, 110]
  | 5 => [99, 111, 117, 110, 116]
  | 6 => [122, 101, 114, 111]
  | _ => []
def kindN (w : List UInt8) : Nat := if w = nameW 1 then 1 else if w = nameW 2 then 2 else if w = nameW 3 then 3 else if w = nameW 4 then 4 else 0
def kindG (w : List UInt8) : Nat := if w = rungW 2 then 2 else if w = rungW 3 then 3 else if w = rungW 4 then 4 else if w = rungW 5 then 5 else if w = rungW 6 then 6 else 0
/-- a number, as it would be written -/
def rdCount (w : List UInt8) : Option Int := match Lib.atoiAll w with
  | .ok v => if Lib.itoa v = w then some v else none
  | _ => none
def rdName (l : List (List UInt8)) : Option Nme := match l with
  | [w, nm] => if kindN w = 1 ∨ kindN w = 2 then some ⟨nm, (kindN w : Int), 0⟩ else none
  | [w, nm, c] => if kindN w = 3 ∨ kindN w = 4 then (rdCount c).map fun n => ⟨nm, (kindN w : Int), n⟩ else none
  | _ => none
def rdHead (l : List (List UInt8)) : Option (Nat × List UInt8) := match l with
  | [nm] => some (1, nm)
  | [w, nm] => if kindG w = 0 then none else some (kindG w, nm)
  | _ => none
/-- a line's head, and what stands behind the first = -/
def cutE (l : List UInt8) : Option (List UInt8 × List UInt8) := if l.contains 61 then some (l.takeWhile (fun c => c != 61), (l.dropWhile fun c => c != 61).drop 1) else none
structure Rdg where
  names : List Nme
  rungs : List Rng
  starts : List Nat
def take (r : Rdg) (st : Nat) (line : List UInt8) : (Nat × Nat) ⊕ Rdg := match cutE line with
  | none => match rdName (words line) with
    | none => .inl (3, st)
    | some n => if r.rungs = [] then .inr ⟨r.names ++ [n], r.rungs, r.starts ++ [st]⟩ else .inl (3, st)
  | some (head, t) => match rdHead (words head) with
    | none => .inl (3, st)
    | some (k, nm) => match Ex.parse t with
      | .inl (e, pl) => .inl (e, st + head.length + 1 + pl.getD 0)
      | .inr x => .inr ⟨r.names, r.rungs ++ [⟨(k : Int), nm, some x⟩], r.starts ++ [st]⟩
def takes (r : Rdg) : List (Nat × List UInt8) → (Nat × Nat) ⊕ Rdg
  | [] => .inr r
  | p :: t => match take r p.1 p.2 with
    | .inl e => .inl e
    | .inr r' => takes r' t
/-- what a program that was read comes to -/
def checked (r : Rdg) : (Nat × Option Nat) ⊕ Prg := match check ⟨r.names, r.rungs⟩ with
  | none => .inr ⟨r.names, r.rungs⟩
  | some (e, none) => .inl (e, none)
  | some (e, some i) => .inl (e, some (r.starts.getD i 0))
def parse (l : List UInt8) : (Nat × Option Nat) ⊕ Prg :=
  if 20000 < l.length then .inl (4, none)
  else match takes ⟨[], [], []⟩ (lns l) with
    | .inl (e, p) => .inl (e, some p)
    | .inr r => checked r
def nameT (n : Nme) : List UInt8 := nameW n.kind.toNat ++ [32] ++ n.name ++ (if counted n.kind then 32 :: Lib.itoa n.count else [])
def condT : Option Ex → List UInt8
  | some x => x.text
  | none => []
def headT (r : Rng) : List UInt8 := (if r.kind = 1 then [] else rungW r.kind.toNat ++ [32]) ++ r.name ++ [32]
def rungT (r : Rng) : List UInt8 := headT r ++ [61, 32] ++ condT r.cond
def linesT (p : Prg) : List (List UInt8) := p.names.map nameT ++ p.rungs.map rungT
/-- lines, each with its end -/
def ended (l : List (List UInt8)) : List UInt8 := (l.map fun a => a ++ [10]).flatten
def text (p : Prg) : List UInt8 := if check p = none then ended (linesT p) else []
end Ld
end
section
namespace Ex
/-- what is read ends behind where it began, within the text -/
def Adv (l : List UInt8) (r : Nat → Res Ex) : Prop := ∀ i x m, i ≤ l.length → r i = .inr (x, m) → i < m ∧ m ≤ l.length
theorem sg_lt (l : List UInt8) (i : Nat) (h : sg l i ≠ 32) : i < l.length := by
  unfold sg at h
  by_cases hi : i < l.length
  · exact hi
  · rw [if_neg hi] at h; exact absurd rfl h
theorem ends32 : ends 32 = true := by decide
theorem nameP_adv (l : List UInt8) (k : Nat) : Adv l (nameP l k) := by
  intro i x m hi h
  have h1 := skip_ge l i
  have h2 := skip_le l i hi
  unfold nameP at h
  simp only at h
  by_cases c1 : sg l (skip l i) = 48 ∨ sg l (skip l i) = 49 ∨ ends (sg l (skip l i)) = true
  · rw [if_pos c1] at h; cases h
  · rw [if_neg c1] at h
    by_cases c2 : Nm.name (cut l (skip l i) (wend l (skip l i))) = true
    · rw [if_pos c2] at h
      simp only [Sum.inr.injEq, Prod.mk.injEq] at h
      have hne : sg l (skip l i) ≠ 32 := fun e => c1 (.inr (.inr (by rw [e]; exact ends32)))
      have hlt := sg_lt l _ hne
      have hf : ends (l.getD (skip l i) 0).toNat = false := by
        have : ends (sg l (skip l i)) = false := by
          cases hb : ends (sg l (skip l i)) with
          | true => exact absurd (.inr (.inr hb)) c1
          | false => rfl
        simpa [sg, hlt] using this
      have h3 := wend_on l (skip l i) hlt hf
      have h4 := wend_ge l (skip l i + 1)
      have h5 := wend_le l (skip l i) (by omega)
      omega
    · rw [if_neg c2] at h; cases h
theorem listP_adv (l : List UInt8) (sep : Nat) (hs : sep ≠ 32) (r : Nat → Res Ex) (hr : Adv l r) :
    ∀ f i xs m, i ≤ l.length → listP l sep r f i = .inr (xs, m) → i < m ∧ m ≤ l.length ∧ xs ≠ [] := by
  intro f
  induction f with
  | zero => intro i xs m _ h; simp [listP] at h
  | succ f ih =>
    intro i xs m hi h
    unfold listP at h
    cases hri : r i with
    | inl e => rw [hri] at h; simp at h
    | inr p =>
      obtain ⟨x, j⟩ := p
      have ha := hr i x j hi hri
      have h1 := skip_ge l j
      have h2 := skip_le l j ha.2
      rw [hri] at h
      simp only at h
      by_cases c : sg l (skip l j) = sep
      · rw [if_pos c] at h
        have hlt := sg_lt l (skip l j) (by rw [c]; exact hs)
        cases hl : listP l sep r f (skip l j + 1) with
        | inl e => rw [hl] at h; simp at h
        | inr q =>
          obtain ⟨ys, k⟩ := q
          rw [hl] at h
          simp only [Sum.inr.injEq, Prod.mk.injEq] at h
          have := ih (skip l j + 1) ys k (by omega) hl
          refine ⟨by omega, by omega, ?_⟩
          rw [← h.1]; simp
      · rw [if_neg c] at h
        simp only [Sum.inr.injEq, Prod.mk.injEq] at h
        refine ⟨by omega, by omega, ?_⟩
        rw [← h.1]; simp
theorem made_inr (k : Nat) (r : Res (List Ex)) (x : Ex) (m : Nat) (h : made k r = .inr (x, m)) : ∃ xs, r = .inr (xs, m) := by
  match r, h with
  | .inr ([], _), h => simp only [made, Sum.inr.injEq, Prod.mk.injEq] at h; exact ⟨_, by rw [h.2]⟩
  | .inr ([y], _), h => simp only [made, Sum.inr.injEq, Prod.mk.injEq] at h; exact ⟨_, by rw [h.2]⟩
  | .inr (_ :: _ :: _, _), h => simp only [made, Sum.inr.injEq, Prod.mk.injEq] at h; exact ⟨_, by rw [h.2]⟩
theorem partP_adv (l : List UInt8) (r : Nat → Res Ex) (hr : Adv l r) : Adv l (partP l r) := by
  intro i x m hi h
  obtain ⟨xs, hx⟩ := made_inr _ _ _ _ h
  have := listP_adv l 38 (by decide) r hr _ i xs m hi hx
  omega
theorem wholeP_adv (l : List UInt8) (r : Nat → Res Ex) (hr : Adv l r) : Adv l (wholeP l r) := by
  intro i x m hi h
  obtain ⟨xs, hx⟩ := made_inr _ _ _ _ h
  have := listP_adv l 124 (by decide) _ (partP_adv l r hr) _ i xs m hi hx
  omega
theorem pieceP_adv (l : List UInt8) : ∀ d, Adv l (pieceP l d) := by
  intro d
  induction d with
  | zero => intro i x m _ h; simp [pieceP] at h
  | succ d ih =>
    intro i x m hi h
    have h1 := skip_ge l i
    have h2 := skip_le l i hi
    have low : sg l (skip l i) ≠ 32 → skip l i + 1 ≤ l.length := fun h => by have := sg_lt l _ h; omega
    unfold pieceP at h
    simp only at h
    by_cases c1 : sg l (skip l i) = 33
    · rw [if_pos c1] at h
      cases hp : pieceP l d (skip l i + 1) with
      | inl e => rw [hp] at h; simp [notP] at h
      | inr q =>
        obtain ⟨y, k⟩ := q
        rw [hp] at h
        simp only [notP, Sum.inr.injEq, Prod.mk.injEq] at h
        have := ih (skip l i + 1) y k (low (by omega)) hp
        omega
    rw [if_neg c1] at h
    by_cases c2 : sg l (skip l i) = 40
    · rw [if_pos c2] at h
      cases hp : wholeP l (pieceP l d) (skip l i + 1) with
      | inl e => rw [hp] at h; simp [parP] at h
      | inr q =>
        obtain ⟨y, k⟩ := q
        rw [hp] at h
        have ha := wholeP_adv l _ ih (skip l i + 1) y k (low (by omega)) hp
        have h3 := skip_ge l k
        unfold parP at h
        simp only at h
        by_cases c : sg l (skip l k) = 41
        · rw [if_pos c] at h
          simp only [Sum.inr.injEq, Prod.mk.injEq] at h
          have := sg_lt l (skip l k) (by omega)
          omega
        · rw [if_neg c] at h; simp at h
    rw [if_neg c2] at h
    by_cases c3 : sg l (skip l i) = 48
    · rw [if_pos c3] at h
      simp only [Sum.inr.injEq, Prod.mk.injEq] at h
      have := low (by omega)
      omega
    rw [if_neg c3] at h
    by_cases c4 : sg l (skip l i) = 49
    · rw [if_pos c4] at h
      simp only [Sum.inr.injEq, Prod.mk.injEq] at h
      have := low (by omega)
      omega
    rw [if_neg c4] at h
    by_cases c5 : sg l (skip l i) = 94
    · rw [if_pos c5] at h
      have := nameP_adv l 3 _ x m (low (by omega)) h
      omega
    rw [if_neg c5] at h
    by_cases c6 : sg l (skip l i) = 126
    · rw [if_pos c6] at h
      have := nameP_adv l 4 _ x m (low (by omega)) h
      omega
    rw [if_neg c6] at h
    have := nameP_adv l 2 _ x m h2 h
    omega
end Ex
end
section
namespace Ex
theorem par_le (b : Bool) (l : List UInt8) : l.length ≤ (par b l).length ∧ (par b l).length ≤ l.length + 2 := by cases b <;> simp [par] <;> omega
theorem text5 (nm : List UInt8) (y : Ex) : text ⟨5, nm, [y]⟩ = 33 :: par (decide (6 ≤ y.kind)) y.text := by simp [text]
theorem text6 (nm : List UInt8) (l : List Ex) : text ⟨6, nm, l⟩ = join [32, 38, 32] (l.map fun x => par (decide (6 ≤ x.kind)) x.text) := by simp [text]
theorem text7 (nm : List UInt8) (l : List Ex) : text ⟨7, nm, l⟩ = join [32, 124, 32] (l.map fun x => par (decide (7 ≤ x.kind)) x.text) := by simp [text]
theorem size_def (k : Nat) (nm : List UInt8) (l : List Ex) : size ⟨k, nm, l⟩ = 1 + (l.map fun x => x.size).sum := by simp [size]
theorem join_len (sep : List UInt8) (hs : sep.length = 3) : ∀ l : List (List UInt8), l ≠ [] → (join sep l).length + 3 = (l.map List.length).sum + 3 * l.length
  | [], h => absurd rfl h
  | [a], _ => by simp [join]
  | a :: b :: r, _ => by
    have ih := join_len sep hs (b :: r) (by simp)
    simp only [join, List.length_append, List.map_cons, List.sum_cons, List.length_cons] at ih ⊢
    omega
/-- what is read, and its text in this form, is no greater than what it was read of -/
def Bnd (l : List UInt8) (t : Ex → List UInt8) (r : Nat → Res Ex) : Prop := ∀ i x m, i ≤ l.length → r i = .inr (x, m) → i + x.size ≤ m ∧ 3 * i + (t x).length ≤ 3 * m
theorem nameP_bnd (l : List UInt8) (k : Nat) (i : Nat) (x : Ex) (m : Nat) (hi : i ≤ l.length) (h : nameP l k i = .inr (x, m)) : x.kind = k ∧ x.of = [] ∧ Nm.name x.name = true ∧ i < m ∧ i + x.name.length ≤ m := by
  have ha := nameP_adv l k i x m hi h
  have h1 := skip_ge l i
  unfold nameP at h
  simp only at h
  by_cases c1 : sg l (skip l i) = 48 ∨ sg l (skip l i) = 49 ∨ ends (sg l (skip l i)) = true
  · rw [if_pos c1] at h; cases h
  · rw [if_neg c1] at h
    by_cases c2 : Nm.name (cut l (skip l i) (wend l (skip l i))) = true
    · rw [if_pos c2] at h
      simp only [Sum.inr.injEq, Prod.mk.injEq] at h
      obtain ⟨rfl, rfl⟩ := h
      refine ⟨rfl, rfl, c2, ha.1, ?_⟩
      show i + (cut l (skip l i) (wend l (skip l i))).length ≤ _
      unfold cut
      have h3 := wend_ge l (skip l i)
      simp only [List.length_drop, List.length_take]
      omega
    · rw [if_neg c2] at h; cases h
theorem listP_bnd (l : List UInt8) (sep : Nat) (hs : sep ≠ 32) (t : Ex → List UInt8) (r : Nat → Res Ex) (hr : Adv l r) (hb : Bnd l t r) :
    ∀ f i xs m, i ≤ l.length → listP l sep r f i = .inr (xs, m) → i + (xs.map fun x => x.size).sum + xs.length ≤ m + 1 ∧ 3 * i + ((xs.map t).map List.length).sum + 3 * xs.length ≤ 3 * m + 3 := by
  intro f
  induction f with
  | zero => intro i xs m _ h; simp [listP] at h
  | succ f ih =>
    intro i xs m hi h
    unfold listP at h
    cases hri : r i with
    | inl e => rw [hri] at h; simp at h
    | inr p =>
      obtain ⟨x, j⟩ := p
      have ha := hr i x j hi hri
      have hbb := hb i x j hi hri
      have h1 := skip_ge l j
      rw [hri] at h
      simp only at h
      by_cases c : sg l (skip l j) = sep
      · rw [if_pos c] at h
        have hlt := sg_lt l (skip l j) (by rw [c]; exact hs)
        cases hl : listP l sep r f (skip l j + 1) with
        | inl e => rw [hl] at h; simp at h
        | inr q =>
          obtain ⟨ys, k⟩ := q
          rw [hl] at h
          simp only [Sum.inr.injEq, Prod.mk.injEq] at h
          have h2 := ih (skip l j + 1) ys k (by omega) hl
          obtain ⟨rfl, rfl⟩ := h
          simp only [List.map_cons, List.sum_cons, List.length_cons]
          omega
      · rw [if_neg c] at h
        simp only [Sum.inr.injEq, Prod.mk.injEq] at h
        obtain ⟨rfl, rfl⟩ := h
        simp only [List.map_cons, List.sum_cons, List.length_cons, List.map_nil, List.sum_nil, List.length_nil]
        omega
/-- its text as a piece, as a part, as a whole -/
def tP (x : Ex) : List UInt8 := par (decide (6 ≤ x.kind)) x.text
def tQ (x : Ex) : List UInt8 := par (decide (7 ≤ x.kind)) x.text
theorem tQ_le (x : Ex) : (tQ x).length ≤ (tP x).length := by
  unfold tQ tP
  by_cases h7 : 7 ≤ x.kind
  · have h6 : 6 ≤ x.kind := by omega
    simp [h7, h6]
  · by_cases h6 : 6 ≤ x.kind
    · simp [h7, h6, par]; omega
    · simp [h7, h6, par]
theorem text_le_tQ (x : Ex) : x.text.length ≤ (tQ x).length := (par_le _ _).1
theorem made_cases (k : Nat) (r : Res (List Ex)) (x : Ex) (m : Nat) (h : made k r = .inr (x, m)) (hne : ∀ ys n, r = .inr (ys, n) → ys ≠ []) : r = .inr ([x], m) ∨ ∃ xs, 2 ≤ xs.length ∧ r = .inr (xs, m) ∧ x = ⟨k, [], xs⟩ := by
  match r, h with
  | .inr ([], n), _ => exact absurd rfl (hne [] n rfl)
  | .inr ([y], _), h => simp only [made, Sum.inr.injEq, Prod.mk.injEq] at h; obtain ⟨rfl, rfl⟩ := h; exact .inl rfl
  | .inr (a :: b :: r, _), h => simp only [made, Sum.inr.injEq, Prod.mk.injEq] at h; obtain ⟨rfl, rfl⟩ := h; exact .inr ⟨_, by simp, rfl, rfl⟩
theorem partP_bnd (l : List UInt8) (r : Nat → Res Ex) (hr : Adv l r) (hb : Bnd l tP r) : Bnd l tQ (partP l r) := by
  intro i x m hi h
  have hne : ∀ ys n, listP l 38 r (l.length + 1) i = .inr (ys, n) → ys ≠ [] := fun ys n hy => (listP_adv l 38 (by decide) r hr _ i ys n hi hy).2.2
  rcases made_cases 6 _ x m h hne with h1 | ⟨xs, h2, h1, rfl⟩
  · have := listP_bnd l 38 (by decide) tP r hr hb _ i [x] m hi h1
    have := tQ_le x
    simp at *
    omega
  · have h3 := listP_bnd l 38 (by decide) tP r hr hb _ i xs m hi h1
    have h4 := join_len [32, 38, 32] rfl (xs.map tP) (by intro e; have := congrArg List.length e; simp at this; rw [this] at h2; simp at h2)
    have e1 : tQ ⟨6, [], xs⟩ = join [32, 38, 32] (xs.map tP) := by unfold tQ; rw [text6]; rfl
    rw [e1, size_def]
    rw [List.length_map] at h4
    omega
theorem wholeP_bnd (l : List UInt8) (r : Nat → Res Ex) (hr : Adv l r) (hb : Bnd l tP r) : Bnd l text (wholeP l r) := by
  intro i x m hi h
  have hpa := partP_adv l r hr
  have hpb := partP_bnd l r hr hb
  have hne : ∀ ys n, listP l 124 (partP l r) (l.length + 1) i = .inr (ys, n) → ys ≠ [] := fun ys n hy => (listP_adv l 124 (by decide) _ hpa _ i ys n hi hy).2.2
  rcases made_cases 7 _ x m h hne with h1 | ⟨xs, h2, h1, rfl⟩
  · have := listP_bnd l 124 (by decide) tQ _ hpa hpb _ i [x] m hi h1
    have := text_le_tQ x
    simp at *
    omega
  · have h3 := listP_bnd l 124 (by decide) tQ _ hpa hpb _ i xs m hi h1
    have h4 := join_len [32, 124, 32] rfl (xs.map tQ) (by intro e; have := congrArg List.length e; simp at this; rw [this] at h2; simp at h2)
    have e1 : text ⟨7, [], xs⟩ = join [32, 124, 32] (xs.map tQ) := by rw [text7]; rfl
    rw [e1, size_def]
    rw [List.length_map] at h4
    omega
theorem leaf_bnd (k : Nat) (hk : k ≤ 4) (x : Ex) (hx : x.kind = k) (ho : x.of = []) : x.size = 1 ∧ (tP x).length ≤ x.name.length + 1 := by
  obtain ⟨k', nm, l⟩ := x
  simp only at hx ho
  subst hx ho
  refine ⟨by simp [size_def], ?_⟩
  match k', hk with
  | 0, _ => simp [tP, text, par]
  | 1, _ => simp [tP, text, par]
  | 2, _ => simp [tP, text, par]
  | 3, _ => simp [tP, text, par]
  | 4, _ => simp [tP, text, par]
theorem pieceP_bnd (l : List UInt8) : ∀ d, Bnd l tP (pieceP l d) := by
  intro d
  induction d with
  | zero => intro i x m _ h; simp [pieceP] at h
  | succ d ih =>
    intro i x m hi h
    have h1 := skip_ge l i
    have h2 := skip_le l i hi
    have low : sg l (skip l i) ≠ 32 → skip l i + 1 ≤ l.length := fun h => by have := sg_lt l _ h; omega
    unfold pieceP at h
    simp only at h
    by_cases c1 : sg l (skip l i) = 33
    · rw [if_pos c1] at h
      cases hp : pieceP l d (skip l i + 1) with
      | inl e => rw [hp] at h; simp [notP] at h
      | inr q =>
        obtain ⟨y, k⟩ := q
        rw [hp] at h
        simp only [notP, Sum.inr.injEq, Prod.mk.injEq] at h
        obtain ⟨rfl, rfl⟩ := h
        have := ih (skip l i + 1) y k (low (by omega)) hp
        have e1 : tP ⟨5, [], [y]⟩ = 33 :: tP y := by unfold tP; rw [text5]; rfl
        rw [e1, size_def]
        simp
        omega
    rw [if_neg c1] at h
    by_cases c2 : sg l (skip l i) = 40
    · rw [if_pos c2] at h
      cases hp : wholeP l (pieceP l d) (skip l i + 1) with
      | inl e => rw [hp] at h; simp [parP] at h
      | inr q =>
        obtain ⟨y, k⟩ := q
        rw [hp] at h
        have hb := wholeP_bnd l _ (pieceP_adv l d) ih (skip l i + 1) y k (low (by omega)) hp
        have h3 := skip_ge l k
        unfold parP at h
        simp only at h
        by_cases c : sg l (skip l k) = 41
        · rw [if_pos c] at h
          simp only [Sum.inr.injEq, Prod.mk.injEq] at h
          obtain ⟨rfl, rfl⟩ := h
          have := (par_le (decide (6 ≤ y.kind)) y.text).2
          unfold tP
          omega
        · rw [if_neg c] at h; simp at h
    rw [if_neg c2] at h
    by_cases c3 : sg l (skip l i) = 48
    · rw [if_pos c3] at h
      simp only [Sum.inr.injEq, Prod.mk.injEq] at h
      obtain ⟨rfl, rfl⟩ := h
      have := leaf_bnd 0 (by decide) ⟨0, [], []⟩ rfl rfl
      simp at this
      omega
    rw [if_neg c3] at h
    by_cases c4 : sg l (skip l i) = 49
    · rw [if_pos c4] at h
      simp only [Sum.inr.injEq, Prod.mk.injEq] at h
      obtain ⟨rfl, rfl⟩ := h
      have := leaf_bnd 1 (by decide) ⟨1, [], []⟩ rfl rfl
      simp at this
      omega
    rw [if_neg c4] at h
    by_cases c5 : sg l (skip l i) = 94
    · rw [if_pos c5] at h
      have hn := nameP_bnd l 3 _ x m (low (by omega)) h
      have := leaf_bnd 3 (by decide) x hn.1 hn.2.1
      omega
    rw [if_neg c5] at h
    by_cases c6 : sg l (skip l i) = 126
    · rw [if_pos c6] at h
      have hn := nameP_bnd l 4 _ x m (low (by omega)) h
      have := leaf_bnd 4 (by decide) x hn.1 hn.2.1
      omega
    rw [if_neg c6] at h
    have hn := nameP_bnd l 2 _ x m h2 h
    have := leaf_bnd 2 (by decide) x hn.1 hn.2.1
    omega
/-- an expression that was read: its size, and its text's length, by the text's -/
theorem parse_bnd (l : List UInt8) (x : Ex) (h : parse l = .inr x) : l.length ≤ 2000 ∧ x.size ≤ l.length ∧ x.text.length ≤ 3 * l.length := by
  unfold parse at h
  by_cases h1 : 2000 < l.length
  · rw [if_pos h1] at h; simp at h
  · rw [if_neg h1] at h
    cases hw : wholeP l (pieceP l 20) 0 with
    | inl e => rw [hw] at h; simp at h
    | inr q =>
      obtain ⟨y, m⟩ := q
      rw [hw] at h
      simp only at h
      by_cases c : skip l m < l.length
      · rw [if_pos c] at h; simp at h
      · rw [if_neg c] at h
        simp only [Sum.inr.injEq] at h
        subst h
        have ha := wholeP_adv l _ (pieceP_adv l 20) 0 y m (Nat.zero_le _) hw
        have hb := wholeP_bnd l _ (pieceP_adv l 20) (pieceP_bnd l 20) 0 y m (Nat.zero_le _) hw
        omega
end Ex
end
end Go.Proofs.YtgdmohombcgjbaaGreatDoor
