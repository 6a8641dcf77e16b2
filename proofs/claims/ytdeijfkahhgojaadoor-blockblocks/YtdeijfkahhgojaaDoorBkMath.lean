/-
  Plain mathematics of chapter 9: tables, which may be (9.1), which states are alike, how they are grouped (9.2: Moore). Nothing of the program is named here.
-/
namespace Go.Proofs.YtdeijfkahhgojaaDoor
namespace Bk
theorem getD_in {α : Type} (l : List α) (d : α) (i : Nat) (h : i < l.length) : l.getD i d = l[i] := by rw [List.getD_eq_getElem?_getD, List.getElem?_eq_getElem h]; rfl
/-- there is such a state -/
def hasB (n : Nat) (x : Int) : Bool := decide (0 ≤ x) && decide (x < (n : Int))
/-- what is wrong with a state's rows -/
def rowBad (n k : Nat) (r t : List Int) : Option Nat := if r.length = k ∧ t.length = k then (if (r.any fun x => !hasB n x) = true then some 2 else none) else some 3
def badAt (N T : List (List Int)) (s : Nat) : Option Nat := rowBad N.length (N.getD 0 []).length (N.getD s []) (T.getD s [])
/-- what is wrong with a table -/
def check (N T : List (List Int)) : Option (Nat × Option Nat) :=
  if N.length < 1 ∨ 500 < N.length ∨ 64 < (N.getD 0 []).length then some (4, none)
  else if T.length ≠ N.length then some (3, none)
  else (List.range N.length).findSome? fun s => (badAt N T s).map fun e => (e, some s)
theorem check_limit {N T : List (List Int)} (h : N.length < 1 ∨ 500 < N.length ∨ 64 < (N.getD 0 []).length) : check N T = some (4, none) := by rw [check, if_pos h]
theorem check_form {N T : List (List Int)} (h : ¬ (N.length < 1 ∨ 500 < N.length ∨ 64 < (N.getD 0 []).length)) (h2 : T.length ≠ N.length) : check N T = some (3, none) := by rw [check, if_neg h, if_pos h2]
theorem check_rows {N T : List (List Int)} (h : ¬ (N.length < 1 ∨ 500 < N.length ∨ 64 < (N.getD 0 []).length)) (h2 : T.length = N.length) : check N T = (List.range N.length).findSome? fun s => (badAt N T s).map fun e => (e, some s) := by rw [check, if_neg h, if_neg (fun e => e h2)]
theorem find_none (f : Nat → Option (Nat × Option Nat)) : ∀ n, (∀ s, s < n → f s = none) → (List.range n).findSome? f = none := by
  intro n h
  rw [List.findSome?_eq_none_iff]
  intro s hs
  exact h s (List.mem_range.1 hs)
theorem find_some (f : Nat → Option (Nat × Option Nat)) (n k : Nat) (x : Nat × Option Nat) (hk : k < n) (h : ∀ s, s < k → f s = none) (hx : f k = some x) : (List.range n).findSome? f = some x := by
  obtain ⟨d, rfl⟩ : ∃ d, n = k + 1 + d := ⟨n - (k + 1), by omega⟩
  rw [List.range_add, List.findSome?_append, List.range_succ, List.findSome?_append, find_none f k h]
  simp [hx]
theorem check_bad {N T : List (List Int)} (h : ¬ (N.length < 1 ∨ 500 < N.length ∨ 64 < (N.getD 0 []).length)) (h2 : T.length = N.length) (k e : Nat) (hk : k < N.length) (hs : ∀ s, s < k → badAt N T s = none) (he : badAt N T k = some e) : check N T = some (e, some k) := by
  rw [check_rows h h2]
  exact find_some _ _ k _ hk (fun s hs2 => by rw [hs s hs2]; rfl) (by rw [he]; rfl)
theorem check_fine {N T : List (List Int)} (h : ¬ (N.length < 1 ∨ 500 < N.length ∨ 64 < (N.getD 0 []).length)) (h2 : T.length = N.length) (hs : ∀ s, s < N.length → badAt N T s = none) : check N T = none := by
  rw [check_rows h h2]
  exact find_none _ _ (fun s hs2 => by rw [hs s hs2]; rfl)
/-- a table that may be -/
structure Good (N T : List (List Int)) : Prop where
  pos : 1 ≤ N.length
  few : N.length ≤ 500
  ins : (N.getD 0 []).length ≤ 64
  tells : T.length = N.length
  rows : ∀ s, s < N.length → (N.getD s []).length = (N.getD 0 []).length ∧ (T.getD s []).length = (N.getD 0 []).length ∧ ∀ x, x ∈ N.getD s [] → 0 ≤ x ∧ x < (N.length : Int)
theorem badAt_none {N T : List (List Int)} {s : Nat} (h : badAt N T s = none) : (N.getD s []).length = (N.getD 0 []).length ∧ (T.getD s []).length = (N.getD 0 []).length ∧ ∀ x, x ∈ N.getD s [] → 0 ≤ x ∧ x < (N.length : Int) := by
  unfold badAt rowBad at h
  split at h
  · rename_i h1
    split at h
    · cases h
    · rename_i h3
      refine ⟨h1.1, h1.2, fun x hx => ?_⟩
      have h4 : hasB N.length x = true := by
        cases hb : hasB N.length x with
        | true => rfl
        | false => exact absurd (List.any_eq_true.2 ⟨x, hx, by rw [hb]; rfl⟩) h3
      simpa [hasB] using h4
  · cases h
theorem good_of {N T : List (List Int)} (h : check N T = none) : Good N T := by
  unfold check at h
  split at h
  · cases h
  · rename_i h1
    split at h
    · cases h
    · rename_i h2
      rw [List.findSome?_eq_none_iff] at h
      refine ⟨by omega, by omega, by omega, by omega, fun s hs => badAt_none ?_⟩
      have := h s (List.mem_range.2 hs)
      simpa using this
theorem Good.fine {N T : List (List Int)} (h : Good N T) : check N T = none := by
  refine check_fine (by have := h.pos; have := h.few; have := h.ins; omega) h.tells (fun s hs => ?_)
  obtain ⟨h1, h2, h3⟩ := h.rows s hs
  unfold badAt rowBad
  rw [if_pos ⟨h1, h2⟩, if_neg]
  intro ha
  obtain ⟨x, hx, hb⟩ := List.any_eq_true.1 ha
  obtain ⟨h4, h5⟩ := h3 x hx
  simp [hasB, h4, h5] at hb
/-- a table: so many states and inputs, where each leads, and what it tells -/
structure Tb where
  n : Nat
  k : Nat
  nx : Nat → Nat → Nat
  tl : Nat → Nat → Int
/-- from each state by each input one comes to a state -/
def Tb.Ok (t : Tb) : Prop := ∀ s, s < t.n → ∀ i, i < t.k → t.nx s i < t.n
def tab (N T : List (List Int)) : Tb := ⟨N.length, (N.getD 0 []).length, fun s i => ((N.getD s []).getD i 0).toNat, fun s i => (T.getD s []).getD i 0⟩
theorem Good.ok {N T : List (List Int)} (h : Good N T) : (tab N T).Ok := by
  intro s hs i hi
  obtain ⟨h1, _, h3⟩ := h.rows s hs
  have hi2 : i < (N.getD s []).length := by rw [h1]; exact hi
  have hm : (N.getD s []).getD i 0 ∈ N.getD s [] := by rw [getD_in _ _ _ hi2]; exact List.getElem_mem _
  obtain ⟨h4, h5⟩ := h3 _ hm
  show ((N.getD s []).getD i 0).toNat < N.length
  omega
/-- a state's row, as numbers of states -/
theorem Good.next {N T : List (List Int)} (h : Good N T) (s : Nat) (hs : s < N.length) (i : Nat) (hi : i < (N.getD 0 []).length) : (N.getD s [])[i]? = some (((tab N T).nx s i : Nat) : Int) := by
  obtain ⟨h1, _, h3⟩ := h.rows s hs
  have hi2 : i < (N.getD s []).length := by rw [h1]; exact hi
  have hm : (N.getD s []).getD i 0 = (N.getD s [])[i] := getD_in _ _ _ hi2
  obtain ⟨h4, _⟩ := h3 _ (List.getElem_mem hi2)
  rw [List.getElem?_eq_getElem hi2]
  show some _ = some ((((N.getD s []).getD i 0).toNat : Nat) : Int)
  rw [hm]
  congr 1
  omega
theorem Good.told {N T : List (List Int)} (h : Good N T) (s : Nat) (hs : s < N.length) (i : Nat) (hi : i < (N.getD 0 []).length) : (T.getD s [])[i]? = some ((tab N T).tl s i) := by
  obtain ⟨_, h2, _⟩ := h.rows s hs
  have hi2 : i < (T.getD s []).length := by rw [h2]; exact hi
  rw [List.getElem?_eq_getElem hi2]
  show some _ = some ((T.getD s []).getD i 0)
  rw [getD_in _ _ _ hi2]
/-- so many inputs tell nothing unlike -/
def eqB (t : Tb) : Nat → Nat → Nat → Bool
  | 0, _, _ => true
  | d + 1, a, b => (List.range t.k).all fun i => decide (t.tl a i = t.tl b i) && eqB t d (t.nx a i) (t.nx b i)
theorem eqB_succ (t : Tb) (d a b : Nat) : eqB t (d + 1) a b = true ↔ ∀ i, i < t.k → t.tl a i = t.tl b i ∧ eqB t d (t.nx a i) (t.nx b i) = true := by
  rw [eqB, List.all_eq_true]
  constructor
  · intro h i hi
    have := h i (List.mem_range.2 hi)
    simpa using this
  · intro h i hi
    have := h i (List.mem_range.1 hi)
    simpa using this
theorem eqB_refl (t : Tb) : ∀ d a, eqB t d a a = true
  | 0, _ => rfl
  | d + 1, a => (eqB_succ t d a a).2 fun _ _ => ⟨rfl, eqB_refl t d _⟩
theorem eqB_symm (t : Tb) : ∀ d a b, eqB t d a b = true → eqB t d b a = true
  | 0, _, _, _ => rfl
  | d + 1, a, b, h => (eqB_succ t d b a).2 fun i hi => ⟨((eqB_succ t d a b).1 h i hi).1.symm, eqB_symm t d _ _ ((eqB_succ t d a b).1 h i hi).2⟩
theorem eqB_trans (t : Tb) : ∀ d a b c, eqB t d a b = true → eqB t d b c = true → eqB t d a c = true
  | 0, _, _, _, _, _ => rfl
  | d + 1, a, b, c, h, h2 => (eqB_succ t d a c).2 fun i hi => ⟨((eqB_succ t d a b).1 h i hi).1.trans ((eqB_succ t d b c).1 h2 i hi).1, eqB_trans t d _ _ _ ((eqB_succ t d a b).1 h i hi).2 ((eqB_succ t d b c).1 h2 i hi).2⟩
theorem eqB_less (t : Tb) : ∀ d a b, eqB t (d + 1) a b = true → eqB t d a b = true
  | 0, _, _, _ => rfl
  | d + 1, a, b, h => (eqB_succ t d a b).2 fun i hi => ⟨((eqB_succ t (d + 1) a b).1 h i hi).1, eqB_less t d _ _ ((eqB_succ t (d + 1) a b).1 h i hi).2⟩
theorem eqB_le (t : Tb) (a b : Nat) {d e : Nat} (hde : d ≤ e) (h : eqB t e a b = true) : eqB t d a b = true := by
  induction e with
  | zero => have : d = 0 := by omega
            subst this; exact h
  | succ e ih =>
    by_cases hd : d = e + 1
    · subst hd; exact h
    · exact ih (by omega) (eqB_less t e a b h)
/-- whatever comes, two states tell the same -/
def Alike (t : Tb) (a b : Nat) : Prop := ∀ d, eqB t d a b = true
theorem Alike.next {t : Tb} {a b : Nat} (h : Alike t a b) (i : Nat) (hi : i < t.k) : t.tl a i = t.tl b i ∧ Alike t (t.nx a i) (t.nx b i) :=
  ⟨((eqB_succ t 0 a b).1 (h 1) i hi).1, fun d => ((eqB_succ t d a b).1 (h (d + 1)) i hi).2⟩
theorem Alike.symm {t : Tb} {a b : Nat} (h : Alike t a b) : Alike t b a := fun d => eqB_symm t d a b (h d)
theorem Alike.trans {t : Tb} {a b c : Nat} (h : Alike t a b) (k : Alike t b c) : Alike t a c := fun d => eqB_trans t d a b c (h d) (k d)
/-- behind so many inputs nothing is parted any more -/
def Stable (t : Tb) (d : Nat) : Prop := ∀ a b, a < t.n → b < t.n → eqB t d a b = true → Alike t a b
theorem stable_of {t : Tb} (ok : t.Ok) (d : Nat) (h : ∀ a b, a < t.n → b < t.n → eqB t d a b = true → eqB t (d + 1) a b = true) : Stable t d := by
  have key : ∀ e a b, a < t.n → b < t.n → eqB t (d + e) a b = true → eqB t (d + e + 1) a b = true := by
    intro e
    induction e with
    | zero => exact h
    | succ e ih =>
      intro a b ha hb hab
      refine (eqB_succ t (d + e + 1) a b).2 fun i hi => ?_
      obtain ⟨h1, h2⟩ := (eqB_succ t (d + e) a b).1 hab i hi
      exact ⟨h1, ih _ _ (ok a ha i hi) (ok b hb i hi) h2⟩
  have up : ∀ e a b, a < t.n → b < t.n → eqB t d a b = true → eqB t (d + e) a b = true := by
    intro e
    induction e with
    | zero => exact fun a b _ _ h => h
    | succ e ih => exact fun a b ha hb h => key e a b ha hb (ih a b ha hb h)
  intro a b ha hb hab e
  exact eqB_le t a b (Nat.le_add_left e d) (up e a b ha hb hab)
/-- what is told of inputs -/
def tell (t : Tb) : Nat → List Nat → List Int
  | _, [] => []
  | s, i :: r => t.tl s i :: tell t (t.nx s i) r
def goes (t : Tb) : Nat → List Nat → Nat
  | s, [] => s
  | s, i :: r => goes t (t.nx s i) r
theorem tell_len (t : Tb) : ∀ l s, (tell t s l).length = l.length
  | [], _ => rfl
  | i :: r, s => by rw [tell, List.length_cons, tell_len t r, List.length_cons]
theorem tell_snoc (t : Tb) (i : Nat) : ∀ l s, tell t s (l ++ [i]) = tell t s l ++ [t.tl (goes t s l) i]
  | [], s => rfl
  | j :: r, s => by rw [List.cons_append, tell, tell_snoc t i r, tell, goes, List.cons_append]
theorem goes_snoc (t : Tb) (i : Nat) : ∀ l s, goes t s (l ++ [i]) = t.nx (goes t s l) i
  | [], s => rfl
  | j :: r, s => by rw [List.cons_append, goes, goes_snoc t i r, goes]
theorem goes_lt {t : Tb} (ok : t.Ok) : ∀ l s, s < t.n → (∀ i, i ∈ l → i < t.k) → goes t s l < t.n
  | [], _, h, _ => h
  | i :: r, s, h, hl => goes_lt ok r _ (ok s h i (hl i (by simp))) (fun j hj => hl j (by simp [hj]))
theorem Alike.tell {t : Tb} : ∀ (l : List Nat) {a b : Nat}, Alike t a b → (∀ i, i ∈ l → i < t.k) → tell t a l = tell t b l
  | [], _, _, _, _ => rfl
  | i :: r, a, b, h, hl => by
    obtain ⟨h1, h2⟩ := h.next i (hl i (by simp))
    rw [Bk.tell, Bk.tell, h1, Alike.tell r h2 (fun j hj => hl j (by simp [hj]))]
end Bk
end Go.Proofs.YtdeijfkahhgojaaDoor
