/-
  Plain mathematics of chapter 9: pairs of states that one comes to by the same inputs, met one behind the other, and what is found so. Nothing of the program is named here.
-/
import Derived.Test.YtdeijfkahhgojaaDoorBkGrp
namespace Go.Proofs.YtdeijfkahhgojaaDoor
namespace Bk
/-- two states that are met: from which place (-1: they are the first), by which input -/
structure Pp where
  a : Nat
  b : Nat
  fr : Int
  i : Nat
/-- two states are met, whichever is the first -/
def Seen (M : List Pp) (x y : Nat) : Prop := ∃ (j : Nat) (m : Pp), M[j]? = some m ∧ ((m.a = x ∧ m.b = y) ∨ (m.a = y ∧ m.b = x))
theorem Seen.symm {M : List Pp} {x y : Nat} (h : Seen M x y) : Seen M y x := by
  obtain ⟨j, m, h1, h2⟩ := h
  exact ⟨j, m, h1, h2.symm⟩
theorem Seen.more {M : List Pp} {x y : Nat} (h : Seen M x y) (m : Pp) : Seen (M ++ [m]) x y := by
  obtain ⟨j, m', h1, h2⟩ := h
  exact ⟨j, m', (getElem?_snoc _ _ _ _).2 (.inl h1), h2⟩
/-- they are met no later than from place p by input i -/
def SeenBy (M : List Pp) (x y p i : Nat) : Prop := ∃ (j : Nat) (m : Pp), M[j]? = some m ∧ ((m.a = x ∧ m.b = y) ∨ (m.a = y ∧ m.b = x)) ∧ (j = 0 ∨ m.fr < (p : Int) ∨ (m.fr = (p : Int) ∧ m.i ≤ i))
theorem SeenBy.seen {M : List Pp} {x y p i : Nat} (h : SeenBy M x y p i) : Seen M x y := by
  obtain ⟨j, m, h1, h2, _⟩ := h
  exact ⟨j, m, h1, h2⟩
theorem SeenBy.more {M : List Pp} {x y p i : Nat} (h : SeenBy M x y p i) (m : Pp) : SeenBy (M ++ [m]) x y p i := by
  obtain ⟨j, m', h1, h2, h3⟩ := h
  exact ⟨j, m', (getElem?_snoc _ _ _ _).2 (.inl h1), h2, h3⟩
/-- what holds while pairs are gone on from: those ahead of place K are done with, of K's inputs the first J -/
structure PInv (t : Tb) (a b : Nat) (M : List Pp) (K J : Nat) : Prop where
  root : M[0]? = some ⟨a, b, -1, 0⟩
  low : ∀ (j : Nat) (m : Pp), M[j]? = some m → m.a < t.n ∧ m.b < t.n
  step : ∀ (j : Nat) (m : Pp), 0 < j → M[j]? = some m → ∃ (p : Nat) (m' : Pp), m.fr = (p : Int) ∧ p < j ∧ m.i < t.k ∧ M[p]? = some m' ∧ m.a = t.nx m'.a m.i ∧ m.b = t.nx m'.b m.i ∧ (p < K ∨ (p = K ∧ m.i < J))
  told : ∀ (j : Nat) (m : Pp), j < K → M[j]? = some m → ∀ i, i < t.k → t.tl m.a i = t.tl m.b i
  soon : ∀ (j : Nat) (m : Pp), j < K → M[j]? = some m → ∀ i, i < t.k → t.nx m.a i = t.nx m.b i ∨ SeenBy M (t.nx m.a i) (t.nx m.b i) j i
  mid : ∀ m : Pp, M[K]? = some m → ∀ i, i < J → t.nx m.a i = t.nx m.b i ∨ SeenBy M (t.nx m.a i) (t.nx m.b i) K i
  ord : ∀ (j j' : Nat) (m m' : Pp), 0 < j → j < j' → M[j]? = some m → M[j']? = some m' → m.fr < m'.fr ∨ (m.fr = m'.fr ∧ m.i < m'.i)
theorem PInv.start {t : Tb} {a b : Nat} (ha : a < t.n) (hb : b < t.n) : PInv t a b [⟨a, b, -1, 0⟩] 0 0 := by
  have one : ∀ (j : Nat) (m : Pp), [(⟨a, b, -1, 0⟩ : Pp)][j]? = some m → j = 0 ∧ m = ⟨a, b, -1, 0⟩ := by
    intro j m h
    match j, h with
    | 0, h => exact ⟨rfl, (Option.some.inj h).symm⟩
    | j + 1, h => simp at h
  refine ⟨rfl, fun j m h => ?_, fun j m hj h => ?_, fun j m hj _ => by omega, fun j m hj _ => by omega, fun m _ i hi => by omega, fun j j' m m' hj hjj h h' => ?_⟩
  · obtain ⟨_, rfl⟩ := one j m h; exact ⟨ha, hb⟩
  · have := (one j m h).1; omega
  · have := (one j' m' h').1; omega
theorem PInv.pos {t : Tb} {a b K J : Nat} {M : List Pp} (h : PInv t a b M K J) : 0 < M.length := (List.getElem?_eq_some_iff.1 h.root).1
theorem PInv.shut {t : Tb} {a b K J : Nat} {M : List Pp} (h : PInv t a b M K J) (j : Nat) (m : Pp) (hj : j < K) (hm : M[j]? = some m) (i : Nat) (hi : i < t.k) : t.nx m.a i = t.nx m.b i ∨ Seen M (t.nx m.a i) (t.nx m.b i) := (h.soon j m hj hm i hi).imp id fun s => s.seen
/-- what is met by now is met no later -/
theorem PInv.by_now {t : Tb} {a b K J x y : Nat} {M : List Pp} (h : PInv t a b M K J) (hs : Seen M x y) : SeenBy M x y K J := by
  obtain ⟨j, m, h1, h2⟩ := hs
  refine ⟨j, m, h1, h2, ?_⟩
  by_cases hj : j = 0
  · exact .inl hj
  · obtain ⟨p, m', e1, e2, e3, e4, e5, e6, e7⟩ := h.step j m (by omega) h1
    right
    rcases e7 with e7 | ⟨e7, e8⟩
    · exact .inl (by omega)
    · exact .inr ⟨by omega, by omega⟩
/-- the place's inputs are all done with -/
theorem PInv.turn {t : Tb} {a b K : Nat} {M : List Pp} (h : PInv t a b M K t.k) (ht : ∀ m, M[K]? = some m → ∀ i, i < t.k → t.tl m.a i = t.tl m.b i) : PInv t a b M (K + 1) 0 := by
  refine ⟨h.root, h.low, fun j m hj hm => ?_, fun j m hj hm => ?_, fun j m hj hm => ?_, fun m _ i hi => by omega, h.ord⟩
  · obtain ⟨p, m', e1, e2, e3, e4, e5, e6, e7⟩ := h.step j m hj hm
    exact ⟨p, m', e1, e2, e3, e4, e5, e6, .inl (by omega)⟩
  · by_cases e : j = K
    · subst e; exact ht m hm
    · exact h.told j m (by omega) hm
  · by_cases e : j = K
    · subst e; exact h.mid m hm
    · exact h.soon j m (by omega) hm
/-- an input that leads nowhere new -/
theorem PInv.pass {t : Tb} {a b K J : Nat} {M : List Pp} (h : PInv t a b M K J) (hs : ∀ m, M[K]? = some m → t.nx m.a J = t.nx m.b J ∨ Seen M (t.nx m.a J) (t.nx m.b J)) : PInv t a b M K (J + 1) := by
  refine ⟨h.root, h.low, fun j m hj hm => ?_, h.told, h.soon, fun m hm i hi => ?_, h.ord⟩
  · obtain ⟨p, m', e1, e2, e3, e4, e5, e6, e7⟩ := h.step j m hj hm
    exact ⟨p, m', e1, e2, e3, e4, e5, e6, by omega⟩
  · by_cases e : i = J
    · subst e; exact (hs m hm).imp id h.by_now
    · exact h.mid m hm i (by omega)
/-- an input that leads to two states that were not met -/
theorem PInv.push {t : Tb} {a b K J : Nat} {M : List Pp} (ok : t.Ok) (h : PInv t a b M K J) (m : Pp) (hm : M[K]? = some m) (hJ : J < t.k) : PInv t a b (M ++ [⟨t.nx m.a J, t.nx m.b J, (K : Int), J⟩]) K (J + 1) := by
  have hK : K < M.length := (List.getElem?_eq_some_iff.1 hm).1
  have old : ∀ (j : Nat) (x : Pp), M[j]? = some x → (M ++ [⟨t.nx m.a J, t.nx m.b J, (K : Int), J⟩])[j]? = some x := fun j x hx => (getElem?_snoc _ _ _ _).2 (.inl hx)
  have back : ∀ (j : Nat) (x : Pp), j ≤ K → (M ++ [⟨t.nx m.a J, t.nx m.b J, (K : Int), J⟩])[j]? = some x → M[j]? = some x := fun j x hj hx => by
    rcases (getElem?_snoc _ _ _ _).1 hx with h1 | ⟨h1, _⟩
    · exact h1
    · omega
  refine ⟨old _ _ h.root, fun j x hx => ?_, fun j x hj hx => ?_, fun j x hj hx => h.told j x hj (back j x (by omega) hx), fun j x hj hx i hi => ?_, fun x hx i hi => ?_, fun j j' x x' hj hjj hx hx' => ?_⟩
  · rcases (getElem?_snoc _ _ _ _).1 hx with h1 | ⟨_, rfl⟩
    · exact h.low j x h1
    · obtain ⟨l1, l2⟩ := h.low K m hm
      exact ⟨ok _ l1 _ hJ, ok _ l2 _ hJ⟩
  · rcases (getElem?_snoc _ _ _ _).1 hx with h1 | ⟨h2, rfl⟩
    · obtain ⟨p, m', e1, e2, e3, e4, e5, e6, e7⟩ := h.step j x hj h1
      exact ⟨p, m', e1, e2, e3, old _ _ e4, e5, e6, by omega⟩
    · exact ⟨K, m, rfl, by omega, hJ, old _ _ hm, rfl, rfl, .inr ⟨rfl, Nat.lt_succ_self _⟩⟩
  · rcases h.soon j x hj (back j x (by omega) hx) i hi with h1 | h1
    · exact .inl h1
    · exact .inr (h1.more _)
  · have hx' := back K x (Nat.le_refl _) hx
    obtain rfl : x = m := Option.some.inj (hx'.symm.trans hm)
    by_cases e : i = J
    · subst e
      exact .inr ⟨M.length, _, (getElem?_snoc _ _ _ _).2 (.inr ⟨rfl, rfl⟩), .inl ⟨rfl, rfl⟩, .inr (.inr ⟨rfl, Nat.le_refl _⟩)⟩
    · rcases h.mid x hm i (by omega) with h1 | h1
      · exact .inl h1
      · exact .inr (h1.more _)
  · rcases (getElem?_snoc _ _ _ _).1 hx' with h1 | ⟨h2, rfl⟩
    · rcases (getElem?_snoc _ _ _ _).1 hx with h3 | ⟨h4, _⟩
      · exact h.ord j j' x x' hj hjj h3 h1
      · have := (List.getElem?_eq_some_iff.1 h1).1; omega
    · rcases (getElem?_snoc _ _ _ _).1 hx with h3 | ⟨h4, _⟩
      · obtain ⟨p, m', e1, e2, e3, e4, e5, e6, e7⟩ := h.step j x hj h3
        rcases e7 with e7 | ⟨e7, e8⟩
        · exact .inl (by show x.fr < (K : Int); omega)
        · exact .inr ⟨by show x.fr = (K : Int); omega, e8⟩
      · omega
/-- all are done with: the two are alike -/
theorem PInv.done {t : Tb} {a b K : Nat} {M : List Pp} (h : PInv t a b M K 0) (hK : M.length ≤ K) : Alike t a b := by
  have key : ∀ d x y, x = y ∨ Seen M x y → eqB t d x y = true := by
    intro d
    induction d with
    | zero => exact fun _ _ _ => rfl
    | succ d ih =>
      intro x y hxy
      rcases hxy with rfl | ⟨j, m, h1, h2⟩
      · exact eqB_refl t _ _
      · have hj : j < K := by have := (List.getElem?_eq_some_iff.1 h1).1; omega
        have ab : eqB t (d + 1) m.a m.b = true := (eqB_succ t d m.a m.b).2 fun i hi => ⟨h.told j m hj h1 i hi, ih _ _ (h.shut j m hj h1 i hi)⟩
        rcases h2 with ⟨rfl, rfl⟩ | ⟨rfl, rfl⟩
        · exact ab
        · exact eqB_symm t _ _ _ ab
  exact fun d => key d a b (.inr ⟨0, _, h.root, .inl ⟨rfl, rfl⟩⟩)
/-- the inputs by which a pair was met -/
def pth (M : List Pp) : Nat → Nat → List Nat
  | 0, _ => []
  | f + 1, j => if j = 0 then [] else match M[j]? with
    | none => []
    | some m => pth M f m.fr.toNat ++ [m.i]
def pathTo (M : List Pp) (j : Nat) : List Nat := pth M j j
theorem pth_enough {t : Tb} {a b K J : Nat} {M : List Pp} (h : PInv t a b M K J) : ∀ f j, j ≤ f → j < M.length → pth M f j = pathTo M j := by
  intro f
  induction f using Nat.strongRecOn with
  | ind f ih =>
    intro j hj hl
    unfold pathTo
    match f, j, hj with
    | 0, 0, _ => rfl
    | f + 1, 0, _ => simp [pth]
    | f + 1, j + 1, hj =>
      have hm := List.getElem?_eq_getElem hl
      obtain ⟨p, m', e1, e2, _⟩ := h.step (j + 1) _ (by omega) hm
      have ep : (M[j + 1]).fr.toNat = p := by omega
      rw [pth, if_neg (by omega), hm, pth, if_neg (by omega), hm]
      simp only [ep]
      rw [ih f (by omega) p (by omega) (by omega)]
      by_cases hf : j = f
      · subst hf; rw [ih j (by omega) p (by omega) (by omega)]
      · rw [ih j (by omega) p (by omega) (by omega)]
theorem pathTo_zero (M : List Pp) : pathTo M 0 = [] := rfl
theorem pathTo_step {t : Tb} {a b K J : Nat} {M : List Pp} (h : PInv t a b M K J) (j : Nat) (m : Pp) (hj : 0 < j) (hm : M[j]? = some m) : ∃ p : Nat, m.fr = (p : Int) ∧ p < j ∧ pathTo M j = pathTo M p ++ [m.i] := by
  obtain ⟨p, m', e1, e2, _⟩ := h.step j m hj hm
  have hl := (List.getElem?_eq_some_iff.1 hm).1
  refine ⟨p, e1, e2, ?_⟩
  obtain ⟨j', rfl⟩ : ∃ j', j = j' + 1 := ⟨j - 1, by omega⟩
  have ep : m.fr.toNat = p := by omega
  rw [pathTo, pth, if_neg (by omega), hm]
  simp only [ep]
  rw [pth_enough h j' p (by omega) (by omega)]
/-- where a path leads, and that nothing unlike is told on it -/
theorem path_goes {t : Tb} {a b K J : Nat} {M : List Pp} (h : PInv t a b M K J) : ∀ j m, j ≤ K → M[j]? = some m → goes t a (pathTo M j) = m.a ∧ goes t b (pathTo M j) = m.b ∧ tell t a (pathTo M j) = tell t b (pathTo M j) ∧ ∀ i, i ∈ pathTo M j → i < t.k := by
  intro j
  induction j using Nat.strongRecOn with
  | ind j ih =>
    intro m hjK hm
    by_cases hj : j = 0
    · subst hj
      rw [h.root] at hm
      cases hm
      exact ⟨rfl, rfl, rfl, fun i hi => by simp [pathTo_zero] at hi⟩
    · obtain ⟨p, m', e1, e2, e3, e4, e5, e6, _⟩ := h.step j m (by omega) hm
      obtain ⟨p', f1, f2, f3⟩ := pathTo_step h j m (by omega) hm
      have : p' = p := by omega
      subst this
      obtain ⟨g1, g2, g3, g4⟩ := ih p' e2 m' (by omega) e4
      have ht := h.told p' m' (by omega) e4 m.i e3
      rw [f3]
      refine ⟨by rw [goes_snoc, g1, e5], by rw [goes_snoc, g2, e6], by rw [tell_snoc, tell_snoc, g1, g2, g3, ht], fun i hi => ?_⟩
      rcases List.mem_append.1 hi with hi | hi
      · exact g4 i hi
      · simp only [List.mem_cons, List.not_mem_nil, or_false] at hi
        subst hi; exact e3
theorem path_len {t : Tb} {a b K J : Nat} {M : List Pp} (h : PInv t a b M K J) : ∀ j m, M[j]? = some m → (pathTo M j).length ≤ j := by
  intro j
  induction j using Nat.strongRecOn with
  | ind j ih =>
    intro m hm
    by_cases hj : j = 0
    · subst hj; simp [pathTo_zero]
    · obtain ⟨p, e1, e2, e3⟩ := pathTo_step h j m (by omega) hm
      have hl := (List.getElem?_eq_some_iff.1 hm).1
      have := ih p e2 _ (List.getElem?_eq_getElem (by omega))
      rw [e3, List.length_append]
      simp
      omega
/-- what is found: two states that tell something unlike, by which input first -/
structure Found (t : Tb) (a b : Nat) (M : List Pp) (K i : Nat) (m : Pp) : Prop where
  inv : PInv t a b M K 0
  here : M[K]? = some m
  lt : i < t.k
  ne : t.tl m.a i ≠ t.tl m.b i
  first : ∀ j, j < i → t.tl m.a j = t.tl m.b j
  few : M.length ≤ 500 * 500
theorem Found.parts {t : Tb} {a b K i : Nat} {M : List Pp} {m : Pp} (h : Found t a b M K i m) : tell t a (pathTo M K) = tell t b (pathTo M K) ∧ tell t a (pathTo M K ++ [i]) = tell t a (pathTo M K) ++ [t.tl m.a i] ∧ tell t b (pathTo M K ++ [i]) = tell t b (pathTo M K) ++ [t.tl m.b i] ∧ ∀ j, j ∈ pathTo M K ++ [i] → j < t.k := by
  obtain ⟨g1, g2, g3, g4⟩ := path_goes h.inv K m (Nat.le_refl _) h.here
  refine ⟨g3, by rw [tell_snoc, g1], by rw [tell_snoc, g2], fun j hj => ?_⟩
  rcases List.mem_append.1 hj with hj | hj
  · exact g4 j hj
  · simp only [List.mem_cons, List.not_mem_nil, or_false] at hj
    subst hj; exact h.lt
theorem eqB_tell (t : Tb) : ∀ l a b, eqB t l.length a b = true → (∀ i, i ∈ l → i < t.k) → tell t a l = tell t b l
  | [], _, _, _, _ => rfl
  | i :: r, a, b, h, hl => by
    obtain ⟨h1, h2⟩ := (eqB_succ t r.length a b).1 h i (hl i (by simp))
    rw [tell, tell, h1, eqB_tell t r _ _ h2 (fun j hj => hl j (by simp [hj]))]
theorem Found.apart {t : Tb} {a b K i : Nat} {M : List Pp} {m : Pp} (h : Found t a b M K i m) : ¬ Alike t a b := by
  intro hal
  obtain ⟨_, h2, h3, h4⟩ := h.parts
  have := hal.tell _ h4
  rw [h2, h3] at this
  have h5 := List.append_inj_right' this rfl
  exact h.ne (by simpa using h5)
/-- how many are not so -/
def falses (l : List Bool) : Nat := (l.filter fun b => !b).length
theorem falses_set : ∀ (l : List Bool) (i : Nat), l[i]? = some false → falses (l.set i true) + 1 = falses l
  | [], i, h => by simp at h
  | b :: r, 0, h => by
    simp only [List.getElem?_cons_zero, Option.some.injEq] at h
    subst h
    simp [falses]
  | b :: r, i + 1, h => by
    simp only [List.getElem?_cons_succ] at h
    have := falses_set r i h
    rw [List.set_cons_succ]
    unfold falses at *
    rw [List.filter_cons, List.filter_cons]
    cases b <;> simp <;> omega
theorem falses_all (n : Nat) : falses (List.replicate n false) = n := by
  unfold falses
  rw [List.filter_replicate]
  simp
/-- a pair's place among those that were asked for -/
def code (n x y : Nat) : Nat := min x y * n + max x y
theorem code_comm (n x y : Nat) : code n x y = code n y x := by unfold code; rw [Nat.min_comm, Nat.max_comm]
theorem code_lt (n x y : Nat) (hx : x < n) (hy : y < n) : code n x y < n * n := by
  unfold code
  have h1 : min x y < n := by omega
  have h2 : max x y < n := by omega
  have : (min x y + 1) * n ≤ n * n := Nat.mul_le_mul_right n h1
  rw [Nat.add_mul, Nat.one_mul] at this
  omega
theorem code_inj (n x y u v : Nat) (hx : x < n) (hy : y < n) (hu : u < n) (hv : v < n) (h : code n x y = code n u v) : (x = u ∧ y = v) ∨ (x = v ∧ y = u) := by
  unfold code at h
  have h1 : max x y < n := by omega
  have h2 : max u v < n := by omega
  have e1 : min x y = min u v := by
    have a1 : (min x y * n + max x y) / n = min x y := by
      rw [Nat.add_comm, Nat.add_mul_div_right _ _ (by omega), Nat.div_eq_of_lt h1, Nat.zero_add]
    have a2 : (min u v * n + max u v) / n = min u v := by
      rw [Nat.add_comm, Nat.add_mul_div_right _ _ (by omega), Nat.div_eq_of_lt h2, Nat.zero_add]
    rw [← a1, ← a2, h]
  have e2 : max x y = max u v := by rw [e1] at h; omega
  omega
/-- what was asked for is what is met -/
structure AInv (n : Nat) (M : List Pp) (asked : List Bool) : Prop where
  len : asked.length = n * n
  iff : ∀ x y, x < n → y < n → (asked.getD (code n x y) false = true ↔ Seen M x y)
  few : M.length + falses asked = n * n
theorem AInv.push {n : Nat} {M : List Pp} {asked : List Bool} (h : AInv n M asked) (x y : Nat) (fr : Int) (i : Nat) (hx : x < n) (hy : y < n) (hno : asked.getD (code n x y) false = false) : AInv n (M ++ [⟨x, y, fr, i⟩]) (asked.set (code n x y) true) := by
  have hc := code_lt n x y hx hy
  have hg : asked[code n x y]? = some false := by
    rw [List.getElem?_eq_getElem (by rw [h.len]; exact hc)]
    rw [getD_in _ _ _ (by rw [h.len]; exact hc)] at hno
    rw [hno]
  refine ⟨by rw [List.length_set]; exact h.len, fun u v hu hv => ?_, ?_⟩
  · rw [List.getD_eq_getElem?_getD]
    by_cases e : code n x y = code n u v
    · rw [← e, List.getElem?_set_self (by rw [h.len]; exact hc)]
      refine ⟨fun _ => ?_, fun _ => rfl⟩
      refine ⟨M.length, _, (getElem?_snoc _ _ _ _).2 (.inr ⟨rfl, rfl⟩), ?_⟩
      exact code_inj n x y u v hx hy hu hv e
    · rw [List.getElem?_set_ne e, ← List.getD_eq_getElem?_getD, h.iff u v hu hv]
      refine ⟨fun hs => hs.more _, fun ⟨j, m, h1, h2⟩ => ?_⟩
      rcases (getElem?_snoc _ _ _ _).1 h1 with h1 | ⟨_, rfl⟩
      · exact ⟨j, m, h1, h2⟩
      · rcases h2 with ⟨e1, e2⟩ | ⟨e1, e2⟩
        · simp only at e1 e2; subst e1 e2; exact absurd rfl e
        · simp only at e1 e2; subst e1 e2; exact absurd (code_comm n _ _) e
  · have h1 := falses_set asked (code n x y) hg
    have h2 := h.few
    rw [List.length_append]
    simp
    omega
end Bk
end Go.Proofs.YtdeijfkahhgojaaDoor
