/-
  Plain mathematics of chapter 9: how states are grouped, and that grouping again and again comes to the blocks of states that are alike (Moore). Nothing of the program is named here.
-/
import Derived.Test.YtdeijfkahhgojaaDoorBkMath
namespace Go.Proofs.YtdeijfkahhgojaaDoor
namespace Bk
/-- groups so far, and one state more -/
def grpStep (al : Nat → Nat → Bool) (st : List Nat × List Nat) (s : Nat) : List Nat × List Nat := (st.2.findIdx? fun f => al f s).elim (st.1 ++ [st.2.length], st.2 ++ [s]) fun j => (st.1 ++ [j], st.2)
/-- of each state the number of its group, from 0 on as they come, and of each group its first -/
def grp (al : Nat → Nat → Bool) : Nat → List Nat × List Nat
  | 0 => ([], [])
  | m + 1 => grpStep al (grp al m) m
/-- alike is as it should be -/
structure Eqv (n : Nat) (al : Nat → Nat → Bool) : Prop where
  refl : ∀ a, a < n → al a a = true
  symm : ∀ a b, a < n → b < n → al a b = true → al b a = true
  trans : ∀ a b c, a < n → b < n → c < n → al a b = true → al b c = true → al a c = true
theorem grp_hit (al : Nat → Nat → Bool) (m j : Nat) (h : ((grp al m).2.findIdx? fun f => al f m) = some j) : grp al (m + 1) = ((grp al m).1 ++ [j], (grp al m).2) := by rw [grp, grpStep, h]; rfl
theorem grp_new (al : Nat → Nat → Bool) (m : Nat) (h : ((grp al m).2.findIdx? fun f => al f m) = none) : grp al (m + 1) = ((grp al m).1 ++ [(grp al m).2.length], (grp al m).2 ++ [m]) := by rw [grp, grpStep, h]; rfl
structure GInv (al : Nat → Nat → Bool) (m : Nat) (of firsts : List Nat) : Prop where
  len : of.length = m
  has : ∀ s : Nat, s < m → ∃ j f : Nat, of[s]? = some j ∧ firsts[j]? = some f ∧ f ≤ s ∧ al f s = true
  lt : ∀ j f : Nat, firsts[j]? = some f → f < m ∧ of[f]? = some j
  apart : ∀ i j f g : Nat, i < j → firsts[i]? = some f → firsts[j]? = some g → f < g ∧ al f g = false
theorem getElem?_snoc {α : Type} (l : List α) (x y : α) (k : Nat) : (l ++ [x])[k]? = some y ↔ l[k]? = some y ∨ (k = l.length ∧ x = y) := by
  by_cases h : k < l.length
  · rw [List.getElem?_append_left h]
    exact ⟨.inl, fun h2 => h2.elim id fun h3 => by omega⟩
  · rw [List.getElem?_append_right (by omega), List.getElem?_eq_none (l := l) (by omega)]
    by_cases h2 : k = l.length
    · subst h2; simp
    · rw [List.getElem?_eq_none (by simp; omega)]; simp [h2]
theorem inv_grp {al : Nat → Nat → Bool} {n : Nat} (e : Eqv n al) : ∀ m, m ≤ n → GInv al m (grp al m).1 (grp al m).2 := by
  intro m
  induction m with
  | zero => exact fun _ => ⟨rfl, fun s h => by omega, fun j f h => by simp [grp] at h, fun i j f g _ h => by simp [grp] at h⟩
  | succ m ih =>
    intro hm
    have I := ih (by omega)
    cases h : ((grp al m).2.findIdx? fun f => al f m) with
    | some j =>
      rw [grp_hit al m j h]
      obtain ⟨h1, h2, _⟩ := List.findIdx?_eq_some_iff_getElem.1 h
      have hf := List.getElem?_eq_getElem h1
      obtain ⟨hl, _⟩ := I.lt j _ hf
      refine ⟨by simp [I.len], fun s hs => ?_, fun i f hi => ?_, I.apart⟩
      · by_cases hsm : s < m
        · obtain ⟨j', f', e1, e2, e3, e4⟩ := I.has s hsm
          exact ⟨j', f', (getElem?_snoc _ _ _ _).2 (.inl e1), e2, e3, e4⟩
        · have : s = m := by omega
          subst this
          exact ⟨j, _, (getElem?_snoc _ _ _ _).2 (.inr ⟨I.len.symm, rfl⟩), hf, by omega, h2⟩
      · obtain ⟨e1, e2⟩ := I.lt i f hi
        exact ⟨by omega, (getElem?_snoc _ _ _ _).2 (.inl e2)⟩
    | none =>
      rw [grp_new al m h]
      rw [List.findIdx?_eq_none_iff] at h
      refine ⟨by simp [I.len], fun s hs => ?_, fun i f hi => ?_, fun i j f g hij hi hj => ?_⟩
      · by_cases hsm : s < m
        · obtain ⟨j', f', e1, e2, e3, e4⟩ := I.has s hsm
          exact ⟨j', f', (getElem?_snoc _ _ _ _).2 (.inl e1), (getElem?_snoc _ _ _ _).2 (.inl e2), e3, e4⟩
        · have : s = m := by omega
          subst this
          exact ⟨_, s, (getElem?_snoc _ _ _ _).2 (.inr ⟨I.len.symm, rfl⟩), (getElem?_snoc _ _ _ _).2 (.inr ⟨rfl, rfl⟩), Nat.le_refl _, e.refl s (by omega)⟩
      · rcases (getElem?_snoc _ _ _ _).1 hi with hi | ⟨rfl, rfl⟩
        · obtain ⟨e1, e2⟩ := I.lt i f hi
          exact ⟨by omega, (getElem?_snoc _ _ _ _).2 (.inl e2)⟩
        · exact ⟨by omega, (getElem?_snoc _ _ _ _).2 (.inr ⟨I.len.symm, rfl⟩)⟩
      · rcases (getElem?_snoc _ _ _ _).1 hj with hj | ⟨rfl, rfl⟩
        · rcases (getElem?_snoc _ _ _ _).1 hi with hi | ⟨rfl, rfl⟩
          · exact I.apart i j f g hij hi hj
          · have := (List.getElem?_eq_some_iff.1 hj).1; omega
        · rcases (getElem?_snoc _ _ _ _).1 hi with hi | ⟨h5, _⟩
          · exact ⟨(I.lt i f hi).1, by simpa using h f (List.mem_of_getElem? hi)⟩
          · omega
/-- two states are of one group just if they are alike -/
theorem grp_iff {al : Nat → Nat → Bool} {n : Nat} (e : Eqv n al) (a b : Nat) (ha : a < n) (hb : b < n) : (grp al n).1[a]? = (grp al n).1[b]? ↔ al a b = true := by
  have I := inv_grp e n (Nat.le_refl _)
  obtain ⟨j1, f1, a1, a2, a3, a4⟩ := I.has a ha
  obtain ⟨j2, f2, b1, b2, b3, b4⟩ := I.has b hb
  rw [a1, b1]
  constructor
  · intro h
    obtain rfl : j1 = j2 := Option.some.inj h
    obtain rfl : f1 = f2 := Option.some.inj (a2.symm.trans b2)
    exact e.trans a f1 b ha (by omega) hb (e.symm f1 a (by omega) ha a4) b4
  · intro h
    have h12 : al f1 f2 = true := e.trans f1 b f2 (by omega) hb (by omega) (e.trans f1 a b (by omega) ha hb a4 h) (e.symm f2 b (by omega) hb b4)
    congr 1
    rcases Nat.lt_trichotomy j1 j2 with hj | hj | hj
    · have := (I.apart j1 j2 f1 f2 hj a2 b2).2; rw [h12] at this; cases this
    · exact hj
    · have := (I.apart j2 j1 f2 f1 hj b2 a2).2; rw [e.symm f1 f2 (by omega) (by omega) h12] at this; cases this
theorem grp_congr {al al' : Nat → Nat → Bool} {n : Nat} (h : ∀ a b, a < n → b < n → al a b = al' a b) (hlt : ∀ m, m ≤ n → ∀ f, f ∈ (grp al m).2 → f < m) : ∀ m, m ≤ n → grp al m = grp al' m := by
  intro m
  induction m with
  | zero => exact fun _ => rfl
  | succ m ih =>
    intro hm
    have e : ((grp al m).2.findIdx? fun f => al f m) = ((grp al m).2.findIdx? fun f => al' f m) := by
      have key : ∀ l : List Nat, (∀ f, f ∈ l → f < m) → (l.findIdx? fun f => al f m) = (l.findIdx? fun f => al' f m) := by
        intro l hl
        induction l with
        | nil => rfl
        | cons x r ihr => rw [List.findIdx?_cons, List.findIdx?_cons, h x m (by have := hl x (by simp); omega) (by omega), ihr (fun f hf => hl f (by simp [hf]))]
      exact key _ (hlt m (by omega))
    rw [grp, grp, ← ih (by omega)]
    unfold grpStep
    rw [e]
theorem GInv.mem_lt {al : Nat → Nat → Bool} {m : Nat} {of firsts : List Nat} (I : GInv al m of firsts) (f : Nat) (h : f ∈ firsts) : f < m := by
  obtain ⟨j, hj⟩ := List.getElem?_of_mem h
  exact (I.lt j f hj).1
theorem grp_same {al al' : Nat → Nat → Bool} {n : Nat} (e : Eqv n al) (h : ∀ a b, a < n → b < n → (al a b = true ↔ al' a b = true)) : grp al n = grp al' n :=
  grp_congr (fun a b ha hb => Bool.eq_iff_iff.2 (h a b ha hb)) (fun m hm f hf => (inv_grp e m hm).mem_lt f hf) n (Nat.le_refl _)
/-- how many of the first n are so -/
def cnt (p : Nat → Bool) : Nat → Nat
  | 0 => 0
  | m + 1 => cnt p m + (p m).toNat
theorem cnt_le {p q : Nat → Bool} : ∀ n, (∀ s, s < n → p s = true → q s = true) → cnt p n ≤ cnt q n
  | 0, _ => Nat.le_refl _
  | n + 1, h => by
    have := cnt_le n (fun s hs => h s (by omega))
    have h2 := h n (by omega)
    simp only [cnt]
    cases hp : p n with
    | false => simp; omega
    | true => rw [h2 hp]; simp; omega
theorem cnt_eq {p q : Nat → Bool} : ∀ n, (∀ s, s < n → p s = true → q s = true) → cnt p n = cnt q n → ∀ s, s < n → p s = q s
  | 0, _, _, s, hs => by omega
  | n + 1, h, he, s, hs => by
    have h1 := cnt_le n (fun s hs => h s (by omega))
    have h2 := h n (by omega)
    simp only [cnt] at he
    have hpq : p n = q n ∧ cnt p n = cnt q n := by
      cases hp : p n with
      | false =>
        cases hq : q n with
        | false => rw [hp, hq] at he; exact ⟨rfl, by simpa using he⟩
        | true => rw [hp, hq] at he; simp at he; omega
      | true => rw [hp, h2 hp] at he; exact ⟨(h2 hp).symm, by simpa using he⟩
    by_cases hsn : s = n
    · rw [hsn]; exact hpq.1
    · exact cnt_eq n (fun s hs => h s (by omega)) hpq.2 s (by omega)
/-- none ahead is alike -/
def isFirst (al : Nat → Nat → Bool) (s : Nat) : Bool := (List.range s).all fun r => !al r s
theorem isFirst_iff (al : Nat → Nat → Bool) (s : Nat) : isFirst al s = true ↔ ∀ r, r < s → al r s = false := by
  rw [isFirst, List.all_eq_true]
  constructor
  · intro h r hr; simpa using h r (List.mem_range.2 hr)
  · intro h r hr; simpa using h r (List.mem_range.1 hr)
theorem firsts_cnt {al : Nat → Nat → Bool} {n : Nat} (e : Eqv n al) : ∀ m, m ≤ n → (grp al m).2.length = cnt (isFirst al) m := by
  intro m
  induction m with
  | zero => exact fun _ => rfl
  | succ m ih =>
    intro hm
    have I := inv_grp e m (by omega)
    have ih := ih (by omega)
    cases h : ((grp al m).2.findIdx? fun f => al f m) with
    | some j =>
      rw [grp_hit al m j h, cnt]
      obtain ⟨h1, h2, _⟩ := List.findIdx?_eq_some_iff_getElem.1 h
      have hl := (I.lt j _ (List.getElem?_eq_getElem h1)).1
      have : isFirst al m = false := by
        cases hf : isFirst al m with
        | false => rfl
        | true =>
          have := (isFirst_iff al m).1 hf _ hl
          rw [h2] at this; cases this
      rw [this]; simpa using ih
    | none =>
      rw [grp_new al m h, cnt]
      rw [List.findIdx?_eq_none_iff] at h
      have : isFirst al m = true := by
        rw [isFirst_iff]
        intro r hr
        cases hb : al r m with
        | false => rfl
        | true =>
          obtain ⟨j, f, _, e2, e3, e4⟩ := I.has r hr
          have h5 := e.trans f r m (by omega) (by omega) (by omega) e4 hb
          have h6 := h f (List.mem_of_getElem? e2)
          rw [h5] at h6; simp at h6
      rw [this]; simp [ih]
/-- a finer grouping of as many groups is the same one -/
theorem grp_stop {al al' : Nat → Nat → Bool} {n : Nat} (e : Eqv n al) (e' : Eqv n al') (hf : ∀ a b, a < n → b < n → al' a b = true → al a b = true) (hc : (grp al' n).2.length = (grp al n).2.length) (a b : Nat) (ha : a < n) (hb : b < n) (h : al a b = true) : al' a b = true := by
  rw [firsts_cnt e' n (Nat.le_refl _), firsts_cnt e n (Nat.le_refl _)] at hc
  have key := cnt_eq n (p := isFirst al) (q := isFirst al') (fun s hs hp => (isFirst_iff al' s).2 fun r hr => by
    cases hb : al' r s with
    | false => rfl
    | true => have := (isFirst_iff al s).1 hp r hr; rw [hf r s (by omega) hs hb] at this; cases this) hc.symm
  have I' := inv_grp e' n (Nat.le_refl _)
  have first : ∀ s, s < n → ∃ f, f ≤ s ∧ al' f s = true ∧ isFirst al f = true := by
    intro s hs
    obtain ⟨j, f, _, a2, a3, a4⟩ := I'.has s hs
    refine ⟨f, a3, a4, ?_⟩
    rw [key f (by omega), isFirst_iff]
    intro r hr
    cases hb : al' r f with
    | false => rfl
    | true =>
      obtain ⟨j2, f2, _, b2, b3, b4⟩ := I'.has r (by omega)
      have h5 := e'.trans f2 r f (by omega) (by omega) (by omega) b4 hb
      rcases Nat.lt_trichotomy j2 j with hj | hj | hj
      · have := (I'.apart j2 j f2 f hj b2 a2).2; rw [h5] at this; cases this
      · subst hj; rw [a2] at b2; cases b2; omega
      · have := (I'.apart j j2 f f2 hj a2 b2).1; omega
  obtain ⟨f1, c1, c2, c3⟩ := first a ha
  obtain ⟨f2, d1, d2, d3⟩ := first b hb
  have h12 : al f1 f2 = true := e.trans f1 b f2 (by omega) hb (by omega) (e.trans f1 a b (by omega) ha hb (hf f1 a (by omega) ha c2) h) (e.symm f2 b (by omega) hb (hf f2 b (by omega) hb d2))
  have hff : f1 = f2 := by
    rcases Nat.lt_trichotomy f1 f2 with hj | hj | hj
    · have := (isFirst_iff al f2).1 d3 f1 hj; rw [h12] at this; cases this
    · exact hj
    · have := (isFirst_iff al f1).1 c3 f2 hj; rw [e.symm f1 f2 (by omega) (by omega) h12] at this; cases this
  subst hff
  exact e'.trans a f1 b ha (by omega) hb (e'.symm f1 a (by omega) ha c2) d2
theorem eqv_eqB (t : Tb) (d : Nat) : Eqv t.n (eqB t d) := ⟨fun a _ => eqB_refl t d a, fun a b _ _ => eqB_symm t d a b, fun a b c _ _ _ => eqB_trans t d a b c⟩
theorem firsts_le {al : Nat → Nat → Bool} : ∀ n, (grp al n).2.length ≤ n
  | 0 => Nat.le_refl _
  | n + 1 => by
    have := firsts_le (al := al) n
    cases h : ((grp al n).2.findIdx? fun f => al f n) with
    | some j => rw [grp_hit al n j h]; simp only; omega
    | none => rw [grp_new al n h]; simp; omega
/-- two states of one block lead into the same blocks -/
def lead (t : Tb) (of : List Nat) (a b : Nat) : Bool := decide (of.getD a 0 = of.getD b 0) && (List.range t.k).all fun i => decide (of.getD (t.nx a i) 0 = of.getD (t.nx b i) 0)
theorem getD_iff {of : List Nat} {n : Nat} (h : of.length = n) (a b : Nat) (ha : a < n) (hb : b < n) : of.getD a 0 = of.getD b 0 ↔ of[a]? = of[b]? := by
  rw [List.getD_eq_getElem?_getD, List.getD_eq_getElem?_getD, List.getElem?_eq_getElem (by omega), List.getElem?_eq_getElem (by omega)]
  simp
theorem lead_iff {t : Tb} (ok : t.Ok) (d a b : Nat) (hd : 1 ≤ d) (ha : a < t.n) (hb : b < t.n) : lead t (grp (eqB t d) t.n).1 a b = true ↔ eqB t (d + 1) a b = true := by
  have hl := (inv_grp (eqv_eqB t d) t.n (Nat.le_refl _)).len
  rw [lead, Bool.and_eq_true, decide_eq_true_eq, getD_iff hl a b ha hb, grp_iff (eqv_eqB t d) a b ha hb, List.all_eq_true, eqB_succ]
  constructor
  · rintro ⟨h1, h2⟩ i hi
    obtain ⟨e, rfl⟩ : ∃ e, d = e + 1 := ⟨d - 1, by omega⟩
    have h3 := h2 i (List.mem_range.2 hi)
    rw [decide_eq_true_eq, getD_iff hl _ _ (ok a ha i hi) (ok b hb i hi), grp_iff (eqv_eqB t (e + 1)) _ _ (ok a ha i hi) (ok b hb i hi)] at h3
    exact ⟨((eqB_succ t e a b).1 h1 i hi).1, h3⟩
  · intro h
    refine ⟨eqB_less t d a b ((eqB_succ t d a b).2 h), fun i hi => ?_⟩
    have hi := List.mem_range.1 hi
    rw [decide_eq_true_eq, getD_iff hl _ _ (ok a ha i hi) (ok b hb i hi), grp_iff (eqv_eqB t d) _ _ (ok a ha i hi) (ok b hb i hi)]
    exact (h i hi).2
/-- one round of grouping more -/
theorem grp_lead {t : Tb} (ok : t.Ok) (d : Nat) (hd : 1 ≤ d) : grp (lead t (grp (eqB t d) t.n).1) t.n = grp (eqB t (d + 1)) t.n :=
  (grp_same (eqv_eqB t (d + 1)) fun a b ha hb => (lead_iff ok d a b hd ha hb).symm).symm
/-- as many groups as ahead: nothing is parted any more -/
theorem grp_stable {t : Tb} (ok : t.Ok) (d : Nat) (h : (grp (eqB t (d + 1)) t.n).2.length = (grp (eqB t d) t.n).2.length) : Stable t d :=
  stable_of ok d fun a b ha hb hab => grp_stop (eqv_eqB t d) (eqv_eqB t (d + 1)) (fun a b _ _ => eqB_less t d a b) h a b ha hb hab
theorem grp_more {t : Tb} (d : Nat) : (grp (eqB t d) t.n).2.length ≤ (grp (eqB t (d + 1)) t.n).2.length := by
  rw [firsts_cnt (eqv_eqB t d) _ (Nat.le_refl _), firsts_cnt (eqv_eqB t (d + 1)) _ (Nat.le_refl _)]
  refine cnt_le _ fun s hs hp => (isFirst_iff _ s).2 fun r hr => ?_
  cases hb : eqB t (d + 1) r s with
  | false => rfl
  | true => have := (isFirst_iff _ s).1 hp r hr; rw [eqB_less t d r s hb] at this; cases this
/-- whatever rounds it took, the groups are the same -/
theorem grp_stable_eq {t : Tb} (d e : Nat) (hd : Stable t d) (he : Stable t e) : grp (eqB t d) t.n = grp (eqB t e) t.n :=
  grp_same (eqv_eqB t d) fun a b ha hb => ⟨fun h => hd a b ha hb h e, fun h => he a b ha hb h d⟩
end Bk
end Go.Proofs.YtdeijfkahhgojaaDoor
