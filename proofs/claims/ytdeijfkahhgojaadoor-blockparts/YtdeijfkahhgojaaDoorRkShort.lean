/-
  Plain mathematics of chapter 9: what is found by going on from pairs is the least that tells two states apart, and so is what the document's rounds tell. Nothing of the program is named here.
-/
import Derived.Test.YtdeijfkahhgojaaDoorBkBfs
import Derived.Test.YtdeijfkahhgojaaDoorRkApart
namespace Go.Proofs.YtdeijfkahhgojaaDoor
namespace Bk
/-- of two lists of inputs, the last ones first: is the one shorter, or of like length and less? -/
def SLr : List Nat → List Nat → Prop
  | [], [] => False
  | [], _ :: _ => True
  | _ :: _, [] => False
  | x :: a, y :: b => SLr a b ∨ (a = b ∧ x < y)
theorem slr_trans : ∀ a b c, SLr a b → SLr b c → SLr a c
  | [], [], _, h, _ => h.elim
  | [], _ :: _, [], _, h => h.elim
  | [], _ :: _, _ :: _, _, _ => trivial
  | _ :: _, [], _, h, _ => h.elim
  | _ :: _, _ :: _, [], _, h => h.elim
  | x :: a, y :: b, z :: c, h1, h2 => by
    rcases h1 with h1 | ⟨rfl, h1⟩
    · rcases h2 with h2 | ⟨rfl, h2⟩
      · exact .inl (slr_trans a b c h1 h2)
      · exact .inl h1
    · rcases h2 with h2 | ⟨rfl, h2⟩
      · exact .inl h2
      · exact .inr ⟨rfl, by omega⟩
theorem slr_cons (b : Nat) : ∀ a, SLr a (b :: a)
  | [] => trivial
  | x :: a => .inl (slr_cons x a)
def SLe (a b : List Nat) : Prop := a = b ∨ SLr a b
theorem SLe.trans {a b c : List Nat} (h : SLe a b) (k : SLe b c) : SLe a c := by
  rcases h with rfl | h
  · exact k
  · rcases k with rfl | k
    · exact .inr h
    · exact .inr (slr_trans _ _ _ h k)
theorem sle_slr {a b c : List Nat} (h : SLe a b) (k : SLr b c) : SLr a c := by
  rcases h with rfl | h
  · exact k
  · exact slr_trans _ _ _ h k
theorem sle_cons {a b : List Nat} (h : SLe a b) {x y : Nat} (hxy : x ≤ y) : SLe (x :: a) (y :: b) := by
  rcases h with rfl | h
  · by_cases e : x = y
    · subst e; exact .inl rfl
    · exact .inr (.inr ⟨rfl, by omega⟩)
  · exact .inr (.inl h)
/-- a list told from its end -/
def rv (l : List Nat) : List Nat := l.reverse
theorem rv_snoc (l : List Nat) (x : Nat) : rv (l ++ [x]) = x :: rv l := by simp [rv]
theorem slr_len : ∀ a b, SLr a b → a.length ≤ b.length
  | [], _, _ => Nat.zero_le _
  | _ :: _, [], h => h.elim
  | x :: a, y :: b, h => by
    rcases h with h | ⟨rfl, _⟩
    · have := slr_len a b h; simp; omega
    · simp
section
variable {t : Tb} {a b K J : Nat} {M : List Pp}
/-- who is met ahead is met by less -/
theorem path_ord (h : PInv t a b M K J) : ∀ j' j, j < j' → j' < M.length → SLr (rv (pathTo M j)) (rv (pathTo M j')) := by
  intro j'
  induction j' using Nat.strongRecOn with
  | ind j' ih =>
    intro j hj hl
    have hm' := List.getElem?_eq_getElem hl
    obtain ⟨p', f1, f2, f3⟩ := pathTo_step h j' _ (by omega) hm'
    rw [f3, rv_snoc]
    by_cases h0 : j = 0
    · subst h0
      rw [pathTo_zero]
      exact trivial
    · have hm := List.getElem?_eq_getElem (show j < M.length by omega)
      obtain ⟨p, g1, g2, g3⟩ := pathTo_step h j _ (by omega) hm
      rw [g3, rv_snoc]
      rcases h.ord j j' _ _ (by omega) hj hm hm' with h1 | ⟨h1, h2⟩
      · exact .inl (ih p' (by omega) p (by omega) (by omega))
      · have : p = p' := by omega
        subst this
        exact .inr ⟨rfl, h2⟩
theorem path_ord_le (h : PInv t a b M K J) (j j' : Nat) (hj : j ≤ j') (hl : j' < M.length) : SLe (rv (pathTo M j)) (rv (pathTo M j')) := by
  by_cases e : j = j'
  · subst e; exact .inl rfl
  · exact .inr (path_ord h j' j (by omega) hl)
/-- a pair that is met: its path is no greater than what led to it -/
theorem by_path (h : PInv t a b M K J) {x y p i : Nat} (hs : SeenBy M x y p i) (hp : p < M.length) : ∃ (j : Nat) (m : Pp), M[j]? = some m ∧ ((m.a = x ∧ m.b = y) ∨ (m.a = y ∧ m.b = x)) ∧ SLe (rv (pathTo M j)) (i :: rv (pathTo M p)) := by
  obtain ⟨j, m, h1, h2, h3⟩ := hs
  refine ⟨j, m, h1, h2, ?_⟩
  by_cases h0 : j = 0
  · subst h0
    rw [pathTo_zero]
    exact .inr trivial
  · obtain ⟨q, g1, g2, g3⟩ := pathTo_step h j m (by omega) h1
    rw [g3, rv_snoc]
    rcases h3 with h3 | h3 | ⟨h3, h4⟩
    · exact absurd h3 h0
    · exact .inr (.inl (path_ord h p q (by omega) hp))
    · have : q = p := by omega
      subst this
      exact sle_cons (.inl rfl) h4
/-- where words lead, in terms of what was met -/
def Hit (t : Tb) (a b : Nat) (M : List Pp) (K : Nat) (w : List Nat) : Prop :=
  goes t a w = goes t b w ∨ (∃ (j : Nat) (m : Pp), j ≤ K ∧ M[j]? = some m ∧ ((m.a = goes t a w ∧ m.b = goes t b w) ∨ (m.a = goes t b w ∧ m.b = goes t a w)) ∧ SLe (rv (pathTo M j)) (rv w)) ∨ SLr (rv (pathTo M K)) (rv w)
theorem hit_all (h : PInv t a b M K 0) (hK : K < M.length) : ∀ w : List Nat, (∀ i, i ∈ w → i < t.k) → Hit t a b M K w := by
  intro w
  generalize hn : w.length = n
  induction n generalizing w with
  | zero =>
    intro _
    have : w = [] := List.length_eq_zero_iff.1 hn
    subst this
    exact .inr (.inl ⟨0, _, Nat.zero_le _, h.root, .inl ⟨rfl, rfl⟩, .inl rfl⟩)
  | succ n ih =>
    intro hw
    rcases List.eq_nil_or_concat w with rfl | ⟨v, x, rfl⟩
    · simp at hn
    · rw [List.concat_eq_append] at *
      have hx : x < t.k := hw x (by simp)
      have hv := ih v (by simp at hn; exact hn) (fun i hi => hw i (by simp [hi]))
      unfold Hit at hv ⊢
      rw [goes_snoc, goes_snoc, rv_snoc]
      rcases hv with hv | ⟨j, m, hjK, hm, hab, hle⟩ | hv
      · exact .inl (by rw [hv])
      · by_cases hjk : j = K
        · subst hjk
          exact .inr (.inr (sle_slr hle (slr_cons _ _)))
        · have hs := h.soon j m (by omega) hm x hx
          have hpj : j < M.length := by omega
          have hs2 : t.nx (goes t a v) x = t.nx (goes t b v) x ∨ SeenBy M (t.nx (goes t a v) x) (t.nx (goes t b v) x) j x := by
            rcases hab with ⟨e1, e2⟩ | ⟨e1, e2⟩
            · rw [e1, e2] at hs; exact hs
            · rw [e1, e2] at hs
              rcases hs with hs | ⟨j', m', g1, g2, g3⟩
              · exact .inl hs.symm
              · exact .inr ⟨j', m', g1, g2.symm, g3⟩
          rcases hs2 with hs2 | hs2
          · exact .inl hs2
          · obtain ⟨j', m', g1, g2, g3⟩ := by_path h hs2 hpj
            have g4 : SLe (rv (pathTo M j')) (x :: rv v) := g3.trans (sle_cons hle (Nat.le_refl _))
            by_cases hj' : j' ≤ K
            · exact .inr (.inl ⟨j', m', hj', g1, g2, g4⟩)
            · have hl := (List.getElem?_eq_some_iff.1 g1).1
              have h5 := path_ord h j' K (by omega) hl
              refine .inr (.inr ?_)
              rcases g4 with g4 | g4
              · rw [← g4]; exact h5
              · exact slr_trans _ _ _ h5 g4
      · exact .inr (.inr (slr_trans _ _ _ hv (slr_cons _ _)))
end
/-- what is found is no greater than any inputs that tell the two apart -/
theorem found_least {t : Tb} {a b K i : Nat} {M : List Pp} {m : Pp} (h : Found t a b M K i m) : ∀ v : List Nat, (∀ j, j ∈ v → j < t.k) → tell t a v ≠ tell t b v → SLe (rv (pathTo M K ++ [i])) (rv v) := by
  intro v
  generalize hn : v.length = n
  induction n generalizing v with
  | zero =>
    intro _ hne
    have : v = [] := List.length_eq_zero_iff.1 hn
    subst this
    exact absurd rfl hne
  | succ n ih =>
    intro hv hne
    rcases List.eq_nil_or_concat v with rfl | ⟨w, x, rfl⟩
    · simp at hn
    · rw [List.concat_eq_append] at *
      have hx : x < t.k := hv x (by simp)
      have hw : ∀ j, j ∈ w → j < t.k := fun j hj => hv j (by simp [hj])
      rw [rv_snoc, rv_snoc]
      by_cases he : tell t a w = tell t b w
      · have hlast : t.tl (goes t a w) x ≠ t.tl (goes t b w) x := fun e => hne (by rw [tell_snoc, tell_snoc, he, e])
        have hK := (List.getElem?_eq_some_iff.1 h.here).1
        rcases hit_all h.inv hK w hw with h1 | ⟨j, m', h1, h2, h3, h4⟩ | h1
        · exact absurd (by rw [h1]) hlast
        · by_cases hjK : j = K
          · subst hjK
            obtain rfl : m' = m := Option.some.inj (h2.symm.trans h.here)
            have hix : i ≤ x := by
              refine Nat.le_of_not_lt fun hlt => hlast ?_
              have := h.first x hlt
              rcases h3 with ⟨e1, e2⟩ | ⟨e1, e2⟩
              · rw [← e1, ← e2]; exact this
              · rw [← e1, ← e2]; exact this.symm
            exact sle_cons h4 hix
          · have := h.inv.told j m' (by omega) h2 x hx
            rcases h3 with ⟨e1, e2⟩ | ⟨e1, e2⟩
            · rw [e1, e2] at this; exact absurd this hlast
            · rw [e1, e2] at this; exact absurd this.symm hlast
        · exact .inr (.inl h1)
      · have h1 := ih w (by simp at hn; exact hn) hw he
        rw [rv_snoc] at h1
        exact h1.trans (.inr (slr_cons _ _))
/-- less, from the first one on -/
def lx : List Nat → List Nat → Prop
  | x :: a, y :: b => x < y ∨ (x = y ∧ lx a b)
  | _, _ => False
theorem lx_asym : ∀ a b, lx a b → lx b a → False
  | [], _, h, _ => by simp [lx] at h
  | _ :: _, [], h, _ => by simp [lx] at h
  | x :: a, y :: b, h, k => by
    simp only [lx] at h k
    rcases h with h | ⟨rfl, h⟩
    · rcases k with k | ⟨rfl, _⟩ <;> omega
    · rcases k with k | ⟨_, k⟩
      · omega
      · exact lx_asym a b h k
theorem lx_irrefl (a : List Nat) (h : lx a a) : False := lx_asym a a h h
theorem lx_snoc (x y : Nat) : ∀ a b, lx a b → lx (a ++ [x]) (b ++ [y])
  | [], _, h => by simp [lx] at h
  | _ :: _, [], h => by simp [lx] at h
  | u :: a, v :: b, h => by
    simp only [lx, List.cons_append] at h ⊢
    exact h.imp id fun ⟨e, h⟩ => ⟨e, lx_snoc x y a b h⟩
theorem lx_last (x y : Nat) (h : x < y) : ∀ a, lx (a ++ [x]) (a ++ [y])
  | [] => .inl h
  | u :: a => by
    simp only [lx, List.cons_append]
    exact .inr ⟨trivial, lx_last x y h a⟩
theorem slr_lx : ∀ a b, a.length = b.length → SLr a b → lx a.reverse b.reverse
  | [], [], _, h => h.elim
  | [], _ :: _, hl, _ => by simp at hl
  | _ :: _, [], hl, _ => by simp at hl
  | x :: a, y :: b, hl, h => by
    rw [List.reverse_cons, List.reverse_cons]
    rcases h with h | ⟨rfl, h⟩
    · exact lx_snoc x y _ _ (slr_lx a b (by simpa using hl) h)
    · exact lx_last x y h _
/-- the round in which two states are parted -/
theorem lv_is (t : Tb) (D e a b : Nat) (he : e + 1 ≤ D) (h1 : eqB t (e + 1) a b = false) (h2 : eqB t e a b = true) : lv t D a b = e + 1 := by
  have hp : 0 < lv t D a b := by
    rcases Nat.eq_zero_or_pos (lv t D a b) with h | h
    · have := eqB_le t a b he ((lv_zero t D a b).1 h)
      rw [h1] at this; cases this
    · exact h
  obtain ⟨_, g2, g3⟩ := lv_val t D a b hp
  rcases Nat.lt_trichotomy (lv t D a b) (e + 1) with h | h | h
  · have := eqB_le t a b (show lv t D a b ≤ e by omega) h2
    rw [g2] at this; cases this
  · exact h
  · have := eqB_le t a b (show e + 1 ≤ lv t D a b - 1 by omega) g3
    rw [h1] at this; cases this
/-- an input that leads on, of two states that are parted in so many -/
def hitB (t : Tb) (D d a b i : Nat) : Bool := if d = 1 then decide (t.tl a i ≠ t.tl b i) else decide (lv t D (t.nx a i) (t.nx b i) = d - 1)
theorem hit_ex (t : Tb) (D d a b : Nat) (h : lv t D a b = d + 1) : ∃ i, i < t.k ∧ hitB t D (d + 1) a b i = true := by
  obtain ⟨g1, g2, g3⟩ := lv_val t D a b (by omega)
  rw [h] at g1 g2 g3
  have g3 : eqB t d a b = true := g3
  by_cases hex : ∃ i, i < t.k ∧ ¬ (t.tl a i = t.tl b i ∧ eqB t d (t.nx a i) (t.nx b i) = true)
  · obtain ⟨i, hi, hne⟩ := hex
    refine ⟨i, hi, ?_⟩
    unfold hitB
    cases d with
    | zero => simp [eqB] at hne; simpa using hne
    | succ e =>
      rw [if_neg (by omega)]
      obtain ⟨k1, k2⟩ := (eqB_succ t e a b).1 g3 i hi
      have k3 : eqB t (e + 1) (t.nx a i) (t.nx b i) = false := by
        cases hb : eqB t (e + 1) (t.nx a i) (t.nx b i) with
        | false => rfl
        | true => exact absurd ⟨k1, hb⟩ hne
      simp only [decide_eq_true_eq]
      exact lv_is t D e _ _ (by omega) k3 k2
  · have : eqB t (d + 1) a b = true := (eqB_succ t d a b).2 fun i hi => by
      by_cases h2 : t.tl a i = t.tl b i ∧ eqB t d (t.nx a i) (t.nx b i) = true
      · exact h2
      · exact absurd ⟨i, hi, h2⟩ hex
    rw [g2] at this; cases this
/-- the first such input -/
def fst (t : Tb) (D d a b : Nat) : Nat := ((List.range t.k).find? (hitB t D d a b)).getD 0
theorem fst_is (t : Tb) (D d a b i : Nat) (hi : i < t.k) (h : hitB t D d a b i = true) (hn : ∀ j, j < i → hitB t D d a b j = false) : fst t D d a b = i := by
  unfold fst
  have : (List.range t.k).find? (hitB t D d a b) = some i := by
    rw [List.find?_eq_some_iff_append]
    refine ⟨h, List.range i, (List.range' (i + 1) (t.k - (i + 1))), ?_, fun j hj => by rw [hn j (List.mem_range.1 hj)]; rfl⟩
    rw [List.range_eq_range', List.range_eq_range']
    have e : t.k = i + (1 + (t.k - (i + 1))) := by omega
    conv => lhs; rw [e]
    rw [← List.range'_append_1, Nat.zero_add, Nat.add_comm 1, List.range'_succ]
  rw [this]; rfl
/-- the document's inputs that part two states -/
def rp (t : Tb) (D : Nat) : Nat → Nat → Nat → List Nat
  | 0, _, _ => []
  | d + 1, a, b => fst t D (d + 1) a b :: rp t D d (t.nx a (fst t D (d + 1) a b)) (t.nx b (fst t D (d + 1) a b))
theorem fst_hit (t : Tb) (D d a b : Nat) (h : lv t D a b = d + 1) : fst t D (d + 1) a b < t.k ∧ hitB t D (d + 1) a b (fst t D (d + 1) a b) = true ∧ ∀ j, j < fst t D (d + 1) a b → hitB t D (d + 1) a b j = false := by
  obtain ⟨i0, hi0, h0⟩ := hit_ex t D d a b h
  have key : ∀ n i, i ≤ n → i < t.k → hitB t D (d + 1) a b i = true → ∃ j, j < t.k ∧ hitB t D (d + 1) a b j = true ∧ ∀ q, q < j → hitB t D (d + 1) a b q = false := by
    intro n
    induction n with
    | zero => exact fun i hi hk hh => ⟨i, hk, hh, fun q hq => by omega⟩
    | succ n ih =>
      intro i hi hk hh
      by_cases hex : ∃ q, q < i ∧ hitB t D (d + 1) a b q = true
      · obtain ⟨q, hq, hqh⟩ := hex
        exact ih q (by omega) (by omega) hqh
      · refine ⟨i, hk, hh, fun q hq => ?_⟩
        cases hb : hitB t D (d + 1) a b q with
        | false => rfl
        | true => exact absurd ⟨q, hq, hb⟩ hex
  obtain ⟨j, j1, j2, j3⟩ := key i0 i0 (Nat.le_refl _) hi0 h0
  rw [fst_is t D (d + 1) a b j j1 j2 j3]
  exact ⟨j1, j2, j3⟩
theorem hit_next (t : Tb) (D d a b i : Nat) (h : hitB t D (d + 1 + 1) a b i = true) : lv t D (t.nx a i) (t.nx b i) = d + 1 := by
  unfold hitB at h
  rw [if_neg (by omega)] at h
  simpa using h
theorem rp_len (t : Tb) (D : Nat) : ∀ d a b, (rp t D d a b).length = d
  | 0, _, _ => rfl
  | d + 1, a, b => by rw [rp, List.length_cons, rp_len t D d]
/-- they part the two states, and are the least of their length that do -/
theorem rp_least (t : Tb) (D : Nat) : ∀ d a b, lv t D a b = d + 1 → (∀ i, i ∈ rp t D (d + 1) a b → i < t.k) ∧ tell t a (rp t D (d + 1) a b) ≠ tell t b (rp t D (d + 1) a b) ∧ ∀ v : List Nat, v.length ≤ d + 1 → (∀ i, i ∈ v → i < t.k) → tell t a v ≠ tell t b v → v.length = d + 1 ∧ (rp t D (d + 1) a b = v ∨ lx (rp t D (d + 1) a b) v) := by
  intro d
  induction d with
  | zero =>
    intro a b h
    obtain ⟨f1, f2, f3⟩ := fst_hit t D 0 a b h
    generalize he : fst t D (0 + 1) a b = i at f1 f2 f3
    have hrp : rp t D (0 + 1) a b = [i] := by rw [rp, he, rp]
    rw [hrp]
    refine ⟨fun j hj => by simp at hj; omega, ?_, fun v hl hv hne => ?_⟩
    · simp [tell]
      simpa [hitB] using f2
    · match v, hl, hv, hne with
      | [], _, _, hne => exact absurd rfl hne
      | [j], _, hv, hne =>
        refine ⟨rfl, ?_⟩
        by_cases e : i = j
        · subst e; exact .inl rfl
        · refine .inr (.inl ?_)
          refine Nat.lt_of_le_of_ne (Nat.le_of_not_lt fun hlt => hne ?_) e
          have := f3 j hlt
          simp [hitB] at this
          simp [tell, this]
      | _ :: _ :: _, hl, _, _ => simp at hl
  | succ d ih =>
    intro a b h
    obtain ⟨f1, f2, f3⟩ := fst_hit t D (d + 1) a b h
    obtain ⟨g1, g2, g3⟩ := lv_val t D a b (by omega)
    rw [h] at g1 g2 g3
    have g3 : eqB t (d + 1) a b = true := g3
    generalize he : fst t D (d + 1 + 1) a b = i at f1 f2 f3
    have hrp : rp t D (d + 1 + 1) a b = i :: rp t D (d + 1) (t.nx a i) (t.nx b i) := by rw [rp, he]
    have hnx := hit_next t D d a b i f2
    obtain ⟨k1, k2, k3⟩ := ih (t.nx a i) (t.nx b i) hnx
    rw [hrp]
    refine ⟨fun j hj => ?_, ?_, fun v hl hv hne => ?_⟩
    · rcases List.mem_cons.1 hj with rfl | hj
      · exact f1
      · exact k1 j hj
    · simp only [tell]
      intro e
      exact k2 (List.cons.inj e).2
    · match v, hl, hv, hne with
      | [], _, _, hne => exact absurd rfl hne
      | j :: v, hl, hv, hne =>
        have hj : j < t.k := hv j (by simp)
        obtain ⟨e1, e2⟩ := (eqB_succ t d a b).1 g3 j hj
        have hne2 : tell t (t.nx a j) v ≠ tell t (t.nx b j) v := fun e => hne (by simp only [tell]; rw [e1, e])
        have hv2 : ∀ i, i ∈ v → i < t.k := fun i hi => hv i (by simp [hi])
        have hvl : v.length ≤ d + 1 := by simpa using hl
        have hfar : eqB t (d + 1) (t.nx a j) (t.nx b j) = false := by
          cases hb : eqB t (d + 1) (t.nx a j) (t.nx b j) with
          | false => rfl
          | true => exact absurd (eqB_tell t v _ _ (eqB_le t _ _ hvl hb) hv2) hne2
        have hlj := lv_is t D d (t.nx a j) (t.nx b j) (by omega) hfar e2
        have hij : i ≤ j := by
          refine Nat.le_of_not_lt fun hlt => ?_
          have := f3 j hlt
          unfold hitB at this
          rw [if_neg (by omega)] at this
          simp [hlj] at this
        obtain ⟨m1, _⟩ : v.length = d + 1 ∧ True := by
          refine ⟨?_, trivial⟩
          rcases Nat.lt_or_ge v.length (d + 1) with h1 | h1
          · exact absurd (eqB_tell t v _ _ (eqB_le t _ _ (by omega) e2) hv2) hne2
          · omega
        refine ⟨by simp [m1], ?_⟩
        by_cases e : i = j
        · subst e
          obtain ⟨_, k4⟩ := k3 v hvl hv2 hne2
          rcases k4 with k4 | k4
          · exact .inl (by rw [k4])
          · exact .inr (.inr ⟨rfl, k4⟩)
        · exact .inr (.inl (by omega))
/-- WHAT IS FOUND IS THE DOCUMENT'S -/
theorem part_is {t : Tb} {a b K i D : Nat} {M : List Pp} {m : Pp} (h : Found t a b M K i m) (hs : Stable t D) (ha : a < t.n) (hb : b < t.n) : 0 < lv t D a b ∧ rp t D (lv t D a b) a b = pathTo M K ++ [i] := by
  have hp : 0 < lv t D a b := by
    rcases Nat.eq_zero_or_pos (lv t D a b) with h0 | h0
    · exact absurd (hs a b ha hb ((lv_zero t D a b).1 h0)) h.apart
    · exact h0
  refine ⟨hp, ?_⟩
  obtain ⟨d, hd⟩ : ∃ d, lv t D a b = d + 1 := ⟨lv t D a b - 1, by omega⟩
  rw [hd]
  obtain ⟨g1, g2, g3⟩ := rp_least t D d a b hd
  have hq := rp_len t D (d + 1) a b
  generalize rp t D (d + 1) a b = q at *
  obtain ⟨f1, f2, f3, f4⟩ := h.parts
  have hu : tell t a (pathTo M K ++ [i]) ≠ tell t b (pathTo M K ++ [i]) := fun e => by
    rw [f2, f3, f1] at e
    have := List.append_cancel_left e
    exact h.ne (by simpa using this)
  have h1 := found_least h q g1 g2
  generalize pathTo M K ++ [i] = u at *
  have hlen : u.length ≤ q.length := by
    rcases h1 with h1 | h1
    · have := congrArg List.length h1; simp [rv] at this; omega
    · have := slr_len _ _ h1; simp [rv] at this; omega
  obtain ⟨hul, h2⟩ := g3 u (by omega) f4 hu
  rcases h2 with h2 | h2
  · exact h2
  · exfalso
    rcases h1 with h1 | h1
    · have e : u = q := by simpa [rv] using congrArg List.reverse h1
      subst e
      exact lx_irrefl _ h2
    · have h3 := slr_lx _ _ (by simp [rv]; omega) h1
      simp only [rv, List.reverse_reverse] at h3
      exact lx_asym _ _ h2 h3
theorem part_none {t : Tb} {a b D : Nat} (h : Alike t a b) : lv t D a b = 0 := (lv_zero t D a b).2 (h D)
end Bk
end Go.Proofs.YtdeijfkahhgojaaDoor
