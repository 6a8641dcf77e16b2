/-
  What package prop's search finds is the least: in plain words. The walk of package prop's search.
-/
import Derived.Test.YtgdmohombcgjbaaGreatDoorPrMathAll
import Derived.Test.YtgdmohombcgjbaaGreatDoorPrStAll
namespace Go.Proofs.YtgdmohombcgjbaaGreatDoor
section
namespace Pr
/-- of two lists of inputs, the last ones first: is the one shorter, or of like length and less? -/
def SLr : List Nat → List Nat → Prop
  | [], [] => False
  | [], _ :: _ => True
  | _ :: _, [] => False
  | x :: a, y :: b => SLr a b ∨ (a = b ∧ x < y)
theorem slr_irrefl : ∀ a, ¬ SLr a a
  | [], h => h
  | x :: a, h => by
    rcases h with h | ⟨_, h⟩
    · exact slr_irrefl a h
    · omega
theorem slr_trans : ∀ a b c, SLr a b → SLr b c → SLr a c
  | [], [], _, h, _ => h.elim
  | [], _ :: _, [], _, h => h.elim
  | [], _ :: _, _ :: _, _, _ => trivial
  | _ :: _, [], _, h, _ => h.elim
  | _ :: _, _ :: _, [], _, h => h.elim
  | x :: a, y :: b, z :: c, h1, h2 => by
    rcases h1 with h1 | ⟨rfl, h1⟩
    · rcases h2 with h2 | ⟨rfl, h2⟩
      · exact .inl (slr_trans a b c h1 h2)
      · exact .inl h1
    · rcases h2 with h2 | ⟨rfl, h2⟩
      · exact .inl h2
      · exact .inr ⟨rfl, by omega⟩
theorem slr_cons (b : Nat) : ∀ a, SLr a (b :: a)
  | [] => trivial
  | x :: a => .inl (slr_cons x a)
theorem slr_total : ∀ a b, a = b ∨ SLr a b ∨ SLr b a
  | [], [] => .inl rfl
  | [], _ :: _ => .inr (.inl trivial)
  | _ :: _, [] => .inr (.inr trivial)
  | x :: a, y :: b => by
    rcases slr_total a b with rfl | h | h
    · rcases Nat.lt_trichotomy x y with h | rfl | h
      · exact .inr (.inl (.inr ⟨rfl, h⟩))
      · exact .inl rfl
      · exact .inr (.inr (.inr ⟨rfl, h⟩))
    · exact .inr (.inl (.inl h))
    · exact .inr (.inr (.inl h))
theorem slr_of_le {a b c : List Nat} (h : a = b ∨ SLr a b) (h2 : SLr b c) : SLr a c := by
  rcases h with rfl | h
  · exact h2
  · exact slr_trans _ _ _ h h2
theorem le_slr {a b c : List Nat} (h : a = b ∨ SLr a b) (h2 : b = c ∨ SLr b c) : a = c ∨ SLr a c := by
  rcases h2 with rfl | h2
  · exact h
  · exact .inr (slr_of_le h h2)
/-- of two pairs: which is looked at first -/
def lt2 (x y : Nat × Nat) : Prop := x.1 < y.1 ∨ (x.1 = y.1 ∧ x.2 < y.2)
theorem lt2_irrefl (x : Nat × Nat) : ¬ lt2 x x := fun h => by unfold lt2 at h; omega
/-- in which order they were met: behind those that are looked at, up to input n of number k -/
structure Ord (next : Nat → List Nat) (wt : Nat × Nat → Nat → Nat) (most : Nat) (met : List (Nat × Nat)) (src : List ((Nat × Nat) × Nat)) (ks : List (Nat × Nat)) (k n : Nat) : Prop where
  len : ks.length = met.length
  src_ : ∀ (j a b : Nat), 0 < j → ks[j]? = some (a, b) → a < j ∧ ∃ f, met[a]? = some f ∧ src[j]? = some (f, b)
  mono : ∀ (j j' : Nat) x y, 0 < j → j < j' → ks[j]? = some x → ks[j']? = some y → lt2 x y
  low : ∀ (j : Nat) x, 0 < j → ks[j]? = some x → lt2 x (k, n)
  cov : ∀ (a b : Nat) f, lt2 (a, b) (k, n) → met[a]? = some f → b < (next f.1).length → wt f b ≤ most ∧ ∃ j, met[j]? = some (step next wt f b) ∧ (j = 0 ∨ ∃ x, ks[j]? = some x ∧ ¬ lt2 (a, b) x)
theorem Ord.start (next : Nat → List Nat) (wt : Nat × Nat → Nat → Nat) (most : Nat) (src : List ((Nat × Nat) × Nat)) : Ord next wt most [(0, 0)] src [(0, 0)] 0 0 :=
  have none_ : ∀ (j : Nat) x, 0 < j → ([(0, 0)] : List (Nat × Nat))[j]? ≠ some x := fun j x hj h => by
    rw [List.getElem?_eq_none (by simp; omega)] at h; cases h
  ⟨rfl, fun j a b hj h => (none_ j _ hj h).elim, fun j j' x y hj _ h _ => (none_ j _ hj h).elim, fun j x hj h => (none_ j _ hj h).elim, fun a b f h => by unfold lt2 at h; simp at h⟩
theorem Ord.pass {next : Nat → List Nat} {wt : Nat × Nat → Nat → Nat} {most : Nat} {met : List (Nat × Nat)} {src : List ((Nat × Nat) × Nat)} {ks : List (Nat × Nat)} {k n : Nat} {p : Nat × Nat} (h : Ord next wt most met src ks k n) (hp : met[k]? = some p) (hw : wt p n ≤ most) (hm : step next wt p n ∈ met) : Ord next wt most met src ks k (n + 1) := by
  refine ⟨h.len, h.src_, h.mono, fun j x hj hx => ?_, fun a b f hab hf hb => ?_⟩
  · have := h.low j x hj hx
    unfold lt2 at this ⊢
    dsimp only at this ⊢
    omega
  · by_cases e : lt2 (a, b) (k, n)
    · exact h.cov a b f e hf hb
    · have e2 : a = k ∧ b = n := by unfold lt2 at hab e; dsimp only at hab e; omega
      obtain ⟨rfl, rfl⟩ := e2
      rw [hp] at hf
      cases hf
      refine ⟨hw, ?_⟩
      obtain ⟨j, hj, he⟩ := List.getElem_of_mem hm
      refine ⟨j, by rw [List.getElem?_eq_getElem hj, he], ?_⟩
      by_cases h0 : j = 0
      · exact .inl h0
      · have hjk : j < ks.length := by rw [h.len]; exact hj
        refine .inr ⟨_, List.getElem?_eq_getElem hjk, fun hlt => ?_⟩
        have := h.low j _ (by omega) (List.getElem?_eq_getElem hjk)
        unfold lt2 at this hlt
        dsimp only at this hlt
        omega
theorem Ord.put {next : Nat → List Nat} {wt : Nat × Nat → Nat → Nat} {most : Nat} {met : List (Nat × Nat)} {src : List ((Nat × Nat) × Nat)} {ks : List (Nat × Nat)} {k n : Nat} {p : Nat × Nat} (h : Ord next wt most met src ks k n) (hs : src.length = met.length) (hp : met[k]? = some p) (hw : wt p n ≤ most) : Ord next wt most (met ++ [step next wt p n]) (src ++ [(p, n)]) (ks ++ [(k, n)]) k (n + 1) := by
  have hkl : k < met.length := (List.getElem?_eq_some_iff.1 hp).1
  have old : ∀ (j : Nat) x, (ks ++ [(k, n)])[j]? = some x → (j < met.length ∧ ks[j]? = some x) ∨ (j = met.length ∧ x = (k, n)) := fun j x hx => by
    by_cases hj : j < ks.length
    · rw [List.getElem?_append_left hj] at hx
      exact .inl ⟨by rw [← h.len]; exact hj, hx⟩
    · have hj2 := (List.getElem?_eq_some_iff.1 hx).1
      simp at hj2
      have e : j = ks.length := by omega
      subst e
      rw [List.getElem?_append_right (Nat.le_refl _)] at hx
      simp at hx
      exact .inr ⟨h.len, hx.symm⟩
  have hmk : ∀ (j : Nat) x, met[j]? = some x → (met ++ [step next wt p n])[j]? = some x := fun j x hx => by
    rw [List.getElem?_append_left (List.getElem?_eq_some_iff.1 hx).1]; exact hx
  refine ⟨by simp [h.len], ?_, ?_, ?_, ?_⟩
  · intro j a b hj hx
    rcases old j _ hx with ⟨hjl, hx⟩ | ⟨rfl, hx2⟩
    · obtain ⟨h1, f, h2, h3⟩ := h.src_ j a b hj hx
      exact ⟨h1, f, hmk _ _ h2, by rw [List.getElem?_append_left (by rw [hs]; exact hjl)]; exact h3⟩
    · simp only [Prod.mk.injEq] at hx2
      obtain ⟨rfl, rfl⟩ := hx2
      exact ⟨hkl, p, hmk _ _ hp, by rw [← hs, List.getElem?_append_right (Nat.le_refl _)]; simp⟩
  · intro j j' x y hj hjj hx hy
    rcases old j' _ hy with ⟨hjl, hy⟩ | ⟨rfl, rfl⟩
    · rcases old j _ hx with ⟨_, hx⟩ | ⟨rfl, _⟩
      · exact h.mono j j' x y hj hjj hx hy
      · omega
    · rcases old j _ hx with ⟨_, hx⟩ | ⟨rfl, _⟩
      · exact h.low j x hj hx
      · omega
  · intro j x hj hx
    rcases old j _ hx with ⟨_, hx⟩ | ⟨rfl, rfl⟩
    · have := h.low j x hj hx
      unfold lt2 at this ⊢
      dsimp only at this ⊢
      omega
    · unfold lt2
      dsimp only
      omega
  · intro a b f hab hf hb
    by_cases e : lt2 (a, b) (k, n)
    · have hal : a < met.length := by unfold lt2 at e; dsimp only at e; omega
      rw [List.getElem?_append_left hal] at hf
      obtain ⟨h1, j, h2, h3⟩ := h.cov a b f e hf hb
      refine ⟨h1, j, hmk _ _ h2, h3.imp id ?_⟩
      rintro ⟨x, hx, hn⟩
      exact ⟨x, by rw [List.getElem?_append_left (List.getElem?_eq_some_iff.1 hx).1]; exact hx, hn⟩
    · have e2 : a = k ∧ b = n := by unfold lt2 at hab e; dsimp only at hab e; omega
      obtain ⟨rfl, rfl⟩ := e2
      rw [List.getElem?_append_left hkl, hp] at hf
      cases hf
      exact ⟨hw, met.length, by simp, .inr ⟨(a, b), by rw [← h.len]; simp, lt2_irrefl _⟩⟩
theorem Ord.next {next : Nat → List Nat} {wt : Nat × Nat → Nat → Nat} {most : Nat} {met : List (Nat × Nat)} {src : List ((Nat × Nat) × Nat)} {ks : List (Nat × Nat)} {k : Nat} {p : Nat × Nat} (h : Ord next wt most met src ks k (next p.1).length) (hp : met[k]? = some p) : Ord next wt most met src ks (k + 1) 0 := by
  refine ⟨h.len, h.src_, h.mono, fun j x hj hx => ?_, fun a b f hab hf hb => ?_⟩
  · have := h.low j x hj hx
    unfold lt2 at this ⊢
    dsimp only at this ⊢
    omega
  · refine h.cov a b f ?_ hf hb
    by_cases e : a = k
    · subst e
      rw [hp] at hf
      cases hf
      exact .inr ⟨rfl, hb⟩
    · unfold lt2 at hab
      dsimp only at hab
      exact .inl (by show a < k; omega)
/-- each that is met has its way -/
theorem Ord.way {next : Nat → List Nat} {wt : Nat × Nat → Nat → Nat} {most : Nat} {met : List (Nat × Nat)} {src : List ((Nat × Nat) × Nat)} {ks : List (Nat × Nat)} {k n : Nat} (h : Ord next wt most met src ks k n) : ∀ (N j : Nat), j ≤ N → j < met.length → ∃ r, Tr met src j r
  | _, 0, _, _ => ⟨[], rfl⟩
  | 0, j + 1, hj, _ => by omega
  | N + 1, j + 1, hj, hl => by
    have hjk : j + 1 < ks.length := by rw [h.len]; exact hl
    obtain ⟨h1, f, h2, h3⟩ := h.src_ (j + 1) ks[j + 1].1 ks[j + 1].2 (by omega) (List.getElem?_eq_getElem hjk)
    obtain ⟨r, hr⟩ := h.way N ks[j + 1].1 (by omega) (by omega)
    exact ⟨ks[j + 1].2 :: r, by omega, _, f, h1, h2, h3, hr⟩
/-- one's way goes by what the order says -/
theorem Ord.tr {next : Nat → List Nat} {wt : Nat × Nat → Nat → Nat} {most : Nat} {met : List (Nat × Nat)} {src : List ((Nat × Nat) × Nat)} {ks : List (Nat × Nat)} {k n : Nat} (h : Ord next wt most met src ks k n) (hd : met.Nodup) (j : Nat) (r : List Nat) (hj : j < met.length) (hr : Tr met src j r) : (j = 0 ∧ r = []) ∨ ∃ a b q, 0 < j ∧ r = b :: q ∧ ks[j]? = some (a, b) ∧ a < j ∧ Tr met src a q := by
  cases r with
  | nil => exact .inl ⟨hr, rfl⟩
  | cons i q =>
    obtain ⟨h0, c, f, h1, h2, h3, h4⟩ := hr
    have hjk : j < ks.length := by rw [h.len]; exact hj
    obtain ⟨h5, g, h6, h7⟩ := h.src_ j ks[j].1 ks[j].2 h0 (List.getElem?_eq_getElem hjk)
    rw [h3] at h7
    simp only [Option.some.injEq, Prod.mk.injEq] at h7
    obtain ⟨rfl, rfl⟩ := h7
    have hca : c = ks[j].1 := by
      obtain ⟨l1, e1⟩ := List.getElem?_eq_some_iff.1 h2
      obtain ⟨l2, e2⟩ := List.getElem?_eq_some_iff.1 h6
      refine Classical.byContradiction fun hne => ?_
      rcases Nat.lt_or_gt_of_ne hne with hlt | hlt
      · exact (List.pairwise_iff_getElem.1 hd c _ l1 l2 hlt) (e1.trans e2.symm)
      · exact (List.pairwise_iff_getElem.1 hd _ c l2 l1 hlt) (e2.trans e1.symm)
    rw [hca] at h4
    exact .inr ⟨ks[j].1, ks[j].2, q, h0, rfl, List.getElem?_eq_getElem hjk, h5, h4⟩
/-- ways are in order, and there is one of each -/
theorem Ord.sorted {next : Nat → List Nat} {wt : Nat × Nat → Nat → Nat} {most : Nat} {met : List (Nat × Nat)} {src : List ((Nat × Nat) × Nat)} {ks : List (Nat × Nat)} {k n : Nat} (h : Ord next wt most met src ks k n) (hd : met.Nodup) : ∀ (N j j' : Nat) (r r' : List Nat), j' ≤ N → j ≤ j' → j' < met.length → Tr met src j r → Tr met src j' r' → (j = j' → r = r') ∧ (j < j' → SLr r r') := by
  intro N
  induction N with
  | zero =>
    intro j j' r r' h1 h2 h3 h4 h5
    refine ⟨fun _ => ?_, fun hlt => by omega⟩
    rcases h.tr hd j r (by omega) h4 with ⟨_, rfl⟩ | ⟨_, _, _, h6, _⟩
    · rcases h.tr hd j' r' h3 h5 with ⟨_, rfl⟩ | ⟨_, _, _, h6, _⟩
      · rfl
      · omega
    · omega
  | succ N ih =>
    intro j j' r r' h1 h2 h3 h4 h5
    rcases h.tr hd j r (by omega) h4 with ⟨rfl, rfl⟩ | ⟨a, b, q, g1, rfl, g2, g3, g4⟩
    · rcases h.tr hd j' r' h3 h5 with ⟨rfl, rfl⟩ | ⟨a', b', q', g1', rfl, g2', g3', g4'⟩
      · exact ⟨fun _ => rfl, fun hlt => by omega⟩
      · exact ⟨fun e => by omega, fun _ => trivial⟩
    · rcases h.tr hd j' r' h3 h5 with ⟨rfl, rfl⟩ | ⟨a', b', q', g1', rfl, g2', g3', g4'⟩
      · omega
      · refine ⟨fun e => ?_, fun hlt => ?_⟩
        · subst e
          rw [g2] at g2'
          simp only [Option.some.injEq, Prod.mk.injEq] at g2'
          obtain ⟨rfl, rfl⟩ := g2'
          rw [(ih a a q q' (by omega) (Nat.le_refl _) (by omega) g4 g4').1 rfl]
        · have hl := h.mono j j' _ _ g1 hlt g2 g2'
          rcases hl with hl | ⟨hl, hl2⟩
          · exact .inl ((ih a a' q q' (by omega) (Nat.le_of_lt hl) (by omega) g4 g4').2 hl)
          · dsimp only at hl hl2
            subst hl
            exact .inr ⟨(ih a a q q' (by omega) (Nat.le_refl _) (by omega) g4 g4').1 rfl, hl2⟩
/-- what comes ahead of where one looks is met, by a way that is no greater -/
theorem Ord.ahead {next : Nat → List Nat} {wt : Nat × Nat → Nat → Nat} {S most : Nat} {met : List (Nat × Nat)} {src : List ((Nat × Nat) × Nat)} {ks : List (Nat × Nat)} {k n : Nat} {P : List Nat} (h : Ord next wt most met src ks k n) (hm : Met next wt S most met src) (hk : k < met.length) (hP : Tr met src k P) : ∀ (q : List Nat), Fine next wt most (0, 0) q.reverse → SLr q (n :: P) → ∃ j r, met[j]? = some (go next wt (0, 0) q.reverse) ∧ Tr met src j r ∧ (r = q ∨ SLr r q)
  | [], _, _ => ⟨0, [], hm.zero, rfl, .inl rfl⟩
  | b :: q, hf, hs => by
    rw [List.reverse_cons, fine_append] at hf
    obtain ⟨hf1, hf2, hf3, _⟩ := hf
    obtain ⟨j', r', g1, g2, g3⟩ := h.ahead hm hk hP q hf1 (slr_trans _ _ _ (slr_cons b q) hs)
    have hj' : j' < met.length := (List.getElem?_eq_some_iff.1 g1).1
    have hbr : b :: r' = b :: q ∨ SLr (b :: r') (b :: q) := by
      rcases g3 with rfl | g3
      · exact .inl rfl
      · exact .inr (.inl g3)
    have hlt : lt2 (j', b) (k, n) := by
      have h1 := slr_of_le hbr hs
      rcases Nat.lt_trichotomy j' k with hl | rfl | hl
      · exact .inl hl
      · rw [(h.sorted hm.nodup j' j' j' r' P (Nat.le_refl _) (Nat.le_refl _) hj' g2 hP).1 rfl] at h1
        rcases h1 with h1 | ⟨_, h1⟩
        · exact (slr_irrefl _ h1).elim
        · exact .inr ⟨rfl, h1⟩
      · have h2 := (h.sorted hm.nodup j' k j' P r' (Nat.le_refl _) (Nat.le_of_lt hl) hj' hP g2).2 hl
        rcases h1 with h1 | ⟨h1, _⟩
        · exact (slr_irrefl _ (slr_trans _ _ _ h1 h2)).elim
        · rw [h1] at h2; exact (slr_irrefl _ h2).elim
    obtain ⟨_, j, h5, h6⟩ := h.cov j' b _ hlt g1 hf2
    have hj : j < met.length := (List.getElem?_eq_some_iff.1 h5).1
    obtain ⟨r, hr⟩ := h.way j j (Nat.le_refl _) hj
    refine ⟨j, r, ?_, hr, ?_⟩
    · rw [List.reverse_cons, go_append]; exact h5
    · refine le_slr ?_ hbr
      rcases h.tr hm.nodup j r hj hr with ⟨_, rfl⟩ | ⟨a, c, qa, e0, rfl, e1, e2, e3⟩
      · exact .inr trivial
      · rcases h6 with h6 | ⟨x, h6, h7⟩
        · omega
        · rw [e1] at h6
          cases h6
          unfold lt2 at h7
          dsimp only at h7
          by_cases hac : a = j'
          · subst hac
            rw [(h.sorted hm.nodup a a a qa r' (Nat.le_refl _) (Nat.le_refl _) hj' e3 g2).1 rfl]
            by_cases hcb : c = b
            · exact .inl (by rw [hcb])
            · exact .inr (.inr ⟨rfl, by omega⟩)
          · exact .inr (.inl ((h.sorted hm.nodup j' a j' qa r' (Nat.le_refl _) (by omega) hj' e3 g2).2 (by omega)))
/-- the least of those that break -/
def Least (next : Nat → List Nat) (wt : Nat × Nat → Nat → Nat) (most : Nat) (l : List Nat) : Prop := ∀ l', Broke next wt most l' → ¬ SLr l'.reverse l.reverse
theorem Ord.least {next : Nat → List Nat} {wt : Nat × Nat → Nat → Nat} {S most : Nat} {met : List (Nat × Nat)} {src : List ((Nat × Nat) × Nat)} {ks : List (Nat × Nat)} {k n : Nat} {l : List Nat} (h : Ord next wt most met src ks k n) (hm : Met next wt S most met src) (hk : k < met.length) (hP : Tr met src k l.reverse) : Least next wt most (l ++ [n]) := by
  rintro l' ⟨m, i, rfl, h1, h2, h3⟩ hs
  rw [List.reverse_append, List.reverse_append] at hs
  have hs' : SLr (i :: m.reverse) (n :: l.reverse) := hs
  obtain ⟨j, r, g1, g2, g3⟩ := h.ahead hm hk hP m.reverse (by rw [List.reverse_reverse]; exact h1) (slr_trans _ _ _ (slr_cons i _) hs')
  rw [List.reverse_reverse] at g1
  have hj : j < met.length := (List.getElem?_eq_some_iff.1 g1).1
  have hlt : lt2 (j, i) (k, n) := by
    have h4 : SLr (i :: r) (n :: l.reverse) := by
      refine slr_of_le ?_ hs'
      rcases g3 with rfl | g3
      · exact .inl rfl
      · exact .inr (.inl g3)
    rcases Nat.lt_trichotomy j k with hl | rfl | hl
    · exact .inl hl
    · rw [(h.sorted hm.nodup j j j r _ (Nat.le_refl _) (Nat.le_refl _) hj g2 hP).1 rfl] at h4
      rcases h4 with h4 | ⟨_, h4⟩
      · exact (slr_irrefl _ h4).elim
      · exact .inr ⟨rfl, h4⟩
    · have h5 := (h.sorted hm.nodup j k j _ r (Nat.le_refl _) (Nat.le_of_lt hl) hj hP g2).2 hl
      rcases h4 with h4 | ⟨h4, _⟩
      · exact (slr_irrefl _ (slr_trans _ _ _ h4 h5)).elim
      · rw [h4] at h5; exact (slr_irrefl _ h5).elim
  have := (h.cov j i _ hlt g1 h2).1
  omega
/-- there is one least -/
theorem Least.one {next : Nat → List Nat} {wt : Nat × Nat → Nat → Nat} {most : Nat} {l l' : List Nat} (h1 : Broke next wt most l) (h2 : Broke next wt most l') (m1 : Least next wt most l) (m2 : Least next wt most l') : l = l' := by
  rcases slr_total l.reverse l'.reverse with h | h | h
  · exact List.reverse_inj.1 h
  · exact (m2 _ h1 h).elim
  · exact (m1 _ h2 h).elim
end Pr
end
section
open Go.RowKit Go.Maps
/-- a function that tells how long one waits -/
def Waiting (w : World) (S most I : Nat) (f : Value) (wt : Nat × Nat → Nat → Nat) : Prop := ∃ K cap, f = .func (.func K) #[] cap ∧ (∀ args w, (callFunc K args).run Tryz.prog w = .ok (.enter K args) w) ∧ ∀ (p : Nat × Nat) (i : Nat) (W : World), Below w.heap.size w W → p.1 < S → p.2 ≤ most → i < I → Calls Tryz.prog K (#[.agg #[.int .i64 (p.1 : Int), .int .i64 (p.2 : Int)], .int .i64 (i : Int)] ++ cap) W fun e w' => e = .returned (.int .i64 (wt p i : Int)) ∧ Below W.heap.size W w'
/-- what search comes to -/
def Searched (w : World) (next : Nat → List Nat) (wt : Nat × Nat → Nat → Nat) (most : Nat) (e : Ending) (w' : World) : Prop := Below w.heap.size w w' ∧ ((e = .returned (.tuple #[.bool true, .slice none 0 0]) ∧ Pr.Held next wt most) ∨ ∃ l g c, e = .returned (.tuple #[.bool false, .slice (some ⟨g, 0, none⟩) l.length c]) ∧ Pr.Broke next wt most l ∧ Pr.Least next wt most l ∧ w'.ownsRow w.heap.size 3 1 (.slice (some ⟨g, 0, none⟩) l.length c) l.length (l.map natV) ∧ l.length ≤ 100001)
set_option maxHeartbeats 8000000 in
set_option maxRecDepth 100000 in
theorem search_any (bm S I gN most : Nat) (next : Nat → List Nat) (uN : List Nat) (f : Value) (wt : Nat × Nat → Nat → Nat) (w : World) (h : NextAt w bm S I next gN uN) (hS1 : 1 ≤ S) (hS : S ≤ 4096) (hI : I ≤ 64) (hmo : most ≤ 20) (hnl : ∀ s, (next s).length = I) (hnx : ∀ f s, f < S → s ∈ next f → s < S) (hwt : Waiting w S most I f wt) (hwl : ∀ p i, p.2 ≤ most → wt p i ≤ most + 1) :
    Calls Tryz.prog 28 #[.pointer (some ⟨bm, 0, none⟩), .int .i64 (most : Int), f] w (Searched w next wt most) := by
  obtain ⟨i0, hi0, hz0, hz1, hz2⟩ := info_parts Tryz.infoInt
  obtain ⟨i1, hi1, hy0, hy1, hy2⟩ := info_parts Tryz.infoPlace
  have hmf : ∀ (fn : Fn) (first cap : Array Value) (w : World), (Instr.makeFunc fn first cap).run Tryz.prog w = .ok (.func fn first cap) w := fun _ _ _ _ => rfl
  obtain ⟨KF, cap, rfl, hcall, hwt⟩ := hwt
  have hmm := @run_makeMap Tryz.prog
  have HWT := hide hwt
  have HWL := hide hwl
  have HNA := hide h
  have HNL := hide hnl
  have HNX := hide hnx
  obtain ⟨w1, hw1⟩ : ∃ w1, w1 = w.alloc (.cells #[.int .i64 0, .int .i64 0] 82) := ⟨_, rfl⟩
  have hz1' : w1.heap.size = w.heap.size + 1 := by rw [hw1]; simp
  obtain ⟨w3, hrun3, hc3, hg3⟩ := (CMap.made w1).put (by omega) (0, 0) ((0, 0), 0) ⟨Nat.zero_le _, Nat.zero_le _⟩
  have hins : (Instr.mapUpdate 136 (.map (some w1.heap.size)) (.agg #[.int .i64 0, .int .i64 0]) (.agg #[.int .i64 0, .int .i64 0, .int .i64 0])).run Tryz.prog (w1.alloc (.map #[] 0)) = .ok () w3 := hrun3
  have hb1 : Below w.heap.size w w1 := by rw [hw1]; exact (Below.refl _ _).alloc (Nat.le_refl _) _
  have hb2 : Below w.heap.size w (w1.alloc (.map #[] 0)) := hb1.alloc hb1.size _
  have hb3 : Below w.heap.size w w3 := hb2.grown hg3 (by simp; omega) (fun k e => by cases e; omega)
  have hsz3 := hg3.size
  rw [World.size_alloc, hz1'] at hsz3
  have hbeg : w3.heap[w.heap.size]? = some (.cells #[.int .i64 0, .int .i64 0] 82 (0, 0)) := by
    rw [hg3.block _ (by simp; omega) (fun e => by have := Option.some.inj e; omega), Below.heap_alloc _ _ _ (by omega), hw1]
    exact heap_alloc_new _ _
  rw [hz1'] at hc3 hins
  have HS0 := hide (SSt.start w next wt S most hS1 w3 _ hbeg hc3 (fun p => rfl) hb3 hsz3)
  obtain ⟨b0, b1, _, _⟩ := two_cells hbeg
  rw [hw1] at hins
  clear hrun3 hc3 hg3 hb1 hb2 hb3 hbeg hw1 hz1' h hnl hnx hwt hwl
  go_enter Tryz.func28, Tryz.ntmps28
  go_wp2_with fail
  go_loopw [10, 11] (fun v i wr => ∃ k met src a c, i = .int .i64 ((k : Nat) : Int) ∧ v = .slice a met.length c ∧ k ≤ met.length ∧ Hid (SSt w next wt S most met src (.slice a met.length c) wr) ∧ Hid (Pr.Shut next wt most met k ∧ ∃ ks, Pr.Ord next wt most met src ks k 0)) (fun _ i _ => S * (most + 1) - (intOf i).toNat)
  case atStart => exact ⟨0, [(0, 0)], [((0, 0), 0)], some ⟨w3.heap.size, 0, none⟩, 1, rfl, rfl, Nat.zero_le _, HS0.out, fun j p hj => absurd hj (Nat.not_lt_zero _), _, Pr.Ord.start next wt most _⟩
  case round =>
    obtain ⟨k, met, src, a, c, rfl, rfl, hk, HST, HSH⟩ := hrel
    have hfew := HST.out.few hS hmo
    by_cases hlt : k < met.length
    · obtain ⟨p, hp⟩ : ∃ p, met[k]? = some p := ⟨_, List.getElem?_eq_getElem hlt⟩
      obtain ⟨g, rfl, hcap, m0, m1⟩ := HST.out.row hp
      obtain ⟨hpS, hpm⟩ := HST.out.ok.low p (List.mem_of_getElem? hp)
      have hki : (k : Int) < (met.length : Int) := by omega
      obtain ⟨wA, hwA⟩ : ∃ wA, wA = wr.alloc (.cells #[.int .i64 (p.1 : Int), .int .i64 (p.2 : Int)] 82) := ⟨_, rfl⟩
      have hbA : Below wr.heap.size wr wA := by rw [hwA]; exact (Below.refl _ _).alloc (Nat.le_refl _) _
      have HSA := hide (HST.out.below hbA)
      have HNO := hide (nextOf_any bm S I gN p.1 next uN wA (HNA.out.below HSA.out.bel) hpS hS)
      have HP := hide hp
      have HAT : Hid (wA.heap[wr.heap.size]? = some (.cells #[.int .i64 (p.1 : Int), .int .i64 (p.2 : Int)] 82 (0, 0))) := by show wA.heap[_]? = _; rw [hwA]; exact heap_alloc_new _ _
      have HNB : Hid (∀ b, (Value.slice (some ⟨g, 0, none⟩) met.length c).ownBlock = some b → b ≠ wr.heap.size) := fun b e => by have := (HST.out.own.lt b e).2; omega
      obtain ⟨a0, a1, _, _⟩ := two_cells HAT.out
      have hszA : wA.heap.size = wr.heap.size + 1 := by rw [hwA]; simp
      rw [hwA] at HNO a0 a1
      have HWA := hide hwA
      clear hp hbA hwA
      go_wp2_with fail
      refine HNO.out.mono ?_
      rintro e wB ⟨⟨bN, hbN, rfl⟩, hwB⟩
      rw [hwB, ← HWA.out]
      rw [← HWA.out] at a0 a1
      have HBN := hide hbN
      clear hbN hwB HNO m0 m1
      go_wp2_with fail
      obtain ⟨wo, rfl⟩ : ∃ wo, wo = wr := ⟨_, rfl⟩
      have hzo := HST.out.bel.size
      have hmo1 := HST.out.map
      have hlM : w.heap.size + 1 < wo.heap.size := by obtain ⟨_, h1, _⟩ := hmo1; exact h1.lt
      clear hmo1 a0 a1 b0 b1
      go_loopw [10, 39] (fun v x wr => ∃ (i : Nat) (met : List (Nat × Nat)) (src : List ((Nat × Nat) × Nat)) (a : Option Addr) (c : Nat), x = .int .i64 (i : Int) ∧ v = .slice a met.length c ∧ i ≤ I ∧ Hid (SSt w next wt S most met src (.slice a met.length c) wr) ∧ Hid (Pr.Shut next wt most met k ∧ Pr.ShutIn next wt most met p i ∧ met[k]? = some p ∧ ∃ ks, Pr.Ord next wt most met src ks k i) ∧ Hid (wr.heap[wo.heap.size]? = some (.cells #[.int .i64 (p.1 : Int), .int .i64 (p.2 : Int)] 82 (0, 0))) ∧ Hid (∀ b, (Value.slice a met.length c).ownBlock = some b → b ≠ wo.heap.size)) (fun _ x _ => I - (intOf x).toNat)
      case atStart => exact ⟨0, met, src, some ⟨g, 0, none⟩, c, rfl, rfl, Nat.zero_le _, HSA.out, ⟨HSH.out.1, fun j hj => absurd hj (Nat.not_lt_zero _), HP.out, HSH.out.2⟩, HAT.out, HNB.out⟩
      case round =>
        clear HST HSH HP HAT HNB HSA hk hfew hlt hcap hki
        obtain ⟨i, met, src, a, c, rfl, rfl, hi, HST, HSH, HAT, HNB⟩ := hrel
        have hfew := HST.out.few hS hmo
        have hkl : k < met.length := (List.getElem?_eq_some_iff.1 HSH.out.2.2.1).1
        by_cases hiI : i < I
        · have hil : i < (next p.1).length := by rw [HNL.out]; exact hiI
          have hx2 := List.getElem?_eq_getElem hil
          have hxS := HNX.out p.1 _ hpS (List.getElem_mem hil)
          have hstep : Pr.step next wt p i = ((next p.1)[i], wt p i) := by
            unfold Pr.step
            rw [List.getD_eq_getElem?_getD, hx2]
            rfl
          have x0 := (((HNA.out.below HST.out.bel).2.2 p.1 bN HBN.out).2) i _ hx2
          have HXN : Hid (∀ s, s ∈ next p.1 → s < S) := fun s hs => HNX.out p.1 s hpS hs
          have HIL := hide hil
          generalize (next p.1)[i] = x at *
          have HSP := hide hstep
          obtain ⟨a0, a1, _, _⟩ := two_cells HAT.out
          have HCW := hide (HWT.out p i wr HST.out.bel hpS hpm hiI)
          have hii : (i : Int) < (I : Int) := by omega
          have hwle := HWL.out p i hpm
          have haW : wo.heap.size < wr.heap.size := (Array.getElem?_eq_some_iff.1 HAT.out).1
          clear hx2 hstep hil
          go_wp2_with fail
          refine HCW.out.mono ?_
          rintro e wE ⟨rfl, hbE⟩
          obtain ⟨y, hy⟩ : ∃ y, y = wt p i := ⟨_, rfl⟩
          rw [← hy] at hwle HSP ⊢
          have HY := hide hy
          obtain ⟨wT, hwT⟩ : ∃ wT, wT = wE.alloc (.cells #[.int .i64 (x : Int), .int .i64 (y : Int)] 82) := ⟨_, rfl⟩
          have hbT : Below wr.heap.size wr wT := by rw [hwT]; exact hbE.alloc hbE.size _
          have HSW := hide (HST.out.below hbT)
          have HAW := hide ((hbT.block _ haW).trans HAT.out)
          have hTO : wT.heap[wE.heap.size]? = some (.cells #[.int .i64 (x : Int), .int .i64 (y : Int)] 82 (0, 0)) := by rw [hwT]; exact heap_alloc_new _ _
          have HTO := hide hTO
          obtain ⟨d0, d1, _, _⟩ := two_cells hTO
          obtain ⟨a0, a1, _, _⟩ := two_cells HAW.out
          have hzE := hbE.size
          have hzT : wT.heap.size = wE.heap.size + 1 := by rw [hwT]; simp
          obtain ⟨s0, s1, _, _⟩ := two_cells HSW.out.beg
          have HWT2 := hide hwT
          have HBT := hide hbT
          by_cases hym : y ≤ most
          · have hyi : ¬ (most : Int) < (y : Int) := by omega
            have hwm : wt p i ≤ most := by rw [← hy]; exact hym
            obtain ⟨z, hlk⟩ := HSW.out.look _ (step_small hS hmo HIL.out hwm HXN.out)
            rw [HSP.out] at hlk
            obtain ⟨wK, hwK⟩ : ∃ wK, wK = wT.alloc (.cells #[.int .i64 (z.1.1 : Int), .int .i64 (z.1.2 : Int), .int .i64 (z.2 : Int)] 135) := ⟨_, rfl⟩
            have hbK : Below wT.heap.size wT wK := by rw [hwK]; exact (Below.refl _ _).alloc (Nat.le_refl _) _
            have HSK := hide (HSW.out.below hbK)
            have HAK := hide ((hbK.block _ (by omega)).trans HAW.out)
            have HTK := hide ((hbK.block _ (by omega)).trans HTO.out)
            have hzK : wK.heap.size = wT.heap.size + 1 := by rw [hwK]; simp
            have HWK := hide hwK
            unfold plV stpV at hlk
            have HWM := hide hwm
            by_cases hmem : Pr.step next wt p i ∈ met
            · have HMEM := hide hmem
              rw [HSP.out] at hmem
              rw [decide_eq_true hmem] at hlk
              rw [hwT] at hlk d0 d1 a0 a1
              clear hmem hwT hbE hbT hTO hwK hbK hy HCW hwm s0 s1
              go_wp2_with fail
              rw [← HWT2.out]
              rw [← HWK.out]
              exact ⟨⟨i + 1, met, src, a, c, by go_num, rfl, by omega, HSK.out, ⟨HSH.out.1, HSH.out.2.1.pass HWM.out HMEM.out, HSH.out.2.2.1, by obtain ⟨ks, ho⟩ := HSH.out.2.2.2; exact ⟨ks, ho.pass HSH.out.2.2.1 HWM.out HMEM.out⟩⟩, HAK.out, HNB.out⟩, by simp [intOf]; omega⟩
            · obtain ⟨W4, hrun, ho4, hg4, hfin⟩ := HSK.out.store hS hmo HSH.out.2.2.1 HIL.out hwm HXN.out hmem
              rw [HSP.out] at hmem hrun
              rw [decide_eq_false hmem] at hlk
              unfold plV stpV at hrun
              have hz4 := hg4.size
              have hT4 : W4.heap[wE.heap.size]? = some (.cells #[.int .i64 (x : Int), .int .i64 (y : Int)] 82 (0, 0)) := (hg4.block _ (by omega) (fun e => by have := Option.some.inj e; omega)).trans HTK.out
              obtain ⟨e0, e1, _, _⟩ := two_cells hT4
              obtain ⟨q0, q1, _, _⟩ := two_cells HTK.out
              obtain ⟨r0, r1, _, _⟩ := two_cells HAK.out
              have HOWN : Hid (∀ o, (W4.alloc o).ownsRow (w.heap.size + 2) 82 2 (.slice a met.length c) met.length (met.flatMap plCells)) := fun o => ho4.alloc o
              have HONE : Hid (∀ u ∈ [Value.int .i64 (x : Int), Value.int .i64 (y : Int)], u.oneCell' = true) := by
                intro u hu
                simp only [List.mem_cons, List.not_mem_nil, or_false] at hu
                rcases hu with rfl | rfl <;> rfl
              have HFIN : Hid (∀ (o : Obj) (g cap : Nat) (wC : World), wC.ownsRow (w.heap.size + 2) 82 2 (.slice (some ⟨g, 0, none⟩) (met.length + 1) cap) (met.length + 1) (met.flatMap plCells ++ [.int .i64 (x : Int), .int .i64 (y : Int)]) → (W4.alloc o).grownBy wC (Value.slice a met.length c).ownBlock → ((Value.slice a met.length c).ownBlock = some g ∨ g = W4.heap.size + 1) →
                  SSt w next wt S most (met ++ [Pr.step next wt p i]) (src ++ [(p, i)]) (.slice (some ⟨g, 0, none⟩) (met.length + 1) cap) wC ∧ wC.heap[wo.heap.size]? = some (.cells #[.int .i64 (p.1 : Int), .int .i64 (p.2 : Int)] 82 (0, 0)) ∧ g ≠ wo.heap.size) := fun o g cap wC hown hgrow hat => by
                obtain ⟨u1, u2⟩ := hfin o g cap wC (by rw [HSP.out]; exact hown) hgrow
                refine ⟨u1, (u2 _ (by omega) (by omega) (fun e => HNB.out _ e.symm rfl)).trans HAK.out, ?_⟩
                rcases hat with h | h
                · exact HNB.out g h
                · omega
              have HNW : Hid (∀ j u, [Value.int .i64 (x : Int), Value.int .i64 (y : Int)][j]? = some u → (W4.alloc (.cells #[.int .i64 (x : Int), .int .i64 (y : Int)] 82)).cell? ((⟨W4.heap.size, 0, none⟩ : Addr).add j) = some u) := World.news_of_block (heap_alloc_new W4 _)
              rw [HWK.out, HWT2.out] at hrun q0 q1 r0 r1
              rw [hwT] at hlk d0 d1 a0 a1
              have hz4' : w.heap.size + 2 ≤ W4.heap.size := by omega
              clear hmem hwT hbE hbT hTO hwK hbK hy HCW hwm s0 s1 hg4 hfin ho4 hT4 hzK
              go_wp2_with (at_builtin; refine wpList_append_lies _ rfl (.tmp 74) (.tmp 76) 137 rfl (w.heap.size + 2) 82 i1 _ 2 16 Tryz.underlying137 hi1 hy0 hy1 hy2 rfl (by decide) (.slice a met.length c) met.length (met.flatMap plCells) rfl (HOWN.out _) ⟨W4.heap.size, 0, none⟩ 1 1 [.int .i64 (x : Int), .int .i64 (y : Int)] rfl rfl HNW.out HONE.out (by decide) (by unfold maxLen; omega) (by omega) (by simp; omega) (W4.heap.size + 1) (by simp) ?_; intro g2 cap2 wC hown hgrow hat hltg; obtain ⟨hsC, haC, hgC⟩ := HFIN.out _ g2 cap2 wC hown hgrow hat; have HSC := hide hsC; have HAC := hide haC; clear hsC haC hown hgrow hat)
              refine ⟨⟨i + 1, met ++ [Pr.step next wt p i], src ++ [(p, i)], some ⟨g2, 0, none⟩, cap2, by go_num, by simp, by omega, ?_, ⟨HSH.out.1.put (by omega) _, HSH.out.2.1.put HWM.out, ?_, by obtain ⟨ks, ho⟩ := HSH.out.2.2.2; exact ⟨_, ho.put HST.out.ok.len HSH.out.2.2.1 HWM.out⟩⟩, HAC.out, ?_⟩, by simp [intOf]; omega⟩
              · show SSt _ _ _ _ _ _ _ (.slice _ (met ++ [Pr.step next wt p i]).length _) _
                rw [List.length_append]; exact HSC.out
              · rw [List.getElem?_append_left hkl]; exact HSH.out.2.2.1
              · intro b e
                have : g2 = b := Option.some.inj e
                omega
          · have hyi : (most : Int) < (y : Int) := by omega
            obtain ⟨fm, hcm, hfm, _⟩ := HSW.out.map
            have HPA := hide (path_any (w.heap.size + 1) _ S most k next wt met src fm p wT HSW.out.ok hcm (fun j q _ hq => hfm j q hq) HSH.out.2.2.1 hS hmo)
            unfold plV at HPA
            obtain ⟨v0, v1, _, _⟩ := two_cells (HST.out.below hbE).beg
            obtain ⟨n0, n1, _, _⟩ := two_cells ((hbE.block _ haW).trans HAT.out)
            have hlw : w.heap.size < wE.heap.size := by omega
            have hlw2 : wo.heap.size < wE.heap.size := by omega
            rw [hwT] at HPA d0 d1 a0 a1 s0 s1
            clear hwT hbE hbT hTO hcm hfm HCW hy
            go_wp2_with fail
            refine HPA.out.mono ?_
            rw [← HWT2.out]
            rintro e wP ⟨l, la, lc, rfl, hol, hfin, hgo, hll, htr, hbP⟩
            have HOWN : Hid (∀ o, (wP.alloc o).ownsRow wT.heap.size 3 1 (.slice la l.length lc) l.length (l.map natV)) := fun o => hol.alloc o
            have HONE : Hid (∀ u ∈ [Value.int .i64 (i : Int)], u.oneCell' = true) := by
              intro u hu
              simp only [List.mem_cons, List.not_mem_nil, or_false] at hu
              subst hu; rfl
            have HFIN : Hid (∀ (o : Obj) (g cap : Nat) (wC : World), wC.ownsRow wT.heap.size 3 1 (.slice (some ⟨g, 0, none⟩) (l.length + 1) cap) (l.length + 1) (l.map natV ++ [.int .i64 (i : Int)]) → (wP.alloc o).grownBy wC (Value.slice la l.length lc).ownBlock → Searched w next wt most (.returned (.tuple #[.bool false, .slice (some ⟨g, 0, none⟩) (l.length + 1) cap])) wC) := fun o g cap wC hown hgrow => by
              have hb1 : Below w.heap.size w wP := HSW.out.bel.trans (hbP.mono HSW.out.bel.size)
              have hzP := hbP.size
              refine ⟨(hb1.alloc hb1.size o).grown hgrow (by simp; have := hb1.size; omega) (fun b e => by have := (hol.lt b e).1; omega), .inr ⟨l ++ [i], g, cap, by simp, ⟨l, i, rfl, hfin, ?_, ?_⟩, by obtain ⟨ks, ho⟩ := HSH.out.2.2.2; exact ho.least HST.out.ok hkl htr, ?_, by simp; omega⟩⟩
              · rw [hgo]; exact HIL.out
              · rw [hgo, ← HY.out]; omega
              · rw [List.map_append, List.length_append]
                exact own_mono hown (by omega)
            have hzP := hbP.size
            have hlb : l.length ≤ 100000 := by omega
            clear hol hfin hgo hbP htr HPA
            go_wp2_with (at_builtin; refine wpList_append_lies _ rfl (.tmp 57) (.tmp 59) 41 rfl wT.heap.size 3 i0 _ 1 8 Tryz.underlying41 hi0 hz0 hz1 hz2 rfl (by decide) (.slice la l.length lc) l.length (l.map natV) rfl (HOWN.out _) ⟨wP.heap.size, 0, none⟩ 1 1 [.int .i64 (i : Int)] rfl rfl (World.news_of_block (heap_alloc_new wP _)) HONE.out (by decide) (by unfold maxLen; omega) (by omega) (by simp; omega) (wP.heap.size + 1) (by simp) ?_; intro g2 cap2 wC hown hgrow hat hltg; have HSE := hide (HFIN.out _ g2 cap2 wC hown hgrow); clear hown hgrow hat)
            refine bodyPost_ret (results_tmp2 rfl _ _ _) rfl ?_
            exact HSE.out
        · have hiI' : i = I := by omega
          have HSH2 : Hid (Pr.Shut next wt most met (k + 1) ∧ ∃ ks, Pr.Ord next wt most met src ks (k + 1) 0) := by
            refine ⟨HSH.out.1.next HSH.out.2.2.1 (by rw [HNL.out, ← hiI']; exact HSH.out.2.1), ?_⟩
            obtain ⟨ks, ho⟩ := HSH.out.2.2.2
            rw [hiI', ← HNL.out p.1] at ho
            exact ⟨ks, ho.next HSH.out.2.2.1⟩
          have hdn : k < S * (most + 1) := by have := HST.out.ok.few; omega
          go_wp2_with fail
          exact ⟨⟨k + 1, met, src, a, c, by go_num, rfl, by omega, HST.out, HSH2.out⟩, by simp [intOf]; omega⟩
    · have hkl : k = met.length := by omega
      subst hkl
      have HFN : Hid (Searched w next wt most (.returned (.tuple #[.bool true, .slice none 0 0])) wr) := ⟨HST.out.bel, .inl ⟨rfl, Pr.Held.of HST.out.ok HSH.out.1⟩⟩
      go_wp2_with fail
      refine bodyPost_ret (results_tmp2 rfl _ _ _) rfl ?_
      exact HFN.out
end
end Go.Proofs.YtgdmohombcgjbaaGreatDoor
