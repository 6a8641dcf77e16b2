/-
  What package prop's search finds is the least: in plain words.
-/
import Derived.Test.YtgblillplgdbaaaGreatDoorRcNextAll
namespace Go.Proofs.YtgblillplgdbaaaGreatDoor
namespace Pr
/-- of two lists of inputs, the last ones first: is the one shorter, or of like length and less? -/
def SLr : List Nat → List Nat → Prop
  | [], [] => False
  | [], _ :: _ => True
  | _ :: _, [] => False
  | x :: a, y :: b => SLr a b ∨ (a = b ∧ x < y)
theorem slr_irrefl : ∀ a, ¬ SLr a a
  | [], h => h
  | x :: a, h => by
    rcases h with h | ⟨_, h⟩
    · exact slr_irrefl a h
    · omega
theorem slr_trans : ∀ a b c, SLr a b → SLr b c → SLr a c
  | [], [], _, h, _ => h.elim
  | [], _ :: _, [], _, h => h.elim
  | [], _ :: _, _ :: _, _, _ => trivial
  | _ :: _, [], _, h, _ => h.elim
  | _ :: _, _ :: _, [], _, h => h.elim
  | x :: a, y :: b, z :: c, h1, h2 => by
    rcases h1 with h1 | ⟨rfl, h1⟩
    · rcases h2 with h2 | ⟨rfl, h2⟩
      · exact .inl (slr_trans a b c h1 h2)
      · exact .inl h1
    · rcases h2 with h2 | ⟨rfl, h2⟩
      · exact .inl h2
      · exact .inr ⟨rfl, by omega⟩
theorem slr_cons (b : Nat) : ∀ a, SLr a (b :: a)
  | [] => trivial
  | x :: a => .inl (slr_cons x a)
theorem slr_total : ∀ a b, a = b ∨ SLr a b ∨ SLr b a
  | [], [] => .inl rfl
  | [], _ :: _ => .inr (.inl trivial)
  | _ :: _, [] => .inr (.inr trivial)
  | x :: a, y :: b => by
    rcases slr_total a b with rfl | h | h
    · rcases Nat.lt_trichotomy x y with h | rfl | h
      · exact .inr (.inl (.inr ⟨rfl, h⟩))
      · exact .inl rfl
      · exact .inr (.inr (.inr ⟨rfl, h⟩))
    · exact .inr (.inl (.inl h))
    · exact .inr (.inr (.inl h))
theorem slr_of_le {a b c : List Nat} (h : a = b ∨ SLr a b) (h2 : SLr b c) : SLr a c := by
  rcases h with rfl | h
  · exact h2
  · exact slr_trans _ _ _ h h2
theorem le_slr {a b c : List Nat} (h : a = b ∨ SLr a b) (h2 : b = c ∨ SLr b c) : a = c ∨ SLr a c := by
  rcases h2 with rfl | h2
  · exact h
  · exact .inr (slr_of_le h h2)
/-- of two pairs: which is looked at first -/
def lt2 (x y : Nat × Nat) : Prop := x.1 < y.1 ∨ (x.1 = y.1 ∧ x.2 < y.2)
theorem lt2_irrefl (x : Nat × Nat) : ¬ lt2 x x := fun h => by unfold lt2 at h; omega
/-- in which order they were met: behind those that are looked at, up to input n of number k -/
structure Ord (next : Nat → List Nat) (wt : Nat × Nat → Nat → Nat) (most : Nat) (met : List (Nat × Nat)) (src : List ((Nat × Nat) × Nat)) (ks : List (Nat × Nat)) (k n : Nat) : Prop where
  len : ks.length = met.length
  src_ : ∀ (j a b : Nat), 0 < j → ks[j]? = some (a, b) → a < j ∧ ∃ f, met[a]? = some f ∧ src[j]? = some (f, b)
  mono : ∀ (j j' : Nat) x y, 0 < j → j < j' → ks[j]? = some x → ks[j']? = some y → lt2 x y
  low : ∀ (j : Nat) x, 0 < j → ks[j]? = some x → lt2 x (k, n)
  cov : ∀ (a b : Nat) f, lt2 (a, b) (k, n) → met[a]? = some f → b < (next f.1).length → wt f b ≤ most ∧ ∃ j, met[j]? = some (step next wt f b) ∧ (j = 0 ∨ ∃ x, ks[j]? = some x ∧ ¬ lt2 (a, b) x)
theorem Ord.start (next : Nat → List Nat) (wt : Nat × Nat → Nat → Nat) (most : Nat) (src : List ((Nat × Nat) × Nat)) : Ord next wt most [(0, 0)] src [(0, 0)] 0 0 :=
  have none_ : ∀ (j : Nat) x, 0 < j → ([(0, 0)] : List (Nat × Nat))[j]? ≠ some x := fun j x hj h => by
    rw [List.getElem?_eq_none (by simp; omega)] at h; cases h
  ⟨rfl, fun j a b hj h => (none_ j _ hj h).elim, fun j j' x y hj _ h _ => (none_ j _ hj h).elim, fun j x hj h => (none_ j _ hj h).elim, fun a b f h => by unfold lt2 at h; simp at h⟩
theorem Ord.pass {next : Nat → List Nat} {wt : Nat × Nat → Nat → Nat} {most : Nat} {met : List (Nat × Nat)} {src : List ((Nat × Nat) × Nat)} {ks : List (Nat × Nat)} {k n : Nat} {p : Nat × Nat} (h : Ord next wt most met src ks k n) (hp : met[k]? = some p) (hw : wt p n ≤ most) (hm : step next wt p n ∈ met) : Ord next wt most met src ks k (n + 1) := by
  refine ⟨h.len, h.src_, h.mono, fun j x hj hx => ?_, fun a b f hab hf hb => ?_⟩
  · have := h.low j x hj hx
    unfold lt2 at this ⊢
    dsimp only at this ⊢
    omega
  · by_cases e : lt2 (a, b) (k, n)
    · exact h.cov a b f e hf hb
    · have e2 : a = k ∧ b = n := by unfold lt2 at hab e; dsimp only at hab e; omega
      obtain ⟨rfl, rfl⟩ := e2
      rw [hp] at hf
      cases hf
      refine ⟨hw, ?_⟩
      obtain ⟨j, hj, he⟩ := List.getElem_of_mem hm
      refine ⟨j, by rw [List.getElem?_eq_getElem hj, he], ?_⟩
      by_cases h0 : j = 0
      · exact .inl h0
      · have hjk : j < ks.length := by rw [h.len]; exact hj
        refine .inr ⟨_, List.getElem?_eq_getElem hjk, fun hlt => ?_⟩
        have := h.low j _ (by omega) (List.getElem?_eq_getElem hjk)
        unfold lt2 at this hlt
        dsimp only at this hlt
        omega
theorem Ord.put {next : Nat → List Nat} {wt : Nat × Nat → Nat → Nat} {most : Nat} {met : List (Nat × Nat)} {src : List ((Nat × Nat) × Nat)} {ks : List (Nat × Nat)} {k n : Nat} {p : Nat × Nat} (h : Ord next wt most met src ks k n) (hs : src.length = met.length) (hp : met[k]? = some p) (hw : wt p n ≤ most) : Ord next wt most (met ++ [step next wt p n]) (src ++ [(p, n)]) (ks ++ [(k, n)]) k (n + 1) := by
  have hkl : k < met.length := (List.getElem?_eq_some_iff.1 hp).1
  have old : ∀ (j : Nat) x, (ks ++ [(k, n)])[j]? = some x → (j < met.length ∧ ks[j]? = some x) ∨ (j = met.length ∧ x = (k, n)) := fun j x hx => by
    by_cases hj : j < ks.length
    · rw [List.getElem?_append_left hj] at hx
      exact .inl ⟨by rw [← h.len]; exact hj, hx⟩
    · have hj2 := (List.getElem?_eq_some_iff.1 hx).1
      simp at hj2
      have e : j = ks.length := by omega
      subst e
      rw [List.getElem?_append_right (Nat.le_refl _)] at hx
      simp at hx
      exact .inr ⟨h.len, hx.symm⟩
  have hmk : ∀ (j : Nat) x, met[j]? = some x → (met ++ [step next wt p n])[j]? = some x := fun j x hx => by
    rw [List.getElem?_append_left (List.getElem?_eq_some_iff.1 hx).1]; exact hx
  refine ⟨by simp [h.len], ?_, ?_, ?_, ?_⟩
  · intro j a b hj hx
    rcases old j _ hx with ⟨hjl, hx⟩ | ⟨rfl, hx2⟩
    · obtain ⟨h1, f, h2, h3⟩ := h.src_ j a b hj hx
      exact ⟨h1, f, hmk _ _ h2, by rw [List.getElem?_append_left (by rw [hs]; exact hjl)]; exact h3⟩
    · simp only [Prod.mk.injEq] at hx2
      obtain ⟨rfl, rfl⟩ := hx2
      exact ⟨hkl, p, hmk _ _ hp, by rw [← hs, List.getElem?_append_right (Nat.le_refl _)]; simp⟩
  · intro j j' x y hj hjj hx hy
    rcases old j' _ hy with ⟨hjl, hy⟩ | ⟨rfl, rfl⟩
    · rcases old j _ hx with ⟨_, hx⟩ | ⟨rfl, _⟩
      · exact h.mono j j' x y hj hjj hx hy
      · omega
    · rcases old j _ hx with ⟨_, hx⟩ | ⟨rfl, _⟩
      · exact h.low j x hj hx
      · omega
  · intro j x hj hx
    rcases old j _ hx with ⟨_, hx⟩ | ⟨rfl, rfl⟩
    · have := h.low j x hj hx
      unfold lt2 at this ⊢
      dsimp only at this ⊢
      omega
    · unfold lt2
      dsimp only
      omega
  · intro a b f hab hf hb
    by_cases e : lt2 (a, b) (k, n)
    · have hal : a < met.length := by unfold lt2 at e; dsimp only at e; omega
      rw [List.getElem?_append_left hal] at hf
      obtain ⟨h1, j, h2, h3⟩ := h.cov a b f e hf hb
      refine ⟨h1, j, hmk _ _ h2, h3.imp id ?_⟩
      rintro ⟨x, hx, hn⟩
      exact ⟨x, by rw [List.getElem?_append_left (List.getElem?_eq_some_iff.1 hx).1]; exact hx, hn⟩
    · have e2 : a = k ∧ b = n := by unfold lt2 at hab e; dsimp only at hab e; omega
      obtain ⟨rfl, rfl⟩ := e2
      rw [List.getElem?_append_left hkl, hp] at hf
      cases hf
      exact ⟨hw, met.length, by simp, .inr ⟨(a, b), by rw [← h.len]; simp, lt2_irrefl _⟩⟩
theorem Ord.next {next : Nat → List Nat} {wt : Nat × Nat → Nat → Nat} {most : Nat} {met : List (Nat × Nat)} {src : List ((Nat × Nat) × Nat)} {ks : List (Nat × Nat)} {k : Nat} {p : Nat × Nat} (h : Ord next wt most met src ks k (next p.1).length) (hp : met[k]? = some p) : Ord next wt most met src ks (k + 1) 0 := by
  refine ⟨h.len, h.src_, h.mono, fun j x hj hx => ?_, fun a b f hab hf hb => ?_⟩
  · have := h.low j x hj hx
    unfold lt2 at this ⊢
    dsimp only at this ⊢
    omega
  · refine h.cov a b f ?_ hf hb
    by_cases e : a = k
    · subst e
      rw [hp] at hf
      cases hf
      exact .inr ⟨rfl, hb⟩
    · unfold lt2 at hab
      dsimp only at hab
      exact .inl (by show a < k; omega)
/-- each that is met has its way -/
theorem Ord.way {next : Nat → List Nat} {wt : Nat × Nat → Nat → Nat} {most : Nat} {met : List (Nat × Nat)} {src : List ((Nat × Nat) × Nat)} {ks : List (Nat × Nat)} {k n : Nat} (h : Ord next wt most met src ks k n) : ∀ (N j : Nat), j ≤ N → j < met.length → ∃ r, Tr met src j r
  | _, 0, _, _ => ⟨[], rfl⟩
  | 0, j + 1, hj, _ => by omega
  | N + 1, j + 1, hj, hl => by
    have hjk : j + 1 < ks.length := by rw [h.len]; exact hl
    obtain ⟨h1, f, h2, h3⟩ := h.src_ (j + 1) ks[j + 1].1 ks[j + 1].2 (by omega) (List.getElem?_eq_getElem hjk)
    obtain ⟨r, hr⟩ := h.way N ks[j + 1].1 (by omega) (by omega)
    exact ⟨ks[j + 1].2 :: r, by omega, _, f, h1, h2, h3, hr⟩
/-- one's way goes by what the order says -/
theorem Ord.tr {next : Nat → List Nat} {wt : Nat × Nat → Nat → Nat} {most : Nat} {met : List (Nat × Nat)} {src : List ((Nat × Nat) × Nat)} {ks : List (Nat × Nat)} {k n : Nat} (h : Ord next wt most met src ks k n) (hd : met.Nodup) (j : Nat) (r : List Nat) (hj : j < met.length) (hr : Tr met src j r) : (j = 0 ∧ r = []) ∨ ∃ a b q, 0 < j ∧ r = b :: q ∧ ks[j]? = some (a, b) ∧ a < j ∧ Tr met src a q := by
  cases r with
  | nil => exact .inl ⟨hr, rfl⟩
  | cons i q =>
    obtain ⟨h0, c, f, h1, h2, h3, h4⟩ := hr
    have hjk : j < ks.length := by rw [h.len]; exact hj
    obtain ⟨h5, g, h6, h7⟩ := h.src_ j ks[j].1 ks[j].2 h0 (List.getElem?_eq_getElem hjk)
    rw [h3] at h7
    simp only [Option.some.injEq, Prod.mk.injEq] at h7
    obtain ⟨rfl, rfl⟩ := h7
    have hca : c = ks[j].1 := by
      obtain ⟨l1, e1⟩ := List.getElem?_eq_some_iff.1 h2
      obtain ⟨l2, e2⟩ := List.getElem?_eq_some_iff.1 h6
      refine Classical.byContradiction fun hne => ?_
      rcases Nat.lt_or_gt_of_ne hne with hlt | hlt
      · exact (List.pairwise_iff_getElem.1 hd c _ l1 l2 hlt) (e1.trans e2.symm)
      · exact (List.pairwise_iff_getElem.1 hd _ c l2 l1 hlt) (e2.trans e1.symm)
    rw [hca] at h4
    exact .inr ⟨ks[j].1, ks[j].2, q, h0, rfl, List.getElem?_eq_getElem hjk, h5, h4⟩
/-- ways are in order, and there is one of each -/
theorem Ord.sorted {next : Nat → List Nat} {wt : Nat × Nat → Nat → Nat} {most : Nat} {met : List (Nat × Nat)} {src : List ((Nat × Nat) × Nat)} {ks : List (Nat × Nat)} {k n : Nat} (h : Ord next wt most met src ks k n) (hd : met.Nodup) : ∀ (N j j' : Nat) (r r' : List Nat), j' ≤ N → j ≤ j' → j' < met.length → Tr met src j r → Tr met src j' r' → (j = j' → r = r') ∧ (j < j' → SLr r r') := by
  intro N
  induction N with
  | zero =>
    intro j j' r r' h1 h2 h3 h4 h5
    refine ⟨fun _ => ?_, fun hlt => by omega⟩
    rcases h.tr hd j r (by omega) h4 with ⟨_, rfl⟩ | ⟨_, _, _, h6, _⟩
    · rcases h.tr hd j' r' h3 h5 with ⟨_, rfl⟩ | ⟨_, _, _, h6, _⟩
      · rfl
      · omega
    · omega
  | succ N ih =>
    intro j j' r r' h1 h2 h3 h4 h5
    rcases h.tr hd j r (by omega) h4 with ⟨rfl, rfl⟩ | ⟨a, b, q, g1, rfl, g2, g3, g4⟩
    · rcases h.tr hd j' r' h3 h5 with ⟨rfl, rfl⟩ | ⟨a', b', q', g1', rfl, g2', g3', g4'⟩
      · exact ⟨fun _ => rfl, fun hlt => by omega⟩
      · exact ⟨fun e => by omega, fun _ => trivial⟩
    · rcases h.tr hd j' r' h3 h5 with ⟨rfl, rfl⟩ | ⟨a', b', q', g1', rfl, g2', g3', g4'⟩
      · omega
      · refine ⟨fun e => ?_, fun hlt => ?_⟩
        · subst e
          rw [g2] at g2'
          simp only [Option.some.injEq, Prod.mk.injEq] at g2'
          obtain ⟨rfl, rfl⟩ := g2'
          rw [(ih a a q q' (by omega) (Nat.le_refl _) (by omega) g4 g4').1 rfl]
        · have hl := h.mono j j' _ _ g1 hlt g2 g2'
          rcases hl with hl | ⟨hl, hl2⟩
          · exact .inl ((ih a a' q q' (by omega) (Nat.le_of_lt hl) (by omega) g4 g4').2 hl)
          · dsimp only at hl hl2
            subst hl
            exact .inr ⟨(ih a a q q' (by omega) (Nat.le_refl _) (by omega) g4 g4').1 rfl, hl2⟩
/-- what comes ahead of where one looks is met, by a way that is no greater -/
theorem Ord.ahead {next : Nat → List Nat} {wt : Nat × Nat → Nat → Nat} {S most : Nat} {met : List (Nat × Nat)} {src : List ((Nat × Nat) × Nat)} {ks : List (Nat × Nat)} {k n : Nat} {P : List Nat} (h : Ord next wt most met src ks k n) (hm : Met next wt S most met src) (hk : k < met.length) (hP : Tr met src k P) : ∀ (q : List Nat), Fine next wt most (0, 0) q.reverse → SLr q (n :: P) → ∃ j r, met[j]? = some (go next wt (0, 0) q.reverse) ∧ Tr met src j r ∧ (r = q ∨ SLr r q)
  | [], _, _ => ⟨0, [], hm.zero, rfl, .inl rfl⟩
  | b :: q, hf, hs => by
    rw [List.reverse_cons, fine_append] at hf
    obtain ⟨hf1, hf2, hf3, _⟩ := hf
    obtain ⟨j', r', g1, g2, g3⟩ := h.ahead hm hk hP q hf1 (slr_trans _ _ _ (slr_cons b q) hs)
    have hj' : j' < met.length := (List.getElem?_eq_some_iff.1 g1).1
    have hbr : b :: r' = b :: q ∨ SLr (b :: r') (b :: q) := by
      rcases g3 with rfl | g3
      · exact .inl rfl
      · exact .inr (.inl g3)
    have hlt : lt2 (j', b) (k, n) := by
      have h1 := slr_of_le hbr hs
      rcases Nat.lt_trichotomy j' k with hl | rfl | hl
      · exact .inl hl
      · rw [(h.sorted hm.nodup j' j' j' r' P (Nat.le_refl _) (Nat.le_refl _) hj' g2 hP).1 rfl] at h1
        rcases h1 with h1 | ⟨_, h1⟩
        · exact (slr_irrefl _ h1).elim
        · exact .inr ⟨rfl, h1⟩
      · have h2 := (h.sorted hm.nodup j' k j' P r' (Nat.le_refl _) (Nat.le_of_lt hl) hj' hP g2).2 hl
        rcases h1 with h1 | ⟨h1, _⟩
        · exact (slr_irrefl _ (slr_trans _ _ _ h1 h2)).elim
        · rw [h1] at h2; exact (slr_irrefl _ h2).elim
    obtain ⟨_, j, h5, h6⟩ := h.cov j' b _ hlt g1 hf2
    have hj : j < met.length := (List.getElem?_eq_some_iff.1 h5).1
    obtain ⟨r, hr⟩ := h.way j j (Nat.le_refl _) hj
    refine ⟨j, r, ?_, hr, ?_⟩
    · rw [List.reverse_cons, go_append]; exact h5
    · refine le_slr ?_ hbr
      rcases h.tr hm.nodup j r hj hr with ⟨_, rfl⟩ | ⟨a, c, qa, e0, rfl, e1, e2, e3⟩
      · exact .inr trivial
      · rcases h6 with h6 | ⟨x, h6, h7⟩
        · omega
        · rw [e1] at h6
          cases h6
          unfold lt2 at h7
          dsimp only at h7
          by_cases hac : a = j'
          · subst hac
            rw [(h.sorted hm.nodup a a a qa r' (Nat.le_refl _) (Nat.le_refl _) hj' e3 g2).1 rfl]
            by_cases hcb : c = b
            · exact .inl (by rw [hcb])
            · exact .inr (.inr ⟨rfl, by omega⟩)
          · exact .inr (.inl ((h.sorted hm.nodup j' a j' qa r' (Nat.le_refl _) (by omega) hj' e3 g2).2 (by omega)))
/-- the least of those that break -/
def Least (next : Nat → List Nat) (wt : Nat × Nat → Nat → Nat) (most : Nat) (l : List Nat) : Prop := ∀ l', Broke next wt most l' → ¬ SLr l'.reverse l.reverse
theorem Ord.least {next : Nat → List Nat} {wt : Nat × Nat → Nat → Nat} {S most : Nat} {met : List (Nat × Nat)} {src : List ((Nat × Nat) × Nat)} {ks : List (Nat × Nat)} {k n : Nat} {l : List Nat} (h : Ord next wt most met src ks k n) (hm : Met next wt S most met src) (hk : k < met.length) (hP : Tr met src k l.reverse) : Least next wt most (l ++ [n]) := by
  rintro l' ⟨m, i, rfl, h1, h2, h3⟩ hs
  rw [List.reverse_append, List.reverse_append] at hs
  have hs' : SLr (i :: m.reverse) (n :: l.reverse) := hs
  obtain ⟨j, r, g1, g2, g3⟩ := h.ahead hm hk hP m.reverse (by rw [List.reverse_reverse]; exact h1) (slr_trans _ _ _ (slr_cons i _) hs')
  rw [List.reverse_reverse] at g1
  have hj : j < met.length := (List.getElem?_eq_some_iff.1 g1).1
  have hlt : lt2 (j, i) (k, n) := by
    have h4 : SLr (i :: r) (n :: l.reverse) := by
      refine slr_of_le ?_ hs'
      rcases g3 with rfl | g3
      · exact .inl rfl
      · exact .inr (.inl g3)
    rcases Nat.lt_trichotomy j k with hl | rfl | hl
    · exact .inl hl
    · rw [(h.sorted hm.nodup j j j r _ (Nat.le_refl _) (Nat.le_refl _) hj g2 hP).1 rfl] at h4
      rcases h4 with h4 | ⟨_, h4⟩
      · exact (slr_irrefl _ h4).elim
      · exact .inr ⟨rfl, h4⟩
    · have h5 := (h.sorted hm.nodup j k j _ r (Nat.le_refl _) (Nat.le_of_lt hl) hj hP g2).2 hl
      rcases h4 with h4 | ⟨h4, _⟩
      · exact (slr_irrefl _ (slr_trans _ _ _ h4 h5)).elim
      · rw [h4] at h5; exact (slr_irrefl _ h5).elim
  have := (h.cov j i _ hlt g1 h2).1
  omega
/-- there is one least -/
theorem Least.one {next : Nat → List Nat} {wt : Nat × Nat → Nat → Nat} {most : Nat} {l l' : List Nat} (h1 : Broke next wt most l) (h2 : Broke next wt most l') (m1 : Least next wt most l) (m2 : Least next wt most l') : l = l' := by
  rcases slr_total l.reverse l'.reverse with h | h | h
  · exact List.reverse_inj.1 h
  · exact (m2 _ h1 h).elim
  · exact (m1 _ h2 h).elim
end Pr
end Go.Proofs.YtgblillplgdbaaaGreatDoor
